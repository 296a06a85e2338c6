/- Texts that the statement's proof stands on: R3, R4. -/
import Derived.Test.YtblkldfokeeaeacGreatDoorB31
import Derived.Test.YtblkldfokeeaeacGreatDoorB18
namespace Go.Proofs.YtblkldfokeeaeacGreatDoor.Rf
open Go.RowKit
theorem ext_alloc' (w : World) (o : Obj) : Ext w (w.alloc o) := Ext.below ((Below.refl _ _).alloc (Nat.le_refl _) _)
def MH (W w : World) (n : Nat) (f : Int → ByteArray) : Prop := Mm w W.heap.size n f ∧ Below W.heap.size W w
theorem MH.made (W : World) : MH W (W.alloc (.map #[] 0)).drew 0 (fun _ => ⟨#[]⟩) := ⟨Mm.made W, ((Below.refl _ _).alloc (Nat.le_refl _) _).drew⟩
set_option maxRecDepth 100000 in
theorem MH.next {W w w' : World} {n : Nat} {f g : Int → ByteArray} (h : MH W w n f) (hm : Mm w' W.heap.size (n + 1) g) (hg : w.grownBy w' (some W.heap.size)) : MH W w' (n + 1) g := ⟨hm, h.2.grown hg h.2.size (fun k hk => by injection hk with hk; omega)⟩
theorem MH.below {W w : World} {n : Nat} {f : Int → ByteArray} (h : MH W w n f) : Below W.heap.size W w := h.2
set_option maxRecDepth 100000 in
theorem upon_ins {W w : World} {o : Oper} {a : Act} {K : Act → World → Prop} {Q : Exit → Act → World → Prop} {n : Nat} {f : Int → ByteArray} {k : Int} {s : ByteArray} (h : MH W w n f) (hn : n < 100) (wk : (Lit.int .i64 k).wf = true) (hs : s.size ≤ maxLen)
    (hK : ∀ w', MH W w' (n + 1) (upd f k s) → K (a.put o.dst undef) w') :
    Oper.upon Tryz.prog o a K Q (((Instr.mapUpdate 227 (.map (some W.heap.size)) (.int .i64 k) (.string s)).run Tryz.prog w).andThen fun _ w' => .ok .skip w') := by
  obtain ⟨w', h1, h2, h3⟩ := h.1.ins hn k wk s hs
  rw [h1]
  exact hK w' (h.next h2 h3)
set_option maxRecDepth 100000 in
theorem upon_look {W w : World} {o : Oper} {a : Act} {K : Act → World → Prop} {Q : Exit → Act → World → Prop} {n : Nat} {f : Int → ByteArray} {k : Int} (s : ByteArray) (h : MH W w n f) (wk : (Lit.int .i64 k).wf = true) (hs : f k = s)
    (hK : K (a.put o.dst (.string s)) w) :
    Oper.upon Tryz.prog o a K Q (((Instr.lookup 227 (.map (some W.heap.size)) (.int .i64 k) false).run Tryz.prog w).andThen fun v w' => .ok (.value v) w') := by
  rw [h.1.look k wk, hs]
  exact hK
def WfT (t : Ts) : Prop := (Lit.int .i64 t.kind).wf = true ∧ t.name.size ≤ maxLen
set_option maxRecDepth 100000 in
set_option maxHeartbeats 20000000 in
theorem rtest_any (lv : Value) (l : List Nd) (k : Nat) (t : Ts) (w : World) (hl : NdsAt w lv l) (hs : SmNs l) (hk : k < l.length) (hw : WfT t) :
    Calls Tryz.prog 108 #[lv, .int .i64 (k : Int), testV t] w fun e w' => e = .returned (.bool (testB l k t)) ∧ Below w.heap.size w w' := by
  obtain ⟨a, cap, rfl⟩ := Sl.form hl
  obtain ⟨b, off, rfl, he⟩ := Sl.at hl hk
  obtain ⟨sa, sc, g0, g1, g2, g3, g4, g5, hA⟩ := he.cells
  have hlen := hs.1
  unfold lim at hlen
  have HS := hid (hs.2 l[k] (List.getElem_mem hk))
  have HA := hid hA
  have HL := hid hl
  have HN := hid hs.1
  obtain ⟨kd, nm, vl⟩ := t
  obtain ⟨wk, wn⟩ := hw
  have HWK := hid wk
  have HWN := hid wn
  have HT : Hid (testB l k ⟨kd, nm, vl⟩ = if kd = 1 then l[k].name.toList == nm.toList else if kd = 2 then clsOf l[k].attrs nm else if kd = 3 then attrB l[k].attrs idN nm else if kd = 4 then (getA nm l[k].attrs).isSome
    else if kd = 5 then attrB l[k].attrs nm vl else if kd = 6 then decide (ahead l k < 0) else false) := by
    show testB _ _ _ = _
    simp only [testB, ndAt_eq hk]
  generalize testB l k ⟨kd, nm, vl⟩ = R at *
  have n1 : (k : Int) < (l.length : Int) := by omega
  have n2 : (0 : Int) ≤ (k : Int) := by omega
  generalize l[k] = x at *
  obtain ⟨xn, xp, xa, x1, x2, x3⟩ := x
  simp only at g0 g1 g2 g3 g4 g5 HA HS HT
  clear he hl hs hA wk wn
  simp only [testV]
  go_enter Tryz.func108, Tryz.ntmps108
  go_wp2_with fail
  have BX := ext_alloc' w (.cells #[.int .i64 kd, .string nm, .string vl] 152)
  have t0 := cell_new w #[.int .i64 kd, .string nm, .string vl] 152
  have c0 := BX _ _ _ g0
  have c1 := BX _ _ _ g1
  have c2 := BX _ _ _ g2
  have c3 := BX _ _ _ g3
  have c4 := BX _ _ _ g4
  have c5 := BX _ _ _ g5
  have e0 : (w.alloc (.cells #[.int .i64 kd, .string nm, .string vl] 152)).cell? ⟨w.heap.size, 0, none⟩ = some (.int .i64 kd) := t0 0
  have e1 : (w.alloc (.cells #[.int .i64 kd, .string nm, .string vl] 152)).cell? ⟨w.heap.size, 1, none⟩ = some (.string nm) := t0 1
  have e2 : (w.alloc (.cells #[.int .i64 kd, .string nm, .string vl] 152)).cell? ⟨w.heap.size, 2, none⟩ = some (.string vl) := t0 2
  have HA0 := hid (HA.out.ext BX)
  have HL0 := hid (HL.out.ext BX)
  have HB0 : Hid (Below w.heap.size w (w.alloc (.cells #[.int .i64 kd, .string nm, .string vl] 152))) := (Below.refl _ _).alloc (Nat.le_refl _) _
  have hws : w.heap.size < (w.alloc (.cells #[.int .i64 kd, .string nm, .string vl] 152)).heap.size := by simp
  have hbs : b < (w.alloc (.cells #[.int .i64 kd, .string nm, .string vl] 152)).heap.size := lt_of_cell c0
  clear g0 g1 g2 g3 g4 g5 BX t0 HA HL
  generalize w.alloc (.cells #[.int .i64 kd, .string nm, .string vl] 152) = W at *
  have E := hid (And.intro e0 (And.intro e1 e2))
  have CC := hid (And.intro c0 c1)
  go_cut [7, 8] from 11 to 27 (fun v o wc => v = .string ((getA (nmK kd nm) xa).getD ⟨#[]⟩) ∧ o = .bool (getA (nmK kd nm) xa).isSome ∧ Below W.heap.size W wc)
  case first =>
    have SW : ∀ {w' : World}, Below W.heap.size W w' → w'.cell? ⟨w.heap.size, 0, none⟩ = some (.int .i64 kd) ∧ w'.cell? ⟨w.heap.size, 1, none⟩ = some (.string nm) ∧ w'.cell? ⟨b, off + k * 6, none⟩ = some (.string xn) ∧ w'.cell? ⟨b, off + k * 6 + 1, none⟩ = some (.int .i64 xp) ∧ w'.cell? ⟨b, off + k * 6 + 2, none⟩ = some (.slice sa xa.length sc) ∧ w'.cell? ⟨b, off + k * 6 + 3, none⟩ = some (.int .i64 x1) ∧ w'.cell? ⟨b, off + k * 6 + 4, none⟩ = some (.int .i64 x2) ∧ w'.cell? ⟨b, off + k * 6 + 5, none⟩ = some (.int .i64 x3) := fun h =>
      ⟨Ext.below h _ _ _ e0, Ext.below h _ _ _ e1, Ext.below h _ _ _ c0, Ext.below h _ _ _ c1, Ext.below h _ _ _ c2, Ext.below h _ _ _ c3, Ext.below h _ _ _ c4, Ext.below h _ _ _ c5⟩
    have hS0 := SW (Below.refl _ _)
    have hS1 := SW (MH.made W).2
    have M0 := MH.made W
    have RG : ∀ w', Below W.heap.size W w' → Calls Tryz.prog 146 #[.agg #[.string xn, .int .i64 xp, .slice sa xa.length sc, .int .i64 x1, .int .i64 x2, .int .i64 x3], .string (nmK kd nm)] w' fun e w4 => e = .returned (.tuple #[.string ((getA (nmK kd nm) xa).getD ⟨#[]⟩), .bool (getA (nmK kd nm) xa).isSome]) ∧ Below W.heap.size W w4 := fun w' h =>
      (rget_any ⟨xn, xp, xa, x1, x2, x3⟩ (.slice sa xa.length sc) (nmK kd nm) w' (HA0.out.ext (Ext.below h)) HS.out).mono fun e w4 hh => ⟨hh.1, below_trans h hh.2 (Nat.le_refl _)⟩
    have hmm := @run_makeMap Tryz.prog
    go_region_held3 (fun w' => w'.cell? ⟨w.heap.size, 0, none⟩ = some (.int .i64 kd) ∧ w'.cell? ⟨w.heap.size, 1, none⟩ = some (.string nm) ∧ w'.cell? ⟨b, off + k * 6, none⟩ = some (.string xn) ∧ w'.cell? ⟨b, off + k * 6 + 1, none⟩ = some (.int .i64 xp) ∧ w'.cell? ⟨b, off + k * 6 + 2, none⟩ = some (.slice sa xa.length sc) ∧ w'.cell? ⟨b, off + k * 6 + 3, none⟩ = some (.int .i64 x1) ∧ w'.cell? ⟨b, off + k * 6 + 4, none⟩ = some (.int .i64 x2) ∧ w'.cell? ⟨b, off + k * 6 + 5, none⟩ = some (.int .i64 x3)) (first | assumption | go_keep) (first
      | (with_reducible refine upon_ins (W := W) (by assumption) ?_ ?_ ?_ ?_; (focus decide); (focus decide); (focus (first | exact HWN.out | decide)); intro w' hM'; have hS' := SW hM'.below)
      | (with_reducible refine upon_look (W := W) (nmK kd nm) (by assumption) HWK.out ?_ ?_; (focus (simp only [upd, nmK, clsN, idN] <;> ((repeat' split) <;> first | rfl | omega))))
      | (with_reducible refine (RG _ (MH.below (by assumption))).mono ?_; rintro e w4 ⟨rfl, hB4⟩; have hS4 := SW hB4))
    all_goals (go_wp2_with fail; go_meet; exact ⟨rfl, rfl, by assumption⟩)
  case rest =>
    obtain ⟨rfl, rfl, hb⟩ := hcut
    have HBC := hid (below_trans HB0.out hb (Nat.le_refl _))
    have d0 := Ext.below hb _ _ _ e0
    have d1 := Ext.below hb _ _ _ e1
    have d2 := Ext.below hb _ _ _ e2
    have f0 := Ext.below hb _ _ _ c0
    have HLC := hid (HL0.out.ext (Ext.below hb))
    have hvs : ((getA (nmK kd nm) xa).getD ⟨#[]⟩).size ≤ 1048576 := by
      cases hg : getA (nmK kd nm) xa with
      | none => decide
      | some v => obtain ⟨a, ha, e⟩ := getA_small hg; simp only [Option.getD]; rw [← e]; exact HS.out.vals a ha
    clear e0 e1 e2 c0 c1 c2 c3 c4 c5 E CC HA0 HL0 HB0 hb hws hbs
    by_cases h1 : kd = 1
    · subst h1
      generalize (getA (nmK 1 nm) xa) = G at *
      have HR : Hid (R = (xn.toList == nm.toList)) := HT.out
      clear HT
      go_wp2_with fail
      go_quiet (fail)
      go_wp2_with fail
      go_ret
      exact ⟨ret_bool HR.out.symm, below_dN HBC.out _⟩
    by_cases h2 : kd = 2
    · subst h2
      have HR : Hid (R = refAt ((getA clsN xa).getD ⟨#[]⟩).data.toList nm.data.toList 0) := HT.out.trans (clsOf_at xa nm)
      have HN3 : nmK 2 nm = clsN := rfl
      rw [HN3] at hvs ⊢
      clear HT HN3 HLC f0 d2
      generalize (getA clsN xa).isSome = O at *
      generalize (getA clsN xa).getD ⟨#[]⟩ = V at *
      have HD := hid d1
      go_wp2_with fail
      go_loopg [9] (V.size + 1) (fun n i wr => ∃ j : Nat, n = V.size + 1 - j ∧ j ≤ V.size + 1 ∧ i = .int .i64 (j : Int) ∧ R = refAt V.data.toList nm.data.toList j ∧ ∃ m, wr = wc.drewN m)
      case atStart => exact ⟨0, rfl, Nat.zero_le _, rfl, HR.out, 0, rfl⟩
      case round =>
        obtain ⟨j, hn, hj, rfl, hG, m, rfl⟩ := hrel
        have GK := hid hn
        have HG := hid hG
        clear hn hG
        by_cases hlt : j ≤ V.size
        · cases j with
          | zero =>
            have HST : Hid (((0 : Nat) == 0 || V.data.toList[0 - 1]? == some 32) = true) := rfl
            go_wp2_with fail
            go_loopg [10] (V.size - (0)) (fun n ev wr => ∃ e : Nat, n = V.size - e ∧ 0 ≤ e ∧ e ≤ V.size ∧ ev = .int .i64 (e : Int) ∧ Run V.data.toList (0) e ∧ ∃ m', wr = wc.drewN m')
            case atStart => exact ⟨0, rfl, Nat.le_refl _, by omega, by go_num, Run.start _ _, _, rfl⟩
            case round =>
              obtain ⟨e, hn, hje, hes, rfl, hRun, m', rfl⟩ := hrel
              have GE := hid hn
              have HRun := hid hRun
              clear hn hRun
              have d1 : (wc.drewN m').cell? ⟨w.heap.size, 1, none⟩ = some (.string nm) := HD.out
              by_cases hel : e < V.size
              · have hce : V.data.toList[e]? = some V[e] := Lib.data_getElem? V e hel
                by_cases hc : V[e] = 32
                · have hcn : ((V[e].toNat : Int) != 32) = false := by rw [hc]; rfl
                  have HCE : Hid (V.data.toList[e]? = some 32) := by rw [← hc]; exact hce
                  clear hce hc
                  have HP : Hid (piece (V.data.toList.drop (0)) = (V.extract (0) e).toList) := by
                    show _ = _
                    rw [extract_run]
                    exact HRun.out.stop (.inl HCE.out)
                  have HX : Hid (R = (((piece (V.data.toList.drop (0))).length != 0 && piece (V.data.toList.drop (0)) == nm.data.toList) || refAt V.data.toList nm.data.toList (0 + 1))) := HG.out.trans (refAt_start HST.out)
                  have HLn : Hid ((piece (V.data.toList.drop (0))).length = e - (0)) := by
                    show _ = _
                    rw [HRun.out.stop (.inl HCE.out)]
                    simp
                    omega
                  clear HRun HST
                  by_cases he : (0) < e
                  · have hd : decide (((0 : Nat) : Int) < (e : Int)) = true := by simp; omega
                    cases hq : ((V.extract (0) e).toList == nm.toList)
                    · have HR3 : Hid (R = refAt V.data.toList nm.data.toList (0 + 1)) := by
                        show _ = _
                        rw [HX.out, HP.out, ← Lib.toList_data nm, hq]
                        simp
                      clear HX HP HLn
                      go_wp2_with fail
                      go_quiet (fail)
                      go_wp2_with fail
                      go_roundg (V.size + 1 - (0 + 1))
                      case measure => have := GK.out; omega
                      case rel => exact ⟨0 + 1, rfl, by omega, by go_num, HR3.out, _, rfl⟩
                    · have HR3 : Hid (R = true) := by
                        show _ = _
                        rw [HX.out, HLn.out, HP.out, ← Lib.toList_data nm, hq]
                        simp
                        left
                        omega
                      clear HX HP HLn
                      go_wp2_with fail
                      go_quiet (fail)
                      go_wp2_with fail
                      go_ret
                      exact ⟨ret_bool HR3.out.symm, below_dN (below_dN HBC.out _) _⟩
                  · have hd : decide (((0 : Nat) : Int) < (e : Int)) = false := by simp; omega
                    have HR3 : Hid (R = refAt V.data.toList nm.data.toList (0 + 1)) := by
                      show _ = _
                      rw [HX.out, HLn.out, show e - (0) = 0 by omega]
                      simp
                    clear HX HP HLn
                    go_wp2_with fail
                    go_quiet (fail)
                    go_wp2_with fail
                    go_roundg (V.size + 1 - (0 + 1))
                    case measure => have := GK.out; omega
                    case rel => exact ⟨0 + 1, rfl, by omega, by go_num, HR3.out, _, rfl⟩
                · have hcn : ((V[e].toNat : Int) != 32) = true := by
                    simp only [bne_iff_ne, ne_eq]
                    intro h
                    exact hc (UInt8.toNat_inj.1 (by have : (32 : UInt8).toNat = 32 := rfl; omega))
                  have HN2 := hid (HRun.out.step hje hce hc)
                  clear hce hc
                  go_wp2_with fail
                  go_roundg (V.size - (e + 1))
                  case measure => have := GE.out; omega
                  case rel => exact ⟨e + 1, rfl, by omega, by omega, by go_num, HN2.out, _, rfl⟩
              · have hee : ¬ ((e : Int) < (V.size : Int)) := by omega
                have HEE : Hid (V.data.toList.length ≤ e) := by show _ ≤ _; simp; omega
                have HP : Hid (piece (V.data.toList.drop (0)) = (V.extract (0) e).toList) := by
                  show _ = _
                  rw [extract_run]
                  exact HRun.out.stop (.inr HEE.out)
                have HX : Hid (R = (((piece (V.data.toList.drop (0))).length != 0 && piece (V.data.toList.drop (0)) == nm.data.toList) || refAt V.data.toList nm.data.toList (0 + 1))) := HG.out.trans (refAt_start HST.out)
                have HLn : Hid ((piece (V.data.toList.drop (0))).length = e - (0)) := by
                  show _ = _
                  rw [HRun.out.stop (.inr HEE.out)]
                  simp
                  omega
                clear HRun HST
                by_cases he : (0) < e
                · have hd : decide (((0 : Nat) : Int) < (e : Int)) = true := by simp; omega
                  cases hq : ((V.extract (0) e).toList == nm.toList)
                  · have HR3 : Hid (R = refAt V.data.toList nm.data.toList (0 + 1)) := by
                      show _ = _
                      rw [HX.out, HP.out, ← Lib.toList_data nm, hq]
                      simp
                    clear HX HP HLn
                    go_wp2_with fail
                    go_quiet (fail)
                    go_wp2_with fail
                    go_roundg (V.size + 1 - (0 + 1))
                    case measure => have := GK.out; omega
                    case rel => exact ⟨0 + 1, rfl, by omega, by go_num, HR3.out, _, rfl⟩
                  · have HR3 : Hid (R = true) := by
                      show _ = _
                      rw [HX.out, HLn.out, HP.out, ← Lib.toList_data nm, hq]
                      simp
                      left
                      omega
                    clear HX HP HLn
                    go_wp2_with fail
                    go_quiet (fail)
                    go_wp2_with fail
                    go_ret
                    exact ⟨ret_bool HR3.out.symm, below_dN (below_dN HBC.out _) _⟩
                · have hd : decide (((0 : Nat) : Int) < (e : Int)) = false := by simp; omega
                  have HR3 : Hid (R = refAt V.data.toList nm.data.toList (0 + 1)) := by
                    show _ = _
                    rw [HX.out, HLn.out, show e - (0) = 0 by omega]
                    simp
                  clear HX HP HLn
                  go_wp2_with fail
                  go_quiet (fail)
                  go_wp2_with fail
                  go_roundg (V.size + 1 - (0 + 1))
                  case measure => have := GK.out; omega
                  case rel => exact ⟨0 + 1, rfl, by omega, by go_num, HR3.out, _, rfl⟩
          | succ j =>
            have hl2 : j < V.size := by omega
            have hcj : V.data.toList[j]? = some V[j] := Lib.data_getElem? V j hl2
            by_cases hc : V[j] = 32
            · have hcn : ((V[j].toNat : Int) != 32) = false := by rw [hc]; rfl
              have HST : Hid ((j + 1 == 0 || V.data.toList[j + 1 - 1]? == some 32) = true) := by
                show _ = _
                rw [Nat.add_sub_cancel, hcj, hc]
                simp
              clear hcj hc
              go_wp2_with fail
              have hcast : ((j : Int) + 1) = ((j + 1 : Nat) : Int) := rfl
              rw [hcast]
              clear hcast
              generalize j + 1 = J at hj GK HG hlt HST ⊢
              go_loopg [10] (V.size - (J)) (fun n ev wr => ∃ e : Nat, n = V.size - e ∧ J ≤ e ∧ e ≤ V.size ∧ ev = .int .i64 (e : Int) ∧ Run V.data.toList (J) e ∧ ∃ m', wr = wc.drewN m')
              case atStart => exact ⟨J, rfl, Nat.le_refl _, by omega, by go_num, Run.start _ _, _, rfl⟩
              case round =>
                obtain ⟨e, hn, hje, hes, rfl, hRun, m', rfl⟩ := hrel
                have GE := hid hn
                have HRun := hid hRun
                clear hn hRun
                have d1 : (wc.drewN m').cell? ⟨w.heap.size, 1, none⟩ = some (.string nm) := HD.out
                by_cases hel : e < V.size
                · have hce : V.data.toList[e]? = some V[e] := Lib.data_getElem? V e hel
                  by_cases hc : V[e] = 32
                  · have hcn : ((V[e].toNat : Int) != 32) = false := by rw [hc]; rfl
                    have HCE : Hid (V.data.toList[e]? = some 32) := by rw [← hc]; exact hce
                    clear hce hc
                    have HP : Hid (piece (V.data.toList.drop (J)) = (V.extract (J) e).toList) := by
                      show _ = _
                      rw [extract_run]
                      exact HRun.out.stop (.inl HCE.out)
                    have HX : Hid (R = (((piece (V.data.toList.drop (J))).length != 0 && piece (V.data.toList.drop (J)) == nm.data.toList) || refAt V.data.toList nm.data.toList (J + 1))) := HG.out.trans (refAt_start HST.out)
                    have HLn : Hid ((piece (V.data.toList.drop (J))).length = e - (J)) := by
                      show _ = _
                      rw [HRun.out.stop (.inl HCE.out)]
                      simp
                      omega
                    clear HRun HST
                    by_cases he : (J) < e
                    · have hd : decide (((J : Nat) : Int) < (e : Int)) = true := by simp; omega
                      cases hq : ((V.extract (J) e).toList == nm.toList)
                      · have HR3 : Hid (R = refAt V.data.toList nm.data.toList (J + 1)) := by
                          show _ = _
                          rw [HX.out, HP.out, ← Lib.toList_data nm, hq]
                          simp
                        clear HX HP HLn
                        go_wp2_with fail
                        go_quiet (fail)
                        go_wp2_with fail
                        go_roundg (V.size + 1 - (J + 1))
                        case measure => have := GK.out; omega
                        case rel => exact ⟨J + 1, rfl, by omega, by go_num, HR3.out, _, rfl⟩
                      · have HR3 : Hid (R = true) := by
                          show _ = _
                          rw [HX.out, HLn.out, HP.out, ← Lib.toList_data nm, hq]
                          simp
                          left
                          omega
                        clear HX HP HLn
                        go_wp2_with fail
                        go_quiet (fail)
                        go_wp2_with fail
                        go_ret
                        exact ⟨ret_bool HR3.out.symm, below_dN (below_dN HBC.out _) _⟩
                    · have hd : decide (((J : Nat) : Int) < (e : Int)) = false := by simp; omega
                      have HR3 : Hid (R = refAt V.data.toList nm.data.toList (J + 1)) := by
                        show _ = _
                        rw [HX.out, HLn.out, show e - (J) = 0 by omega]
                        simp
                      clear HX HP HLn
                      go_wp2_with fail
                      go_quiet (fail)
                      go_wp2_with fail
                      go_roundg (V.size + 1 - (J + 1))
                      case measure => have := GK.out; omega
                      case rel => exact ⟨J + 1, rfl, by omega, by go_num, HR3.out, _, rfl⟩
                  · have hcn : ((V[e].toNat : Int) != 32) = true := by
                      simp only [bne_iff_ne, ne_eq]
                      intro h
                      exact hc (UInt8.toNat_inj.1 (by have : (32 : UInt8).toNat = 32 := rfl; omega))
                    have HN2 := hid (HRun.out.step hje hce hc)
                    clear hce hc
                    go_wp2_with fail
                    go_roundg (V.size - (e + 1))
                    case measure => have := GE.out; omega
                    case rel => exact ⟨e + 1, rfl, by omega, by omega, by go_num, HN2.out, _, rfl⟩
                · have hee : ¬ ((e : Int) < (V.size : Int)) := by omega
                  have HEE : Hid (V.data.toList.length ≤ e) := by show _ ≤ _; simp; omega
                  have HP : Hid (piece (V.data.toList.drop (J)) = (V.extract (J) e).toList) := by
                    show _ = _
                    rw [extract_run]
                    exact HRun.out.stop (.inr HEE.out)
                  have HX : Hid (R = (((piece (V.data.toList.drop (J))).length != 0 && piece (V.data.toList.drop (J)) == nm.data.toList) || refAt V.data.toList nm.data.toList (J + 1))) := HG.out.trans (refAt_start HST.out)
                  have HLn : Hid ((piece (V.data.toList.drop (J))).length = e - (J)) := by
                    show _ = _
                    rw [HRun.out.stop (.inr HEE.out)]
                    simp
                    omega
                  clear HRun HST
                  by_cases he : (J) < e
                  · have hd : decide (((J : Nat) : Int) < (e : Int)) = true := by simp; omega
                    cases hq : ((V.extract (J) e).toList == nm.toList)
                    · have HR3 : Hid (R = refAt V.data.toList nm.data.toList (J + 1)) := by
                        show _ = _
                        rw [HX.out, HP.out, ← Lib.toList_data nm, hq]
                        simp
                      clear HX HP HLn
                      go_wp2_with fail
                      go_quiet (fail)
                      go_wp2_with fail
                      go_roundg (V.size + 1 - (J + 1))
                      case measure => have := GK.out; omega
                      case rel => exact ⟨J + 1, rfl, by omega, by go_num, HR3.out, _, rfl⟩
                    · have HR3 : Hid (R = true) := by
                        show _ = _
                        rw [HX.out, HLn.out, HP.out, ← Lib.toList_data nm, hq]
                        simp
                        left
                        omega
                      clear HX HP HLn
                      go_wp2_with fail
                      go_quiet (fail)
                      go_wp2_with fail
                      go_ret
                      exact ⟨ret_bool HR3.out.symm, below_dN (below_dN HBC.out _) _⟩
                  · have hd : decide (((J : Nat) : Int) < (e : Int)) = false := by simp; omega
                    have HR3 : Hid (R = refAt V.data.toList nm.data.toList (J + 1)) := by
                      show _ = _
                      rw [HX.out, HLn.out, show e - (J) = 0 by omega]
                      simp
                    clear HX HP HLn
                    go_wp2_with fail
                    go_quiet (fail)
                    go_wp2_with fail
                    go_roundg (V.size + 1 - (J + 1))
                    case measure => have := GK.out; omega
                    case rel => exact ⟨J + 1, rfl, by omega, by go_num, HR3.out, _, rfl⟩
            · have hcn : ((V[j].toNat : Int) != 32) = true := by
                simp only [bne_iff_ne, ne_eq]
                intro h
                exact hc (UInt8.toNat_inj.1 (by have : (32 : UInt8).toNat = 32 := rfl; omega))
              have HG2 := hid (HG.out.trans (refAt_skip hcj hc))
              clear hcj hc
              go_wp2_with fail
              go_roundg (V.size + 1 - (j + 2))
              case measure => have := GK.out; omega
              case rel => exact ⟨j + 2, rfl, by omega, by go_num, HG2.out, _, rfl⟩
        · have HG3 : Hid (R = false) := by rw [show Hid (R = false) = (R = false) from rfl, HG.out]; exact refAt_end (by simp; omega)
          have hlt2 : ¬ ((j : Int) ≤ (V.size : Int)) := by omega
          go_wp2_with fail
          go_ret
          exact ⟨ret_bool HG3.out.symm, below_dN HBC.out _⟩
    by_cases h3 : kd = 3
    · subst h3
      have HR : Hid (R = attrB xa idN nm) := HT.out
      have HN3 : nmK 3 nm = idN := rfl
      rw [HN3] at hvs ⊢
      clear HT HN3
      cases hg : getA idN xa with
      | none =>
        have HR2 : Hid (R = false) := by have := HR.out; unfold attrB at this; rw [hg] at this; exact this
        clear HR hg
        simp only [Option.getD, Option.isSome]
        go_wp2_with fail
        go_ret
        exact ⟨ret_bool HR2.out.symm, HBC.out⟩
      | some v =>
        have HR2 : Hid (R = (v.toList == nm.toList)) := by have := HR.out; unfold attrB at this; rw [hg] at this; exact this
        clear HR hg
        simp only [Option.getD, Option.isSome]
        go_wp2_with fail
        go_ret
        exact ⟨ret_bool HR2.out.symm, HBC.out⟩
    by_cases h4 : kd = 4
    · subst h4
      have HR : Hid (R = (getA nm xa).isSome) := HT.out
      have HN3 : nmK 4 nm = nm := rfl
      rw [HN3] at hvs ⊢
      clear HT HN3
      generalize getA nm xa = G at *
      go_wp2_with fail
      go_ret
      exact ⟨ret_bool HR.out.symm, HBC.out⟩
    by_cases h5 : kd = 5
    · subst h5
      have HR : Hid (R = attrB xa nm vl) := HT.out
      have HN3 : nmK 5 nm = nm := rfl
      rw [HN3] at hvs ⊢
      clear HT HN3
      cases hg : getA nm xa with
      | none =>
        have HR2 : Hid (R = false) := by have := HR.out; unfold attrB at this; rw [hg] at this; exact this
        clear HR hg
        simp only [Option.getD, Option.isSome]
        go_wp2_with fail
        go_ret
        exact ⟨ret_bool HR2.out.symm, HBC.out⟩
      | some v =>
        have HR2 : Hid (R = (v.toList == vl.toList)) := by have := HR.out; unfold attrB at this; rw [hg] at this; exact this
        clear HR hg
        simp only [Option.getD, Option.isSome]
        go_wp2_with fail
        go_ret
        exact ⟨ret_bool HR2.out.symm, HBC.out⟩
    by_cases h6 : kd = 6
    · subst h6
      have HR : Hid (R = decide (ahead l k < 0)) := HT.out
      clear HT
      generalize (getA (nmK 6 nm) xa) = G at *
      go_wp2_with (go_at_call 109; refine (rahead_any _ l k _ HLC.out HN.out hk).mono ?_; rintro e w' ⟨rfl, n, rfl⟩)
      go_ret
      exact ⟨ret_bool HR.out.symm, below_dN HBC.out n⟩
    · have HR : Hid (R = false) := by
        have := HT.out
        rw [if_neg h1, if_neg h2, if_neg h3, if_neg h4, if_neg h5, if_neg h6] at this
        exact this
      clear HT
      generalize (getA (nmK kd nm) xa) = G at *
      go_wp2_with fail
      go_ret
      exact ⟨ret_bool HR.out.symm, HBC.out⟩
end Go.Proofs.YtblkldfokeeaeacGreatDoor.Rf
namespace Go.Proofs.YtblkldfokeeaeacGreatDoor.Rf
open Go.RowKit
def WfS (s : List Pt) : Prop := ∀ p ∈ s, ∀ t ∈ p.tests, WfT t
theorem rest_succ (l : List Nd) (s : List Pt) (i x : Nat) : rest l s (i + 1) x = (ups l x (ptAt s (i + 1)).join).any fun y => partB l y (ptAt s i) && rest l s i y := rfl
set_option maxRecDepth 100000 in
set_option maxHeartbeats 4000000 in
theorem rmeans_any (lv sv : Value) (l : List Nd) (s : List Pt) (hs : SmNs l) (hss : SmS s) (hw : WfS s) : ∀ (i k : Nat) (w : World), NdsAt w lv l → PsAt w sv s → k < l.length → i < s.length →
    Calls Tryz.prog 79 #[lv, .int .i64 (k : Int), sv, .int .i64 (i : Int)] w fun e w' => e = .returned (.bool (partB l k (ptAt s i) && rest l s i k)) ∧ Below w.heap.size w w' := by
  intro i
  induction i using Nat.strongRecOn with
  | ind i ih =>
  intro k w hl hp hk hi
  have IH := hid ih
  clear ih
  obtain ⟨a, cap, rfl⟩ := Sl.form hl
  obtain ⟨a2, cap2, rfl⟩ := Sl.form hp
  have HL := hid hl
  have HP := hid hp
  have HS := hid hs
  have HSS := hid hss
  have HK := hid hk
  have HI := hid hi
  have hln := hs.1
  unfold lim at hln
  have hsn := hss.1
  unfold lim at hsn
  obtain ⟨b, off, rfl, he⟩ := Sl.at hp hi
  obtain ⟨b2, off2, rfl, hd⟩ := Sl.at hl hk
  obtain ⟨ta, tcap, c0, c1, hts⟩ := he.cells
  have p1 := hd.c1
  have hpar : par l k = (l[k]'hk).parent := by unfold par; rw [ndAt_eq hk]
  rw [← hpar] at p1
  have hts2 := hss.part (List.getElem_mem hi)
  unfold lim at hts2
  have HW : Hid (∀ t ∈ (s[i]'hi).tests, WfT t) := hw _ (List.getElem_mem hi)
  have HE : Hid ((partB l k (ptAt s i) && rest l s i k) = ((s[i]'hi).tests.all (testB l k) && rest l s i k)) := by
    show _ = _
    rw [ptAt_eq hi]; rfl
  have HJ : Hid ((ptAt s i).join = (s[i]'hi).join) := by show _ = _; rw [ptAt_eq hi]
  generalize (partB l k (ptAt s i) && rest l s i k) = R at *
  generalize s[i]'hi = p at *
  obtain ⟨jn, ts⟩ := p
  simp only at c0 c1 hts hts2 HW HE HJ
  have HT := hid hts
  have C0 := hid c0
  have P1 := hid p1
  clear hl hp hs hss hw he hd hts hpar p1 c0
  go_enter Tryz.func79, Tryz.ntmps79
  go_wp2_with fail
  go_loopg [20] ts.length (fun n iv wr => ∃ j : Nat, n = ts.length - j ∧ j ≤ ts.length ∧ iv = .int .i64 (j : Int) ∧ R = ((ts.drop j).all (testB l k) && rest l s i k) ∧ Below w.heap.size w wr)
  case atStart => exact ⟨0, rfl, Nat.zero_le _, rfl, HE.out, Below.refl _ _⟩
  case round =>
    obtain ⟨j, hn, hj, rfl, hR, hB⟩ := hrel
    have GK := hid hn
    have HB := hid hB
    have HR := hid hR
    clear hn hB hR c1
    by_cases hlt : j < ts.length
    · obtain ⟨b3, off3, rfl, he⟩ := Sl.at (TsAt.ext HT.out (Ext.below HB.out)) hlt
      obtain ⟨c0, c1, c2⟩ := he.cells
      have HR2 : Hid (R = (testB l k ts[j] && ((ts.drop (j + 1)).all (testB l k) && rest l s i k))) := by
        show R = _
        rw [HR.out, List.drop_eq_getElem_cons hlt, ← Bool.and_assoc]; rfl
      have HWT := hid (HW.out _ (List.getElem_mem hlt))
      clear he
      generalize ts[j] = t at *
      have HB3 : ∀ o, Hid (Below w.heap.size w (wr.alloc o)) := fun o => HB.out.alloc HB.out.size o
      go_wp2_with (go_at_call 108; refine (rtest_any _ l k t _ (HL.out.ext (Ext.below (HB3 _).out)) HS.out HK.out HWT.out).mono ?_; rintro e w' ⟨rfl, hb⟩; have HB4 := hid (below_trans (HB3 _).out hb (Nat.le_refl _)); clear hb; rcases htb : testB l k t)
      · have HR3 : Hid (R = false) := by have := HR2.out; rw [htb] at this; exact this
        go_ret
        exact ⟨ret_bool HR3.out.symm, HB4.out⟩
      · have HR3 : Hid (R = ((ts.drop (j + 1)).all (testB l k) && rest l s i k)) := by have := HR2.out; rw [htb] at this; exact this
        go_roundg (ts.length - (j + 1))
        case measure => have := GK.out; omega
        case rel => exact ⟨j + 1, rfl, by omega, by go_num, HR3.out, HB4.out⟩
    · have HR3 : Hid (R = rest l s i k) := by
        show R = _
        rw [HR.out, List.drop_eq_nil_of_le (by omega)]; rfl
      clear HR HE
      cases i with
      | zero =>
        have HR4 : Hid (R = true) := HR3.out
        go_wp2_with fail
        go_ret
        exact ⟨ret_bool HR4.out.symm, HB.out⟩
      | succ i =>
        have HR4 : Hid (R = (ups l k jn).any fun y => partB l y (ptAt s i) && rest l s i y) := by
          show R = _
          rw [HR3.out, rest_succ, HJ.out]
        have IH2 : Hid (∀ (y : Nat) (w2 : World), Below w.heap.size w w2 → y < l.length → Calls Tryz.prog 79 #[.slice (some ⟨b2, off2, none⟩) l.length cap, .int .i64 (y : Int), .slice (some ⟨b, off, none⟩) s.length cap2, .int .i64 (i : Int)] w2 fun e w' => e = .returned (.bool (partB l y (ptAt s i) && rest l s i y)) ∧ Below w.heap.size w w') :=
          fun y w2 hb hy => (IH.out i (Nat.lt_succ_self i) y w2 (HL.out.ext (Ext.below hb)) (HP.out.ext (Ext.below hb)) hy (Nat.lt_of_succ_lt HI.out)).mono fun e w' h => ⟨h.1, below_trans hb h.2 (Nat.le_refl _)⟩
        have c0 := Ext.below HB.out _ _ _ C0.out
        have p1 := Ext.below HB.out _ _ _ P1.out
        have HU : Hid (ups l k jn = if jn = 1 then aboves l k else if 0 ≤ single l k jn ∧ single l k jn < l.length then [(single l k jn).toNat] else []) := rfl
        clear HR3 IH HJ HT HW C0 P1
        generalize hF : (fun y => partB l y (ptAt s i) && rest l s i y) = F at *
        have HF : ∀ y, (partB l y (ptAt s i) && rest l s i y) = F y := fun y => by rw [← hF]
        simp only [HF] at IH2
        clear hF HF
        by_cases h2 : jn = 2
        · subst h2
          have HU2 : Hid (ups l k 2 = if 0 ≤ par l k ∧ par l k < l.length then [(par l k).toNat] else []) := HU.out
          by_cases hr : 0 ≤ par l k ∧ par l k < l.length
          · obtain ⟨u, hu⟩ : ∃ u : Nat, par l k = u := ⟨(par l k).toNat, by omega⟩
            have HR5 : Hid (R = F u) := by
              show R = _
              rw [HR4.out, HU2.out, if_pos hr, hu]
              simp
            rw [hu] at p1 hr
            have hul : u < l.length := by omega
            clear HU HU2 HR4 hu hr
            go_wp2_with (go_at_call 79; refine (IH2.out u _ HB.out hul).mono ?_; rintro e w' ⟨rfl, hb⟩)
            go_ret
            exact ⟨ret_bool HR5.out.symm, hb⟩
          · have HR5 : Hid (R = false) := by
              show R = _
              rw [HR4.out, HU2.out, if_neg hr]
              rfl
            clear HU HU2 HR4
            generalize par l k = u at *
            by_cases h0 : 0 ≤ u
            · have h1 : ¬ u < (l.length : Int) := fun h => hr ⟨h0, h⟩
              clear hr
              go_wp2_with fail
              go_ret
              exact ⟨ret_bool HR5.out.symm, HB.out⟩
            · clear hr
              go_wp2_with fail
              go_ret
              exact ⟨ret_bool HR5.out.symm, HB.out⟩
        by_cases h3 : jn = 3
        · subst h3
          have HU2 : Hid (ups l k 3 = if 0 ≤ ahead l k ∧ ahead l k < l.length then [(ahead l k).toNat] else []) := HU.out
          have hbd := ahead_bd l k
          have HAN := hid (rahead_any (.slice (some ⟨b2, off2, none⟩) l.length cap) l k wr (HL.out.ext (Ext.below HB.out)) HS.out.1 HK.out)
          by_cases hr : 0 ≤ ahead l k
          · obtain ⟨u, hu⟩ : ∃ u : Nat, ahead l k = u := ⟨(ahead l k).toNat, by omega⟩
            have HR5 : Hid (R = F u) := by
              show R = _
              rw [HR4.out, HU2.out, if_pos ⟨hr, by omega⟩, hu]
              simp
            have hul : u < l.length := by omega
            rw [hu] at HAN
            clear HU HU2 HR4 hr hbd hu
            go_wp2_with (first | (go_at_call 109; refine HAN.out.mono ?_; rintro e w' ⟨rfl, n, rfl⟩) | (go_at_call 79; refine (IH2.out u _ (below_dN HB.out n) hul).mono ?_; rintro e w' ⟨rfl, hb⟩))
            go_ret
            exact ⟨ret_bool HR5.out.symm, hb⟩
          · have HR5 : Hid (R = false) := by
              show R = _
              rw [HR4.out, HU2.out, if_neg (fun h => hr h.1)]
              rfl
            clear HU HU2 HR4 hbd
            generalize ahead l k = u at *
            go_wp2_with (go_at_call 109; refine HAN.out.mono ?_; rintro e w' ⟨rfl, n, rfl⟩)
            go_ret
            exact ⟨ret_bool HR5.out.symm, below_dN HB.out n⟩
        by_cases h1 : jn = 1
        · subst h1
          have HR5 : Hid (R = (aboves l k).any F) := HR4.out
          clear HU HR4 p1
          go_wp2_with fail
          go_loopg [13] k (fun n iv wr => ∃ q : Nat, n = q ∧ q ≤ k ∧ iv = .int .i64 (q : Int) ∧ R = (aboves l q).any F ∧ Below w.heap.size w wr)
          case atStart => exact ⟨k, rfl, Nat.le_refl _, rfl, HR5.out, HB.out⟩
          case round =>
            clear c0 HB HR5
            obtain ⟨q, hn, hqk, rfl, hR, hB⟩ := hrel
            have GQ := hid hn
            have HB := hid hB
            have HR := hid hR
            clear hn hB hR
            have hql : q < l.length := by have := HK.out; omega
            obtain ⟨b4, off4, hb4, hd⟩ := Sl.at (HL.out.ext (Ext.below HB.out)) hql
            injection hb4 with hb4
            injection hb4 with hb4 hb5
            subst hb4 hb5
            have p1 := hd.c1
            have hpar : par l q = l[q].parent := by unfold par; rw [ndAt_eq hql]
            rw [← hpar] at p1
            clear hpar hd
            by_cases hr : 0 ≤ par l q ∧ par l q < q
            · obtain ⟨u, hu⟩ : ∃ u : Nat, par l q = u := ⟨(par l q).toNat, by omega⟩
              have HR2 : Hid (R = (F u || (aboves l u).any F)) := by
                show R = _
                rw [HR.out, aboves_pos hr.1 hr.2, hu]
                simp
              rw [hu] at p1 hr
              have huq : u < q := by omega
              have hul : u < l.length := by omega
              clear HR hu hr
              go_wp2_with (go_at_call 79; refine (IH2.out u _ HB.out hul).mono ?_; rintro e w' ⟨rfl, hb⟩; have HB4 := hid hb; clear hb; rcases hf : F u)
              · have HR6 : Hid (R = (aboves l u).any F) := by have := HR2.out; rw [hf] at this; exact this
                go_roundg u
                case measure => have := GQ.out; omega
                case rel => exact ⟨u, rfl, by omega, rfl, HR6.out, HB4.out⟩
              · have HR6 : Hid (R = true) := by have := HR2.out; rw [hf] at this; exact this
                go_ret
                exact ⟨ret_bool HR6.out.symm, HB4.out⟩
            · have HR2 : Hid (R = false) := by
                show R = _
                rw [HR.out, aboves_neg hr]
                rfl
              clear HR
              generalize par l q = u at *
              by_cases h0 : 0 ≤ u
              · have h1 : ¬ u < (q : Int) := fun h => hr ⟨h0, h⟩
                clear hr
                go_wp2_with fail
                go_ret
                exact ⟨ret_bool HR2.out.symm, HB.out⟩
              · clear hr
                go_wp2_with fail
                go_ret
                exact ⟨ret_bool HR2.out.symm, HB.out⟩
        · have HR5 : Hid (R = false) := by
            show R = _
            rw [HR4.out, HU.out, if_neg h1, if_neg]
            · rfl
            · intro h
              unfold single at h
              rw [if_neg h2, if_neg h3] at h
              omega
          clear HU HR4
          go_wp2_with fail
          go_ret
          exact ⟨ret_bool HR5.out.symm, HB.out⟩
end Go.Proofs.YtblkldfokeeaeacGreatDoor.Rf
