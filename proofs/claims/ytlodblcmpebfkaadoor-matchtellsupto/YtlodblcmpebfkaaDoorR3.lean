/-
  What the document's own Test answers: the plain answer. Conditions: the elements and the test lie as they must, at most 2^20 of each.
-/
import Derived.Test.YtlodblcmpebfkaaDoorR25
namespace Go.Proofs.YtlodblcmpebfkaaDoor
open Go.RowKit

theorem ext_alloc' (w : World) (o : Obj) : Ext w (w.alloc o) := Ext.below ((Below.refl _ _).alloc (Nat.le_refl _) _)
/-- What the walk keeps of the map under way. -/
def MH (W w : World) (n : Nat) (f : Int → ByteArray) : Prop := Mm w W.heap.size n f ∧ Below W.heap.size W w
theorem MH.made (W : World) : MH W (W.alloc (.map #[] 0)).drew 0 (fun _ => ⟨#[]⟩) := ⟨Mm.made W, ((Below.refl _ _).alloc (Nat.le_refl _) _).drew⟩
theorem MH.next {W w w' : World} {n : Nat} {f g : Int → ByteArray} (h : MH W w n f) (hm : Mm w' W.heap.size (n + 1) g) (hg : w.grownBy w' (some W.heap.size)) : MH W w' (n + 1) g := ⟨hm, h.2.grown hg h.2.size (fun k hk => by injection hk with hk; omega)⟩
theorem MH.below {W w : World} {n : Nat} {f : Int → ByteArray} (h : MH W w n f) : Below W.heap.size W w := h.2
theorem upon_ins {W w : World} {o : Oper} {a : Act} {K : Act → World → Prop} {Q : Exit → Act → World → Prop} {n : Nat} {f : Int → ByteArray} {k : Int} {s : ByteArray} (h : MH W w n f) (hn : n < 100) (wk : (Lit.int .i64 k).wf = true) (hs : s.size ≤ maxLen)
    (hK : ∀ w', MH W w' (n + 1) (upd f k s) → K (a.put o.dst undef) w') :
    Oper.upon Tryd.prog o a K Q (((Instr.mapUpdate 65 (.map (some W.heap.size)) (.int .i64 k) (.string s)).run Tryd.prog w).andThen fun _ w' => .ok .skip w') := by
  obtain ⟨w', h1, h2, h3⟩ := h.1.ins hn k wk s hs
  rw [h1]
  exact hK w' (h.next h2 h3)
theorem upon_look {W w : World} {o : Oper} {a : Act} {K : Act → World → Prop} {Q : Exit → Act → World → Prop} {n : Nat} {f : Int → ByteArray} {k : Int} (s : ByteArray) (h : MH W w n f) (wk : (Lit.int .i64 k).wf = true) (hs : f k = s)
    (hK : K (a.put o.dst (.string s)) w) :
    Oper.upon Tryd.prog o a K Q (((Instr.lookup 65 (.map (some W.heap.size)) (.int .i64 k) false).run Tryd.prog w).andThen fun v w' => .ok (.value v) w') := by
  rw [h.1.look k wk, hs]
  exact hK
def WfT (t : Ts) : Prop := (Lit.int .i64 t.kind).wf = true ∧ t.name.size ≤ maxLen

set_option maxRecDepth 100000 in
set_option maxHeartbeats 20000000 in
theorem rtest_any (lv : Value) (l : List Nd) (k : Nat) (t : Ts) (w : World) (hl : NdsAt w lv l) (hs : SmNs l) (hk : k < l.length) (hw : WfT t) :
    Calls Tryd.prog 14 #[lv, .int .i64 (k : Int), testV t] w fun e w' => e = .returned (.bool (testB l k t)) ∧ Below w.heap.size w w' := by
  obtain ⟨a, cap, rfl⟩ := Sl.form hl
  obtain ⟨b, off, rfl, he⟩ := Sl.at hl hk
  obtain ⟨sa, sc, g0, g1, g2, g3, g4, g5, hA⟩ := he.cells
  have hlen := hs.1
  unfold lim at hlen
  have HS := hid (hs.2 l[k] (List.getElem_mem hk))
  have HA := hid hA
  have HL := hid hl
  have HN := hid hs.1
  obtain ⟨kd, nm, vl⟩ := t
  obtain ⟨wk, wn⟩ := hw
  have HWK := hid wk
  have HWN := hid wn
  have HT : Hid (testB l k ⟨kd, nm, vl⟩ = if kd = 1 then l[k].name.toList == nm.toList else if kd = 2 then clsOf l[k].attrs nm else if kd = 3 then attrB l[k].attrs idN nm else if kd = 4 then (getA nm l[k].attrs).isSome
    else if kd = 5 then attrB l[k].attrs nm vl else if kd = 6 then decide (ahead l k < 0) else false) := by
    show testB _ _ _ = _
    simp only [testB, ndAt_eq hk]
  generalize testB l k ⟨kd, nm, vl⟩ = R at *
  have n1 : (k : Int) < (l.length : Int) := by omega
  have n2 : (0 : Int) ≤ (k : Int) := by omega
  generalize l[k] = x at *
  obtain ⟨xn, xp, xa, x1, x2, x3⟩ := x
  simp only at g0 g1 g2 g3 g4 g5 HA HS HT
  clear he hl hs hA wk wn
  simp only [testV]
  go_enter Tryd.func14, Tryd.ntmps14
  go_wp2_with fail
  have BX := ext_alloc' w (.cells #[.int .i64 kd, .string nm, .string vl] 41)
  have t0 := cell_new w #[.int .i64 kd, .string nm, .string vl] 41
  have c0 := BX _ _ _ g0
  have c1 := BX _ _ _ g1
  have c2 := BX _ _ _ g2
  have c3 := BX _ _ _ g3
  have c4 := BX _ _ _ g4
  have c5 := BX _ _ _ g5
  have e0 : (w.alloc (.cells #[.int .i64 kd, .string nm, .string vl] 41)).cell? ⟨w.heap.size, 0, none⟩ = some (.int .i64 kd) := t0 0
  have e1 : (w.alloc (.cells #[.int .i64 kd, .string nm, .string vl] 41)).cell? ⟨w.heap.size, 1, none⟩ = some (.string nm) := t0 1
  have e2 : (w.alloc (.cells #[.int .i64 kd, .string nm, .string vl] 41)).cell? ⟨w.heap.size, 2, none⟩ = some (.string vl) := t0 2
  have HA0 := hid (HA.out.ext BX)
  have HL0 := hid (HL.out.ext BX)
  have HB0 : Hid (Below w.heap.size w (w.alloc (.cells #[.int .i64 kd, .string nm, .string vl] 41))) := (Below.refl _ _).alloc (Nat.le_refl _) _
  have hws : w.heap.size < (w.alloc (.cells #[.int .i64 kd, .string nm, .string vl] 41)).heap.size := by simp
  have hbs : b < (w.alloc (.cells #[.int .i64 kd, .string nm, .string vl] 41)).heap.size := lt_of_cell c0
  clear g0 g1 g2 g3 g4 g5 BX t0 HA HL
  generalize w.alloc (.cells #[.int .i64 kd, .string nm, .string vl] 41) = W at *
  have E := hid (And.intro e0 (And.intro e1 e2))
  have CC := hid (And.intro c0 c1)
  go_cut [7, 8] from 11 to 27 (fun v o wc => v = .string ((getA (nmK kd nm) xa).getD ⟨#[]⟩) ∧ o = .bool (getA (nmK kd nm) xa).isSome ∧ Below W.heap.size W wc)
  case first =>
    have SW : ∀ {w' : World}, Below W.heap.size W w' → w'.cell? ⟨w.heap.size, 0, none⟩ = some (.int .i64 kd) ∧ w'.cell? ⟨w.heap.size, 1, none⟩ = some (.string nm) ∧ w'.cell? ⟨b, off + k * 6, none⟩ = some (.string xn) ∧ w'.cell? ⟨b, off + k * 6 + 1, none⟩ = some (.int .i64 xp) ∧ w'.cell? ⟨b, off + k * 6 + 2, none⟩ = some (.slice sa xa.length sc) ∧ w'.cell? ⟨b, off + k * 6 + 3, none⟩ = some (.int .i64 x1) ∧ w'.cell? ⟨b, off + k * 6 + 4, none⟩ = some (.int .i64 x2) ∧ w'.cell? ⟨b, off + k * 6 + 5, none⟩ = some (.int .i64 x3) := fun h =>
      ⟨Ext.below h _ _ _ e0, Ext.below h _ _ _ e1, Ext.below h _ _ _ c0, Ext.below h _ _ _ c1, Ext.below h _ _ _ c2, Ext.below h _ _ _ c3, Ext.below h _ _ _ c4, Ext.below h _ _ _ c5⟩
    have hS0 := SW (Below.refl _ _)
    have hS1 := SW (MH.made W).2
    have M0 := MH.made W
    have RG : ∀ w', Below W.heap.size W w' → Calls Tryd.prog 23 #[.agg #[.string xn, .int .i64 xp, .slice sa xa.length sc, .int .i64 x1, .int .i64 x2, .int .i64 x3], .string (nmK kd nm)] w' fun e w4 => e = .returned (.tuple #[.string ((getA (nmK kd nm) xa).getD ⟨#[]⟩), .bool (getA (nmK kd nm) xa).isSome]) ∧ Below W.heap.size W w4 := fun w' h =>
      (rget_any ⟨xn, xp, xa, x1, x2, x3⟩ (.slice sa xa.length sc) (nmK kd nm) w' (HA0.out.ext (Ext.below h)) HS.out).mono fun e w4 hh => ⟨hh.1, below_trans h hh.2 (Nat.le_refl _)⟩
    have hmm := @run_makeMap Tryd.prog
    go_region_held3 (fun w' => w'.cell? ⟨w.heap.size, 0, none⟩ = some (.int .i64 kd) ∧ w'.cell? ⟨w.heap.size, 1, none⟩ = some (.string nm) ∧ w'.cell? ⟨b, off + k * 6, none⟩ = some (.string xn) ∧ w'.cell? ⟨b, off + k * 6 + 1, none⟩ = some (.int .i64 xp) ∧ w'.cell? ⟨b, off + k * 6 + 2, none⟩ = some (.slice sa xa.length sc) ∧ w'.cell? ⟨b, off + k * 6 + 3, none⟩ = some (.int .i64 x1) ∧ w'.cell? ⟨b, off + k * 6 + 4, none⟩ = some (.int .i64 x2) ∧ w'.cell? ⟨b, off + k * 6 + 5, none⟩ = some (.int .i64 x3)) (first | assumption | go_keep) (first
      | (with_reducible refine upon_ins (W := W) (by assumption) ?_ ?_ ?_ ?_; (focus decide); (focus decide); (focus (first | exact HWN.out | decide)); intro w' hM'; have hS' := SW hM'.below)
      | (with_reducible refine upon_look (W := W) (nmK kd nm) (by assumption) HWK.out ?_ ?_; (focus (simp only [upd, nmK, clsN, idN] <;> ((repeat' split) <;> first | rfl | omega))))
      | (with_reducible refine (RG _ (MH.below (by assumption))).mono ?_; rintro e w4 ⟨rfl, hB4⟩; have hS4 := SW hB4))
    all_goals (go_wp2_with fail; go_meet; exact ⟨rfl, rfl, by assumption⟩)
  case rest =>
    obtain ⟨rfl, rfl, hb⟩ := hcut
    have HBC := hid (below_trans HB0.out hb (Nat.le_refl _))
    have d0 := Ext.below hb _ _ _ e0
    have d1 := Ext.below hb _ _ _ e1
    have d2 := Ext.below hb _ _ _ e2
    have f0 := Ext.below hb _ _ _ c0
    have HLC := hid (HL0.out.ext (Ext.below hb))
    have hvs : ((getA (nmK kd nm) xa).getD ⟨#[]⟩).size ≤ 1048576 := by
      cases hg : getA (nmK kd nm) xa with
      | none => decide
      | some v => obtain ⟨a, ha, e⟩ := getA_small hg; simp only [Option.getD]; rw [← e]; exact HS.out.vals a ha
    clear e0 e1 e2 c0 c1 c2 c3 c4 c5 E CC HA0 HL0 HB0 hb hws hbs
    by_cases h1 : kd = 1
    · subst h1
      generalize (getA (nmK 1 nm) xa) = G at *
      have HR : Hid (R = (xn.toList == nm.toList)) := HT.out
      clear HT
      go_wp2_with fail
      go_quiet (fail)
      go_wp2_with fail
      go_ret
      exact ⟨ret_bool HR.out.symm, below_dN HBC.out _⟩
    by_cases h2 : kd = 2
    · subst h2
      have HR : Hid (R = refAt ((getA clsN xa).getD ⟨#[]⟩).data.toList nm.data.toList 0) := HT.out.trans (clsOf_at xa nm)
      have HN3 : nmK 2 nm = clsN := rfl
      rw [HN3] at hvs ⊢
      clear HT HN3 HLC f0 d2
      generalize (getA clsN xa).isSome = O at *
      generalize (getA clsN xa).getD ⟨#[]⟩ = V at *
      have HD := hid d1
      go_wp2_with fail
      go_loopg [9] (V.size + 1) (fun n i wr => ∃ j : Nat, n = V.size + 1 - j ∧ j ≤ V.size + 1 ∧ i = .int .i64 (j : Int) ∧ R = refAt V.data.toList nm.data.toList j ∧ ∃ m, wr = wc.drewN m)
      case atStart => exact ⟨0, rfl, Nat.zero_le _, rfl, HR.out, 0, rfl⟩
      case round =>
        obtain ⟨j, hn, hj, rfl, hG, m, rfl⟩ := hrel
        have GK := hid hn
        have HG := hid hG
        clear hn hG
        by_cases hlt : j ≤ V.size
        · cases j with
          | zero =>
            have HST : Hid (((0 : Nat) == 0 || V.data.toList[0 - 1]? == some 32) = true) := rfl
            go_wp2_with fail
            go_loopg [10] (V.size - (0)) (fun n ev wr => ∃ e : Nat, n = V.size - e ∧ 0 ≤ e ∧ e ≤ V.size ∧ ev = .int .i64 (e : Int) ∧ Run V.data.toList (0) e ∧ ∃ m', wr = wc.drewN m')
            case atStart => exact ⟨0, rfl, Nat.le_refl _, by omega, by go_num, Run.start _ _, _, rfl⟩
            case round =>
              obtain ⟨e, hn, hje, hes, rfl, hRun, m', rfl⟩ := hrel
              have GE := hid hn
              have HRun := hid hRun
              clear hn hRun
              have d1 : (wc.drewN m').cell? ⟨w.heap.size, 1, none⟩ = some (.string nm) := HD.out
              by_cases hel : e < V.size
              · have hce : V.data.toList[e]? = some V[e] := Lib.data_getElem? V e hel
                by_cases hc : V[e] = 32
                · have hcn : ((V[e].toNat : Int) != 32) = false := by rw [hc]; rfl
                  have HCE : Hid (V.data.toList[e]? = some 32) := by rw [← hc]; exact hce
                  clear hce hc
                  have HP : Hid (piece (V.data.toList.drop (0)) = (V.extract (0) e).toList) := by
                    show _ = _
                    rw [extract_run]
                    exact HRun.out.stop (.inl HCE.out)
                  have HX : Hid (R = (((piece (V.data.toList.drop (0))).length != 0 && piece (V.data.toList.drop (0)) == nm.data.toList) || refAt V.data.toList nm.data.toList (0 + 1))) := HG.out.trans (refAt_start HST.out)
                  have HLn : Hid ((piece (V.data.toList.drop (0))).length = e - (0)) := by
                    show _ = _
                    rw [HRun.out.stop (.inl HCE.out)]
                    simp
                    omega
                  clear HRun HST
                  by_cases he : (0) < e
                  · have hd : decide (((0 : Nat) : Int) < (e : Int)) = true := by simp; omega
                    cases hq : ((V.extract (0) e).toList == nm.toList)
                    · have HR3 : Hid (R = refAt V.data.toList nm.data.toList (0 + 1)) := by
                        show _ = _
                        rw [HX.out, HP.out, ← Lib.toList_data nm, hq]
                        simp
                      clear HX HP HLn
                      go_wp2_with fail
                      go_quiet (fail)
                      go_wp2_with fail
                      go_roundg (V.size + 1 - (0 + 1))
                      case measure => have := GK.out; omega
                      case rel => exact ⟨0 + 1, rfl, by omega, by go_num, HR3.out, _, rfl⟩
                    · have HR3 : Hid (R = true) := by
                        show _ = _
                        rw [HX.out, HLn.out, HP.out, ← Lib.toList_data nm, hq]
                        simp
                        left
                        omega
                      clear HX HP HLn
                      go_wp2_with fail
                      go_quiet (fail)
                      go_wp2_with fail
                      go_ret
                      exact ⟨ret_bool HR3.out.symm, below_dN (below_dN HBC.out _) _⟩
                  · have hd : decide (((0 : Nat) : Int) < (e : Int)) = false := by simp; omega
                    have HR3 : Hid (R = refAt V.data.toList nm.data.toList (0 + 1)) := by
                      show _ = _
                      rw [HX.out, HLn.out, show e - (0) = 0 by omega]
                      simp
                    clear HX HP HLn
                    go_wp2_with fail
                    go_quiet (fail)
                    go_wp2_with fail
                    go_roundg (V.size + 1 - (0 + 1))
                    case measure => have := GK.out; omega
                    case rel => exact ⟨0 + 1, rfl, by omega, by go_num, HR3.out, _, rfl⟩
                · have hcn : ((V[e].toNat : Int) != 32) = true := by
                    simp only [bne_iff_ne, ne_eq]
                    intro h
                    exact hc (UInt8.toNat_inj.1 (by have : (32 : UInt8).toNat = 32 := rfl; omega))
                  have HN2 := hid (HRun.out.step hje hce hc)
                  clear hce hc
                  go_wp2_with fail
                  go_roundg (V.size - (e + 1))
                  case measure => have := GE.out; omega
                  case rel => exact ⟨e + 1, rfl, by omega, by omega, by go_num, HN2.out, _, rfl⟩
              · have hee : ¬ ((e : Int) < (V.size : Int)) := by omega
                have HEE : Hid (V.data.toList.length ≤ e) := by show _ ≤ _; simp; omega
                have HP : Hid (piece (V.data.toList.drop (0)) = (V.extract (0) e).toList) := by
                  show _ = _
                  rw [extract_run]
                  exact HRun.out.stop (.inr HEE.out)
                have HX : Hid (R = (((piece (V.data.toList.drop (0))).length != 0 && piece (V.data.toList.drop (0)) == nm.data.toList) || refAt V.data.toList nm.data.toList (0 + 1))) := HG.out.trans (refAt_start HST.out)
                have HLn : Hid ((piece (V.data.toList.drop (0))).length = e - (0)) := by
                  show _ = _
                  rw [HRun.out.stop (.inr HEE.out)]
                  simp
                  omega
                clear HRun HST
                by_cases he : (0) < e
                · have hd : decide (((0 : Nat) : Int) < (e : Int)) = true := by simp; omega
                  cases hq : ((V.extract (0) e).toList == nm.toList)
                  · have HR3 : Hid (R = refAt V.data.toList nm.data.toList (0 + 1)) := by
                      show _ = _
                      rw [HX.out, HP.out, ← Lib.toList_data nm, hq]
                      simp
                    clear HX HP HLn
                    go_wp2_with fail
                    go_quiet (fail)
                    go_wp2_with fail
                    go_roundg (V.size + 1 - (0 + 1))
                    case measure => have := GK.out; omega
                    case rel => exact ⟨0 + 1, rfl, by omega, by go_num, HR3.out, _, rfl⟩
                  · have HR3 : Hid (R = true) := by
                      show _ = _
                      rw [HX.out, HLn.out, HP.out, ← Lib.toList_data nm, hq]
                      simp
                      left
                      omega
                    clear HX HP HLn
                    go_wp2_with fail
                    go_quiet (fail)
                    go_wp2_with fail
                    go_ret
                    exact ⟨ret_bool HR3.out.symm, below_dN (below_dN HBC.out _) _⟩
                · have hd : decide (((0 : Nat) : Int) < (e : Int)) = false := by simp; omega
                  have HR3 : Hid (R = refAt V.data.toList nm.data.toList (0 + 1)) := by
                    show _ = _
                    rw [HX.out, HLn.out, show e - (0) = 0 by omega]
                    simp
                  clear HX HP HLn
                  go_wp2_with fail
                  go_quiet (fail)
                  go_wp2_with fail
                  go_roundg (V.size + 1 - (0 + 1))
                  case measure => have := GK.out; omega
                  case rel => exact ⟨0 + 1, rfl, by omega, by go_num, HR3.out, _, rfl⟩
          | succ j =>
            have hl2 : j < V.size := by omega
            have hcj : V.data.toList[j]? = some V[j] := Lib.data_getElem? V j hl2
            by_cases hc : V[j] = 32
            · have hcn : ((V[j].toNat : Int) != 32) = false := by rw [hc]; rfl
              have HST : Hid ((j + 1 == 0 || V.data.toList[j + 1 - 1]? == some 32) = true) := by
                show _ = _
                rw [Nat.add_sub_cancel, hcj, hc]
                simp
              clear hcj hc
              go_wp2_with fail
              have hcast : ((j : Int) + 1) = ((j + 1 : Nat) : Int) := rfl
              rw [hcast]
              clear hcast
              generalize j + 1 = J at hj GK HG hlt HST ⊢
              go_loopg [10] (V.size - (J)) (fun n ev wr => ∃ e : Nat, n = V.size - e ∧ J ≤ e ∧ e ≤ V.size ∧ ev = .int .i64 (e : Int) ∧ Run V.data.toList (J) e ∧ ∃ m', wr = wc.drewN m')
              case atStart => exact ⟨J, rfl, Nat.le_refl _, by omega, by go_num, Run.start _ _, _, rfl⟩
              case round =>
                obtain ⟨e, hn, hje, hes, rfl, hRun, m', rfl⟩ := hrel
                have GE := hid hn
                have HRun := hid hRun
                clear hn hRun
                have d1 : (wc.drewN m').cell? ⟨w.heap.size, 1, none⟩ = some (.string nm) := HD.out
                by_cases hel : e < V.size
                · have hce : V.data.toList[e]? = some V[e] := Lib.data_getElem? V e hel
                  by_cases hc : V[e] = 32
                  · have hcn : ((V[e].toNat : Int) != 32) = false := by rw [hc]; rfl
                    have HCE : Hid (V.data.toList[e]? = some 32) := by rw [← hc]; exact hce
                    clear hce hc
                    have HP : Hid (piece (V.data.toList.drop (J)) = (V.extract (J) e).toList) := by
                      show _ = _
                      rw [extract_run]
                      exact HRun.out.stop (.inl HCE.out)
                    have HX : Hid (R = (((piece (V.data.toList.drop (J))).length != 0 && piece (V.data.toList.drop (J)) == nm.data.toList) || refAt V.data.toList nm.data.toList (J + 1))) := HG.out.trans (refAt_start HST.out)
                    have HLn : Hid ((piece (V.data.toList.drop (J))).length = e - (J)) := by
                      show _ = _
                      rw [HRun.out.stop (.inl HCE.out)]
                      simp
                      omega
                    clear HRun HST
                    by_cases he : (J) < e
                    · have hd : decide (((J : Nat) : Int) < (e : Int)) = true := by simp; omega
                      cases hq : ((V.extract (J) e).toList == nm.toList)
                      · have HR3 : Hid (R = refAt V.data.toList nm.data.toList (J + 1)) := by
                          show _ = _
                          rw [HX.out, HP.out, ← Lib.toList_data nm, hq]
                          simp
                        clear HX HP HLn
                        go_wp2_with fail
                        go_quiet (fail)
                        go_wp2_with fail
                        go_roundg (V.size + 1 - (J + 1))
                        case measure => have := GK.out; omega
                        case rel => exact ⟨J + 1, rfl, by omega, by go_num, HR3.out, _, rfl⟩
                      · have HR3 : Hid (R = true) := by
                          show _ = _
                          rw [HX.out, HLn.out, HP.out, ← Lib.toList_data nm, hq]
                          simp
                          left
                          omega
                        clear HX HP HLn
                        go_wp2_with fail
                        go_quiet (fail)
                        go_wp2_with fail
                        go_ret
                        exact ⟨ret_bool HR3.out.symm, below_dN (below_dN HBC.out _) _⟩
                    · have hd : decide (((J : Nat) : Int) < (e : Int)) = false := by simp; omega
                      have HR3 : Hid (R = refAt V.data.toList nm.data.toList (J + 1)) := by
                        show _ = _
                        rw [HX.out, HLn.out, show e - (J) = 0 by omega]
                        simp
                      clear HX HP HLn
                      go_wp2_with fail
                      go_quiet (fail)
                      go_wp2_with fail
                      go_roundg (V.size + 1 - (J + 1))
                      case measure => have := GK.out; omega
                      case rel => exact ⟨J + 1, rfl, by omega, by go_num, HR3.out, _, rfl⟩
                  · have hcn : ((V[e].toNat : Int) != 32) = true := by
                      simp only [bne_iff_ne, ne_eq]
                      intro h
                      exact hc (UInt8.toNat_inj.1 (by have : (32 : UInt8).toNat = 32 := rfl; omega))
                    have HN2 := hid (HRun.out.step hje hce hc)
                    clear hce hc
                    go_wp2_with fail
                    go_roundg (V.size - (e + 1))
                    case measure => have := GE.out; omega
                    case rel => exact ⟨e + 1, rfl, by omega, by omega, by go_num, HN2.out, _, rfl⟩
                · have hee : ¬ ((e : Int) < (V.size : Int)) := by omega
                  have HEE : Hid (V.data.toList.length ≤ e) := by show _ ≤ _; simp; omega
                  have HP : Hid (piece (V.data.toList.drop (J)) = (V.extract (J) e).toList) := by
                    show _ = _
                    rw [extract_run]
                    exact HRun.out.stop (.inr HEE.out)
                  have HX : Hid (R = (((piece (V.data.toList.drop (J))).length != 0 && piece (V.data.toList.drop (J)) == nm.data.toList) || refAt V.data.toList nm.data.toList (J + 1))) := HG.out.trans (refAt_start HST.out)
                  have HLn : Hid ((piece (V.data.toList.drop (J))).length = e - (J)) := by
                    show _ = _
                    rw [HRun.out.stop (.inr HEE.out)]
                    simp
                    omega
                  clear HRun HST
                  by_cases he : (J) < e
                  · have hd : decide (((J : Nat) : Int) < (e : Int)) = true := by simp; omega
                    cases hq : ((V.extract (J) e).toList == nm.toList)
                    · have HR3 : Hid (R = refAt V.data.toList nm.data.toList (J + 1)) := by
                        show _ = _
                        rw [HX.out, HP.out, ← Lib.toList_data nm, hq]
                        simp
                      clear HX HP HLn
                      go_wp2_with fail
                      go_quiet (fail)
                      go_wp2_with fail
                      go_roundg (V.size + 1 - (J + 1))
                      case measure => have := GK.out; omega
                      case rel => exact ⟨J + 1, rfl, by omega, by go_num, HR3.out, _, rfl⟩
                    · have HR3 : Hid (R = true) := by
                        show _ = _
                        rw [HX.out, HLn.out, HP.out, ← Lib.toList_data nm, hq]
                        simp
                        left
                        omega
                      clear HX HP HLn
                      go_wp2_with fail
                      go_quiet (fail)
                      go_wp2_with fail
                      go_ret
                      exact ⟨ret_bool HR3.out.symm, below_dN (below_dN HBC.out _) _⟩
                  · have hd : decide (((J : Nat) : Int) < (e : Int)) = false := by simp; omega
                    have HR3 : Hid (R = refAt V.data.toList nm.data.toList (J + 1)) := by
                      show _ = _
                      rw [HX.out, HLn.out, show e - (J) = 0 by omega]
                      simp
                    clear HX HP HLn
                    go_wp2_with fail
                    go_quiet (fail)
                    go_wp2_with fail
                    go_roundg (V.size + 1 - (J + 1))
                    case measure => have := GK.out; omega
                    case rel => exact ⟨J + 1, rfl, by omega, by go_num, HR3.out, _, rfl⟩
            · have hcn : ((V[j].toNat : Int) != 32) = true := by
                simp only [bne_iff_ne, ne_eq]
                intro h
                exact hc (UInt8.toNat_inj.1 (by have : (32 : UInt8).toNat = 32 := rfl; omega))
              have HG2 := hid (HG.out.trans (refAt_skip hcj hc))
              clear hcj hc
              go_wp2_with fail
              go_roundg (V.size + 1 - (j + 2))
              case measure => have := GK.out; omega
              case rel => exact ⟨j + 2, rfl, by omega, by go_num, HG2.out, _, rfl⟩
        · have HG3 : Hid (R = false) := by rw [show Hid (R = false) = (R = false) from rfl, HG.out]; exact refAt_end (by simp; omega)
          have hlt2 : ¬ ((j : Int) ≤ (V.size : Int)) := by omega
          go_wp2_with fail
          go_ret
          exact ⟨ret_bool HG3.out.symm, below_dN HBC.out _⟩
    by_cases h3 : kd = 3
    · subst h3
      have HR : Hid (R = attrB xa idN nm) := HT.out
      have HN3 : nmK 3 nm = idN := rfl
      rw [HN3] at hvs ⊢
      clear HT HN3
      cases hg : getA idN xa with
      | none =>
        have HR2 : Hid (R = false) := by have := HR.out; unfold attrB at this; rw [hg] at this; exact this
        clear HR hg
        simp only [Option.getD, Option.isSome]
        go_wp2_with fail
        go_ret
        exact ⟨ret_bool HR2.out.symm, HBC.out⟩
      | some v =>
        have HR2 : Hid (R = (v.toList == nm.toList)) := by have := HR.out; unfold attrB at this; rw [hg] at this; exact this
        clear HR hg
        simp only [Option.getD, Option.isSome]
        go_wp2_with fail
        go_ret
        exact ⟨ret_bool HR2.out.symm, HBC.out⟩
    by_cases h4 : kd = 4
    · subst h4
      have HR : Hid (R = (getA nm xa).isSome) := HT.out
      have HN3 : nmK 4 nm = nm := rfl
      rw [HN3] at hvs ⊢
      clear HT HN3
      generalize getA nm xa = G at *
      go_wp2_with fail
      go_ret
      exact ⟨ret_bool HR.out.symm, HBC.out⟩
    by_cases h5 : kd = 5
    · subst h5
      have HR : Hid (R = attrB xa nm vl) := HT.out
      have HN3 : nmK 5 nm = nm := rfl
      rw [HN3] at hvs ⊢
      clear HT HN3
      cases hg : getA nm xa with
      | none =>
        have HR2 : Hid (R = false) := by have := HR.out; unfold attrB at this; rw [hg] at this; exact this
        clear HR hg
        simp only [Option.getD, Option.isSome]
        go_wp2_with fail
        go_ret
        exact ⟨ret_bool HR2.out.symm, HBC.out⟩
      | some v =>
        have HR2 : Hid (R = (v.toList == vl.toList)) := by have := HR.out; unfold attrB at this; rw [hg] at this; exact this
        clear HR hg
        simp only [Option.getD, Option.isSome]
        go_wp2_with fail
        go_ret
        exact ⟨ret_bool HR2.out.symm, HBC.out⟩
    by_cases h6 : kd = 6
    · subst h6
      have HR : Hid (R = decide (ahead l k < 0)) := HT.out
      clear HT
      generalize (getA (nmK 6 nm) xa) = G at *
      go_wp2_with (go_at_call 15; refine (rahead_any _ l k _ HLC.out HN.out hk).mono ?_; rintro e w' ⟨rfl, n, rfl⟩)
      go_ret
      exact ⟨ret_bool HR.out.symm, below_dN HBC.out n⟩
    · have HR : Hid (R = false) := by
        have := HT.out
        rw [if_neg h1, if_neg h2, if_neg h3, if_neg h4, if_neg h5, if_neg h6] at this
        exact this
      clear HT
      generalize (getA (nmK kd nm) xa) = G at *
      go_wp2_with fail
      go_ret
      exact ⟨ret_bool HR.out.symm, HBC.out⟩
end Go.Proofs.YtlodblcmpebfkaaDoor
