/-
  What the document's own Weigh answers: how many tests there are of each of the three sorts. Conditions: the selector lies as it must, at most 2^20 tests, each kind a number of 64 bits.
-/
import Derived.Test.YtlodblcmpebfkaaDoorR4
import Derived.Test.YtlodblcmpebfkaaDoorM9
namespace Go.Proofs.YtlodblcmpebfkaaDoor
open Go.RowKit Go.Maps

theorem zero3 (w : World) : (zeroValue 3).run Tryd.prog w = .ok (.int .i64 0) w := by kernel_rfl
def updI (f : Int → Option Int) (k c : Int) : Int → Option Int := fun q => if q = k then some c else f q
/-- Block B is a map that holds f q at q. -/
def Mi (w : World) (B n : Nat) (f : Int → Option Int) : Prop :=
  ∃ D : DataW Unit, w.ownsMap Tryd.prog 3 (plainElem Tryd.prog 3) B n D ∧ ∀ q, D.atKey (.int .i64 q) (.lit (.int .i64 0)) = .lit (.int .i64 ((f q).getD 0)) ∧ has D (.int .i64 q) = (f q).isSome
theorem Mi.made (w : World) : Mi (w.alloc (.map #[] 0)) w.heap.size 0 (fun _ => none) := ⟨_, World.ownsMap_made w _ _ _, fun _ => ⟨rfl, rfl⟩⟩
theorem Mi.ins {w : World} {B n : Nat} {f : Int → Option Int} (h : Mi w B n f) (hn : n < 100) (k : Int) (wk : (Lit.int .i64 k).wf = true) (c : Int) (wc : (Lit.int .i64 c).wf = true) :
    ∃ w', (Instr.mapUpdate 54 (.map (some B)) (.int .i64 k) (.int .i64 c)).run Tryd.prog w = .ok () w' ∧ Mi w' B (n + 1) (updI f k c) ∧ w.grownBy w' (some B) := by
  obtain ⟨D, ho, hf⟩ := h
  obtain ⟨w', h1, h2, h3⟩ := ho.update keyI Tryd.underlying54 (by unfold maxLen; omega) (keyOf_int_mk Tryd.underlying3 wk) (plainElem_int Tryd.underlying3 wc)
  refine ⟨w', h1, ⟨_, h2, fun q => ?_⟩, h3⟩
  have hm : IsMap D := by obtain ⟨es, c, _, _, _, hD⟩ := ho; exact ⟨_, hD⟩
  unfold updI
  split
  · rename_i e
    subst e
    exact ⟨atKey_put_same hm (by simp [WideAt.IsKeyLit]) _ _, has_put_same hm (by simp [WideAt.IsKeyLit]) _⟩
  · rename_i e
    have hne : Lit.int .i64 q ≠ Lit.int .i64 k := by intro h; injection h with _ h; exact e h
    exact ⟨by rw [atKey_put_other hne]; exact (hf q).1, by rw [has_put_other hne]; exact (hf q).2⟩
theorem Mi.look {w : World} {B n : Nat} {f : Int → Option Int} (h : Mi w B n f) (q : Int) (wq : (Lit.int .i64 q).wf = true) : (Instr.lookup 54 (.map (some B)) (.int .i64 q) true).run Tryd.prog w = .ok (.tuple #[.int .i64 ((f q).getD 0), .bool (f q).isSome]) w := by
  obtain ⟨D, ho, hf⟩ := h
  obtain ⟨v, ps, h1, h2⟩ := ho.look_ok keyI Tryd.underlying54 (zero3 w) (plainElem_int (H := Unit) Tryd.underlying3 (by decide)) (keyOf_int_mk Tryd.underlying3 wq)
  obtain ⟨c, rfl, h3, _⟩ := plainElem_int_inv Tryd.underlying3 h2
  have h4 := congrArg Prod.fst h3
  simp only at h4
  rw [(hf q).1] at h4
  injection h4 with h4
  injection h4 with _ h4
  rw [h1, ← h4, (hf q).2]
def MI (W w : World) (n : Nat) (f : Int → Option Int) : Prop := Mi w W.heap.size n f ∧ Below W.heap.size W w
theorem MI.made (W : World) : MI W (W.alloc (.map #[] 0)) 0 (fun _ => none) := ⟨Mi.made W, (Below.refl _ _).alloc (Nat.le_refl _) _⟩
theorem MI.below {W w : World} {n : Nat} {f : Int → Option Int} (h : MI W w n f) : Below W.heap.size W w := h.2
theorem uponI_ins {W w : World} {o : Oper} {a : Act} {K : Act → World → Prop} {Q : Exit → Act → World → Prop} {n : Nat} {f : Int → Option Int} {k c : Int} (h : MI W w n f) (hn : n < 100) (wk : (Lit.int .i64 k).wf = true) (wc : (Lit.int .i64 c).wf = true)
    (hK : ∀ w', MI W w' (n + 1) (updI f k c) → K (a.put o.dst undef) w') :
    Oper.upon Tryd.prog o a K Q (((Instr.mapUpdate 54 (.map (some W.heap.size)) (.int .i64 k) (.int .i64 c)).run Tryd.prog w).andThen fun _ w' => .ok .skip w') := by
  obtain ⟨w', h1, h2, h3⟩ := h.1.ins hn k wk c wc
  rw [h1]
  exact hK w' ⟨h2, h.2.grown h3 h.2.size (fun k hk => by injection hk with hk; omega)⟩
theorem uponI_look {W w : World} {o : Oper} {a : Act} {K : Act → World → Prop} {Q : Exit → Act → World → Prop} {n : Nat} {f : Int → Option Int} {k : Int} (r : Option Int) (h : MI W w n f) (wk : (Lit.int .i64 k).wf = true) (hs : f k = r)
    (hK : K (a.put o.dst (.tuple #[.int .i64 (r.getD 0), .bool r.isSome])) w) :
    Oper.upon Tryd.prog o a K Q (((Instr.lookup 54 (.map (some W.heap.size)) (.int .i64 k) true).run Tryd.prog w).andThen fun v w' => .ok (.value v) w') := by
  rw [h.1.look k wk, hs]
  exact hK
theorem uponI_make {W : World} {o : Oper} {a : Act} {K : Act → World → Prop} {Q : Exit → Act → World → Prop} (hK : K (a.put o.dst (.map (some W.heap.size))) (W.alloc (.map #[] 0))) :
    Oper.upon Tryd.prog o a K Q (((Instr.makeMap 54 none).run Tryd.prog W).andThen fun v w' => .ok (.value v) w') := by
  rw [run_makeMap]
  exact hK
set_option maxRecDepth 100000 in
set_option maxHeartbeats 4000000 in
theorem rweigh_any (sv : Value) (s : List Pt) (w : World) (hS : PsAt w sv s) (hss : SmS s) (hwf : WfS s) :
    Calls Tryd.prog 8 #[sv] w fun e w' => e = .returned (wtV (wts s)) ∧ Below w.heap.size w w' := by
  obtain ⟨sa, scap, rfl⟩ := Sl.form hS
  have HP := hid hS
  have HSS := hid hss
  have HWF := hid hwf
  have hsl := hss.1
  unfold lim at hsl
  clear hS hss hwf
  go_enter Tryd.func8, Tryd.ntmps8
  go_wp2_with fail
  have HW0 := hid (WB.new (w.alloc (.cells #[.int .i64 0, .int .i64 0, .int .i64 0] 35)) 0 0 0)
  have HR0 := hid ((WB.new w 0 0 0).alloc (.cells #[.int .i64 0, .int .i64 0, .int .i64 0] 35))
  have HB0 : Hid (Below w.heap.size w ((w.alloc (.cells #[.int .i64 0, .int .i64 0, .int .i64 0] 35)).alloc (.cells #[.int .i64 0, .int .i64 0, .int .i64 0] 35))) := ((Below.refl _ _).alloc (Nat.le_refl _) _).alloc (by simp) _
  rw [show (w.alloc (.cells #[.int .i64 0, .int .i64 0, .int .i64 0] 35)).heap.size = w.heap.size + 1 by simp] at HW0
  generalize (w.alloc (.cells #[.int .i64 0, .int .i64 0, .int .i64 0] 35)).alloc (.cells #[.int .i64 0, .int .i64 0, .int .i64 0] 35) = W at *
  go_loopg [12] s.length (fun n i wr => ∃ k : Nat, n = s.length - k ∧ k ≤ s.length ∧ i = .int .i64 (k : Int) ∧ WB wr (w.heap.size + 1) (cnt k0 (s.take k)) (cnt k1 (s.take k)) (cnt k2 (s.take k)) ∧ WB wr w.heap.size 0 0 0 ∧ Below w.heap.size w wr)
  case atStart => exact ⟨0, rfl, Nat.zero_le _, rfl, HW0.out, HR0.out, HB0.out⟩
  case round =>
    clear HW0 HR0 HB0
    obtain ⟨k, hn, hk, rfl, hW, hR, hB⟩ := hrel
    have GK := hid hn
    have HW := hid hW
    have HR := hid hR
    have HB := hid hB
    have a1 := cnt_le k0 HSS.out k
    have a2 := cnt_le k1 HSS.out k
    have a3 := cnt_le k2 HSS.out k
    unfold lim at a1 a2 a3
    rename World => wo
    clear hn hW hR hB
    by_cases hlt : k < s.length
    · obtain ⟨b, off, rfl, he⟩ := Sl.at HP.out hlt
      obtain ⟨ta, tcap, e0, e1, hts⟩ := he.cells
      have c0 := Ext.below HB.out _ _ _ e0
      have c1 := Ext.below HB.out _ _ _ e1
      clear e0 e1
      have HTS := hid hts
      have htl := HSS.out.part (List.getElem_mem hlt)
      unfold lim at htl
      have HF : Hid (cnt k0 (s.take (k + 1)) = cnt k0 (s.take k) + cntT k0 s[k].tests ∧ cnt k1 (s.take (k + 1)) = cnt k1 (s.take k) + cntT k1 s[k].tests ∧ cnt k2 (s.take (k + 1)) = cnt k2 (s.take k) + cntT k2 s[k].tests) := by
        show _ ∧ _ ∧ _
        rw [List.take_succ_eq_append_getElem hlt, cnt_snoc, cnt_snoc, cnt_snoc]
        exact ⟨rfl, rfl, rfl⟩
      have HWP := hid (HWF.out _ (List.getElem_mem hlt))
      generalize s[k] = p at *
      obtain ⟨jn, ts⟩ := p
      simp only at c0 c1 hts htl HTS HF HWP
      generalize cnt k0 (s.take k) = A0 at *
      generalize cnt k1 (s.take k) = B0 at *
      generalize cnt k2 (s.take k) = C0 at *
      clear he hts
      go_wp2_with fail
      go_loopg [19] ts.length (fun n i wr => ∃ (j : Nat) (A B C : Int), n = ts.length - j ∧ j ≤ ts.length ∧ i = .int .i64 (j : Int) ∧ WB wr (w.heap.size + 1) A B C ∧ WB wr w.heap.size 0 0 0 ∧ (A = A0 + cntT k0 (ts.take j) ∧ B = B0 + cntT k1 (ts.take j) ∧ C = C0 + cntT k2 (ts.take j)) ∧ Below w.heap.size w wr)
      case atStart => exact ⟨0, A0, B0, C0, rfl, Nat.zero_le _, rfl, HW.out.alloc _, HR.out.alloc _, by simp [cntT], HB.out.alloc HB.out.size _⟩
      case round =>
        clear c0 c1 HW HR HB
        obtain ⟨j, A, B, C, hn, hj, rfl, hW, hR, hA, hB⟩ := hrel
        have GJ := hid hn
        have HA := hid hA
        have HW := hid hW
        have HR := hid hR
        have HB := hid hB
        have bA : 0 ≤ A ∧ A ≤ 2097152 := by have := cntT_le k0 (ts.take j); simp at this; omega
        have bB : 0 ≤ B ∧ B ≤ 2097152 := by have := cntT_le k1 (ts.take j); simp at this; omega
        have bC : 0 ≤ C ∧ C ≤ 2097152 := by have := cntT_le k2 (ts.take j); simp at this; omega
        obtain ⟨bA0, bA1⟩ := bA
        obtain ⟨bB0, bB1⟩ := bB
        obtain ⟨bC0, bC1⟩ := bC
        obtain ⟨w0, w1, w2⟩ := hW.cell
        obtain ⟨f0, f1, f2⟩ := hW.fz
        have hTl := hW.lt
        clear hn hW hR hB hA
        by_cases hjl : j < ts.length
        · obtain ⟨b2, off2, rfl, he⟩ := Sl.at (HTS.out.ext (Ext.below HB.out)) hjl
          obtain ⟨d0, d1, d2⟩ := he.cells
          have hds := lt_of_cell d0
          have HT1 : Hid (cntT k0 (ts.take (j + 1)) = cntT k0 (ts.take j) + (if k0 ts[j].kind then 1 else 0) ∧ cntT k1 (ts.take (j + 1)) = cntT k1 (ts.take j) + (if k1 ts[j].kind then 1 else 0) ∧ cntT k2 (ts.take (j + 1)) = cntT k2 (ts.take j) + (if k2 ts[j].kind then 1 else 0)) := by
            show _ ∧ _ ∧ _
            rw [List.take_succ_eq_append_getElem hjl, cntT_snoc, cntT_snoc, cntT_snoc]
            exact ⟨rfl, rfl, rfl⟩
          have HWT := hid (HWP.out _ (List.getElem_mem hjl)).1
          generalize ts[j] = t at *
          obtain ⟨kd, nm, vl⟩ := t
          simp only at d0 d1 d2 HT1 HWT
          clear he
          go_wp2_with fail
          have HW1 := hid (HW.out.alloc (.cells #[.int .i64 kd, .string nm, .string vl] 41))
          have HR1 := hid (HR.out.alloc (.cells #[.int .i64 kd, .string nm, .string vl] 41))
          have HB1 := hid (HB.out.alloc HB.out.size (.cells #[.int .i64 kd, .string nm, .string vl] 41))
          have x0 : (wr.alloc (.cells #[.int .i64 kd, .string nm, .string vl] 41)).cell? ⟨wr.heap.size, 0, none⟩ = some (.int .i64 kd) := cell_new _ _ _ 0
          clear HW HR HB d0 d1 d2 w0 w1 w2 f0 f1 f2 hds
          generalize wr.alloc (.cells #[.int .i64 kd, .string nm, .string vl] 41) = W at *
          have KW : ∀ {w' : World}, Below W.heap.size W w' → w'.cell? ⟨wr.heap.size, 0, none⟩ = some (.int .i64 kd) := fun h => Ext.below h _ _ _ x0
          by_cases h3 : kd = 3
          · subst h3
            have HT2 : Hid (cntT k0 (ts.take (j + 1)) = cntT k0 (ts.take j) + 1 ∧ cntT k1 (ts.take (j + 1)) = cntT k1 (ts.take j) + 0 ∧ cntT k2 (ts.take (j + 1)) = cntT k2 (ts.take j) + 0) := HT1.out
            clear HT1
            refine uponI_make ?_
            have hM0 := MI.made W
            have y0 := KW hM0.below
            go_wp2_with (first
              | (with_reducible refine uponI_ins (W := W) (by assumption) ?_ ?_ ?_ ?_; (focus decide); (focus decide); (focus decide); intro w' hM'; have y' := KW hM'.below)
              | (with_reducible refine uponI_look (W := W) (some 0) (by assumption) HWT.out ?_ ?_; (focus (simp [updI])); have HBV := hid (MI.below hM'); obtain ⟨w0, w1, w2⟩ := (HW1.out.below HBV.out).cell; obtain ⟨f0, f1, f2⟩ := (HW1.out.below HBV.out).fz; simp only [Option.getD, Option.isSome]))
            have HWV := hid (HW1.out.below HBV.out)
            have HRV := hid (HR1.out.below HBV.out)
            have HBW := hid (below_trans HB1.out HBV.out (Nat.le_refl _))
            go_roundg (ts.length - (j + 1))
            case measure => have := GJ.out; omega
            case rel => exact ⟨j + 1, A + 1, B, C, rfl, by omega, by go_num, (HWV.out.set0 (A + 1)), HRV.out.other (by simp) _, by have := HT2.out; have := HA.out; omega, HBW.out.setCell (by simp) _⟩
          by_cases h2 : kd = 2
          · subst h2
            have HT2 : Hid (cntT k0 (ts.take (j + 1)) = cntT k0 (ts.take j) + 0 ∧ cntT k1 (ts.take (j + 1)) = cntT k1 (ts.take j) + 1 ∧ cntT k2 (ts.take (j + 1)) = cntT k2 (ts.take j) + 0) := HT1.out
            clear HT1
            refine uponI_make ?_
            have hM0 := MI.made W
            have y0 := KW hM0.below
            go_wp2_with (first
              | (with_reducible refine uponI_ins (W := W) (by assumption) ?_ ?_ ?_ ?_; (focus decide); (focus decide); (focus decide); intro w' hM'; have y' := KW hM'.below)
              | (with_reducible refine uponI_look (W := W) (some 1) (by assumption) HWT.out ?_ ?_; (focus (simp [updI])); have HBV := hid (MI.below hM'); obtain ⟨w0, w1, w2⟩ := (HW1.out.below HBV.out).cell; obtain ⟨f0, f1, f2⟩ := (HW1.out.below HBV.out).fz; simp only [Option.getD, Option.isSome]))
            have HWV := hid (HW1.out.below HBV.out)
            have HRV := hid (HR1.out.below HBV.out)
            have HBW := hid (below_trans HB1.out HBV.out (Nat.le_refl _))
            go_roundg (ts.length - (j + 1))
            case measure => have := GJ.out; omega
            case rel => exact ⟨j + 1, A, B + 1, C, rfl, by omega, by go_num, (HWV.out.set1 (B + 1)), HRV.out.other (by simp) _, by have := HT2.out; have := HA.out; omega, HBW.out.setCell (by simp) _⟩
          by_cases h4 : kd = 4
          · subst h4
            have HT2 : Hid (cntT k0 (ts.take (j + 1)) = cntT k0 (ts.take j) + 0 ∧ cntT k1 (ts.take (j + 1)) = cntT k1 (ts.take j) + 1 ∧ cntT k2 (ts.take (j + 1)) = cntT k2 (ts.take j) + 0) := HT1.out
            clear HT1
            refine uponI_make ?_
            have hM0 := MI.made W
            have y0 := KW hM0.below
            go_wp2_with (first
              | (with_reducible refine uponI_ins (W := W) (by assumption) ?_ ?_ ?_ ?_; (focus decide); (focus decide); (focus decide); intro w' hM'; have y' := KW hM'.below)
              | (with_reducible refine uponI_look (W := W) (some 1) (by assumption) HWT.out ?_ ?_; (focus (simp [updI])); have HBV := hid (MI.below hM'); obtain ⟨w0, w1, w2⟩ := (HW1.out.below HBV.out).cell; obtain ⟨f0, f1, f2⟩ := (HW1.out.below HBV.out).fz; simp only [Option.getD, Option.isSome]))
            have HWV := hid (HW1.out.below HBV.out)
            have HRV := hid (HR1.out.below HBV.out)
            have HBW := hid (below_trans HB1.out HBV.out (Nat.le_refl _))
            go_roundg (ts.length - (j + 1))
            case measure => have := GJ.out; omega
            case rel => exact ⟨j + 1, A, B + 1, C, rfl, by omega, by go_num, (HWV.out.set1 (B + 1)), HRV.out.other (by simp) _, by have := HT2.out; have := HA.out; omega, HBW.out.setCell (by simp) _⟩
          by_cases h5 : kd = 5
          · subst h5
            have HT2 : Hid (cntT k0 (ts.take (j + 1)) = cntT k0 (ts.take j) + 0 ∧ cntT k1 (ts.take (j + 1)) = cntT k1 (ts.take j) + 1 ∧ cntT k2 (ts.take (j + 1)) = cntT k2 (ts.take j) + 0) := HT1.out
            clear HT1
            refine uponI_make ?_
            have hM0 := MI.made W
            have y0 := KW hM0.below
            go_wp2_with (first
              | (with_reducible refine uponI_ins (W := W) (by assumption) ?_ ?_ ?_ ?_; (focus decide); (focus decide); (focus decide); intro w' hM'; have y' := KW hM'.below)
              | (with_reducible refine uponI_look (W := W) (some 1) (by assumption) HWT.out ?_ ?_; (focus (simp [updI])); have HBV := hid (MI.below hM'); obtain ⟨w0, w1, w2⟩ := (HW1.out.below HBV.out).cell; obtain ⟨f0, f1, f2⟩ := (HW1.out.below HBV.out).fz; simp only [Option.getD, Option.isSome]))
            have HWV := hid (HW1.out.below HBV.out)
            have HRV := hid (HR1.out.below HBV.out)
            have HBW := hid (below_trans HB1.out HBV.out (Nat.le_refl _))
            go_roundg (ts.length - (j + 1))
            case measure => have := GJ.out; omega
            case rel => exact ⟨j + 1, A, B + 1, C, rfl, by omega, by go_num, (HWV.out.set1 (B + 1)), HRV.out.other (by simp) _, by have := HT2.out; have := HA.out; omega, HBW.out.setCell (by simp) _⟩
          by_cases h6 : kd = 6
          · subst h6
            have HT2 : Hid (cntT k0 (ts.take (j + 1)) = cntT k0 (ts.take j) + 0 ∧ cntT k1 (ts.take (j + 1)) = cntT k1 (ts.take j) + 1 ∧ cntT k2 (ts.take (j + 1)) = cntT k2 (ts.take j) + 0) := HT1.out
            clear HT1
            refine uponI_make ?_
            have hM0 := MI.made W
            have y0 := KW hM0.below
            go_wp2_with (first
              | (with_reducible refine uponI_ins (W := W) (by assumption) ?_ ?_ ?_ ?_; (focus decide); (focus decide); (focus decide); intro w' hM'; have y' := KW hM'.below)
              | (with_reducible refine uponI_look (W := W) (some 1) (by assumption) HWT.out ?_ ?_; (focus (simp [updI])); have HBV := hid (MI.below hM'); obtain ⟨w0, w1, w2⟩ := (HW1.out.below HBV.out).cell; obtain ⟨f0, f1, f2⟩ := (HW1.out.below HBV.out).fz; simp only [Option.getD, Option.isSome]))
            have HWV := hid (HW1.out.below HBV.out)
            have HRV := hid (HR1.out.below HBV.out)
            have HBW := hid (below_trans HB1.out HBV.out (Nat.le_refl _))
            go_roundg (ts.length - (j + 1))
            case measure => have := GJ.out; omega
            case rel => exact ⟨j + 1, A, B + 1, C, rfl, by omega, by go_num, (HWV.out.set1 (B + 1)), HRV.out.other (by simp) _, by have := HT2.out; have := HA.out; omega, HBW.out.setCell (by simp) _⟩
          by_cases h1 : kd = 1
          · subst h1
            have HT2 : Hid (cntT k0 (ts.take (j + 1)) = cntT k0 (ts.take j) + 0 ∧ cntT k1 (ts.take (j + 1)) = cntT k1 (ts.take j) + 0 ∧ cntT k2 (ts.take (j + 1)) = cntT k2 (ts.take j) + 1) := HT1.out
            clear HT1
            refine uponI_make ?_
            have hM0 := MI.made W
            have y0 := KW hM0.below
            go_wp2_with (first
              | (with_reducible refine uponI_ins (W := W) (by assumption) ?_ ?_ ?_ ?_; (focus decide); (focus decide); (focus decide); intro w' hM'; have y' := KW hM'.below)
              | (with_reducible refine uponI_look (W := W) (some 2) (by assumption) HWT.out ?_ ?_; (focus (simp [updI])); have HBV := hid (MI.below hM'); obtain ⟨w0, w1, w2⟩ := (HW1.out.below HBV.out).cell; obtain ⟨f0, f1, f2⟩ := (HW1.out.below HBV.out).fz; simp only [Option.getD, Option.isSome]))
            have HWV := hid (HW1.out.below HBV.out)
            have HRV := hid (HR1.out.below HBV.out)
            have HBW := hid (below_trans HB1.out HBV.out (Nat.le_refl _))
            go_roundg (ts.length - (j + 1))
            case measure => have := GJ.out; omega
            case rel => exact ⟨j + 1, A, B, C + 1, rfl, by omega, by go_num, (HWV.out.set2 (C + 1)), HRV.out.other (by simp) _, by have := HT2.out; have := HA.out; omega, HBW.out.setCell (by simp) _⟩
          · have HT2 : Hid (cntT k0 (ts.take (j + 1)) = cntT k0 (ts.take j) + 0 ∧ cntT k1 (ts.take (j + 1)) = cntT k1 (ts.take j) + 0 ∧ cntT k2 (ts.take (j + 1)) = cntT k2 (ts.take j) + 0) := by
              have := HT1.out
              simpa [k0, k1, k2, h3, h2, h4, h5, h6, h1, Hid] using this
            clear HT1
            refine uponI_make ?_
            have hM0 := MI.made W
            have y0 := KW hM0.below
            go_wp2_with (first
              | (with_reducible refine uponI_ins (W := W) (by assumption) ?_ ?_ ?_ ?_; (focus decide); (focus decide); (focus decide); intro w' hM'; have y' := KW hM'.below)
              | (with_reducible refine uponI_look (W := W) none (by assumption) HWT.out ?_ ?_; (focus (simp [updI, h3, h2, h4, h5, h6, h1])); have HBV := hid (MI.below hM'); obtain ⟨w0, w1, w2⟩ := (HW1.out.below HBV.out).cell; obtain ⟨f0, f1, f2⟩ := (HW1.out.below HBV.out).fz; simp only [Option.getD, Option.isSome]))
            have HWV := hid (HW1.out.below HBV.out)
            have HRV := hid (HR1.out.below HBV.out)
            have HBW := hid (below_trans HB1.out HBV.out (Nat.le_refl _))
            go_roundg (ts.length - (j + 1))
            case measure => have := GJ.out; omega
            case rel => exact ⟨j + 1, A, B, C, rfl, by omega, by go_num, HWV.out, HRV.out, by have := HT2.out; have := HA.out; omega, HBW.out⟩
        · have hE : ts.take j = ts := List.take_of_length_le (by omega)
          have HX : Hid (A = cnt k0 (s.take (k + 1)) ∧ B = cnt k1 (s.take (k + 1)) ∧ C = cnt k2 (s.take (k + 1))) := by
            have h1 := HF.out
            have h4 := HA.out
            rw [hE] at h4
            show _ ∧ _ ∧ _
            omega
          clear hE
          go_wp2_with fail
          go_roundg (s.length - (k + 1))
          case measure => have := GK.out; omega
          case rel => exact ⟨k + 1, rfl, by omega, by go_num, by rw [← HX.out.1, ← HX.out.2.1, ← HX.out.2.2]; exact HW.out, HR.out, HB.out⟩
    · have hE : s.take k = s := List.take_of_length_le (by omega)
      obtain ⟨w0, w1, w2⟩ := HW.out.cell
      obtain ⟨r0, r1, r2⟩ := HR.out.cell
      obtain ⟨f0, f1, f2⟩ := HR.out.fz
      have HE : Hid (wts s = ⟨cnt k0 (s.take k), cnt k1 (s.take k), cnt k2 (s.take k)⟩) := by show wts s = _; rw [hE]; rfl
      clear hE
      generalize cnt k0 (s.take k) = A at *
      generalize cnt k1 (s.take k) = B at *
      generalize cnt k2 (s.take k) = C at *
      go_wp2_with fail
      obtain ⟨q0, q1, q2⟩ := (((HR.out.set0 (A : Int)).set1 (B : Int)).set2 (C : Int)).cell
      refine bodyPost_ret (v := wtV ⟨A, B, C⟩) (by simp [results, Tryd.results8, go_sem, q0, q1, q2, wtV]) rfl ⟨by rw [HE.out], ?_⟩
      exact ((HB.out.setCell (Nat.le_refl _) _).setCell (Nat.le_refl _) _).setCell (Nat.le_refl _) _
end Go.Proofs.YtlodblcmpebfkaaDoor
