/- Texts that the statement's proof stands on: R5, MRule, R6, W1. -/
import Derived.Test.YtblkldfokeeaeacGreatDoorB32
import Derived.Test.YtblkldfokeeaeacGreatDoorB19
import Derived.Test.YtblkldfokeeaeacGreatDoorB20
namespace Go.Proofs.YtblkldfokeeaeacGreatDoor.Rf
open Go.RowKit Go.Maps
theorem zero3 (w : World) : (zeroValue 3).run Tryz.prog w = .ok (.int .i64 0) w := by kernel_rfl
def updI (f : Int → Option Int) (k c : Int) : Int → Option Int := fun q => if q = k then some c else f q
def Mi (w : World) (B n : Nat) (f : Int → Option Int) : Prop :=
  ∃ D : DataW Unit, w.ownsMap Tryz.prog 3 (plainElem Tryz.prog 3) B n D ∧ ∀ q, D.atKey (.int .i64 q) (.lit (.int .i64 0)) = .lit (.int .i64 ((f q).getD 0)) ∧ has D (.int .i64 q) = (f q).isSome
theorem Mi.made (w : World) : Mi (w.alloc (.map #[] 0)) w.heap.size 0 (fun _ => none) := ⟨_, World.ownsMap_made w _ _ _, fun _ => ⟨rfl, rfl⟩⟩
set_option maxRecDepth 100000 in
theorem Mi.ins {w : World} {B n : Nat} {f : Int → Option Int} (h : Mi w B n f) (hn : n < 100) (k : Int) (wk : (Lit.int .i64 k).wf = true) (c : Int) (wc : (Lit.int .i64 c).wf = true) :
    ∃ w', (Instr.mapUpdate 196 (.map (some B)) (.int .i64 k) (.int .i64 c)).run Tryz.prog w = .ok () w' ∧ Mi w' B (n + 1) (updI f k c) ∧ w.grownBy w' (some B) := by
  obtain ⟨D, ho, hf⟩ := h
  obtain ⟨w', h1, h2, h3⟩ := ho.update keyI Tryz.underlying196 (by unfold maxLen; omega) (keyOf_int_mk Tryz.underlying3 wk) (plainElem_int Tryz.underlying3 wc)
  refine ⟨w', h1, ⟨_, h2, fun q => ?_⟩, h3⟩
  have hm : IsMap D := by obtain ⟨es, c, _, _, _, hD⟩ := ho; exact ⟨_, hD⟩
  unfold updI
  split
  · rename_i e
    subst e
    exact ⟨atKey_put_same hm (by simp [WideAt.IsKeyLit]) _ _, has_put_same hm (by simp [WideAt.IsKeyLit]) _⟩
  · rename_i e
    have hne : Lit.int .i64 q ≠ Lit.int .i64 k := by intro h; injection h with _ h; exact e h
    exact ⟨by rw [atKey_put_other hne]; exact (hf q).1, by rw [has_put_other hne]; exact (hf q).2⟩
set_option maxRecDepth 100000 in
theorem Mi.look {w : World} {B n : Nat} {f : Int → Option Int} (h : Mi w B n f) (q : Int) (wq : (Lit.int .i64 q).wf = true) : (Instr.lookup 196 (.map (some B)) (.int .i64 q) true).run Tryz.prog w = .ok (.tuple #[.int .i64 ((f q).getD 0), .bool (f q).isSome]) w := by
  obtain ⟨D, ho, hf⟩ := h
  obtain ⟨v, ps, h1, h2⟩ := ho.look_ok keyI Tryz.underlying196 (zero3 w) (plainElem_int (H := Unit) Tryz.underlying3 (by decide)) (keyOf_int_mk Tryz.underlying3 wq)
  obtain ⟨c, rfl, h3, _⟩ := plainElem_int_inv Tryz.underlying3 h2
  have h4 := congrArg Prod.fst h3
  simp only at h4
  rw [(hf q).1] at h4
  injection h4 with h4
  injection h4 with _ h4
  rw [h1, ← h4, (hf q).2]
def MI (W w : World) (n : Nat) (f : Int → Option Int) : Prop := Mi w W.heap.size n f ∧ Below W.heap.size W w
theorem MI.made (W : World) : MI W (W.alloc (.map #[] 0)) 0 (fun _ => none) := ⟨Mi.made W, (Below.refl _ _).alloc (Nat.le_refl _) _⟩
theorem MI.below {W w : World} {n : Nat} {f : Int → Option Int} (h : MI W w n f) : Below W.heap.size W w := h.2
set_option maxRecDepth 100000 in
theorem uponI_ins {W w : World} {o : Oper} {a : Act} {K : Act → World → Prop} {Q : Exit → Act → World → Prop} {n : Nat} {f : Int → Option Int} {k c : Int} (h : MI W w n f) (hn : n < 100) (wk : (Lit.int .i64 k).wf = true) (wc : (Lit.int .i64 c).wf = true)
    (hK : ∀ w', MI W w' (n + 1) (updI f k c) → K (a.put o.dst undef) w') :
    Oper.upon Tryz.prog o a K Q (((Instr.mapUpdate 196 (.map (some W.heap.size)) (.int .i64 k) (.int .i64 c)).run Tryz.prog w).andThen fun _ w' => .ok .skip w') := by
  obtain ⟨w', h1, h2, h3⟩ := h.1.ins hn k wk c wc
  rw [h1]
  exact hK w' ⟨h2, h.2.grown h3 h.2.size (fun k hk => by injection hk with hk; omega)⟩
set_option maxRecDepth 100000 in
theorem uponI_look {W w : World} {o : Oper} {a : Act} {K : Act → World → Prop} {Q : Exit → Act → World → Prop} {n : Nat} {f : Int → Option Int} {k : Int} (r : Option Int) (h : MI W w n f) (wk : (Lit.int .i64 k).wf = true) (hs : f k = r)
    (hK : K (a.put o.dst (.tuple #[.int .i64 (r.getD 0), .bool r.isSome])) w) :
    Oper.upon Tryz.prog o a K Q (((Instr.lookup 196 (.map (some W.heap.size)) (.int .i64 k) true).run Tryz.prog w).andThen fun v w' => .ok (.value v) w') := by
  rw [h.1.look k wk, hs]
  exact hK
set_option maxRecDepth 100000 in
theorem uponI_make {W : World} {o : Oper} {a : Act} {K : Act → World → Prop} {Q : Exit → Act → World → Prop} (hK : K (a.put o.dst (.map (some W.heap.size))) (W.alloc (.map #[] 0))) :
    Oper.upon Tryz.prog o a K Q (((Instr.makeMap 196 none).run Tryz.prog W).andThen fun v w' => .ok (.value v) w') := by
  rw [run_makeMap]
  exact hK
set_option maxRecDepth 100000 in
set_option maxHeartbeats 4000000 in
theorem rweigh_any (sv : Value) (s : List Pt) (w : World) (hS : PsAt w sv s) (hss : SmS s) (hwf : WfS s) :
    Calls Tryz.prog 81 #[sv] w fun e w' => e = .returned (wtV (wts s)) ∧ Below w.heap.size w w' := by
  obtain ⟨sa, scap, rfl⟩ := Sl.form hS
  have HP := hid hS
  have HSS := hid hss
  have HWF := hid hwf
  have hsl := hss.1
  unfold lim at hsl
  clear hS hss hwf
  go_enter Tryz.func81, Tryz.ntmps81
  go_wp2_with fail
  have HW0 := hid (WB.new (w.alloc (.cells #[.int .i64 0, .int .i64 0, .int .i64 0] 86)) 0 0 0)
  have HR0 := hid ((WB.new w 0 0 0).alloc (.cells #[.int .i64 0, .int .i64 0, .int .i64 0] 86))
  have HB0 : Hid (Below w.heap.size w ((w.alloc (.cells #[.int .i64 0, .int .i64 0, .int .i64 0] 86)).alloc (.cells #[.int .i64 0, .int .i64 0, .int .i64 0] 86))) := ((Below.refl _ _).alloc (Nat.le_refl _) _).alloc (by simp) _
  rw [show (w.alloc (.cells #[.int .i64 0, .int .i64 0, .int .i64 0] 86)).heap.size = w.heap.size + 1 by simp] at HW0
  generalize (w.alloc (.cells #[.int .i64 0, .int .i64 0, .int .i64 0] 86)).alloc (.cells #[.int .i64 0, .int .i64 0, .int .i64 0] 86) = W at *
  go_loopg [12] s.length (fun n i wr => ∃ k : Nat, n = s.length - k ∧ k ≤ s.length ∧ i = .int .i64 (k : Int) ∧ WB wr (w.heap.size + 1) (cnt k0 (s.take k)) (cnt k1 (s.take k)) (cnt k2 (s.take k)) ∧ WB wr w.heap.size 0 0 0 ∧ Below w.heap.size w wr)
  case atStart => exact ⟨0, rfl, Nat.zero_le _, rfl, HW0.out, HR0.out, HB0.out⟩
  case round =>
    clear HW0 HR0 HB0
    obtain ⟨k, hn, hk, rfl, hW, hR, hB⟩ := hrel
    have GK := hid hn
    have HW := hid hW
    have HR := hid hR
    have HB := hid hB
    have a1 := cnt_le k0 HSS.out k
    have a2 := cnt_le k1 HSS.out k
    have a3 := cnt_le k2 HSS.out k
    unfold lim at a1 a2 a3
    rename World => wo
    clear hn hW hR hB
    by_cases hlt : k < s.length
    · obtain ⟨b, off, rfl, he⟩ := Sl.at HP.out hlt
      obtain ⟨ta, tcap, e0, e1, hts⟩ := he.cells
      have c0 := Ext.below HB.out _ _ _ e0
      have c1 := Ext.below HB.out _ _ _ e1
      clear e0 e1
      have HTS := hid hts
      have htl := HSS.out.part (List.getElem_mem hlt)
      unfold lim at htl
      have HF : Hid (cnt k0 (s.take (k + 1)) = cnt k0 (s.take k) + cntT k0 s[k].tests ∧ cnt k1 (s.take (k + 1)) = cnt k1 (s.take k) + cntT k1 s[k].tests ∧ cnt k2 (s.take (k + 1)) = cnt k2 (s.take k) + cntT k2 s[k].tests) := by
        show _ ∧ _ ∧ _
        rw [List.take_succ_eq_append_getElem hlt, cnt_snoc, cnt_snoc, cnt_snoc]
        exact ⟨rfl, rfl, rfl⟩
      have HWP := hid (HWF.out _ (List.getElem_mem hlt))
      generalize s[k] = p at *
      obtain ⟨jn, ts⟩ := p
      simp only at c0 c1 hts htl HTS HF HWP
      generalize cnt k0 (s.take k) = A0 at *
      generalize cnt k1 (s.take k) = B0 at *
      generalize cnt k2 (s.take k) = C0 at *
      clear he hts
      go_wp2_with fail
      go_loopg [19] ts.length (fun n i wr => ∃ (j : Nat) (A B C : Int), n = ts.length - j ∧ j ≤ ts.length ∧ i = .int .i64 (j : Int) ∧ WB wr (w.heap.size + 1) A B C ∧ WB wr w.heap.size 0 0 0 ∧ (A = A0 + cntT k0 (ts.take j) ∧ B = B0 + cntT k1 (ts.take j) ∧ C = C0 + cntT k2 (ts.take j)) ∧ Below w.heap.size w wr)
      case atStart => exact ⟨0, A0, B0, C0, rfl, Nat.zero_le _, rfl, HW.out.alloc _, HR.out.alloc _, by simp [cntT], HB.out.alloc HB.out.size _⟩
      case round =>
        clear c0 c1 HW HR HB
        obtain ⟨j, A, B, C, hn, hj, rfl, hW, hR, hA, hB⟩ := hrel
        have GJ := hid hn
        have HA := hid hA
        have HW := hid hW
        have HR := hid hR
        have HB := hid hB
        have bA : 0 ≤ A ∧ A ≤ 2097152 := by have := cntT_le k0 (ts.take j); simp at this; omega
        have bB : 0 ≤ B ∧ B ≤ 2097152 := by have := cntT_le k1 (ts.take j); simp at this; omega
        have bC : 0 ≤ C ∧ C ≤ 2097152 := by have := cntT_le k2 (ts.take j); simp at this; omega
        obtain ⟨bA0, bA1⟩ := bA
        obtain ⟨bB0, bB1⟩ := bB
        obtain ⟨bC0, bC1⟩ := bC
        obtain ⟨w0, w1, w2⟩ := hW.cell
        obtain ⟨f0, f1, f2⟩ := hW.fz
        have hTl := hW.lt
        clear hn hW hR hB hA
        by_cases hjl : j < ts.length
        · obtain ⟨b2, off2, rfl, he⟩ := Sl.at (HTS.out.ext (Ext.below HB.out)) hjl
          obtain ⟨d0, d1, d2⟩ := he.cells
          have hds := lt_of_cell d0
          have HT1 : Hid (cntT k0 (ts.take (j + 1)) = cntT k0 (ts.take j) + (if k0 ts[j].kind then 1 else 0) ∧ cntT k1 (ts.take (j + 1)) = cntT k1 (ts.take j) + (if k1 ts[j].kind then 1 else 0) ∧ cntT k2 (ts.take (j + 1)) = cntT k2 (ts.take j) + (if k2 ts[j].kind then 1 else 0)) := by
            show _ ∧ _ ∧ _
            rw [List.take_succ_eq_append_getElem hjl, cntT_snoc, cntT_snoc, cntT_snoc]
            exact ⟨rfl, rfl, rfl⟩
          have HWT := hid (HWP.out _ (List.getElem_mem hjl)).1
          generalize ts[j] = t at *
          obtain ⟨kd, nm, vl⟩ := t
          simp only at d0 d1 d2 HT1 HWT
          clear he
          go_wp2_with fail
          have HW1 := hid (HW.out.alloc (.cells #[.int .i64 kd, .string nm, .string vl] 152))
          have HR1 := hid (HR.out.alloc (.cells #[.int .i64 kd, .string nm, .string vl] 152))
          have HB1 := hid (HB.out.alloc HB.out.size (.cells #[.int .i64 kd, .string nm, .string vl] 152))
          have x0 : (wr.alloc (.cells #[.int .i64 kd, .string nm, .string vl] 152)).cell? ⟨wr.heap.size, 0, none⟩ = some (.int .i64 kd) := cell_new _ _ _ 0
          clear HW HR HB d0 d1 d2 w0 w1 w2 f0 f1 f2 hds
          generalize wr.alloc (.cells #[.int .i64 kd, .string nm, .string vl] 152) = W at *
          have KW : ∀ {w' : World}, Below W.heap.size W w' → w'.cell? ⟨wr.heap.size, 0, none⟩ = some (.int .i64 kd) := fun h => Ext.below h _ _ _ x0
          by_cases h3 : kd = 3
          · subst h3
            have HT2 : Hid (cntT k0 (ts.take (j + 1)) = cntT k0 (ts.take j) + 1 ∧ cntT k1 (ts.take (j + 1)) = cntT k1 (ts.take j) + 0 ∧ cntT k2 (ts.take (j + 1)) = cntT k2 (ts.take j) + 0) := HT1.out
            clear HT1
            refine uponI_make ?_
            have hM0 := MI.made W
            have y0 := KW hM0.below
            go_wp2_with (first
              | (with_reducible refine uponI_ins (W := W) (by assumption) ?_ ?_ ?_ ?_; (focus decide); (focus decide); (focus decide); intro w' hM'; have y' := KW hM'.below)
              | (with_reducible refine uponI_look (W := W) (some 0) (by assumption) HWT.out ?_ ?_; (focus (simp [updI])); have HBV := hid (MI.below hM'); obtain ⟨w0, w1, w2⟩ := (HW1.out.below HBV.out).cell; obtain ⟨f0, f1, f2⟩ := (HW1.out.below HBV.out).fz; simp only [Option.getD, Option.isSome]))
            have HWV := hid (HW1.out.below HBV.out)
            have HRV := hid (HR1.out.below HBV.out)
            have HBW := hid (below_trans HB1.out HBV.out (Nat.le_refl _))
            go_roundg (ts.length - (j + 1))
            case measure => have := GJ.out; omega
            case rel => exact ⟨j + 1, A + 1, B, C, rfl, by omega, by go_num, (HWV.out.set0 (A + 1)), HRV.out.other (by simp) _, by have := HT2.out; have := HA.out; omega, HBW.out.setCell (by simp) _⟩
          by_cases h2 : kd = 2
          · subst h2
            have HT2 : Hid (cntT k0 (ts.take (j + 1)) = cntT k0 (ts.take j) + 0 ∧ cntT k1 (ts.take (j + 1)) = cntT k1 (ts.take j) + 1 ∧ cntT k2 (ts.take (j + 1)) = cntT k2 (ts.take j) + 0) := HT1.out
            clear HT1
            refine uponI_make ?_
            have hM0 := MI.made W
            have y0 := KW hM0.below
            go_wp2_with (first
              | (with_reducible refine uponI_ins (W := W) (by assumption) ?_ ?_ ?_ ?_; (focus decide); (focus decide); (focus decide); intro w' hM'; have y' := KW hM'.below)
              | (with_reducible refine uponI_look (W := W) (some 1) (by assumption) HWT.out ?_ ?_; (focus (simp [updI])); have HBV := hid (MI.below hM'); obtain ⟨w0, w1, w2⟩ := (HW1.out.below HBV.out).cell; obtain ⟨f0, f1, f2⟩ := (HW1.out.below HBV.out).fz; simp only [Option.getD, Option.isSome]))
            have HWV := hid (HW1.out.below HBV.out)
            have HRV := hid (HR1.out.below HBV.out)
            have HBW := hid (below_trans HB1.out HBV.out (Nat.le_refl _))
            go_roundg (ts.length - (j + 1))
            case measure => have := GJ.out; omega
            case rel => exact ⟨j + 1, A, B + 1, C, rfl, by omega, by go_num, (HWV.out.set1 (B + 1)), HRV.out.other (by simp) _, by have := HT2.out; have := HA.out; omega, HBW.out.setCell (by simp) _⟩
          by_cases h4 : kd = 4
          · subst h4
            have HT2 : Hid (cntT k0 (ts.take (j + 1)) = cntT k0 (ts.take j) + 0 ∧ cntT k1 (ts.take (j + 1)) = cntT k1 (ts.take j) + 1 ∧ cntT k2 (ts.take (j + 1)) = cntT k2 (ts.take j) + 0) := HT1.out
            clear HT1
            refine uponI_make ?_
            have hM0 := MI.made W
            have y0 := KW hM0.below
            go_wp2_with (first
              | (with_reducible refine uponI_ins (W := W) (by assumption) ?_ ?_ ?_ ?_; (focus decide); (focus decide); (focus decide); intro w' hM'; have y' := KW hM'.below)
              | (with_reducible refine uponI_look (W := W) (some 1) (by assumption) HWT.out ?_ ?_; (focus (simp [updI])); have HBV := hid (MI.below hM'); obtain ⟨w0, w1, w2⟩ := (HW1.out.below HBV.out).cell; obtain ⟨f0, f1, f2⟩ := (HW1.out.below HBV.out).fz; simp only [Option.getD, Option.isSome]))
            have HWV := hid (HW1.out.below HBV.out)
            have HRV := hid (HR1.out.below HBV.out)
            have HBW := hid (below_trans HB1.out HBV.out (Nat.le_refl _))
            go_roundg (ts.length - (j + 1))
            case measure => have := GJ.out; omega
            case rel => exact ⟨j + 1, A, B + 1, C, rfl, by omega, by go_num, (HWV.out.set1 (B + 1)), HRV.out.other (by simp) _, by have := HT2.out; have := HA.out; omega, HBW.out.setCell (by simp) _⟩
          by_cases h5 : kd = 5
          · subst h5
            have HT2 : Hid (cntT k0 (ts.take (j + 1)) = cntT k0 (ts.take j) + 0 ∧ cntT k1 (ts.take (j + 1)) = cntT k1 (ts.take j) + 1 ∧ cntT k2 (ts.take (j + 1)) = cntT k2 (ts.take j) + 0) := HT1.out
            clear HT1
            refine uponI_make ?_
            have hM0 := MI.made W
            have y0 := KW hM0.below
            go_wp2_with (first
              | (with_reducible refine uponI_ins (W := W) (by assumption) ?_ ?_ ?_ ?_; (focus decide); (focus decide); (focus decide); intro w' hM'; have y' := KW hM'.below)
              | (with_reducible refine uponI_look (W := W) (some 1) (by assumption) HWT.out ?_ ?_; (focus (simp [updI])); have HBV := hid (MI.below hM'); obtain ⟨w0, w1, w2⟩ := (HW1.out.below HBV.out).cell; obtain ⟨f0, f1, f2⟩ := (HW1.out.below HBV.out).fz; simp only [Option.getD, Option.isSome]))
            have HWV := hid (HW1.out.below HBV.out)
            have HRV := hid (HR1.out.below HBV.out)
            have HBW := hid (below_trans HB1.out HBV.out (Nat.le_refl _))
            go_roundg (ts.length - (j + 1))
            case measure => have := GJ.out; omega
            case rel => exact ⟨j + 1, A, B + 1, C, rfl, by omega, by go_num, (HWV.out.set1 (B + 1)), HRV.out.other (by simp) _, by have := HT2.out; have := HA.out; omega, HBW.out.setCell (by simp) _⟩
          by_cases h6 : kd = 6
          · subst h6
            have HT2 : Hid (cntT k0 (ts.take (j + 1)) = cntT k0 (ts.take j) + 0 ∧ cntT k1 (ts.take (j + 1)) = cntT k1 (ts.take j) + 1 ∧ cntT k2 (ts.take (j + 1)) = cntT k2 (ts.take j) + 0) := HT1.out
            clear HT1
            refine uponI_make ?_
            have hM0 := MI.made W
            have y0 := KW hM0.below
            go_wp2_with (first
              | (with_reducible refine uponI_ins (W := W) (by assumption) ?_ ?_ ?_ ?_; (focus decide); (focus decide); (focus decide); intro w' hM'; have y' := KW hM'.below)
              | (with_reducible refine uponI_look (W := W) (some 1) (by assumption) HWT.out ?_ ?_; (focus (simp [updI])); have HBV := hid (MI.below hM'); obtain ⟨w0, w1, w2⟩ := (HW1.out.below HBV.out).cell; obtain ⟨f0, f1, f2⟩ := (HW1.out.below HBV.out).fz; simp only [Option.getD, Option.isSome]))
            have HWV := hid (HW1.out.below HBV.out)
            have HRV := hid (HR1.out.below HBV.out)
            have HBW := hid (below_trans HB1.out HBV.out (Nat.le_refl _))
            go_roundg (ts.length - (j + 1))
            case measure => have := GJ.out; omega
            case rel => exact ⟨j + 1, A, B + 1, C, rfl, by omega, by go_num, (HWV.out.set1 (B + 1)), HRV.out.other (by simp) _, by have := HT2.out; have := HA.out; omega, HBW.out.setCell (by simp) _⟩
          by_cases h1 : kd = 1
          · subst h1
            have HT2 : Hid (cntT k0 (ts.take (j + 1)) = cntT k0 (ts.take j) + 0 ∧ cntT k1 (ts.take (j + 1)) = cntT k1 (ts.take j) + 0 ∧ cntT k2 (ts.take (j + 1)) = cntT k2 (ts.take j) + 1) := HT1.out
            clear HT1
            refine uponI_make ?_
            have hM0 := MI.made W
            have y0 := KW hM0.below
            go_wp2_with (first
              | (with_reducible refine uponI_ins (W := W) (by assumption) ?_ ?_ ?_ ?_; (focus decide); (focus decide); (focus decide); intro w' hM'; have y' := KW hM'.below)
              | (with_reducible refine uponI_look (W := W) (some 2) (by assumption) HWT.out ?_ ?_; (focus (simp [updI])); have HBV := hid (MI.below hM'); obtain ⟨w0, w1, w2⟩ := (HW1.out.below HBV.out).cell; obtain ⟨f0, f1, f2⟩ := (HW1.out.below HBV.out).fz; simp only [Option.getD, Option.isSome]))
            have HWV := hid (HW1.out.below HBV.out)
            have HRV := hid (HR1.out.below HBV.out)
            have HBW := hid (below_trans HB1.out HBV.out (Nat.le_refl _))
            go_roundg (ts.length - (j + 1))
            case measure => have := GJ.out; omega
            case rel => exact ⟨j + 1, A, B, C + 1, rfl, by omega, by go_num, (HWV.out.set2 (C + 1)), HRV.out.other (by simp) _, by have := HT2.out; have := HA.out; omega, HBW.out.setCell (by simp) _⟩
          · have HT2 : Hid (cntT k0 (ts.take (j + 1)) = cntT k0 (ts.take j) + 0 ∧ cntT k1 (ts.take (j + 1)) = cntT k1 (ts.take j) + 0 ∧ cntT k2 (ts.take (j + 1)) = cntT k2 (ts.take j) + 0) := by
              have := HT1.out
              simpa [k0, k1, k2, h3, h2, h4, h5, h6, h1, Hid] using this
            clear HT1
            refine uponI_make ?_
            have hM0 := MI.made W
            have y0 := KW hM0.below
            go_wp2_with (first
              | (with_reducible refine uponI_ins (W := W) (by assumption) ?_ ?_ ?_ ?_; (focus decide); (focus decide); (focus decide); intro w' hM'; have y' := KW hM'.below)
              | (with_reducible refine uponI_look (W := W) none (by assumption) HWT.out ?_ ?_; (focus (simp [updI, h3, h2, h4, h5, h6, h1])); have HBV := hid (MI.below hM'); obtain ⟨w0, w1, w2⟩ := (HW1.out.below HBV.out).cell; obtain ⟨f0, f1, f2⟩ := (HW1.out.below HBV.out).fz; simp only [Option.getD, Option.isSome]))
            have HWV := hid (HW1.out.below HBV.out)
            have HRV := hid (HR1.out.below HBV.out)
            have HBW := hid (below_trans HB1.out HBV.out (Nat.le_refl _))
            go_roundg (ts.length - (j + 1))
            case measure => have := GJ.out; omega
            case rel => exact ⟨j + 1, A, B, C, rfl, by omega, by go_num, HWV.out, HRV.out, by have := HT2.out; have := HA.out; omega, HBW.out⟩
        · have hE : ts.take j = ts := List.take_of_length_le (by omega)
          have HX : Hid (A = cnt k0 (s.take (k + 1)) ∧ B = cnt k1 (s.take (k + 1)) ∧ C = cnt k2 (s.take (k + 1))) := by
            have h1 := HF.out
            have h4 := HA.out
            rw [hE] at h4
            show _ ∧ _ ∧ _
            omega
          clear hE
          go_wp2_with fail
          go_roundg (s.length - (k + 1))
          case measure => have := GK.out; omega
          case rel => exact ⟨k + 1, rfl, by omega, by go_num, by rw [← HX.out.1, ← HX.out.2.1, ← HX.out.2.2]; exact HW.out, HR.out, HB.out⟩
    · have hE : s.take k = s := List.take_of_length_le (by omega)
      obtain ⟨w0, w1, w2⟩ := HW.out.cell
      obtain ⟨r0, r1, r2⟩ := HR.out.cell
      obtain ⟨f0, f1, f2⟩ := HR.out.fz
      have HE : Hid (wts s = ⟨cnt k0 (s.take k), cnt k1 (s.take k), cnt k2 (s.take k)⟩) := by show wts s = _; rw [hE]; rfl
      clear hE
      generalize cnt k0 (s.take k) = A at *
      generalize cnt k1 (s.take k) = B at *
      generalize cnt k2 (s.take k) = C at *
      go_wp2_with fail
      obtain ⟨q0, q1, q2⟩ := (((HR.out.set0 (A : Int)).set1 (B : Int)).set2 (C : Int)).cell
      refine bodyPost_ret (v := wtV ⟨A, B, C⟩) (by simp [results, Tryz.results81, go_sem, q0, q1, q2, wtV]) rfl ⟨by rw [HE.out], ?_⟩
      exact ((HB.out.setCell (Nat.le_refl _) _).setCell (Nat.le_refl _) _).setCell (Nat.le_refl _) _
end Go.Proofs.YtblkldfokeeaeacGreatDoor.Rf
namespace Go.Proofs.YtblkldfokeeaeacGreatDoor.Rf
open Go.RowKit
def gt (x y : Wt) : Prop := y.a < x.a ∨ (x.a = y.a ∧ (y.b < x.b ∨ (x.b = y.b ∧ y.c < x.c)))
structure Bst (l : List Nd) (k : Int) (ss : List (List Pt)) (b0 : Wt) (f0 : Bool) (b : Wt) (f : Bool) : Prop where
  any : f = (f0 || ss.any (matchB l k))
  low : ¬ gt b0 b
  top : ∀ s ∈ ss, matchB l k s = true → ¬ gt (wts s) b
  own : b = b0 ∨ ∃ s ∈ ss, matchB l k s = true ∧ wts s = b
def lessFrom (x y : Wt) : Nat → Bool
  | 0 => decide (cmp3 x y < 0)
  | 1 => decide (cmpFrom x y 1 < 0)
  | 2 => decide (cmpFrom x y 2 < 0)
  | _ => false
set_option maxRecDepth 100000 in
set_option maxHeartbeats 2000000 in
theorem less_any (x y : Wt) (w : World) :
    Calls Tryz.prog 80 #[wtV x, wtV y] w fun e w' => e = .returned (.bool (decide (cmp3 x y < 0))) ∧ Below w.heap.size w w' := by
  obtain ⟨a, b, c⟩ := x
  obtain ⟨p, q, r⟩ := y
  have HC : Hid (decide (cmp3 ⟨a, b, c⟩ ⟨p, q, r⟩ < 0) = lessFrom ⟨a, b, c⟩ ⟨p, q, r⟩ 0) := rfl
  generalize decide (cmp3 ⟨a, b, c⟩ ⟨p, q, r⟩ < 0) = R at *
  simp only [wtV]
  go_enter Tryz.func80, Tryz.ntmps80
  go_wp2_with fail
  have W1 := (WB.new w a b c).alloc (.cells #[.int .i64 p, .int .i64 q, .int .i64 r] 86)
  have W2 := WB.new (w.alloc (.cells #[.int .i64 a, .int .i64 b, .int .i64 c] 86)) p q r
  rw [show (w.alloc (.cells #[.int .i64 a, .int .i64 b, .int .i64 c] 86)).heap.size = w.heap.size + 1 by simp] at W2
  have HB : Hid (Below w.heap.size w ((w.alloc (.cells #[.int .i64 a, .int .i64 b, .int .i64 c] 86)).alloc (.cells #[.int .i64 p, .int .i64 q, .int .i64 r] 86))) := ((Below.refl _ _).alloc (Nat.le_refl _) _).alloc (by simp) _
  generalize (w.alloc (.cells #[.int .i64 a, .int .i64 b, .int .i64 c] 86)).alloc (.cells #[.int .i64 p, .int .i64 q, .int .i64 r] 86) = W at *
  obtain ⟨x0, x1, x2⟩ := W1.cell
  obtain ⟨y0, y1, y2⟩ := W2.cell
  clear W1 W2
  go_loopg [6] 3 (fun n i wr => ∃ j : Nat, n = 3 - j ∧ j ≤ 3 ∧ i = .int .i64 (j : Int) ∧ R = lessFrom ⟨a, b, c⟩ ⟨p, q, r⟩ j ∧ ∃ m, wr = W.drewN m)
  case atStart => exact ⟨0, rfl, Nat.zero_le _, rfl, HC.out, 0, rfl⟩
  case round =>
    obtain ⟨j, hn, hj, rfl, hR, m, rfl⟩ := hrel
    have GK := hid hn
    have HR := hid hR
    clear hn hR
    by_cases h3 : j = 3
    · subst h3
      have HR2 : Hid (R = false) := HR.out
      go_wp2_with fail
      go_ret
      exact ⟨ret_bool HR2.out.symm, below_dN HB.out _⟩
    · have hj3 : j = 0 ∨ j = 1 ∨ j = 2 := by omega
      clear h3 hj
      rcases hj3 with rfl | rfl | rfl
      · by_cases h : a = p
        · subst h
          have HR2 : Hid (R = lessFrom ⟨a, b, c⟩ ⟨a, q, r⟩ 1) := by have := HR.out; simpa [lessFrom, cmpFrom, cmp3, Hid] using this
          go_wp2_with fail
          go_quiet (fail)
          go_wp2_with fail
          go_roundg 2
          case measure => have := GK.out; omega
          case rel => exact ⟨1, rfl, by omega, by go_num, HR2.out, _, rfl⟩
        · have HR2 : Hid (R = decide (a < p)) := by
            show R = _
            rw [HR.out]
            unfold lessFrom cmp3
            rw [Bool.eq_iff_iff]
            simp only [decide_eq_true_eq]
            repeat' split
            all_goals omega
          have nz : (a != p) = true := by simp [h]
          clear h
          go_wp2_with fail
          go_quiet (fail)
          go_wp2_with fail
          go_quiet (fail)
          go_wp2_with fail
          go_ret
          exact ⟨ret_bool HR2.out.symm, below_dN (below_dN (below_dN HB.out _) _) _⟩
      · by_cases h : b = q
        · subst h
          have HR2 : Hid (R = lessFrom ⟨a, b, c⟩ ⟨p, b, r⟩ 2) := by have := HR.out; simpa [lessFrom, cmpFrom, Hid] using this
          go_wp2_with fail
          go_quiet (fail)
          go_wp2_with fail
          go_roundg 1
          case measure => have := GK.out; omega
          case rel => exact ⟨2, rfl, by omega, by go_num, HR2.out, _, rfl⟩
        · have HR2 : Hid (R = decide (b < q)) := by
            show R = _
            rw [HR.out]
            unfold lessFrom cmpFrom
            rw [Bool.eq_iff_iff]
            simp only [decide_eq_true_eq]
            repeat' split
            all_goals omega
          have nz : (b != q) = true := by simp [h]
          clear h
          go_wp2_with fail
          go_quiet (fail)
          go_wp2_with fail
          go_quiet (fail)
          go_wp2_with fail
          go_ret
          exact ⟨ret_bool HR2.out.symm, below_dN (below_dN (below_dN HB.out _) _) _⟩
      · by_cases h : c = r
        · subst h
          have HR2 : Hid (R = lessFrom ⟨a, b, c⟩ ⟨p, q, c⟩ 3) := by have := HR.out; simpa [lessFrom, cmpFrom, Hid] using this
          go_wp2_with fail
          go_quiet (fail)
          go_wp2_with fail
          go_roundg 0
          case measure => have := GK.out; omega
          case rel => exact ⟨3, rfl, by omega, by go_num, HR2.out, _, rfl⟩
        · have HR2 : Hid (R = decide (c < r)) := by
            show R = _
            rw [HR.out]
            unfold lessFrom cmpFrom
            rw [Bool.eq_iff_iff]
            simp only [decide_eq_true_eq]
            repeat' split
            all_goals omega
          have nz : (c != r) = true := by simp [h]
          clear h
          go_wp2_with fail
          go_quiet (fail)
          go_wp2_with fail
          go_quiet (fail)
          go_wp2_with fail
          go_ret
          exact ⟨ret_bool HR2.out.symm, below_dN (below_dN (below_dN HB.out _) _) _⟩
end Go.Proofs.YtblkldfokeeaeacGreatDoor.Rf
namespace Go.Proofs.YtblkldfokeeaeacGreatDoor.Rf
open Go.RowKit
theorem cmp3_turn (x y : Wt) : (0 < cmp3 x y) ↔ (cmp3 y x < 0) := by
  unfold cmp3
  repeat' split
  all_goals omega
theorem cmp3_first (s : List Pt) : (if 0 < cmp3 (wts s) w00 then wts s else w00) = wts s := by
  by_cases h : 0 < cmp3 (wts s) w00
  · rw [if_pos h]
  · rw [if_neg h]
    unfold cmp3 wts w00 at *
    simp only at h ⊢
    simp only [Wt.mk.injEq]
    repeat' split at h
    all_goals omega
set_option maxRecDepth 100000 in
set_option maxHeartbeats 4000000 in
theorem rbest_any (lv : Value) (l : List Nd) (k : Int) (md : ByteArray) (ss : List (List Pt)) (ssv : Value) (da : Option Addr) (dn dc : Nat) (rf rt : Int) (w : World) (hl : NdsAt w lv l) (hs : SmNs l) (hS : SsAt w ssv ss) (hss : SmSs ss) (hwf : ∀ s ∈ ss, WfS s) :
    Calls Tryz.prog 47 #[lv, .int .i64 k, ruleV md ssv (.slice da dn dc) rf rt] w fun e w' => e = .returned (bestV (bestTo l k ss (w00, false))) ∧ Below w.heap.size w w' := by
  obtain ⟨sa, scap, rfl⟩ := Sl.form hS
  obtain ⟨la, lcap, rfl⟩ := Sl.form hl
  have hln := hs.1
  unfold lim at hln
  have HL := hid hl
  have HN := hid hs
  have HWF := hid hwf
  have HP := hid hS
  have HSS := hid hss.2
  have hsl := hss.1
  unfold lim at hsl
  clear hl hs hS hss hwf
  have HB0 : Hid (bestTo l k ss (w00, false) = bestTo l k (ss.drop 0) (w00, false)) := rfl
  generalize bestTo l k ss (w00, false) = B at *
  simp only [ruleV]
  go_enter Tryz.func47, Tryz.ntmps47
  go_wp2_with fail
  have W0 := WB.new ((w.alloc (.cells #[.string md, .slice sa ss.length scap, .slice da dn dc, .int .i64 rf, .int .i64 rt] 38)).alloc (.cells #[.int .i64 0, .int .i64 0, .int .i64 0] 86)) 0 0 0
  have R0 := (WB.new (w.alloc (.cells #[.string md, .slice sa ss.length scap, .slice da dn dc, .int .i64 rf, .int .i64 rt] 38)) 0 0 0).alloc (.cells #[.int .i64 0, .int .i64 0, .int .i64 0] 86)
  have hb0 : Below w.heap.size w (((w.alloc (.cells #[.string md, .slice sa ss.length scap, .slice da dn dc, .int .i64 rf, .int .i64 rt] 38)).alloc (.cells #[.int .i64 0, .int .i64 0, .int .i64 0] 86)).alloc (.cells #[.int .i64 0, .int .i64 0, .int .i64 0] 86)) := (((Below.refl _ _).alloc (Nat.le_refl _) _).alloc (by simp) _).alloc (by simp; omega) _
  rw [show ((w.alloc (.cells #[.string md, .slice sa ss.length scap, .slice da dn dc, .int .i64 rf, .int .i64 rt] 38)).alloc (.cells #[.int .i64 0, .int .i64 0, .int .i64 0] 86)).heap.size = w.heap.size + 1 + 1 by simp] at W0
  rw [show (w.alloc (.cells #[.string md, .slice sa ss.length scap, .slice da dn dc, .int .i64 rf, .int .i64 rt] 38)).heap.size = w.heap.size + 1 by simp] at R0
  have HW0 := hid W0
  have HR0 := hid R0
  have HBB := hid hb0
  clear W0 R0 hb0
  generalize ((w.alloc (.cells #[.string md, .slice sa ss.length scap, .slice da dn dc, .int .i64 rf, .int .i64 rt] 38)).alloc (.cells #[.int .i64 0, .int .i64 0, .int .i64 0] 86)).alloc (.cells #[.int .i64 0, .int .i64 0, .int .i64 0] 86) = W at *
  go_loopg [9, 15] ss.length (fun n f i wr => ∃ (j : Nat) (bw : Wt) (fd : Bool), n = ss.length - j ∧ j ≤ ss.length ∧ i = .int .i64 (j : Int) ∧ f = .bool fd ∧ (fd = false → bw = w00) ∧ B = bestTo l k (ss.drop j) (bw, fd) ∧ WB wr (w.heap.size + 1 + 1) bw.a bw.b bw.c ∧ WB wr (w.heap.size + 1) 0 0 0 ∧ Below w.heap.size w wr)
  case atStart => exact ⟨0, w00, false, rfl, Nat.zero_le _, rfl, rfl, fun _ => rfl, HB0.out, HW0.out, HR0.out, HBB.out⟩
  case round =>
    clear HW0 HR0 HBB HB0
    obtain ⟨j, bw, fd, hn, hj, rfl, rfl, hz, hE, hW, hR, hB⟩ := hrel
    have GK := hid hn
    have HE := hid hE
    have HZ := hid hz
    have HW := hid hW
    have HR := hid hR
    have HB := hid hB
    clear hn hz hE hW hR hB
    by_cases hlt : j < ss.length
    · obtain ⟨b, off, rfl, he⟩ := Sl.at (SsAt.ext HP.out (Ext.below HB.out)) hlt
      obtain ⟨pa, pc, c0, hps⟩ := he.cells
      rw [Nat.mul_one] at c0
      have HPS := hid hps
      have HSM := hid (HSS.out ss[j] (List.getElem_mem hlt))
      have HE2 : Hid (B = bestTo l k (ss.drop (j + 1)) (if matchB l k ss[j] then (if 0 < cmp3 (wts ss[j]) bw then wts ss[j] else bw, true) else (bw, fd))) := by
        show B = _
        rw [HE.out, List.drop_eq_getElem_cons hlt]; rfl
      clear he hps
      have HWS := hid (HWF.out ss[j] (List.getElem_mem hlt))
      generalize ss[j] = s at *
      have hsn := HSM.out.1
      unfold lim at hsn
      by_cases hk0 : k < 0
      · have HE3 : Hid (B = bestTo l k (ss.drop (j + 1)) (bw, fd)) := by
          have := HE2.out
          rw [show matchB l k s = false by simp [matchB, inB, Int.not_le.2 hk0]] at this
          exact this
        go_wp2_with fail
        go_roundg (ss.length - (j + 1))
        case measure => have := GK.out; omega
        case rel => exact ⟨j + 1, bw, fd, rfl, by omega, by go_num, rfl, HZ.out, HE3.out, HW.out, HR.out, HB.out⟩
      obtain ⟨kk, rfl⟩ : ∃ kk : Nat, k = kk := ⟨k.toNat, by omega⟩
      by_cases hkl : kk < l.length
      rotate_left
      · have HE3 : Hid (B = bestTo l kk (ss.drop (j + 1)) (bw, fd)) := by
          have := HE2.out
          rw [show matchB l kk s = false by simp [matchB, inB, hkl]] at this
          exact this
        have hge : (l.length : Int) ≤ (kk : Int) := by omega
        go_wp2_with fail
        go_roundg (ss.length - (j + 1))
        case measure => have := GK.out; omega
        case rel => exact ⟨j + 1, bw, fd, rfl, by omega, by go_num, rfl, HZ.out, HE3.out, HW.out, HR.out, HB.out⟩
      by_cases hs0 : s.length = 0
      · have HE3 : Hid (B = bestTo l kk (ss.drop (j + 1)) (bw, fd)) := by
          have := HE2.out
          rw [show matchB l kk s = false by simp [matchB, hs0]] at this
          exact this
        rw [hs0] at c0
        go_wp2_with fail
        go_roundg (ss.length - (j + 1))
        case measure => have := GK.out; omega
        case rel => exact ⟨j + 1, bw, fd, rfl, by omega, by go_num, rfl, HZ.out, HE3.out, HW.out, HR.out, HB.out⟩
      obtain ⟨t, ht⟩ : ∃ t, s.length = t + 1 := ⟨s.length - 1, by omega⟩
      have HMB : Hid (matchB l kk s = (partB l kk (ptAt s t) && rest l s t kk)) := by
        show _ = _
        simp [matchB, inB, hkl, ht, meansB]
      rw [ht] at c0 hsn
      have HPT : Hid (PsAt wr (.slice pa (t + 1) pc) s) := by rw [← ht]; exact HPS.out
      have HTL : Hid (t < s.length) := by show _ < _; omega
      have hk1 : ¬ ((l.length : Int) ≤ (kk : Int)) := by omega
      have ht0 : ((t : Int) + 1 == 0) = false := by simp; omega
      clear hs0 ht HPS
      go_wp2_with (go_at_call 79; refine (rmeans_any _ _ l s HN.out HSM.out HWS.out t kk wr (HL.out.ext (Ext.below HB.out)) HPT.out hkl HTL.out).mono ?_; rintro e w2 ⟨rfl, hb⟩; rw [← HMB.out]; have HB2 := hid (below_trans HB.out hb (Nat.le_refl _)); have HW2 := hid (HW.out.below hb); have HR2 := hid (HR.out.below hb); have HPS2 := hid (HPT.out.ext (Ext.below hb)); clear hb c0; rcases hmb : matchB l kk s)
      · have HE3 : Hid (B = bestTo l kk (ss.drop (j + 1)) (bw, fd)) := by have := HE2.out; rw [hmb] at this; exact this
        go_roundg (ss.length - (j + 1))
        case measure => have := GK.out; omega
        case rel => exact ⟨j + 1, bw, fd, rfl, by omega, by go_num, rfl, HZ.out, HE3.out, HW2.out, HR2.out, HB2.out⟩
      · have HE3 : Hid (B = bestTo l kk (ss.drop (j + 1)) (if 0 < cmp3 (wts s) bw then wts s else bw, true)) := by have := HE2.out; rw [hmb] at this; exact this
        clear HE2 HE HMB hmb
        have hdr : ∀ n, Hid (Below w2.heap.size w2 (w2.drewN n)) := fun n => below_dN (Below.refl _ _) n
        cases fd with
        | false =>
          obtain rfl := HZ.out rfl
          have HE4 : Hid (B = bestTo l kk (ss.drop (j + 1)) (wts s, true)) := by have := HE3.out; rw [cmp3_first] at this; exact this
          clear HE3 HZ
          go_quiet (fail)
          go_wp2_with (go_at_call 81; refine (rweigh_any _ s _ (HPS2.out.ext (Ext.below (hdr _).out)) HSM.out HWS.out).mono ?_; rintro e w3 ⟨rfl, hb⟩; have HB3 := hid (below_trans (below_dN HB2.out _) hb (Nat.le_refl _)); have HW3 := hid ((HW2.out.below (hdr _).out).below hb); have HR3 := hid ((HR2.out.below (hdr _).out).below hb); obtain ⟨z0, z1, z2⟩ := HW3.out.cell; obtain ⟨f0, f1, f2⟩ := HW3.out.fz; clear hb; simp only [wtV])
          go_roundg (ss.length - (j + 1))
          case measure => have := GK.out; omega
          case rel => exact ⟨j + 1, wts s, true, rfl, by omega, by go_num, rfl, nofun, HE4.out, ((HW3.out.set0 (wts s).a).set1 (wts s).b).set2 (wts s).c, ((HR3.out.other (by simp) _).other (by simp) _).other (by simp) _, ((HB3.out.setCell (by simp; omega) _).setCell (by simp; omega) _).setCell (by simp; omega) _⟩
        | true =>
          have hd1 : Hid (Below w2.heap.size w2 w2.drew) := (Below.refl _ _).drew
          obtain ⟨z0, z1, z2⟩ := HW2.out.cell
          obtain ⟨v0, v1, v2⟩ := (HW2.out.below hd1.out).cell
          have HLS := hid (cmp3_turn (wts s) bw)
          go_region_with (first
            | (go_at_call 81; go_must (refine (rweigh_any _ s _ (HPS2.out.ext (Ext.below hd1.out)) HSM.out HWS.out).mono ?_; rintro e w3 ⟨rfl, hb⟩; obtain ⟨y0, y1, y2⟩ := ((HW2.out.below hd1.out).below hb).cell; have HB3 := hid (below_trans HB2.out.drew hb (Nat.le_refl _)); have HW3 := hid ((HW2.out.below hd1.out).below hb); have HR3 := hid ((HR2.out.below hd1.out).below hb); have HPS3 := hid ((HPS2.out.ext (Ext.below hd1.out)).ext (Ext.below hb)); clear hb; simp only [wtV]))
            | (go_at_call 80; go_must (refine (less_any bw (wts s) _).mono ?_; rintro e w4 ⟨rfl, hb4⟩; have HB4 := hid (below_trans HB3.out hb4 (Nat.le_refl _)); have HW4 := hid (HW3.out.below hb4); have HR4 := hid (HR3.out.below hb4); have HPS4 := hid (HPS3.out.ext (Ext.below hb4)); clear hb4)))
          all_goals
            clear z0 z1 z2 v0 v1 v2 y0 y1 y2
            by_cases hc : cmp3 bw (wts s) < 0
            · have HE4 : Hid (B = bestTo l kk (ss.drop (j + 1)) (wts s, true)) := by have := HE3.out; rw [if_pos (HLS.out.2 hc)] at this; exact this
              have hc2 : decide (cmp3 bw (wts s) < 0) = true := decide_eq_true hc
              go_wp2_with (go_at_call 81; refine (rweigh_any _ s _ HPS4.out HSM.out HWS.out).mono ?_; rintro e w5 ⟨rfl, hb⟩; have HB5 := hid (below_trans HB4.out hb (Nat.le_refl _)); have HW5 := hid (HW4.out.below hb); have HR5 := hid (HR4.out.below hb); obtain ⟨z0, z1, z2⟩ := HW5.out.cell; obtain ⟨f0, f1, f2⟩ := HW5.out.fz; clear hb; simp only [wtV])
              go_roundg (ss.length - (j + 1))
              case measure => have := GK.out; omega
              case rel => exact ⟨j + 1, wts s, true, rfl, by omega, by go_num, rfl, nofun, HE4.out, ((HW5.out.set0 (wts s).a).set1 (wts s).b).set2 (wts s).c, ((HR5.out.other (by simp) _).other (by simp) _).other (by simp) _, ((HB5.out.setCell (by simp; omega) _).setCell (by simp; omega) _).setCell (by simp; omega) _⟩
            · have HE4 : Hid (B = bestTo l kk (ss.drop (j + 1)) (bw, true)) := by have := HE3.out; rw [if_neg (fun h => hc (HLS.out.1 h))] at this; exact this
              have hc2 : decide (cmp3 bw (wts s) < 0) = false := decide_eq_false hc
              go_wp2_with fail
              go_roundg (ss.length - (j + 1))
              case measure => have := GK.out; omega
              case rel => exact ⟨j + 1, bw, true, rfl, by omega, by go_num, rfl, nofun, HE4.out, HW4.out, HR4.out, HB4.out⟩
    · have HE4 : Hid (B = (bw, fd)) := by
        show B = _
        rw [HE.out, List.drop_eq_nil_of_le (by omega)]; rfl
      obtain ⟨ba, bb, bc⟩ := bw
      obtain ⟨z0, z1, z2⟩ := HW.out.cell
      obtain ⟨r0, r1, r2⟩ := HR.out.cell
      obtain ⟨f0, f1, f2⟩ := HR.out.fz
      go_wp2_with fail
      obtain ⟨q0, q1, q2⟩ := (((HR.out.set0 ba).set1 bb).set2 bc).cell
      refine bodyPost_ret (v := bestV (⟨ba, bb, bc⟩, fd)) (by simp [results, Tryz.results47, go_sem, q0, q1, q2, bestV, wtV]) rfl ⟨by rw [HE4.out], ?_⟩
      exact ((HB.out.setCell (by simp) _).setCell (by simp) _).setCell (by simp) _
end Go.Proofs.YtblkldfokeeaeacGreatDoor.Rf
namespace Go.Proofs.YtblkldfokeeaeacGreatDoor
open Go.RowKit
def Far (L : List UInt8) (i at_ : Nat) (out : List ByteArray) : Prop := words L = out.map (·.data.toList) ++ glue ((L.drop at_).take (i - at_)) (words (L.drop i))
theorem far_start (L : List UInt8) : Far L 0 0 [] := by
  show words L = [] ++ glue [] (words L)
  rw [glue_nil (words_ne _)]
  rfl
theorem far_blank {v : ByteArray} {i at_ : Nat} {out : List ByteArray} (h : Far v.data.toList i at_ out) (hi : i < v.data.toList.length) (hb : v.data.toList[i] = 32) : Far v.data.toList (i + 1) (i + 1) (out ++ [v.extract at_ i]) := by
  unfold Far at h ⊢
  rw [h, List.drop_eq_getElem_cons hi, hb]
  rw [show words (32 :: v.data.toList.drop (i + 1)) = [] :: words (v.data.toList.drop (i + 1)) by simp [words]]
  rw [Nat.sub_self, List.take_zero, glue_nil (words_ne _), List.map_append, List.append_assoc]
  congr 1
  simp only [glue, List.append_nil, List.map_cons, List.map_nil, List.singleton_append]
  congr 1
  rw [ByteArray.data_extract]
  simp [Array.toList_extract, List.extract]
theorem far_other {v : ByteArray} {i at_ : Nat} {out : List ByteArray} (h : Far v.data.toList i at_ out) (hi : i < v.data.toList.length) (ha : at_ ≤ i) (hb : v.data.toList[i] ≠ 32) : Far v.data.toList (i + 1) at_ out := by
  unfold Far at h ⊢
  rw [h, List.drop_eq_getElem_cons hi]
  rw [show words (v.data.toList[i] :: v.data.toList.drop (i + 1)) = glue [v.data.toList[i]] (words (v.data.toList.drop (i + 1))) by rw [words, if_neg hb]]
  rw [glue_glue]
  congr 2
  rw [show i + 1 - at_ = (i - at_) + 1 by omega, List.take_succ_eq_append_getElem (by rw [List.length_drop]; omega), List.getElem_drop]
  congr 3
  omega
theorem far_end {v : ByteArray} {at_ : Nat} {out : List ByteArray} (h : Far v.data.toList v.data.toList.length at_ out) : (out ++ [v.extract at_ v.size]).map (·.data.toList) = words v.data.toList := by
  unfold Far at h
  rw [h, List.drop_of_length_le (Nat.le_refl _), List.map_append]
  congr 1
  simp only [words, glue, List.append_nil, List.map_cons, List.map_nil]
  congr 1
  rw [ByteArray.data_extract]
  simp [Array.toList_extract, List.extract]
theorem flat_app (l : List ByteArray) (x : ByteArray) : (l ++ [x]).flatMap encB = l.flatMap encB ++ [.string x] := by
  rw [List.flatMap_append]; rfl
set_option maxRecDepth 100000 in
set_option maxHeartbeats 4000000 in
theorem words_any (v : ByteArray) (w : World) (hs : v.size ≤ lim) :
    Calls Tryz.prog 82 #[.string v] w fun e w' => ∃ (a : Option Addr) (c : Nat) (l : List ByteArray), e = .returned (.slice a l.length c) ∧ BsAt w' (.slice a l.length c) l ∧ l.map (·.data.toList) = words v.data.toList ∧ Below w.heap.size w w' := by
  unfold lim at hs
  go_enter Tryz.func82, Tryz.ntmps82
  go_wp2_with fail
  go_loopg [3, 4, 8] v.size (fun n o t i wr => ∃ (k a : Nat) (out : List ByteArray), n = v.size - k ∧ k ≤ v.size ∧ a ≤ k ∧ out.length ≤ k ∧ t = .int .i64 (a : Int) ∧ i = .int .i64 (k : Int) ∧ Far v.data.toList k a out ∧ wr.ownsRow w.heap.size 9 1 o out.length (out.flatMap encB) ∧ Below w.heap.size w wr)
  case atStart => exact ⟨0, 0, [], rfl, Nat.zero_le _, Nat.le_refl _, Nat.le_refl _, rfl, rfl, far_start _, World.ownsRow_nil _ _ _ _, Below.refl _ _⟩
  case round =>
    obtain ⟨k, a, out, hn, hk, hak, hol, rfl, rfl, hF, hO, hB⟩ := hrel
    have GK := hid hn
    have HO := hid hO
    have HB := hid hB
    have HF := hid hF
    rename World => wo
    obtain ⟨va, vc, rfl⟩ := own_form hO
    clear hn hO hB hF
    by_cases hlt : k < v.size
    · have hlt' : k < v.data.toList.length := by rw [← Lib.size_eq]; exact hlt
      have hg : v.data.toList[k] = v[k] := by rw [Array.getElem_toList]; rfl
      have h8 : ((v[k].toNat : Int) == 32) = (v.data.toList[k] == 32) := by
        rw [hg, Bool.eq_iff_iff]
        simp only [beq_iff_eq]
        constructor
        · intro h
          apply UInt8.toNat_inj.1
          have : v[k].toNat = 32 := by omega
          rw [this]; rfl
        · intro h; rw [h]; rfl
      cases hq : (v.data.toList[k] == 32)
      · have HF2 := hid (far_other HF.out hlt' hak (by simpa using hq))
        rw [hq] at h8
        clear hq hg
        go_wp2_with fail
        go_roundg (v.size - (k + 1))
        case measure => have := GK.out; omega
        case rel => exact ⟨k + 1, a, out, rfl, by omega, by omega, by omega, rfl, by go_num, HF2.out, HO.out, HB.out⟩
      · have HF2 := hid (far_blank HF.out hlt' (by simpa using hq))
        rw [hq] at h8
        clear hq hg
        go_wp2_with (at_builtin; refine wpList_app rfl (.tmp 15) (.tmp 20) 32 rfl w.heap.size 9 _ 1 16 Tryz.underlying32 Tryz.infoS rfl (by decide) (.slice va out.length vc) out.length (out.flatMap encB) rfl (HO.out.alloc _) _ 1 [.string (v.extract a k)] rfl (.inr ⟨_, 1, rfl, World.news_of_block (heap_alloc_new _ _)⟩) rfl (by simp [Value.oneCell']) (by unfold maxLen; omega) (by omega) (HB.out.alloc HB.out.size _).size ?_; intro v3 w3 hv3 hg3)
        have HB3 : Hid (Below w.heap.size w w3) := (HB.out.alloc HB.out.size _).grown hg3 (HB.out.alloc HB.out.size _).size (fun j hj => (HO.out.lt j hj).1)
        have HO3 : Hid (w3.ownsRow w.heap.size 9 1 v3 (out ++ [v.extract a k]).length ((out ++ [v.extract a k]).flatMap encB)) := by
          show World.ownsRow _ _ _ _ _ _ _
          rw [List.length_append, flat_app]
          exact hv3
        clear hv3 hg3
        go_roundg (v.size - (k + 1))
        case measure => have := GK.out; omega
        case rel => exact ⟨k + 1, k + 1, out ++ [v.extract a k], rfl, by omega, by omega, by simp; omega, by go_num, by go_num, HF2.out, HO3.out, HB3.out⟩
    · have hkv : k = v.size := by omega
      subst hkv
      have HF2 := hid (far_end (v := v) (at_ := a) (out := out) (by rw [← Lib.size_eq]; exact HF.out))
      go_wp2_with (at_builtin; refine wpList_app rfl (.tmp 25) (.tmp 29) 32 rfl w.heap.size 9 _ 1 16 Tryz.underlying32 Tryz.infoS rfl (by decide) (.slice va out.length vc) out.length (out.flatMap encB) rfl (HO.out.alloc _) _ 1 [.string (v.extract a v.size)] rfl (.inr ⟨_, 1, rfl, World.news_of_block (heap_alloc_new _ _)⟩) rfl (by simp [Value.oneCell']) (by unfold maxLen; omega) (by omega) (HB.out.alloc HB.out.size _).size ?_; intro v3 w3 hv3 hg3)
      have HB3 : Hid (Below w.heap.size w w3) := (HB.out.alloc HB.out.size _).grown hg3 (HB.out.alloc HB.out.size _).size (fun j hj => (HO.out.lt j hj).1)
      have HO3 : Hid (w3.ownsRow w.heap.size 9 1 v3 (out ++ [v.extract a v.size]).length ((out ++ [v.extract a v.size]).flatMap encB)) := by
        show World.ownsRow _ _ _ _ _ _ _
        rw [List.length_append, flat_app]
        exact hv3
      clear hv3 hg3
      have HD := BsAt.own HO3.out
      obtain ⟨ra, rc, rfl⟩ := Sl.form HD
      go_ret
      exact ⟨ra, rc, out ++ [v.extract a v.size], rfl, HD, HF2.out, HB3.out⟩
end Go.Proofs.YtblkldfokeeaeacGreatDoor
