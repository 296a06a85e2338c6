/-
  Matches, Weigh and Best answer as the document's own: the walk of the statement's function. Conditions: the elements and the selectors lie as they must, at most 2^20 of each, each kind a number of 64 bits, each name a text that may be.
-/
import Derived.Test.YtlodblcmpebfkaaDoorR8
import Derived.Test.YtlodblcmpebfkaaDoorMA
namespace Go.Proofs.YtlodblcmpebfkaaDoor
open Go.RowKit

theorem wne (a b c : Int) (w : World) : (binOp .neq 35 (.agg #[.int .i64 a, .int .i64 b, .int .i64 c]) (.agg #[.int .i64 a, .int .i64 b, .int .i64 c])).run Tryd.prog w = .ok (.bool false) w := by
  rw [run_neq_struct, weqIn 9998]
  simp

set_option maxRecDepth 100000 in
set_option maxHeartbeats 8000000 in
theorem matchTells_any (lv : Value) (l : List Nd) (k : Int) (md : ByteArray) (ss : List (List Pt)) (ssv : Value) (da : Option Addr) (dn dc : Nat) (rf rt : Int) (w : World) (hl : NdsAt w lv l) (hs : SmNs l) (hm : Mx w) (hS : SsAt w ssv ss) (hss : SmSs ss) (hwf : ∀ s ∈ ss, WfS s) :
    Calls Tryd.prog 3 #[lv, .int .i64 k, ruleV md ssv (.slice da dn dc) rf rt] w fun e w' => e = .returned (.bool true) ∧ Below w.heap.size w w' := by
  obtain ⟨sa, scap, rfl⟩ := Sl.form hS
  obtain ⟨la, lcap, rfl⟩ := Sl.form hl
  have HL := hid hl
  have HN := hid hs
  have HM := hid hm
  have HP := hid hS
  have HSS := hid hss
  have HWF := hid hwf
  have hsl := hss.1
  have hln := hs.1
  unfold lim at hsl hln
  clear hl hs hm hS hss hwf
  have hwe := weq
  have hwn := wne
  simp only [ruleV]
  go_enter Tryd.func3, Tryd.ntmps3
  go_wp2_with fail
  have HB0 : Hid (Below w.heap.size w (w.alloc (.cells #[.string md, .slice sa ss.length scap, .slice da dn dc, .int .i64 rf, .int .i64 rt] 28))) := (Below.refl _ _).alloc (Nat.le_refl _) _
  have r0 := cell_new w #[.string md, .slice sa ss.length scap, .slice da dn dc, .int .i64 rf, .int .i64 rt] 28
  have RC : Hid (∀ j, (w.alloc (.cells #[.string md, .slice sa ss.length scap, .slice da dn dc, .int .i64 rf, .int .i64 rt] 28)).cell? ⟨w.heap.size, j, none⟩ = (#[Value.string md, .slice sa ss.length scap, .slice da dn dc, .int .i64 rf, .int .i64 rt])[j]?) := r0
  clear r0
  generalize w.alloc (.cells #[.string md, .slice sa ss.length scap, .slice da dn dc, .int .i64 rf, .int .i64 rt] 28) = W at *
  go_loopg [16] ss.length (fun n i wr => ∃ j : Nat, n = ss.length - j ∧ j ≤ ss.length ∧ i = .int .i64 (j : Int) ∧ Below W.heap.size W wr)
  case atStart => exact ⟨0, rfl, Nat.zero_le _, rfl, Below.refl _ _⟩
  case round =>
    obtain ⟨j, hn, hj, rfl, hB⟩ := hrel
    have GK := hid hn
    have HX := hid hB
    have HB := hid (below_trans HB0.out hB (Nat.le_refl _))
    clear hn hB
    by_cases hlt : j < ss.length
    · obtain ⟨b, off, rfl, he⟩ := Sl.at (SsAt.ext HP.out (Ext.below HB.out)) hlt
      obtain ⟨pa, pc, c0, hps⟩ := he.cells
      rw [Nat.mul_one] at c0
      have HPS := hid hps
      have HSM := hid (HSS.out.2 ss[j] (List.getElem_mem hlt))
      have HWS := hid (HWF.out ss[j] (List.getElem_mem hlt))
      clear he hps
      generalize ss[j] = s at *
      go_wp2_with fail
      refine (matches_any _ l k _ s wr (HL.out.ext (Ext.below HB.out)) HN.out (HM.out.ext (Ext.below HB.out)) HPS.out HSM.out).mono ?_
      rintro e w2 ⟨rfl, hb⟩
      have HB2 := hid (below_trans HB.out hb (Nat.le_refl _))
      have HX2 := hid (below_trans HX.out hb (Nat.le_refl _))
      have HPS2 := hid (HPS.out.ext (Ext.below hb))
      clear hb c0
      by_cases hk0 : k < 0
      · rw [show matchB l k s = false by simp [matchB, inB, Int.not_le.2 hk0]]
        go_wp2_with (first
          | (go_at_call 7; refine (weigh_any _ s w2 HPS2.out HSM.out).mono ?_; rintro e w4 ⟨rfl, hb⟩; have HC4 := hid hb; clear hb; simp only [wtV])
          | (go_at_call 8; refine (rweigh_any _ s w4 (HPS2.out.ext (Ext.below HC4.out)) HSM.out HWS.out).mono ?_; rintro e w5 ⟨rfl, hb⟩; have HC5 := hid (below_trans HC4.out hb (Nat.le_refl _)); clear hb; simp only [wtV]))
        go_roundg (ss.length - (j + 1))
        case measure => have := GK.out; omega
        case rel => exact ⟨j + 1, rfl, by omega, by go_num, below_trans HX2.out HC5.out (Nat.le_refl _)⟩
      obtain ⟨kk, rfl⟩ : ∃ kk : Nat, k = kk := ⟨k.toNat, by omega⟩
      by_cases hkl : kk < l.length
      · have HMV0 : Hid ((decide (0 < s.length) && meansB l kk s) = matchB l kk s) := by
          show _ = _
          simp [matchB, inB, hkl]
        cases hmb : matchB l kk s
        · have HMV : Hid ((decide (0 < s.length) && meansB l kk s) = false) := HMV0.out.trans hmb
          clear HMV0 hmb
          go_wp2_with (first
            | (go_at_call 6; refine (rmeant_any _ _ l s w2 HN.out HSM.out HWS.out (HL.out.ext (Ext.below HB2.out)) HPS2.out).mono ?_; rintro e w3 ⟨T, rfl, hF, hb⟩; have f0 := hF.cell hkl; rw [HMV.out] at f0; have HC3 := hid hb; clear hb hF)
            | (go_at_call 7; refine (weigh_any _ s w3 (HPS2.out.ext (Ext.below HC3.out)) HSM.out).mono ?_; rintro e w4 ⟨rfl, hb⟩; have HC4 := hid (below_trans HC3.out hb (Nat.le_refl _)); clear hb; simp only [wtV])
            | (go_at_call 8; refine (rweigh_any _ s w4 (HPS2.out.ext (Ext.below HC4.out)) HSM.out HWS.out).mono ?_; rintro e w5 ⟨rfl, hb⟩; have HC5 := hid (below_trans HC4.out hb (Nat.le_refl _)); clear hb; simp only [wtV]))
          go_roundg (ss.length - (j + 1))
          case measure => have := GK.out; omega
          case rel => exact ⟨j + 1, rfl, by omega, by go_num, below_trans HX2.out HC5.out (Nat.le_refl _)⟩
        · have HMV : Hid ((decide (0 < s.length) && meansB l kk s) = true) := HMV0.out.trans hmb
          clear HMV0 hmb
          go_wp2_with (first
            | (go_at_call 6; refine (rmeant_any _ _ l s w2 HN.out HSM.out HWS.out (HL.out.ext (Ext.below HB2.out)) HPS2.out).mono ?_; rintro e w3 ⟨T, rfl, hF, hb⟩; have f0 := hF.cell hkl; rw [HMV.out] at f0; have HC3 := hid hb; clear hb hF)
            | (go_at_call 7; refine (weigh_any _ s w3 (HPS2.out.ext (Ext.below HC3.out)) HSM.out).mono ?_; rintro e w4 ⟨rfl, hb⟩; have HC4 := hid (below_trans HC3.out hb (Nat.le_refl _)); clear hb; simp only [wtV])
            | (go_at_call 8; refine (rweigh_any _ s w4 (HPS2.out.ext (Ext.below HC4.out)) HSM.out HWS.out).mono ?_; rintro e w5 ⟨rfl, hb⟩; have HC5 := hid (below_trans HC4.out hb (Nat.le_refl _)); clear hb; simp only [wtV]))
          go_roundg (ss.length - (j + 1))
          case measure => have := GK.out; omega
          case rel => exact ⟨j + 1, rfl, by omega, by go_num, below_trans HX2.out HC5.out (Nat.le_refl _)⟩
      · rw [show matchB l kk s = false by simp [matchB, inB, hkl]]
        have hge : ¬ ((kk : Int) < (l.length : Int)) := by omega
        go_wp2_with (first
          | (go_at_call 7; refine (weigh_any _ s w2 HPS2.out HSM.out).mono ?_; rintro e w4 ⟨rfl, hb⟩; have HC4 := hid hb; clear hb; simp only [wtV])
          | (go_at_call 8; refine (rweigh_any _ s w4 (HPS2.out.ext (Ext.below HC4.out)) HSM.out HWS.out).mono ?_; rintro e w5 ⟨rfl, hb⟩; have HC5 := hid (below_trans HC4.out hb (Nat.le_refl _)); clear hb; simp only [wtV]))
        go_roundg (ss.length - (j + 1))
        case measure => have := GK.out; omega
        case rel => exact ⟨j + 1, rfl, by omega, by go_num, below_trans HX2.out HC5.out (Nat.le_refl _)⟩
    · have RB : Hid (∀ w', Below w.heap.size w w' → Calls Tryd.prog 10 #[.slice la l.length lcap, .int .i64 k, .agg #[.string md, .slice sa ss.length scap, .slice da dn dc, .int .i64 rf, .int .i64 rt]] w' fun e w'' => e = .returned (bestV (bestTo l k ss (w00, false))) ∧ Below w'.heap.size w' w'') :=
        fun w' hb => rbest_any _ l k md ss _ da dn dc rf rt w' (HL.out.ext (Ext.below hb)) HN.out (HP.out.ext (Ext.below hb)) HSS.out HWF.out
      have c0 := Ext.below HX.out _ _ _ (RC.out 0)
      have c1 := Ext.below HX.out _ _ _ (RC.out 1)
      have c2 := Ext.below HX.out _ _ _ (RC.out 2)
      have c3 := Ext.below HX.out _ _ _ (RC.out 3)
      have c4 := Ext.below HX.out _ _ _ (RC.out 4)
      go_wp2_with fail
      refine (best_any _ l k md ss _ da dn dc rf rt wr (HL.out.ext (Ext.below HB.out)) HN.out (HM.out.ext (Ext.below HB.out)) (HP.out.ext (Ext.below HB.out)) HSS.out).mono ?_
      rintro e w2 ⟨rfl, hb⟩
      have HX2 := hid (below_trans HX.out hb (Nat.le_refl _))
      have HB2 := hid (below_trans HB.out hb (Nat.le_refl _))
      clear hb c0 c1 c2 c3 c4
      generalize bestTo l k ss (w00, false) = B at *
      obtain ⟨bw, fd⟩ := B
      obtain ⟨ba, bb, bc⟩ := bw
      simp only [bestV, wtV] at RB ⊢
      have c0 := Ext.below HX2.out _ _ _ (RC.out 0)
      have c1 := Ext.below HX2.out _ _ _ (RC.out 1)
      have c2 := Ext.below HX2.out _ _ _ (RC.out 2)
      have c3 := Ext.below HX2.out _ _ _ (RC.out 3)
      have c4 := Ext.below HX2.out _ _ _ (RC.out 4)
      have hws := lt_of_cell c1
      have HY := hid (WB.new w2 ba bb bc)
      have HB3 := hid (HB2.out.alloc HB2.out.size (.cells #[.int .i64 ba, .int .i64 bb, .int .i64 bc] 35))
      go_wp2_with fail
      refine (RB.out _ HB3.out).mono ?_
      rintro e w3 ⟨rfl, hb⟩
      have HB4 := hid (below_trans HB3.out hb (Nat.le_refl _))
      obtain ⟨y0, y1, y2⟩ := (HY.out.below hb).cell
      have hy := (HY.out.below hb).lt
      clear hb c0 c1 c2 c3 c4
      go_wp2_with fail
      go_ret
      exact ⟨ret_bool (by simp), HB4.out.alloc HB4.out.size _⟩
end Go.Proofs.YtlodblcmpebfkaaDoor
