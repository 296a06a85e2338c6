/-
  What the document's own Best answers: the plain answer. Conditions: the elements and the selectors lie as they must, at most 2^20 of each, each kind a number of 64 bits, each name a text that may be.
-/
import Derived.Test.YtlodblcmpebfkaaDoorR5
import Derived.Test.YtlodblcmpebfkaaDoorMRule
namespace Go.Proofs.YtlodblcmpebfkaaDoor
open Go.RowKit

theorem cmp3_turn (x y : Wt) : (0 < cmp3 x y) ↔ (cmp3 y x < 0) := by
  unfold cmp3
  repeat' split
  all_goals omega
theorem cmp3_first (s : List Pt) : (if 0 < cmp3 (wts s) w00 then wts s else w00) = wts s := by
  by_cases h : 0 < cmp3 (wts s) w00
  · rw [if_pos h]
  · rw [if_neg h]
    unfold cmp3 wts w00 at *
    simp only at h ⊢
    simp only [Wt.mk.injEq]
    repeat' split at h
    all_goals omega

set_option maxRecDepth 100000 in
set_option maxHeartbeats 4000000 in
theorem rbest_any (lv : Value) (l : List Nd) (k : Int) (md : ByteArray) (ss : List (List Pt)) (ssv : Value) (da : Option Addr) (dn dc : Nat) (rf rt : Int) (w : World) (hl : NdsAt w lv l) (hs : SmNs l) (hS : SsAt w ssv ss) (hss : SmSs ss) (hwf : ∀ s ∈ ss, WfS s) :
    Calls Tryd.prog 10 #[lv, .int .i64 k, ruleV md ssv (.slice da dn dc) rf rt] w fun e w' => e = .returned (bestV (bestTo l k ss (w00, false))) ∧ Below w.heap.size w w' := by
  obtain ⟨sa, scap, rfl⟩ := Sl.form hS
  obtain ⟨la, lcap, rfl⟩ := Sl.form hl
  have hln := hs.1
  unfold lim at hln
  have HL := hid hl
  have HN := hid hs
  have HWF := hid hwf
  have HP := hid hS
  have HSS := hid hss.2
  have hsl := hss.1
  unfold lim at hsl
  clear hl hs hS hss hwf
  have HB0 : Hid (bestTo l k ss (w00, false) = bestTo l k (ss.drop 0) (w00, false)) := rfl
  generalize bestTo l k ss (w00, false) = B at *
  simp only [ruleV]
  go_enter Tryd.func10, Tryd.ntmps10
  go_wp2_with fail
  have W0 := WB.new ((w.alloc (.cells #[.string md, .slice sa ss.length scap, .slice da dn dc, .int .i64 rf, .int .i64 rt] 28)).alloc (.cells #[.int .i64 0, .int .i64 0, .int .i64 0] 35)) 0 0 0
  have R0 := (WB.new (w.alloc (.cells #[.string md, .slice sa ss.length scap, .slice da dn dc, .int .i64 rf, .int .i64 rt] 28)) 0 0 0).alloc (.cells #[.int .i64 0, .int .i64 0, .int .i64 0] 35)
  have hb0 : Below w.heap.size w (((w.alloc (.cells #[.string md, .slice sa ss.length scap, .slice da dn dc, .int .i64 rf, .int .i64 rt] 28)).alloc (.cells #[.int .i64 0, .int .i64 0, .int .i64 0] 35)).alloc (.cells #[.int .i64 0, .int .i64 0, .int .i64 0] 35)) := (((Below.refl _ _).alloc (Nat.le_refl _) _).alloc (by simp) _).alloc (by simp; omega) _
  rw [show ((w.alloc (.cells #[.string md, .slice sa ss.length scap, .slice da dn dc, .int .i64 rf, .int .i64 rt] 28)).alloc (.cells #[.int .i64 0, .int .i64 0, .int .i64 0] 35)).heap.size = w.heap.size + 1 + 1 by simp] at W0
  rw [show (w.alloc (.cells #[.string md, .slice sa ss.length scap, .slice da dn dc, .int .i64 rf, .int .i64 rt] 28)).heap.size = w.heap.size + 1 by simp] at R0
  have HW0 := hid W0
  have HR0 := hid R0
  have HBB := hid hb0
  clear W0 R0 hb0
  generalize ((w.alloc (.cells #[.string md, .slice sa ss.length scap, .slice da dn dc, .int .i64 rf, .int .i64 rt] 28)).alloc (.cells #[.int .i64 0, .int .i64 0, .int .i64 0] 35)).alloc (.cells #[.int .i64 0, .int .i64 0, .int .i64 0] 35) = W at *
  go_loopg [9, 15] ss.length (fun n f i wr => ∃ (j : Nat) (bw : Wt) (fd : Bool), n = ss.length - j ∧ j ≤ ss.length ∧ i = .int .i64 (j : Int) ∧ f = .bool fd ∧ (fd = false → bw = w00) ∧ B = bestTo l k (ss.drop j) (bw, fd) ∧ WB wr (w.heap.size + 1 + 1) bw.a bw.b bw.c ∧ WB wr (w.heap.size + 1) 0 0 0 ∧ Below w.heap.size w wr)
  case atStart => exact ⟨0, w00, false, rfl, Nat.zero_le _, rfl, rfl, fun _ => rfl, HB0.out, HW0.out, HR0.out, HBB.out⟩
  case round =>
    clear HW0 HR0 HBB HB0
    obtain ⟨j, bw, fd, hn, hj, rfl, rfl, hz, hE, hW, hR, hB⟩ := hrel
    have GK := hid hn
    have HE := hid hE
    have HZ := hid hz
    have HW := hid hW
    have HR := hid hR
    have HB := hid hB
    clear hn hz hE hW hR hB
    by_cases hlt : j < ss.length
    · obtain ⟨b, off, rfl, he⟩ := Sl.at (SsAt.ext HP.out (Ext.below HB.out)) hlt
      obtain ⟨pa, pc, c0, hps⟩ := he.cells
      rw [Nat.mul_one] at c0
      have HPS := hid hps
      have HSM := hid (HSS.out ss[j] (List.getElem_mem hlt))
      have HE2 : Hid (B = bestTo l k (ss.drop (j + 1)) (if matchB l k ss[j] then (if 0 < cmp3 (wts ss[j]) bw then wts ss[j] else bw, true) else (bw, fd))) := by
        show B = _
        rw [HE.out, List.drop_eq_getElem_cons hlt]; rfl
      clear he hps
      have HWS := hid (HWF.out ss[j] (List.getElem_mem hlt))
      generalize ss[j] = s at *
      have hsn := HSM.out.1
      unfold lim at hsn
      by_cases hk0 : k < 0
      · have HE3 : Hid (B = bestTo l k (ss.drop (j + 1)) (bw, fd)) := by
          have := HE2.out
          rw [show matchB l k s = false by simp [matchB, inB, Int.not_le.2 hk0]] at this
          exact this
        go_wp2_with fail
        go_roundg (ss.length - (j + 1))
        case measure => have := GK.out; omega
        case rel => exact ⟨j + 1, bw, fd, rfl, by omega, by go_num, rfl, HZ.out, HE3.out, HW.out, HR.out, HB.out⟩
      obtain ⟨kk, rfl⟩ : ∃ kk : Nat, k = kk := ⟨k.toNat, by omega⟩
      by_cases hkl : kk < l.length
      rotate_left
      · have HE3 : Hid (B = bestTo l kk (ss.drop (j + 1)) (bw, fd)) := by
          have := HE2.out
          rw [show matchB l kk s = false by simp [matchB, inB, hkl]] at this
          exact this
        have hge : (l.length : Int) ≤ (kk : Int) := by omega
        go_wp2_with fail
        go_roundg (ss.length - (j + 1))
        case measure => have := GK.out; omega
        case rel => exact ⟨j + 1, bw, fd, rfl, by omega, by go_num, rfl, HZ.out, HE3.out, HW.out, HR.out, HB.out⟩
      by_cases hs0 : s.length = 0
      · have HE3 : Hid (B = bestTo l kk (ss.drop (j + 1)) (bw, fd)) := by
          have := HE2.out
          rw [show matchB l kk s = false by simp [matchB, hs0]] at this
          exact this
        rw [hs0] at c0
        go_wp2_with fail
        go_roundg (ss.length - (j + 1))
        case measure => have := GK.out; omega
        case rel => exact ⟨j + 1, bw, fd, rfl, by omega, by go_num, rfl, HZ.out, HE3.out, HW.out, HR.out, HB.out⟩
      obtain ⟨t, ht⟩ : ∃ t, s.length = t + 1 := ⟨s.length - 1, by omega⟩
      have HMB : Hid (matchB l kk s = (partB l kk (ptAt s t) && rest l s t kk)) := by
        show _ = _
        simp [matchB, inB, hkl, ht, meansB]
      rw [ht] at c0 hsn
      have HPT : Hid (PsAt wr (.slice pa (t + 1) pc) s) := by rw [← ht]; exact HPS.out
      have HTL : Hid (t < s.length) := by show _ < _; omega
      have hk1 : ¬ ((l.length : Int) ≤ (kk : Int)) := by omega
      have ht0 : ((t : Int) + 1 == 0) = false := by simp; omega
      clear hs0 ht HPS
      go_wp2_with (go_at_call 17; refine (rmeans_any _ _ l s HN.out HSM.out HWS.out t kk wr (HL.out.ext (Ext.below HB.out)) HPT.out hkl HTL.out).mono ?_; rintro e w2 ⟨rfl, hb⟩; rw [← HMB.out]; have HB2 := hid (below_trans HB.out hb (Nat.le_refl _)); have HW2 := hid (HW.out.below hb); have HR2 := hid (HR.out.below hb); have HPS2 := hid (HPT.out.ext (Ext.below hb)); clear hb c0; rcases hmb : matchB l kk s)
      · have HE3 : Hid (B = bestTo l kk (ss.drop (j + 1)) (bw, fd)) := by have := HE2.out; rw [hmb] at this; exact this
        go_roundg (ss.length - (j + 1))
        case measure => have := GK.out; omega
        case rel => exact ⟨j + 1, bw, fd, rfl, by omega, by go_num, rfl, HZ.out, HE3.out, HW2.out, HR2.out, HB2.out⟩
      · have HE3 : Hid (B = bestTo l kk (ss.drop (j + 1)) (if 0 < cmp3 (wts s) bw then wts s else bw, true)) := by have := HE2.out; rw [hmb] at this; exact this
        clear HE2 HE HMB hmb
        have hdr : ∀ n, Hid (Below w2.heap.size w2 (w2.drewN n)) := fun n => below_dN (Below.refl _ _) n
        cases fd with
        | false =>
          obtain rfl := HZ.out rfl
          have HE4 : Hid (B = bestTo l kk (ss.drop (j + 1)) (wts s, true)) := by have := HE3.out; rw [cmp3_first] at this; exact this
          clear HE3 HZ
          go_quiet (fail)
          go_wp2_with (go_at_call 8; refine (rweigh_any _ s _ (HPS2.out.ext (Ext.below (hdr _).out)) HSM.out HWS.out).mono ?_; rintro e w3 ⟨rfl, hb⟩; have HB3 := hid (below_trans (below_dN HB2.out _) hb (Nat.le_refl _)); have HW3 := hid ((HW2.out.below (hdr _).out).below hb); have HR3 := hid ((HR2.out.below (hdr _).out).below hb); obtain ⟨z0, z1, z2⟩ := HW3.out.cell; obtain ⟨f0, f1, f2⟩ := HW3.out.fz; clear hb; simp only [wtV])
          go_roundg (ss.length - (j + 1))
          case measure => have := GK.out; omega
          case rel => exact ⟨j + 1, wts s, true, rfl, by omega, by go_num, rfl, nofun, HE4.out, ((HW3.out.set0 (wts s).a).set1 (wts s).b).set2 (wts s).c, ((HR3.out.other (by simp) _).other (by simp) _).other (by simp) _, ((HB3.out.setCell (by simp; omega) _).setCell (by simp; omega) _).setCell (by simp; omega) _⟩
        | true =>
          have hd1 : Hid (Below w2.heap.size w2 w2.drew) := (Below.refl _ _).drew
          obtain ⟨z0, z1, z2⟩ := HW2.out.cell
          obtain ⟨v0, v1, v2⟩ := (HW2.out.below hd1.out).cell
          have HLS := hid (cmp3_turn (wts s) bw)
          go_region_with (first
            | (go_at_call 8; go_must (refine (rweigh_any _ s _ (HPS2.out.ext (Ext.below hd1.out)) HSM.out HWS.out).mono ?_; rintro e w3 ⟨rfl, hb⟩; obtain ⟨y0, y1, y2⟩ := ((HW2.out.below hd1.out).below hb).cell; have HB3 := hid (below_trans HB2.out.drew hb (Nat.le_refl _)); have HW3 := hid ((HW2.out.below hd1.out).below hb); have HR3 := hid ((HR2.out.below hd1.out).below hb); have HPS3 := hid ((HPS2.out.ext (Ext.below hd1.out)).ext (Ext.below hb)); clear hb; simp only [wtV]))
            | (go_at_call 18; go_must (refine (less_any bw (wts s) _).mono ?_; rintro e w4 ⟨rfl, hb4⟩; have HB4 := hid (below_trans HB3.out hb4 (Nat.le_refl _)); have HW4 := hid (HW3.out.below hb4); have HR4 := hid (HR3.out.below hb4); have HPS4 := hid (HPS3.out.ext (Ext.below hb4)); clear hb4)))
          all_goals
            clear z0 z1 z2 v0 v1 v2 y0 y1 y2
            by_cases hc : cmp3 bw (wts s) < 0
            · have HE4 : Hid (B = bestTo l kk (ss.drop (j + 1)) (wts s, true)) := by have := HE3.out; rw [if_pos (HLS.out.2 hc)] at this; exact this
              have hc2 : decide (cmp3 bw (wts s) < 0) = true := decide_eq_true hc
              go_wp2_with (go_at_call 8; refine (rweigh_any _ s _ HPS4.out HSM.out HWS.out).mono ?_; rintro e w5 ⟨rfl, hb⟩; have HB5 := hid (below_trans HB4.out hb (Nat.le_refl _)); have HW5 := hid (HW4.out.below hb); have HR5 := hid (HR4.out.below hb); obtain ⟨z0, z1, z2⟩ := HW5.out.cell; obtain ⟨f0, f1, f2⟩ := HW5.out.fz; clear hb; simp only [wtV])
              go_roundg (ss.length - (j + 1))
              case measure => have := GK.out; omega
              case rel => exact ⟨j + 1, wts s, true, rfl, by omega, by go_num, rfl, nofun, HE4.out, ((HW5.out.set0 (wts s).a).set1 (wts s).b).set2 (wts s).c, ((HR5.out.other (by simp) _).other (by simp) _).other (by simp) _, ((HB5.out.setCell (by simp; omega) _).setCell (by simp; omega) _).setCell (by simp; omega) _⟩
            · have HE4 : Hid (B = bestTo l kk (ss.drop (j + 1)) (bw, true)) := by have := HE3.out; rw [if_neg (fun h => hc (HLS.out.1 h))] at this; exact this
              have hc2 : decide (cmp3 bw (wts s) < 0) = false := decide_eq_false hc
              go_wp2_with fail
              go_roundg (ss.length - (j + 1))
              case measure => have := GK.out; omega
              case rel => exact ⟨j + 1, bw, true, rfl, by omega, by go_num, rfl, nofun, HE4.out, HW4.out, HR4.out, HB4.out⟩
    · have HE4 : Hid (B = (bw, fd)) := by
        show B = _
        rw [HE.out, List.drop_eq_nil_of_le (by omega)]; rfl
      obtain ⟨ba, bb, bc⟩ := bw
      obtain ⟨z0, z1, z2⟩ := HW.out.cell
      obtain ⟨r0, r1, r2⟩ := HR.out.cell
      obtain ⟨f0, f1, f2⟩ := HR.out.fz
      go_wp2_with fail
      obtain ⟨q0, q1, q2⟩ := (((HR.out.set0 ba).set1 bb).set2 bc).cell
      refine bodyPost_ret (v := bestV (⟨ba, bb, bc⟩, fd)) (by simp [results, Tryd.results10, go_sem, q0, q1, q2, bestV, wtV]) rfl ⟨by rw [HE4.out], ?_⟩
      exact ((HB.out.setCell (by simp) _).setCell (by simp) _).setCell (by simp) _
end Go.Proofs.YtlodblcmpebfkaaDoor
