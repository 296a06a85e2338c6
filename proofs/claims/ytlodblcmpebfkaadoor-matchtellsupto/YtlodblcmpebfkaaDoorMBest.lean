/-
  What slices.Compare answers of two weights, and what Best answers: the plain answers. Conditions: the elements and the selectors lie as they must, at most 2^20 of each.
-/
import Derived.Test.YtlodblcmpebfkaaDoorMA
namespace Go.Proofs.YtlodblcmpebfkaaDoor
open Go.RowKit

def cmpFrom (x y : Wt) : Nat → Int
  | 0 => cmp3 x y
  | 1 => if x.b < y.b then -1 else if y.b < x.b then 1 else if x.c < y.c then -1 else if y.c < x.c then 1 else 0
  | 2 => if x.c < y.c then -1 else if y.c < x.c then 1 else 0
  | _ => 0
theorem cmpInt_lt {a b : Int} (h : a < b) : Lib.compareInt a b = -1 := by simp [Lib.compareInt, h]
theorem cmpInt_gt {a b : Int} (h : b < a) : Lib.compareInt a b = 1 := by simp [Lib.compareInt, h]; omega
theorem cmpInt_eq (a : Int) : Lib.compareInt a a = 0 := by simp [Lib.compareInt]

set_option maxHeartbeats 2000000 in
theorem compare_any (T U : Nat) (x y : Wt) (w : World) (hx : WB w T x.a x.b x.c) (hy : WB w U y.a y.b y.c) :
    Calls Tryd.prog 16 #[.slice (some ⟨T, 0, none⟩) 3 3, .slice (some ⟨U, 0, none⟩) 3 3] w fun e w' => e = .returned (.int .i64 (cmp3 x y)) ∧ w' = w := by
  obtain ⟨x0, x1, x2⟩ := hx.cell
  obtain ⟨y0, y1, y2⟩ := hy.cell
  clear hx hy
  obtain ⟨a, b, c⟩ := x
  obtain ⟨p, q, r⟩ := y
  simp only at x0 x1 x2 y0 y1 y2
  have HC : Hid (cmp3 ⟨a, b, c⟩ ⟨p, q, r⟩ = cmpFrom ⟨a, b, c⟩ ⟨p, q, r⟩ 0) := rfl
  generalize cmp3 ⟨a, b, c⟩ ⟨p, q, r⟩ = R at *
  go_enter Tryd.func16, Tryd.ntmps16
  go_wp2_with fail
  go_loopg [11] 3 (fun n i wr => ∃ j : Nat, n = 3 - j ∧ j ≤ 3 ∧ i = .int .i64 (j : Int) ∧ R = cmpFrom ⟨a, b, c⟩ ⟨p, q, r⟩ j ∧ wr = w)
  case atStart => exact ⟨0, rfl, Nat.zero_le _, rfl, HC.out, rfl⟩
  case round =>
    obtain ⟨j, hn, hj, rfl, hR, hw⟩ := hrel
    subst hw
    have GK := hid hn
    have HR := hid hR
    clear hn hR
    by_cases h3 : j = 3
    · subst h3
      have HR2 : Hid (R = 0) := HR.out
      go_wp2_with fail
      go_ret
      exact ⟨ret_int HR2.out.symm, rfl⟩
    · have hj3 : j = 0 ∨ j = 1 ∨ j = 2 := by omega
      clear h3 hj
      rcases hj3 with rfl | rfl | rfl
      · rcases Int.lt_trichotomy a p with h | h | h
        · have HR2 : Hid (R = -1) := by have := HR.out; simpa [cmpFrom, cmp3, h, Hid] using this
          go_wp2_with (go_at_call 24; refine (Tryd.cmp_Compare_int _ _ _).mono ?_; rintro e w' ⟨rfl, rfl⟩; rw [cmpInt_lt h])
          go_ret
          exact ⟨ret_int HR2.out.symm, rfl⟩
        · subst h
          have HR2 : Hid (R = cmpFrom ⟨a, b, c⟩ ⟨a, q, r⟩ 1) := by have := HR.out; simpa [cmpFrom, cmp3, Hid] using this
          go_wp2_with (go_at_call 24; refine (Tryd.cmp_Compare_int _ _ _).mono ?_; rintro e w' ⟨rfl, rfl⟩; rw [cmpInt_eq])
          go_roundg 2
          case measure => have := GK.out; omega
          case rel => exact ⟨1, rfl, by omega, by go_num, HR2.out, rfl⟩
        · have HR2 : Hid (R = 1) := by have := HR.out; simpa [cmpFrom, cmp3, h, Int.not_lt.2 (Int.le_of_lt h), Hid] using this
          go_wp2_with (go_at_call 24; refine (Tryd.cmp_Compare_int _ _ _).mono ?_; rintro e w' ⟨rfl, rfl⟩; rw [cmpInt_gt h])
          go_ret
          exact ⟨ret_int HR2.out.symm, rfl⟩
      · rcases Int.lt_trichotomy b q with h | h | h
        · have HR2 : Hid (R = -1) := by have := HR.out; simpa [cmpFrom, h, Hid] using this
          go_wp2_with (go_at_call 24; refine (Tryd.cmp_Compare_int _ _ _).mono ?_; rintro e w' ⟨rfl, rfl⟩; rw [cmpInt_lt h])
          go_ret
          exact ⟨ret_int HR2.out.symm, rfl⟩
        · subst h
          have HR2 : Hid (R = cmpFrom ⟨a, b, c⟩ ⟨p, b, r⟩ 2) := by have := HR.out; simpa [cmpFrom, Hid] using this
          go_wp2_with (go_at_call 24; refine (Tryd.cmp_Compare_int _ _ _).mono ?_; rintro e w' ⟨rfl, rfl⟩; rw [cmpInt_eq])
          go_roundg 1
          case measure => have := GK.out; omega
          case rel => exact ⟨2, rfl, by omega, by go_num, HR2.out, rfl⟩
        · have HR2 : Hid (R = 1) := by have := HR.out; simpa [cmpFrom, h, Int.not_lt.2 (Int.le_of_lt h), Hid] using this
          go_wp2_with (go_at_call 24; refine (Tryd.cmp_Compare_int _ _ _).mono ?_; rintro e w' ⟨rfl, rfl⟩; rw [cmpInt_gt h])
          go_ret
          exact ⟨ret_int HR2.out.symm, rfl⟩
      · rcases Int.lt_trichotomy c r with h | h | h
        · have HR2 : Hid (R = -1) := by have := HR.out; simpa [cmpFrom, h, Hid] using this
          go_wp2_with (go_at_call 24; refine (Tryd.cmp_Compare_int _ _ _).mono ?_; rintro e w' ⟨rfl, rfl⟩; rw [cmpInt_lt h])
          go_ret
          exact ⟨ret_int HR2.out.symm, rfl⟩
        · subst h
          have HR2 : Hid (R = cmpFrom ⟨a, b, c⟩ ⟨p, q, c⟩ 3) := by have := HR.out; simpa [cmpFrom, Hid] using this
          go_wp2_with (go_at_call 24; refine (Tryd.cmp_Compare_int _ _ _).mono ?_; rintro e w' ⟨rfl, rfl⟩; rw [cmpInt_eq])
          go_roundg 0
          case measure => have := GK.out; omega
          case rel => exact ⟨3, rfl, by omega, by go_num, HR2.out, rfl⟩
        · have HR2 : Hid (R = 1) := by have := HR.out; simpa [cmpFrom, h, Int.not_lt.2 (Int.le_of_lt h), Hid] using this
          go_wp2_with (go_at_call 24; refine (Tryd.cmp_Compare_int _ _ _).mono ?_; rintro e w' ⟨rfl, rfl⟩; rw [cmpInt_gt h])
          go_ret
          exact ⟨ret_int HR2.out.symm, rfl⟩

theorem eS.cells {w : World} {b o : Nat} {x : List Pt} (h : eS w (fun j => w.cell? ⟨b, o + j, none⟩) x) : ∃ a cap, w.cell? ⟨b, o, none⟩ = some (.slice a x.length cap) ∧ PsAt w (.slice a x.length cap) x := by
  obtain ⟨v, h1, h2⟩ := h
  obtain ⟨a, cap, rfl⟩ := Sl.form h2
  exact ⟨a, cap, h1, h2⟩
def SmSs (ss : List (List Pt)) : Prop := ss.length ≤ lim ∧ ∀ s ∈ ss, SmS s
def ruleV (md : ByteArray) (ssv dcv : Value) (rf rt : Int) : Value := .agg #[.string md, ssv, dcv, .int .i64 rf, .int .i64 rt]
def bestV (b : Wt × Bool) : Value := .tuple #[wtV b.1, .bool b.2]

set_option maxRecDepth 100000 in
set_option maxHeartbeats 4000000 in
theorem best_any (lv : Value) (l : List Nd) (k : Int) (md : ByteArray) (ss : List (List Pt)) (ssv : Value) (da : Option Addr) (dn dc : Nat) (rf rt : Int) (w : World) (hl : NdsAt w lv l) (hs : SmNs l) (hm : Mx w) (hS : SsAt w ssv ss) (hss : SmSs ss) :
    Calls Tryd.prog 9 #[lv, .int .i64 k, ruleV md ssv (.slice da dn dc) rf rt] w fun e w' => e = .returned (bestV (bestTo l k ss (w00, false))) ∧ Below w.heap.size w w' := by
  obtain ⟨sa, scap, rfl⟩ := Sl.form hS
  have HL := hid hl
  have HN := hid hs
  have HM := hid hm
  have HP := hid hS
  have HSS := hid hss.2
  have hsl := hss.1
  unfold lim at hsl
  clear hl hs hm hS hss
  have HB0 : Hid (bestTo l k ss (w00, false) = bestTo l k (ss.drop 0) (w00, false)) := rfl
  generalize bestTo l k ss (w00, false) = B at *
  simp only [ruleV]
  go_enter Tryd.func9, Tryd.ntmps9
  go_wp2_with fail
  have W0 := WB.new ((w.alloc (.cells #[.string md, .slice sa ss.length scap, .slice da dn dc, .int .i64 rf, .int .i64 rt] 28)).alloc (.cells #[.int .i64 0, .int .i64 0, .int .i64 0] 35)) 0 0 0
  have R0 := (WB.new (w.alloc (.cells #[.string md, .slice sa ss.length scap, .slice da dn dc, .int .i64 rf, .int .i64 rt] 28)) 0 0 0).alloc (.cells #[.int .i64 0, .int .i64 0, .int .i64 0] 35)
  have hb0 : Below w.heap.size w (((w.alloc (.cells #[.string md, .slice sa ss.length scap, .slice da dn dc, .int .i64 rf, .int .i64 rt] 28)).alloc (.cells #[.int .i64 0, .int .i64 0, .int .i64 0] 35)).alloc (.cells #[.int .i64 0, .int .i64 0, .int .i64 0] 35)) := (((Below.refl _ _).alloc (Nat.le_refl _) _).alloc (by simp) _).alloc (by simp; omega) _
  rw [show ((w.alloc (.cells #[.string md, .slice sa ss.length scap, .slice da dn dc, .int .i64 rf, .int .i64 rt] 28)).alloc (.cells #[.int .i64 0, .int .i64 0, .int .i64 0] 35)).heap.size = w.heap.size + 1 + 1 by simp] at W0
  rw [show (w.alloc (.cells #[.string md, .slice sa ss.length scap, .slice da dn dc, .int .i64 rf, .int .i64 rt] 28)).heap.size = w.heap.size + 1 by simp] at R0
  have HW0 := hid W0
  have HR0 := hid R0
  have HBB := hid hb0
  clear W0 R0 hb0
  generalize ((w.alloc (.cells #[.string md, .slice sa ss.length scap, .slice da dn dc, .int .i64 rf, .int .i64 rt] 28)).alloc (.cells #[.int .i64 0, .int .i64 0, .int .i64 0] 35)).alloc (.cells #[.int .i64 0, .int .i64 0, .int .i64 0] 35) = W at *
  go_loopg [9, 16] ss.length (fun n f i wr => ∃ (j : Nat) (bw : Wt) (fd : Bool), n = ss.length - j ∧ j ≤ ss.length ∧ i = .int .i64 (j : Int) ∧ f = .bool fd ∧ B = bestTo l k (ss.drop j) (bw, fd) ∧ WB wr (w.heap.size + 1 + 1) bw.a bw.b bw.c ∧ WB wr (w.heap.size + 1) 0 0 0 ∧ Below w.heap.size w wr)
  case atStart => exact ⟨0, w00, false, rfl, Nat.zero_le _, rfl, rfl, HB0.out, HW0.out, HR0.out, HBB.out⟩
  case round =>
    clear HW0 HR0 HBB HB0
    obtain ⟨j, bw, fd, hn, hj, rfl, rfl, hE, hW, hR, hB⟩ := hrel
    have GK := hid hn
    have HE := hid hE
    have HW := hid hW
    have HR := hid hR
    have HB := hid hB
    clear hn hE hW hR hB
    by_cases hlt : j < ss.length
    · obtain ⟨b, off, rfl, he⟩ := Sl.at (SsAt.ext HP.out (Ext.below HB.out)) hlt
      obtain ⟨pa, pc, c0, hps⟩ := he.cells
      rw [Nat.mul_one] at c0
      have HPS := hid hps
      have HSM := hid (HSS.out ss[j] (List.getElem_mem hlt))
      have HE2 : Hid (B = bestTo l k (ss.drop (j + 1)) (if matchB l k ss[j] then (if 0 < cmp3 (wts ss[j]) bw then wts ss[j] else bw, true) else (bw, fd))) := by
        show B = _
        rw [HE.out, List.drop_eq_getElem_cons hlt]; rfl
      clear he hps
      generalize ss[j] = s at *
      go_wp2_with fail
      refine (matches_any lv l k _ s wr (HL.out.ext (Ext.below HB.out)) HN.out (HM.out.ext (Ext.below HB.out)) HPS.out HSM.out).mono ?_
      rintro e w2 ⟨rfl, hb⟩
      have HB2 := hid (below_trans HB.out hb (Nat.le_refl _))
      have HW2 := hid (HW.out.below hb)
      have HR2 := hid (HR.out.below hb)
      have HPS2 := hid (HPS.out.ext (Ext.below hb))
      clear hb c0
      cases hmb : matchB l k s
      · have HE3 : Hid (B = bestTo l k (ss.drop (j + 1)) (bw, fd)) := by have := HE2.out; rw [hmb] at this; exact this
        go_wp2_with fail
        go_roundg (ss.length - (j + 1))
        case measure => have := GK.out; omega
        case rel => exact ⟨j + 1, bw, fd, rfl, by omega, by go_num, rfl, HE3.out, HW2.out, HR2.out, HB2.out⟩
      · have HE3 : Hid (B = bestTo l k (ss.drop (j + 1)) (if 0 < cmp3 (wts s) bw then wts s else bw, true)) := by have := HE2.out; rw [hmb] at this; exact this
        go_wp2_with fail
        refine (weigh_any _ s w2 HPS2.out HSM.out).mono ?_
        rintro e w3 ⟨rfl, hb⟩
        have HB3 := hid (below_trans HB2.out hb (Nat.le_refl _))
        have HW3 := hid (HW2.out.below hb)
        have HR3 := hid (HR2.out.below hb)
        clear hb
        generalize wts s = x at *
        obtain ⟨xa, xb, xc⟩ := x
        obtain ⟨ba, bb, bc⟩ := bw
        simp only [wtV]
        go_wp2_with fail
        have HX4 := hid (WB.new w3 xa xb xc)
        have HW4 := hid (HW3.out.alloc (.cells #[.int .i64 xa, .int .i64 xb, .int .i64 xc] 35))
        have HR4 := hid (HR3.out.alloc (.cells #[.int .i64 xa, .int .i64 xb, .int .i64 xc] 35))
        have HB4 := hid (HB3.out.alloc HB3.out.size (.cells #[.int .i64 xa, .int .i64 xb, .int .i64 xc] 35))
        have hUT : w.heap.size + 1 + 1 < w3.heap.size := HW3.out.lt
        generalize w3.alloc (.cells #[.int .i64 xa, .int .i64 xb, .int .i64 xc] 35) = w4 at *
        generalize w3.heap.size = U at *
        obtain ⟨y0, y1, y2⟩ := HX4.out.cell
        have CC : ∀ n, Calls Tryd.prog 16 #[.slice (some ⟨U, 0, none⟩) 3 3, .slice (some ⟨w.heap.size + 1 + 1, 0, none⟩) 3 3] (w4.drewN n) fun e w' => e = .returned (.int .i64 (cmp3 ⟨xa, xb, xc⟩ ⟨ba, bb, bc⟩)) ∧ w' = w4.drewN n := fun n => compare_any U (w.heap.size + 1 + 1) ⟨xa, xb, xc⟩ ⟨ba, bb, bc⟩ (w4.drewN n) HX4.out HW4.out
        have HCC := hid CC
        clear CC
        by_cases hc : 0 < cmp3 ⟨xa, xb, xc⟩ ⟨ba, bb, bc⟩
        · have HE4 : Hid (B = bestTo l k (ss.drop (j + 1)) (⟨xa, xb, xc⟩, true)) := by have := HE3.out; rw [if_pos hc] at this; exact this
          generalize cmp3 ⟨xa, xb, xc⟩ ⟨ba, bb, bc⟩ = c at *
          go_quiet ((go_at_call 16; exact Calls.quiet_of_same (HCC.out _)))
          have HX5 : Hid (WB (w4.drewN nq) U xa xb xc) := HX4.out
          have HW5 : Hid (WB (w4.drewN nq) (w.heap.size + 1 + 1) ba bb bc) := HW4.out
          have HR5 : Hid (WB (w4.drewN nq) (w.heap.size + 1) 0 0 0) := HR4.out
          have HB5 := hid (below_dN HB4.out nq)
          clear HCC HX4 HW4 HR4 HB4 y0 y1 y2
          generalize w4.drewN nq = w5 at *
          obtain ⟨y0, y1, y2⟩ := HX5.out.cell
          obtain ⟨z0, z1, z2⟩ := HW5.out.cell
          obtain ⟨f0, f1, f2⟩ := HW5.out.fz
          go_wp2_with fail
          go_roundg (ss.length - (j + 1))
          case measure => have := GK.out; omega
          case rel => exact ⟨j + 1, ⟨xa, xb, xc⟩, true, rfl, by omega, by go_num, rfl, HE4.out, ((HW5.out.set0 xa).set1 xb).set2 xc, ((HR5.out.other (by simp) _).other (by simp) _).other (by simp) _, ((HB5.out.setCell (by simp; omega) _).setCell (by simp; omega) _).setCell (by simp; omega) _⟩
        · have HE4 : Hid (B = bestTo l k (ss.drop (j + 1)) (⟨ba, bb, bc⟩, true)) := by have := HE3.out; rw [if_neg hc] at this; exact this
          generalize cmp3 ⟨xa, xb, xc⟩ ⟨ba, bb, bc⟩ = c at *
          go_quiet ((go_at_call 16; exact Calls.quiet_of_same (HCC.out _)))
          have HW5 : Hid (WB (w4.drewN nq) (w.heap.size + 1 + 1) ba bb bc) := HW4.out
          have HR5 : Hid (WB (w4.drewN nq) (w.heap.size + 1) 0 0 0) := HR4.out
          have HB5 := hid (below_dN HB4.out nq)
          clear HCC HX4 HW4 HR4 HB4 y0 y1 y2
          generalize w4.drewN nq = w5 at *
          go_wp2_with fail
          go_roundg (ss.length - (j + 1))
          case measure => have := GK.out; omega
          case rel => exact ⟨j + 1, ⟨ba, bb, bc⟩, true, rfl, by omega, by go_num, rfl, HE4.out, HW5.out, HR5.out, HB5.out⟩
    · have HE4 : Hid (B = (bw, fd)) := by
        show B = _
        rw [HE.out, List.drop_eq_nil_of_le (by omega)]; rfl
      obtain ⟨ba, bb, bc⟩ := bw
      obtain ⟨z0, z1, z2⟩ := HW.out.cell
      obtain ⟨r0, r1, r2⟩ := HR.out.cell
      obtain ⟨f0, f1, f2⟩ := HR.out.fz
      go_wp2_with fail
      obtain ⟨q0, q1, q2⟩ := (((HR.out.set0 ba).set1 bb).set2 bc).cell
      refine bodyPost_ret (v := bestV (⟨ba, bb, bc⟩, fd)) (by simp [results, Tryd.results9, go_sem, q0, q1, q2, bestV, wtV]) rfl ⟨by rw [HE4.out], ?_⟩
      exact ((HB.out.setCell (by simp) _).setCell (by simp) _).setCell (by simp) _
end Go.Proofs.YtlodblcmpebfkaaDoor
