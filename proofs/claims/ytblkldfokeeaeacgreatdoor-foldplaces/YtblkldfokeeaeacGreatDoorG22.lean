/-
  What Inherits and Initial answer, the program's and the document's own: the same plain answers; and the closed fact that the statements ask first: alive answers true. Conditions: the name is of at most 2^20 bytes; the two tables hold what their texts say.
  What slices.Compare answers of two weights, and what Best answers: the plain answers. Conditions: the elements and the selectors lie as they must, at most 2^20 of each.
  Claims in memory: what beats tells of two; a map of what wins by name; that the closure that is told a claim lays it there where it wins. Conditions: fewer than 2^63 claims, a name no longer than a string may be.
  What the closure that is told a claim does: it lays it where it wins; what the closures that are told a declaration do. Conditions: fewer than 2^63 claims, a name no longer than a string may be.
  What the closures that are told a declaration do: they tell a claim. Conditions: fewer than 2^63 claims, a name no longer than a string may be.
-/
import Derived.Test.YtblkldfokeeaeacGreatDoorG21
import Derived.Test.YtblkldfokeeaeacGreatDoorG20
import Derived.Test.YtblkldfokeeaeacGreatDoorG06
namespace Go.Proofs.YtblkldfokeeaeacGreatDoor
open Go.RowKit Go.Maps

def inhB (name : ByteArray) : Bool := ((kf7 name.data.toList).getD (false, ⟨#[]⟩)).1
def iniB (name : ByteArray) : ByteArray := match kf7 name.data.toList with
  | some x => x.2
  | none => noneN
def rf7 : Key → Option ByteArray := updK (updK (updK (updK (updK (updK (updK (fun _ => none) cN.data.toList black) fN.data.toList plainN) zN.data.toList ten) sd0.data.toList nought) sd1.data.toList nought) sd2.data.toList nought) sd3.data.toList nought
theorem rf7_eq (q : Key) : rf7 q = (kf7 q).map (·.2) := by
  simp only [rf7, kf7, kf6, kf5, kf4, kf3, updK]
  repeat' split
  all_goals rfl
theorem inhB_eq (name : ByteArray) : inhB name = (name.toList == [99, 111, 108, 111, 114] || (name.toList == [102, 111, 110, 116] || name.toList == [115, 105, 122, 101])) := by
  unfold inhB
  rw [Lib.toList_data]
  generalize name.data.toList = q
  simp only [kf7, kf6, kf5, kf4, kf3, updK]
  have e3 : sd3.data.toList = [101, 100, 103, 101, 45, 108, 101, 102, 116] := rfl
  have e2 : sd2.data.toList = [101, 100, 103, 101, 45, 98, 111, 116, 116, 111, 109] := rfl
  have e1 : sd1.data.toList = [101, 100, 103, 101, 45, 114, 105, 103, 104, 116] := rfl
  have e0 : sd0.data.toList = [101, 100, 103, 101, 45, 116, 111, 112] := rfl
  have ez : zN.data.toList = [115, 105, 122, 101] := rfl
  have ef : fN.data.toList = [102, 111, 110, 116] := rfl
  have ec : cN.data.toList = [99, 111, 108, 111, 114] := rfl
  rw [e0, e1, e2, e3, ez, ef, ec]
  repeat' split
  all_goals simp_all

theorem field137 (b : Bool) (s : ByteArray) (w : World) : (Instr.field 137 (.agg #[.bool b, .string s]) 0).run Tryz.prog w = .ok (.bool b) w := by
  simp [Instr.field, go_sem, Go.part, asAgg]
set_option maxRecDepth 100000 in
set_option maxHeartbeats 1000000 in
theorem inherits_any (name : ByteArray) (w : World) (hs : name.size ≤ lim) (hT : Tab w) :
    Calls Tryz.prog 38 #[.string name] w fun e w' => e = .returned (.bool (inhB name)) ∧ Below w.heap.size w w' := by
  have wk : name.size ≤ maxLen := by unfold lim at hs; unfold maxLen; omega
  have HI : Hid (inhB name = ((kf7 name.data.toList).getD (false, ⟨#[]⟩)).1) := rfl
  go_enter Tryz.func38, Tryz.ntmps38
  go_wp2_with fail
  refine (known_any w hT).mono ?_
  rintro e w1 ⟨rfl, hM, hB⟩
  have HB := hid hB
  have hlk := hM.look (en := pV) Tryz.underlying138 (false, ⟨#[]⟩) (zero137 w1) (pR_mk _) pR_inv name wk
  generalize (kf7 name.data.toList).getD (false, ⟨#[]⟩) = x at *
  obtain ⟨b, s⟩ := x
  simp only [pV] at hlk
  have hfd := field137 b s
  clear hM hB wk
  go_wp2_with fail
  go_ret
  exact ⟨ret_bool HI.out.symm, HB.out⟩

set_option maxRecDepth 100000 in
set_option maxHeartbeats 1000000 in
theorem initial_any (name : ByteArray) (w : World) (hs : name.size ≤ lim) (hT : Tab w) :
    Calls Tryz.prog 39 #[.string name] w fun e w' => e = .returned (.string (iniB name)) ∧ Below w.heap.size w w' := by
  have wk : name.size ≤ maxLen := by unfold lim at hs; unfold maxLen; omega
  have HI : Hid (iniB name = match kf7 name.data.toList with | some x => x.2 | none => noneN) := rfl
  go_enter Tryz.func39, Tryz.ntmps39
  go_wp2_with fail
  refine (known_any w hT).mono ?_
  rintro e w1 ⟨rfl, hM, hB⟩
  have HB := hid hB
  have hlk := hM.look2 (en := pV) Tryz.underlying138 (false, ⟨#[]⟩) (zero137 w1) (pR_mk _) pR_inv name wk
  generalize kf7 name.data.toList = o at *
  clear hM hB wk
  cases o with
  | none =>
    simp only [pV, Option.getD, Option.isSome] at hlk HI
    go_wp2_with fail
    go_ret
    exact ⟨ret_str HI.out.symm, HB.out.alloc HB.out.size _⟩
  | some x =>
    obtain ⟨b, s⟩ := x
    simp only [pV, Option.getD, Option.isSome] at hlk HI
    go_wp2_with fail
    go_ret
    exact ⟨ret_str HI.out.symm, HB.out.alloc HB.out.size _⟩

end Go.Proofs.YtblkldfokeeaeacGreatDoor

namespace Go.Proofs.YtblkldfokeeaeacGreatDoor
open Go.RowKit

def cmpFrom (x y : Wt) : Nat → Int
  | 0 => cmp3 x y
  | 1 => if x.b < y.b then -1 else if y.b < x.b then 1 else if x.c < y.c then -1 else if y.c < x.c then 1 else 0
  | 2 => if x.c < y.c then -1 else if y.c < x.c then 1 else 0
  | _ => 0
theorem cmpInt_lt {a b : Int} (h : a < b) : Lib.compareInt a b = -1 := by simp [Lib.compareInt, h]
theorem cmpInt_gt {a b : Int} (h : b < a) : Lib.compareInt a b = 1 := by simp [Lib.compareInt, h]; omega
theorem cmpInt_eq (a : Int) : Lib.compareInt a a = 0 := by simp [Lib.compareInt]

set_option maxHeartbeats 2000000 in
theorem compare_any (T U : Nat) (x y : Wt) (w : World) (hx : WB w T x.a x.b x.c) (hy : WB w U y.a y.b y.c) :
    Calls Tryz.prog 101 #[.slice (some ⟨T, 0, none⟩) 3 3, .slice (some ⟨U, 0, none⟩) 3 3] w fun e w' => e = .returned (.int .i64 (cmp3 x y)) ∧ w' = w := by
  obtain ⟨x0, x1, x2⟩ := hx.cell
  obtain ⟨y0, y1, y2⟩ := hy.cell
  clear hx hy
  obtain ⟨a, b, c⟩ := x
  obtain ⟨p, q, r⟩ := y
  simp only at x0 x1 x2 y0 y1 y2
  have HC : Hid (cmp3 ⟨a, b, c⟩ ⟨p, q, r⟩ = cmpFrom ⟨a, b, c⟩ ⟨p, q, r⟩ 0) := rfl
  generalize cmp3 ⟨a, b, c⟩ ⟨p, q, r⟩ = R at *
  go_enter Tryz.func101, Tryz.ntmps101
  go_wp2_with fail
  go_loopg [11] 3 (fun n i wr => ∃ j : Nat, n = 3 - j ∧ j ≤ 3 ∧ i = .int .i64 (j : Int) ∧ R = cmpFrom ⟨a, b, c⟩ ⟨p, q, r⟩ j ∧ wr = w)
  case atStart => exact ⟨0, rfl, Nat.zero_le _, rfl, HC.out, rfl⟩
  case round =>
    obtain ⟨j, hn, hj, rfl, hR, hw⟩ := hrel
    subst hw
    have GK := hid hn
    have HR := hid hR
    clear hn hR
    by_cases h3 : j = 3
    · subst h3
      have HR2 : Hid (R = 0) := HR.out
      go_wp2_with fail
      go_ret
      exact ⟨ret_int HR2.out.symm, rfl⟩
    · have hj3 : j = 0 ∨ j = 1 ∨ j = 2 := by omega
      clear h3 hj
      rcases hj3 with rfl | rfl | rfl
      · rcases Int.lt_trichotomy a p with h | h | h
        · have HR2 : Hid (R = -1) := by have := HR.out; simpa [cmpFrom, cmp3, h, Hid] using this
          go_wp2_with (go_at_call 57; refine (Tryz.cmp_Compare_int _ _ _).mono ?_; rintro e w' ⟨rfl, rfl⟩; rw [cmpInt_lt h])
          go_ret
          exact ⟨ret_int HR2.out.symm, rfl⟩
        · subst h
          have HR2 : Hid (R = cmpFrom ⟨a, b, c⟩ ⟨a, q, r⟩ 1) := by have := HR.out; simpa [cmpFrom, cmp3, Hid] using this
          go_wp2_with (go_at_call 57; refine (Tryz.cmp_Compare_int _ _ _).mono ?_; rintro e w' ⟨rfl, rfl⟩; rw [cmpInt_eq])
          go_roundg 2
          case measure => have := GK.out; omega
          case rel => exact ⟨1, rfl, by omega, by go_num, HR2.out, rfl⟩
        · have HR2 : Hid (R = 1) := by have := HR.out; simpa [cmpFrom, cmp3, h, Int.not_lt.2 (Int.le_of_lt h), Hid] using this
          go_wp2_with (go_at_call 57; refine (Tryz.cmp_Compare_int _ _ _).mono ?_; rintro e w' ⟨rfl, rfl⟩; rw [cmpInt_gt h])
          go_ret
          exact ⟨ret_int HR2.out.symm, rfl⟩
      · rcases Int.lt_trichotomy b q with h | h | h
        · have HR2 : Hid (R = -1) := by have := HR.out; simpa [cmpFrom, h, Hid] using this
          go_wp2_with (go_at_call 57; refine (Tryz.cmp_Compare_int _ _ _).mono ?_; rintro e w' ⟨rfl, rfl⟩; rw [cmpInt_lt h])
          go_ret
          exact ⟨ret_int HR2.out.symm, rfl⟩
        · subst h
          have HR2 : Hid (R = cmpFrom ⟨a, b, c⟩ ⟨p, b, r⟩ 2) := by have := HR.out; simpa [cmpFrom, Hid] using this
          go_wp2_with (go_at_call 57; refine (Tryz.cmp_Compare_int _ _ _).mono ?_; rintro e w' ⟨rfl, rfl⟩; rw [cmpInt_eq])
          go_roundg 1
          case measure => have := GK.out; omega
          case rel => exact ⟨2, rfl, by omega, by go_num, HR2.out, rfl⟩
        · have HR2 : Hid (R = 1) := by have := HR.out; simpa [cmpFrom, h, Int.not_lt.2 (Int.le_of_lt h), Hid] using this
          go_wp2_with (go_at_call 57; refine (Tryz.cmp_Compare_int _ _ _).mono ?_; rintro e w' ⟨rfl, rfl⟩; rw [cmpInt_gt h])
          go_ret
          exact ⟨ret_int HR2.out.symm, rfl⟩
      · rcases Int.lt_trichotomy c r with h | h | h
        · have HR2 : Hid (R = -1) := by have := HR.out; simpa [cmpFrom, h, Hid] using this
          go_wp2_with (go_at_call 57; refine (Tryz.cmp_Compare_int _ _ _).mono ?_; rintro e w' ⟨rfl, rfl⟩; rw [cmpInt_lt h])
          go_ret
          exact ⟨ret_int HR2.out.symm, rfl⟩
        · subst h
          have HR2 : Hid (R = cmpFrom ⟨a, b, c⟩ ⟨p, q, c⟩ 3) := by have := HR.out; simpa [cmpFrom, Hid] using this
          go_wp2_with (go_at_call 57; refine (Tryz.cmp_Compare_int _ _ _).mono ?_; rintro e w' ⟨rfl, rfl⟩; rw [cmpInt_eq])
          go_roundg 0
          case measure => have := GK.out; omega
          case rel => exact ⟨3, rfl, by omega, by go_num, HR2.out, rfl⟩
        · have HR2 : Hid (R = 1) := by have := HR.out; simpa [cmpFrom, h, Int.not_lt.2 (Int.le_of_lt h), Hid] using this
          go_wp2_with (go_at_call 57; refine (Tryz.cmp_Compare_int _ _ _).mono ?_; rintro e w' ⟨rfl, rfl⟩; rw [cmpInt_gt h])
          go_ret
          exact ⟨ret_int HR2.out.symm, rfl⟩

theorem eS.cells {w : World} {b o : Nat} {x : List Pt} (h : eS w (fun j => w.cell? ⟨b, o + j, none⟩) x) : ∃ a cap, w.cell? ⟨b, o, none⟩ = some (.slice a x.length cap) ∧ PsAt w (.slice a x.length cap) x := by
  obtain ⟨v, h1, h2⟩ := h
  obtain ⟨a, cap, rfl⟩ := Sl.form h2
  exact ⟨a, cap, h1, h2⟩
def SmSs (ss : List (List Pt)) : Prop := ss.length ≤ lim ∧ ∀ s ∈ ss, SmS s
def ruleV (md : ByteArray) (ssv dcv : Value) (rf rt : Int) : Value := .agg #[.string md, ssv, dcv, .int .i64 rf, .int .i64 rt]
def bestV (b : Wt × Bool) : Value := .tuple #[wtV b.1, .bool b.2]

set_option maxRecDepth 100000 in
set_option maxHeartbeats 4000000 in
theorem best_any (lv : Value) (l : List Nd) (k : Int) (md : ByteArray) (ss : List (List Pt)) (ssv : Value) (da : Option Addr) (dn dc : Nat) (rf rt : Int) (w : World) (hl : NdsAt w lv l) (hs : SmNs l) (hm : Mx w) (hS : SsAt w ssv ss) (hss : SmSs ss) :
    Calls Tryz.prog 97 #[lv, .int .i64 k, ruleV md ssv (.slice da dn dc) rf rt] w fun e w' => e = .returned (bestV (bestTo l k ss (w00, false))) ∧ Below w.heap.size w w' := by
  obtain ⟨sa, scap, rfl⟩ := Sl.form hS
  have HL := hid hl
  have HN := hid hs
  have HM := hid hm
  have HP := hid hS
  have HSS := hid hss.2
  have hsl := hss.1
  unfold lim at hsl
  clear hl hs hm hS hss
  have HB0 : Hid (bestTo l k ss (w00, false) = bestTo l k (ss.drop 0) (w00, false)) := rfl
  generalize bestTo l k ss (w00, false) = B at *
  simp only [ruleV]
  go_enter Tryz.func97, Tryz.ntmps97
  go_wp2_with fail
  have W0 := WB.new ((w.alloc (.cells #[.string md, .slice sa ss.length scap, .slice da dn dc, .int .i64 rf, .int .i64 rt] 38)).alloc (.cells #[.int .i64 0, .int .i64 0, .int .i64 0] 86)) 0 0 0
  have R0 := (WB.new (w.alloc (.cells #[.string md, .slice sa ss.length scap, .slice da dn dc, .int .i64 rf, .int .i64 rt] 38)) 0 0 0).alloc (.cells #[.int .i64 0, .int .i64 0, .int .i64 0] 86)
  have hb0 : Below w.heap.size w (((w.alloc (.cells #[.string md, .slice sa ss.length scap, .slice da dn dc, .int .i64 rf, .int .i64 rt] 38)).alloc (.cells #[.int .i64 0, .int .i64 0, .int .i64 0] 86)).alloc (.cells #[.int .i64 0, .int .i64 0, .int .i64 0] 86)) := (((Below.refl _ _).alloc (Nat.le_refl _) _).alloc (by simp) _).alloc (by simp; omega) _
  rw [show ((w.alloc (.cells #[.string md, .slice sa ss.length scap, .slice da dn dc, .int .i64 rf, .int .i64 rt] 38)).alloc (.cells #[.int .i64 0, .int .i64 0, .int .i64 0] 86)).heap.size = w.heap.size + 1 + 1 by simp] at W0
  rw [show (w.alloc (.cells #[.string md, .slice sa ss.length scap, .slice da dn dc, .int .i64 rf, .int .i64 rt] 38)).heap.size = w.heap.size + 1 by simp] at R0
  have HW0 := hid W0
  have HR0 := hid R0
  have HBB := hid hb0
  clear W0 R0 hb0
  generalize ((w.alloc (.cells #[.string md, .slice sa ss.length scap, .slice da dn dc, .int .i64 rf, .int .i64 rt] 38)).alloc (.cells #[.int .i64 0, .int .i64 0, .int .i64 0] 86)).alloc (.cells #[.int .i64 0, .int .i64 0, .int .i64 0] 86) = W at *
  go_loopg [9, 16] ss.length (fun n f i wr => ∃ (j : Nat) (bw : Wt) (fd : Bool), n = ss.length - j ∧ j ≤ ss.length ∧ i = .int .i64 (j : Int) ∧ f = .bool fd ∧ B = bestTo l k (ss.drop j) (bw, fd) ∧ WB wr (w.heap.size + 1 + 1) bw.a bw.b bw.c ∧ WB wr (w.heap.size + 1) 0 0 0 ∧ Below w.heap.size w wr)
  case atStart => exact ⟨0, w00, false, rfl, Nat.zero_le _, rfl, rfl, HB0.out, HW0.out, HR0.out, HBB.out⟩
  case round =>
    clear HW0 HR0 HBB HB0
    obtain ⟨j, bw, fd, hn, hj, rfl, rfl, hE, hW, hR, hB⟩ := hrel
    have GK := hid hn
    have HE := hid hE
    have HW := hid hW
    have HR := hid hR
    have HB := hid hB
    clear hn hE hW hR hB
    by_cases hlt : j < ss.length
    · obtain ⟨b, off, rfl, he⟩ := Sl.at (SsAt.ext HP.out (Ext.below HB.out)) hlt
      obtain ⟨pa, pc, c0, hps⟩ := he.cells
      rw [Nat.mul_one] at c0
      have HPS := hid hps
      have HSM := hid (HSS.out ss[j] (List.getElem_mem hlt))
      have HE2 : Hid (B = bestTo l k (ss.drop (j + 1)) (if matchB l k ss[j] then (if 0 < cmp3 (wts ss[j]) bw then wts ss[j] else bw, true) else (bw, fd))) := by
        show B = _
        rw [HE.out, List.drop_eq_getElem_cons hlt]; rfl
      clear he hps
      generalize ss[j] = s at *
      go_wp2_with fail
      refine (matches_any lv l k _ s wr (HL.out.ext (Ext.below HB.out)) HN.out (HM.out.ext (Ext.below HB.out)) HPS.out HSM.out).mono ?_
      rintro e w2 ⟨rfl, hb⟩
      have HB2 := hid (below_trans HB.out hb (Nat.le_refl _))
      have HW2 := hid (HW.out.below hb)
      have HR2 := hid (HR.out.below hb)
      have HPS2 := hid (HPS.out.ext (Ext.below hb))
      clear hb c0
      cases hmb : matchB l k s
      · have HE3 : Hid (B = bestTo l k (ss.drop (j + 1)) (bw, fd)) := by have := HE2.out; rw [hmb] at this; exact this
        go_wp2_with fail
        go_roundg (ss.length - (j + 1))
        case measure => have := GK.out; omega
        case rel => exact ⟨j + 1, bw, fd, rfl, by omega, by go_num, rfl, HE3.out, HW2.out, HR2.out, HB2.out⟩
      · have HE3 : Hid (B = bestTo l k (ss.drop (j + 1)) (if 0 < cmp3 (wts s) bw then wts s else bw, true)) := by have := HE2.out; rw [hmb] at this; exact this
        go_wp2_with fail
        refine (weigh_any _ s w2 HPS2.out HSM.out).mono ?_
        rintro e w3 ⟨rfl, hb⟩
        have HB3 := hid (below_trans HB2.out hb (Nat.le_refl _))
        have HW3 := hid (HW2.out.below hb)
        have HR3 := hid (HR2.out.below hb)
        clear hb
        generalize wts s = x at *
        obtain ⟨xa, xb, xc⟩ := x
        obtain ⟨ba, bb, bc⟩ := bw
        simp only [wtV]
        go_wp2_with fail
        have HX4 := hid (WB.new w3 xa xb xc)
        have HW4 := hid (HW3.out.alloc (.cells #[.int .i64 xa, .int .i64 xb, .int .i64 xc] 86))
        have HR4 := hid (HR3.out.alloc (.cells #[.int .i64 xa, .int .i64 xb, .int .i64 xc] 86))
        have HB4 := hid (HB3.out.alloc HB3.out.size (.cells #[.int .i64 xa, .int .i64 xb, .int .i64 xc] 86))
        have hUT : w.heap.size + 1 + 1 < w3.heap.size := HW3.out.lt
        generalize w3.alloc (.cells #[.int .i64 xa, .int .i64 xb, .int .i64 xc] 86) = w4 at *
        generalize w3.heap.size = U at *
        obtain ⟨y0, y1, y2⟩ := HX4.out.cell
        have CC : ∀ n, Calls Tryz.prog 101 #[.slice (some ⟨U, 0, none⟩) 3 3, .slice (some ⟨w.heap.size + 1 + 1, 0, none⟩) 3 3] (w4.drewN n) fun e w' => e = .returned (.int .i64 (cmp3 ⟨xa, xb, xc⟩ ⟨ba, bb, bc⟩)) ∧ w' = w4.drewN n := fun n => compare_any U (w.heap.size + 1 + 1) ⟨xa, xb, xc⟩ ⟨ba, bb, bc⟩ (w4.drewN n) HX4.out HW4.out
        have HCC := hid CC
        clear CC
        by_cases hc : 0 < cmp3 ⟨xa, xb, xc⟩ ⟨ba, bb, bc⟩
        · have HE4 : Hid (B = bestTo l k (ss.drop (j + 1)) (⟨xa, xb, xc⟩, true)) := by have := HE3.out; rw [if_pos hc] at this; exact this
          generalize cmp3 ⟨xa, xb, xc⟩ ⟨ba, bb, bc⟩ = c at *
          go_quiet ((go_at_call 101; exact Calls.quiet_of_same (HCC.out _)))
          have HX5 : Hid (WB (w4.drewN nq) U xa xb xc) := HX4.out
          have HW5 : Hid (WB (w4.drewN nq) (w.heap.size + 1 + 1) ba bb bc) := HW4.out
          have HR5 : Hid (WB (w4.drewN nq) (w.heap.size + 1) 0 0 0) := HR4.out
          have HB5 := hid (below_dN HB4.out nq)
          clear HCC HX4 HW4 HR4 HB4 y0 y1 y2
          generalize w4.drewN nq = w5 at *
          obtain ⟨y0, y1, y2⟩ := HX5.out.cell
          obtain ⟨z0, z1, z2⟩ := HW5.out.cell
          obtain ⟨f0, f1, f2⟩ := HW5.out.fz
          go_wp2_with fail
          go_roundg (ss.length - (j + 1))
          case measure => have := GK.out; omega
          case rel => exact ⟨j + 1, ⟨xa, xb, xc⟩, true, rfl, by omega, by go_num, rfl, HE4.out, ((HW5.out.set0 xa).set1 xb).set2 xc, ((HR5.out.other (by simp) _).other (by simp) _).other (by simp) _, ((HB5.out.setCell (by simp; omega) _).setCell (by simp; omega) _).setCell (by simp; omega) _⟩
        · have HE4 : Hid (B = bestTo l k (ss.drop (j + 1)) (⟨ba, bb, bc⟩, true)) := by have := HE3.out; rw [if_neg hc] at this; exact this
          generalize cmp3 ⟨xa, xb, xc⟩ ⟨ba, bb, bc⟩ = c at *
          go_quiet ((go_at_call 101; exact Calls.quiet_of_same (HCC.out _)))
          have HW5 : Hid (WB (w4.drewN nq) (w.heap.size + 1 + 1) ba bb bc) := HW4.out
          have HR5 : Hid (WB (w4.drewN nq) (w.heap.size + 1) 0 0 0) := HR4.out
          have HB5 := hid (below_dN HB4.out nq)
          clear HCC HX4 HW4 HR4 HB4 y0 y1 y2
          generalize w4.drewN nq = w5 at *
          go_wp2_with fail
          go_roundg (ss.length - (j + 1))
          case measure => have := GK.out; omega
          case rel => exact ⟨j + 1, ⟨ba, bb, bc⟩, true, rfl, by omega, by go_num, rfl, HE4.out, HW5.out, HR5.out, HB5.out⟩
    · have HE4 : Hid (B = (bw, fd)) := by
        show B = _
        rw [HE.out, List.drop_eq_nil_of_le (by omega)]; rfl
      obtain ⟨ba, bb, bc⟩ := bw
      obtain ⟨z0, z1, z2⟩ := HW.out.cell
      obtain ⟨r0, r1, r2⟩ := HR.out.cell
      obtain ⟨f0, f1, f2⟩ := HR.out.fz
      go_wp2_with fail
      obtain ⟨q0, q1, q2⟩ := (((HR.out.set0 ba).set1 bb).set2 bc).cell
      refine bodyPost_ret (v := bestV (⟨ba, bb, bc⟩, fd)) (by simp [results, Tryz.results97, go_sem, q0, q1, q2, bestV, wtV]) rfl ⟨by rw [HE4.out], ?_⟩
      exact ((HB.out.setCell (by simp) _).setCell (by simp) _).setCell (by simp) _
end Go.Proofs.YtblkldfokeeaeacGreatDoor

namespace Go.Proofs.YtblkldfokeeaeacGreatDoor
open Go.RowKit Go.Maps

def clV (c : Cl) : Value := .agg #[.string c.d.name, .string c.d.val, .bool c.d.strong, .bool c.own, .int .i64 c.w.a, .int .i64 c.w.b, .int .i64 c.w.c]
def clD (c : Cl) : DataW Unit := .agg [.lit (.string c.d.name.data.toList), .lit (.string c.d.val.data.toList), .lit (.bool c.d.strong), .lit (.bool c.own), .lit (.int .i64 c.w.a), .lit (.int .i64 c.w.b), .lit (.int .i64 c.w.c)]
def clR (v : Value) : Option (DataW Unit × List MemPlace) := match v with
  | .agg ⟨[.string n, .string v, .bool s, .bool o, .int k1 a, .int k2 b, .int k3 c]⟩ => some (.agg [.lit (.string n.data.toList), .lit (.string v.data.toList), .lit (.bool s), .lit (.bool o), .lit (.int k1 a), .lit (.int k2 b), .lit (.int k3 c)], [])
  | _ => none
theorem clR_mk (c : Cl) : clR (clV c) = some (clD c, []) := rfl
theorem ba_ext {a b : ByteArray} (h : a.data.toList = b.data.toList) : a = b := ByteArray.ext (Array.toList_inj.1 h)
theorem clR_inv (v : Value) (c : Cl) (ps : List MemPlace) (h : clR v = some (clD c, ps)) : v = clV c := by
  unfold clR at h
  split at h
  · simp only [clD, Option.some.injEq, Prod.mk.injEq, DataW.agg.injEq, List.cons.injEq, DataW.lit.injEq, Lit.bool.injEq, Lit.string.injEq, Lit.int.injEq, and_true] at h
    obtain ⟨⟨h1, h2, h3, h4, ⟨h5, h6⟩, ⟨h7, h8⟩, h9, h10⟩, _⟩ := h
    rw [ba_ext h1, ba_ext h2, h3, h4, h5, h6, h7, h8, h9, h10]
    rfl
  · cases h
def cl0 : Cl := ⟨⟨⟨#[]⟩, ⟨#[]⟩, false⟩, false, ⟨0, 0, 0⟩⟩
theorem zero88 (w : World) : (zeroValue 88).run Tryz.prog w = .ok (clV cl0) w := by kernel_rfl

/-! ### a map of what wins -/
theorem Mp.congr {β : Type} {R : Value → Option (DataW Unit × List MemPlace)} {dt : β → DataW Unit} {w : World} {B n : Nat} {f g : Key → Option β} (h : Mp R dt w B n f) (e : ∀ q, f q = g q) : Mp R dt w B n g := by
  obtain ⟨D, h1, h2⟩ := h
  exact ⟨D, h1, fun q z => by rw [← e]; exact h2 q z⟩
theorem Mp.insB {β : Type} {R : Value → Option (DataW Unit × List MemPlace)} {dt : β → DataW Unit} {en : β → Value} {w : World} {B n : Nat} {f : Key → Option β} (h : Mp R dt w B n f) (hn : n < maxLen) {t e : TypeId} (ht : Tryz.prog.underlying t = some (.map 9 e)) (k : ByteArray) (wk : k.size ≤ maxLen) (c : β) (wc : R (en c) = some (dt c, [])) :
    ∃ w', (Instr.mapUpdate t (.map (some B)) (.string k) (en c)).run Tryz.prog w = .ok () w' ∧ Mp R dt w' B (n + 1) (updK f k.data.toList c) ∧ w.grownBy w' (some B) := by
  obtain ⟨D, ho, hf⟩ := h
  obtain ⟨w', h1, h2, h3⟩ := ho.update keyS ht hn (WideMaps.keyOf_string_mk Tryz.underlying9 wk) wc
  refine ⟨w', h1, ⟨_, h2, fun q z => ?_⟩, h3⟩
  have hm : IsMap D := ho.isMap
  unfold updK
  by_cases e : q = k.data.toList
  · subst e
    rw [if_pos rfl]
    exact atKey_put_same hm (by simp [WideAt.IsKeyLit]) _ _
  · rw [if_neg e, atKey_put_other (by intro h; injection h with h; exact e h)]
    exact hf q z
abbrev Mpc := Mp clR clD
/-- Block M is a map of what wins of these claims. -/
def MW (w : World) (M : Nat) (cs : List Cl) : Prop := ∃ n, n ≤ cs.length ∧ Mpc w M n (fun q => win q cs)
/-- All that was there is as it was, but for block M. -/
structure Fr (M : Nat) (w w' : World) : Prop where
  os : w'.os = w.os
  tape : w'.tape = w.tape
  output : w'.output = w.output
  size : w.heap.size ≤ w'.heap.size
  block : ∀ j, j < w.heap.size → j ≠ M → w'.heap[j]? = w.heap[j]?
theorem Fr.refl (M : Nat) (w : World) : Fr M w w := ⟨rfl, rfl, rfl, Nat.le_refl _, fun _ _ _ => rfl⟩
theorem Fr.trans {M : Nat} {a b c : World} (h : Fr M a b) (k : Fr M b c) : Fr M a c :=
  ⟨k.os.trans h.os, k.tape.trans h.tape, k.output.trans h.output, Nat.le_trans h.size k.size, fun j hj hm => (k.block j (Nat.lt_of_lt_of_le hj h.size) hm).trans (h.block j hj hm)⟩
theorem Fr.below {w w' : World} (h : Below w.heap.size w w') (M : Nat) : Fr M w w' := ⟨h.os, h.tape, h.output, h.size, fun j hj _ => h.block j hj⟩
theorem Fr.grown {M : Nat} {w w' : World} (h : w.grownBy w' (some M)) : Fr M w w' := by
  have b : Below 0 w w' := (Below.refl 0 w).grown h (Nat.zero_le _) (fun _ _ => Nat.zero_le _)
  exact ⟨b.os, b.tape, b.output, b.size, fun j hj hm => h.block j hj (by simpa using hm)⟩
theorem Fr.under {B M : Nat} {a w w' : World} (h : Below B a w) (k : Fr M w w') (hB : B ≤ w.heap.size) (hM : B ≤ M) : Below B a w' :=
  h.trans ⟨k.os, k.tape, k.output, k.size, fun j hj => k.block j (by omega) (by omega)⟩
theorem MW.map {w : World} {M : Nat} {cs : List Cl} (h : MW w M cs) : ∃ es c, w.heap[M]? = some (.map es c) := by
  obtain ⟨_, _, D, ⟨es, c, h1, _⟩, _⟩ := h
  exact ⟨es, c, h1⟩
theorem MW.lt {w : World} {M : Nat} {cs : List Cl} (h : MW w M cs) : M < w.heap.size := by
  obtain ⟨es, c, h⟩ := h.map
  exact (Array.getElem?_eq_some_iff.1 h).1
/-- No cell lies in a map. -/
theorem Fr.ext {M : Nat} {w w' : World} (h : Fr M w w') {es : Array MapEntry} {c : Nat} (hm : w.heap[M]? = some (.map es c)) : Ext w w' := fun b o v hv => by
  have hlt := lt_of_cell hv
  by_cases e : b = M
  · subst e
    simp [World.cell?, hm] at hv
  · simp only [World.cell?] at hv ⊢
    rw [h.block b hlt e]
    exact hv
theorem MW.below {w w' : World} {M : Nat} {cs : List Cl} (h : MW w M cs) (hb : Below w.heap.size w w') : MW w' M cs := by
  obtain ⟨n, hn, hm⟩ := h
  exact ⟨n, hn, hm.below hb⟩
theorem MW.made (w : World) : MW (w.alloc (.map #[] 0)) w.heap.size [] := ⟨0, Nat.le_refl _, (Mp.made w).congr fun _ => rfl⟩

set_option maxRecDepth 100000 in
theorem uponC_ins {w : World} {o : Oper} {a : Act} {K : Act → World → Prop} {Q : Exit → Act → World → Prop} {M n : Nat} {f : Key → Option Cl} {k v : ByteArray} {s ow : Bool} {x y z : Int} (h : Mpc w M n f) (hn : n < maxLen) (wk : k.size ≤ maxLen)
    (hK : ∀ w', Mpc w' M (n + 1) (updK f k.data.toList ⟨⟨k, v, s⟩, ow, ⟨x, y, z⟩⟩) → w.grownBy w' (some M) → K (a.put o.dst undef) w') :
    Oper.upon Tryz.prog o a K Q (((Instr.mapUpdate 82 (.map (some M)) (.string k) (.agg #[.string k, .string v, .bool s, .bool ow, .int .i64 x, .int .i64 y, .int .i64 z])).run Tryz.prog w).andThen fun _ w' => .ok .skip w') := by
  obtain ⟨w', h1, h2, h3⟩ := Mp.insB (en := clV) h hn (e := 88) Tryz.underlying82 k wk ⟨⟨k, v, s⟩, ow, ⟨x, y, z⟩⟩ (clR_mk _)
  have h1' : (Instr.mapUpdate 82 (.map (some M)) (.string k) (.agg #[.string k, .string v, .bool s, .bool ow, .int .i64 x, .int .i64 y, .int .i64 z])).run Tryz.prog w = .ok () w' := h1
  rw [h1']
  exact hK w' h2 h3

/-! ### beats -/
theorem cmp3_anti (x y : Wt) : (0 < cmp3 x y) ↔ (cmp3 y x < 0) := by
  unfold cmp3
  repeat' split
  all_goals simp <;> omega
theorem beats_go (a b : Cl) : (!beats b a) = (if a.d.strong == b.d.strong then (if a.own == b.own then decide (0 < cmp3 a.w b.w) else a.own) else a.d.strong) := by
  unfold beats
  have h : lessW b.w a.w = decide (0 < cmp3 a.w b.w) := by rw [lessW_cmp]; exact decide_eq_decide.2 (cmp3_anti a.w b.w).symm
  rw [h]
  cases a.d.strong <;> cases b.d.strong <;> cases a.own <;> cases b.own <;> simp

set_option maxHeartbeats 2000000 in
theorem compare4 (T U : Nat) (x y : Wt) (w : World) (x0 : w.cell? ⟨T, 4, none⟩ = some (.int .i64 x.a)) (x1 : w.cell? ⟨T, 5, none⟩ = some (.int .i64 x.b)) (x2 : w.cell? ⟨T, 6, none⟩ = some (.int .i64 x.c))
    (y0 : w.cell? ⟨U, 4, none⟩ = some (.int .i64 y.a)) (y1 : w.cell? ⟨U, 5, none⟩ = some (.int .i64 y.b)) (y2 : w.cell? ⟨U, 6, none⟩ = some (.int .i64 y.c)) :
    Calls Tryz.prog 101 #[.slice (some ⟨T, 4, none⟩) 3 3, .slice (some ⟨U, 4, none⟩) 3 3] w fun e w' => e = .returned (.int .i64 (cmp3 x y)) ∧ w' = w := by
  obtain ⟨a, b, c⟩ := x
  obtain ⟨p, q, r⟩ := y
  simp only at x0 x1 x2 y0 y1 y2
  have HC : Hid (cmp3 ⟨a, b, c⟩ ⟨p, q, r⟩ = cmpFrom ⟨a, b, c⟩ ⟨p, q, r⟩ 0) := rfl
  generalize cmp3 ⟨a, b, c⟩ ⟨p, q, r⟩ = R at *
  go_enter Tryz.func101, Tryz.ntmps101
  go_wp2_with fail
  go_loopg [11] 3 (fun n i wr => ∃ j : Nat, n = 3 - j ∧ j ≤ 3 ∧ i = .int .i64 (j : Int) ∧ R = cmpFrom ⟨a, b, c⟩ ⟨p, q, r⟩ j ∧ wr = w)
  case atStart => exact ⟨0, rfl, Nat.zero_le _, rfl, HC.out, rfl⟩
  case round =>
    obtain ⟨j, hn, hj, rfl, hR, hw⟩ := hrel
    subst hw
    have GK := hid hn
    have HR := hid hR
    clear hn hR
    by_cases h3 : j = 3
    · subst h3
      have HR2 : Hid (R = 0) := HR.out
      go_wp2_with fail
      go_ret
      exact ⟨ret_int HR2.out.symm, rfl⟩
    · have hj3 : j = 0 ∨ j = 1 ∨ j = 2 := by omega
      clear h3 hj
      rcases hj3 with rfl | rfl | rfl
      · rcases Int.lt_trichotomy a p with h | h | h
        · have HR2 : Hid (R = -1) := by have := HR.out; simpa [cmpFrom, cmp3, h, Hid] using this
          go_wp2_with (go_at_call 57; refine (Tryz.cmp_Compare_int _ _ _).mono ?_; rintro e w' ⟨rfl, rfl⟩; rw [cmpInt_lt h])
          go_ret
          exact ⟨ret_int HR2.out.symm, rfl⟩
        · subst h
          have HR2 : Hid (R = cmpFrom ⟨a, b, c⟩ ⟨a, q, r⟩ 1) := by have := HR.out; simpa [cmpFrom, cmp3, Hid] using this
          go_wp2_with (go_at_call 57; refine (Tryz.cmp_Compare_int _ _ _).mono ?_; rintro e w' ⟨rfl, rfl⟩; rw [cmpInt_eq])
          go_roundg 2
          case measure => have := GK.out; omega
          case rel => exact ⟨1, rfl, by omega, by go_num, HR2.out, rfl⟩
        · have HR2 : Hid (R = 1) := by have := HR.out; simpa [cmpFrom, cmp3, h, Int.not_lt.2 (Int.le_of_lt h), Hid] using this
          go_wp2_with (go_at_call 57; refine (Tryz.cmp_Compare_int _ _ _).mono ?_; rintro e w' ⟨rfl, rfl⟩; rw [cmpInt_gt h])
          go_ret
          exact ⟨ret_int HR2.out.symm, rfl⟩
      · rcases Int.lt_trichotomy b q with h | h | h
        · have HR2 : Hid (R = -1) := by have := HR.out; simpa [cmpFrom, h, Hid] using this
          go_wp2_with (go_at_call 57; refine (Tryz.cmp_Compare_int _ _ _).mono ?_; rintro e w' ⟨rfl, rfl⟩; rw [cmpInt_lt h])
          go_ret
          exact ⟨ret_int HR2.out.symm, rfl⟩
        · subst h
          have HR2 : Hid (R = cmpFrom ⟨a, b, c⟩ ⟨p, b, r⟩ 2) := by have := HR.out; simpa [cmpFrom, Hid] using this
          go_wp2_with (go_at_call 57; refine (Tryz.cmp_Compare_int _ _ _).mono ?_; rintro e w' ⟨rfl, rfl⟩; rw [cmpInt_eq])
          go_roundg 1
          case measure => have := GK.out; omega
          case rel => exact ⟨2, rfl, by omega, by go_num, HR2.out, rfl⟩
        · have HR2 : Hid (R = 1) := by have := HR.out; simpa [cmpFrom, h, Int.not_lt.2 (Int.le_of_lt h), Hid] using this
          go_wp2_with (go_at_call 57; refine (Tryz.cmp_Compare_int _ _ _).mono ?_; rintro e w' ⟨rfl, rfl⟩; rw [cmpInt_gt h])
          go_ret
          exact ⟨ret_int HR2.out.symm, rfl⟩
      · rcases Int.lt_trichotomy c r with h | h | h
        · have HR2 : Hid (R = -1) := by have := HR.out; simpa [cmpFrom, h, Hid] using this
          go_wp2_with (go_at_call 57; refine (Tryz.cmp_Compare_int _ _ _).mono ?_; rintro e w' ⟨rfl, rfl⟩; rw [cmpInt_lt h])
          go_ret
          exact ⟨ret_int HR2.out.symm, rfl⟩
        · subst h
          have HR2 : Hid (R = cmpFrom ⟨a, b, c⟩ ⟨p, q, c⟩ 3) := by have := HR.out; simpa [cmpFrom, Hid] using this
          go_wp2_with (go_at_call 57; refine (Tryz.cmp_Compare_int _ _ _).mono ?_; rintro e w' ⟨rfl, rfl⟩; rw [cmpInt_eq])
          go_roundg 0
          case measure => have := GK.out; omega
          case rel => exact ⟨3, rfl, by omega, by go_num, HR2.out, rfl⟩
        · have HR2 : Hid (R = 1) := by have := HR.out; simpa [cmpFrom, h, Int.not_lt.2 (Int.le_of_lt h), Hid] using this
          go_wp2_with (go_at_call 57; refine (Tryz.cmp_Compare_int _ _ _).mono ?_; rintro e w' ⟨rfl, rfl⟩; rw [cmpInt_gt h])
          go_ret
          exact ⟨ret_int HR2.out.symm, rfl⟩

set_option maxRecDepth 100000 in
set_option maxHeartbeats 4000000 in
theorem beats_any (c d : Cl) (w : World) :
    Calls Tryz.prog 67 #[clV c, clV d] w fun e w' => e = .returned (.bool (!beats d c)) ∧ Below w.heap.size w w' := by
  rw [beats_go]
  obtain ⟨⟨n1, v1, s1⟩, o1, ⟨a1, b1, c1⟩⟩ := c
  obtain ⟨⟨n2, v2, s2⟩, o2, ⟨a2, b2, c2⟩⟩ := d
  simp only [clV]
  have K : Hid (∀ n, Below w.heap.size w (((w.alloc (.cells #[.string n1, .string v1, .bool s1, .bool o1, .int .i64 a1, .int .i64 b1, .int .i64 c1] 88)).alloc (.cells #[.string n2, .string v2, .bool s2, .bool o2, .int .i64 a2, .int .i64 b2, .int .i64 c2] 88)).drewN n)) := fun n =>
    below_dN (((Below.refl _ _).alloc (Nat.le_refl _) _).alloc (by simp) _) n
  have x0 : ((w.alloc (.cells #[.string n1, .string v1, .bool s1, .bool o1, .int .i64 a1, .int .i64 b1, .int .i64 c1] 88)).alloc (.cells #[.string n2, .string v2, .bool s2, .bool o2, .int .i64 a2, .int .i64 b2, .int .i64 c2] 88)).cell? ⟨w.heap.size, 4, none⟩ = some (.int .i64 a1) := ext_alloc _ _ _ _ _ (cell_new w _ _ 4)
  have x1 : ((w.alloc (.cells #[.string n1, .string v1, .bool s1, .bool o1, .int .i64 a1, .int .i64 b1, .int .i64 c1] 88)).alloc (.cells #[.string n2, .string v2, .bool s2, .bool o2, .int .i64 a2, .int .i64 b2, .int .i64 c2] 88)).cell? ⟨w.heap.size, 5, none⟩ = some (.int .i64 b1) := ext_alloc _ _ _ _ _ (cell_new w _ _ 5)
  have x2 : ((w.alloc (.cells #[.string n1, .string v1, .bool s1, .bool o1, .int .i64 a1, .int .i64 b1, .int .i64 c1] 88)).alloc (.cells #[.string n2, .string v2, .bool s2, .bool o2, .int .i64 a2, .int .i64 b2, .int .i64 c2] 88)).cell? ⟨w.heap.size, 6, none⟩ = some (.int .i64 c1) := ext_alloc _ _ _ _ _ (cell_new w _ _ 6)
  have hz : (w.alloc (.cells #[.string n1, .string v1, .bool s1, .bool o1, .int .i64 a1, .int .i64 b1, .int .i64 c1] 88)).heap.size = w.heap.size + 1 := by simp
  have y0 := cell_new (w.alloc (.cells #[.string n1, .string v1, .bool s1, .bool o1, .int .i64 a1, .int .i64 b1, .int .i64 c1] 88)) #[.string n2, .string v2, .bool s2, .bool o2, .int .i64 a2, .int .i64 b2, .int .i64 c2] 88 4
  have y1 := cell_new (w.alloc (.cells #[.string n1, .string v1, .bool s1, .bool o1, .int .i64 a1, .int .i64 b1, .int .i64 c1] 88)) #[.string n2, .string v2, .bool s2, .bool o2, .int .i64 a2, .int .i64 b2, .int .i64 c2] 88 5
  have y2 := cell_new (w.alloc (.cells #[.string n1, .string v1, .bool s1, .bool o1, .int .i64 a1, .int .i64 b1, .int .i64 c1] 88)) #[.string n2, .string v2, .bool s2, .bool o2, .int .i64 a2, .int .i64 b2, .int .i64 c2] 88 6
  rw [hz] at y0 y1 y2
  have CC : Hid (∀ n, Calls Tryz.prog 101 #[.slice (some ⟨w.heap.size, 4, none⟩) 3 3, .slice (some ⟨w.heap.size + 1, 4, none⟩) 3 3] (((w.alloc (.cells #[.string n1, .string v1, .bool s1, .bool o1, .int .i64 a1, .int .i64 b1, .int .i64 c1] 88)).alloc (.cells #[.string n2, .string v2, .bool s2, .bool o2, .int .i64 a2, .int .i64 b2, .int .i64 c2] 88)).drewN n)
      fun e w' => e = .returned (.int .i64 (cmp3 ⟨a1, b1, c1⟩ ⟨a2, b2, c2⟩)) ∧ w' = ((w.alloc (.cells #[.string n1, .string v1, .bool s1, .bool o1, .int .i64 a1, .int .i64 b1, .int .i64 c1] 88)).alloc (.cells #[.string n2, .string v2, .bool s2, .bool o2, .int .i64 a2, .int .i64 b2, .int .i64 c2] 88)).drewN n) := fun n =>
    compare4 w.heap.size (w.heap.size + 1) ⟨a1, b1, c1⟩ ⟨a2, b2, c2⟩ _ x0 x1 x2 y0 y1 y2
  clear x0 x1 x2 y0 y1 y2 hz
  by_cases hs : s1 = s2
  · by_cases ho : o1 = o2
    · subst hs ho
      have HE : Hid ((if (s1 == s1) = true then if (o1 == o1) = true then decide (0 < cmp3 ⟨a1, b1, c1⟩ ⟨a2, b2, c2⟩) else o1 else s1) = decide (0 < cmp3 ⟨a1, b1, c1⟩ ⟨a2, b2, c2⟩)) := by
        show _ = _
        simp
      simp only [HE.out]
      clear HE
      generalize cmp3 ⟨a1, b1, c1⟩ ⟨a2, b2, c2⟩ = c at *
      go_enter Tryz.func67, Tryz.ntmps67
      go_wp2_with fail
      generalize (w.alloc (.cells #[.string n1, .string v1, .bool s1, .bool o1, .int .i64 a1, .int .i64 b1, .int .i64 c1] 88)).alloc (.cells #[.string n2, .string v2, .bool s1, .bool o1, .int .i64 a2, .int .i64 b2, .int .i64 c2] 88) = w2 at *
      go_quiet ((go_at_call 101; exact Calls.quiet_of_same (CC.out _)))
      go_wp2_with fail
      go_ret
      exact ⟨rfl, K.out _⟩
    · subst hs
      have HE : Hid ((if (s1 == s1) = true then if (o1 == o2) = true then decide (0 < cmp3 ⟨a1, b1, c1⟩ ⟨a2, b2, c2⟩) else o1 else s1) = o1) := by
        show _ = _
        simp [ho]
      simp only [HE.out]
      clear HE CC
      have hob : (o1 == o2) = false := by simpa using ho
      go_enter Tryz.func67, Tryz.ntmps67
      go_wp2_with fail
      go_ret
      exact ⟨rfl, K.out 0⟩
  · have HE : Hid ((if (s1 == s2) = true then if (o1 == o2) = true then decide (0 < cmp3 ⟨a1, b1, c1⟩ ⟨a2, b2, c2⟩) else o1 else s1) = s1) := by
      show _ = _
      simp [hs]
    simp only [HE.out]
    clear HE CC
    have hob : (s1 == s2) = false := by simpa using hs
    go_enter Tryz.func67, Tryz.ntmps67
    go_wp2_with fail
    go_ret
    exact ⟨rfl, K.out 0⟩
end Go.Proofs.YtblkldfokeeaeacGreatDoor

namespace Go.Proofs.YtblkldfokeeaeacGreatDoor
open Go.RowKit Go.Maps

theorem win_none {cs : List Cl} {c : Cl} (h : win (nm c.d) cs = none) (q : Key) : updK (fun q => win q cs) (nm c.d) c q = win q (cs ++ [c]) := by
  unfold updK
  by_cases e : q = nm c.d
  · subst e; rw [if_pos rfl, win_put, h]
  · rw [if_neg e, win_other cs (fun h => e h.symm)]
theorem win_more {cs : List Cl} {c a : Cl} (h : win (nm c.d) cs = some a) (hb : beats c a = true) (q : Key) : updK (fun q => win q cs) (nm c.d) c q = win q (cs ++ [c]) := by
  unfold updK
  by_cases e : q = nm c.d
  · subst e; rw [if_pos rfl, win_put, h]; simp [hb]
  · rw [if_neg e, win_other cs (fun h => e h.symm)]
theorem win_less {cs : List Cl} {c a : Cl} (h : win (nm c.d) cs = some a) (hb : beats c a = false) (q : Key) : win q cs = win q (cs ++ [c]) := by
  by_cases e : q = nm c.d
  · subst e; rw [win_put, h]; simp [hb]
  · rw [win_other cs (fun h => e h.symm)]
theorem Mp.kept {β : Type} {R : Value → Option (DataW Unit × List MemPlace)} {dt : β → DataW Unit} {w w' : World} {B n : Nat} {f : Key → Option β} (h : Mp R dt w B n f) (e : w'.heap[B]? = w.heap[B]?) : Mp R dt w' B n f := by
  obtain ⟨D, ⟨es, c, h1, h2⟩, hf⟩ := h
  exact ⟨D, ⟨es, c, by rw [e]; exact h1, h2⟩, hf⟩

set_option maxRecDepth 100000 in
set_option maxHeartbeats 4000000 in
theorem tell_any (c : Cl) (B M : Nat) (cs : List Cl) (w : World) (hB : w.cell? ⟨B, 0, none⟩ = some (.map (some M))) (hM : MW w M cs) (hn : cs.length < maxLen) (wk : c.d.name.size ≤ maxLen) :
    Calls Tryz.prog 66 #[clV c, .pointer (some ⟨B, 0, none⟩)] w fun e w' => e = .returned (.tuple #[]) ∧ MW w' M (cs ++ [c]) ∧ Fr M w w' := by
  have HB := hid hB
  obtain ⟨n, hn', hm⟩ := hM
  have HN : Hid (n < maxLen) := Nat.lt_of_le_of_lt hn' hn
  have HL := hid hn'
  clear hn hn'
  obtain ⟨⟨nn, vl, st⟩, ow, ⟨x, y, z⟩⟩ := c
  have wk' : nn.size ≤ maxLen := wk
  have WK := hid wk'
  clear wk
  have m1 : Mpc (w.alloc (.cells #[.string nn, .string vl, .bool st, .bool ow, .int .i64 x, .int .i64 y, .int .i64 z] 88)) M n (fun q => win q cs) := hm.below ((Below.refl _ _).alloc (Nat.le_refl _) _)
  have b1 : Below w.heap.size w (w.alloc (.cells #[.string nn, .string vl, .bool st, .bool ow, .int .i64 x, .int .i64 y, .int .i64 z] 88)) := (Below.refl _ _).alloc (Nat.le_refl _) _
  have hlk := m1.look2 (en := clV) Tryz.underlying82 cl0 (zero88 _) (clR_mk _) clR_inv nn wk'
  have hB1 := ext_alloc w (.cells #[.string nn, .string vl, .bool st, .bool ow, .int .i64 x, .int .i64 y, .int .i64 z] 88) _ _ _ hB
  clear hm wk'
  cases ho : win nn.data.toList cs with
  | none =>
    have HO : Hid (∀ q, updK (fun q => win q cs) nn.data.toList ⟨⟨nn, vl, st⟩, ow, ⟨x, y, z⟩⟩ q = win q (cs ++ [⟨⟨nn, vl, st⟩, ow, ⟨x, y, z⟩⟩])) := fun q => win_none (c := ⟨⟨nn, vl, st⟩, ow, ⟨x, y, z⟩⟩) ho q
    rw [ho] at hlk
    simp only [Option.getD, Option.isSome, clV, cl0] at hlk ⊢
    have M1 := hid m1
    have hB2 := ext_alloc _ (.cells #[.string ⟨#[]⟩, .string ⟨#[]⟩, .bool false, .bool false, .int .i64 0, .int .i64 0, .int .i64 0] 88) _ _ _ hB1
    clear m1 ho
    go_enter Tryz.func66, Tryz.ntmps66
    go_wp2_with fail
    refine uponC_ins (n := n) (f := fun q => win q cs) (M1.out.below ((Below.refl _ _).alloc (Nat.le_refl _) _)) HN.out WK.out fun w' hm' hg => ?_
    go_wp2_with fail
    refine bodyPost_end (results_none rfl _ _ _) rfl ⟨rfl, ⟨n + 1, by have := HL.out; simp; omega, hm'.congr HO.out⟩, (Fr.below b1 M).trans ((Fr.below ((Below.refl _ _).alloc (Nat.le_refl _) _) M).trans (Fr.grown hg))⟩
  | some a =>
    obtain ⟨⟨an, av, ast⟩, ao, ⟨p, q, r⟩⟩ := a
    have BT := fun w => beats_any ⟨⟨an, av, ast⟩, ao, ⟨p, q, r⟩⟩ ⟨⟨nn, vl, st⟩, ow, ⟨x, y, z⟩⟩ w
    simp only [clV] at BT
    have HBT := hid BT
    clear BT
    rw [ho] at hlk
    simp only [Option.getD, Option.isSome, clV] at hlk ⊢
    have hB2 := ext_alloc _ (.cells #[.string an, .string av, .bool ast, .bool ao, .int .i64 p, .int .i64 q, .int .i64 r] 88) _ _ _ hB1
    have HB2 := hid hB2
    have m2 : Mpc ((w.alloc (.cells #[.string nn, .string vl, .bool st, .bool ow, .int .i64 x, .int .i64 y, .int .i64 z] 88)).alloc (.cells #[.string an, .string av, .bool ast, .bool ao, .int .i64 p, .int .i64 q, .int .i64 r] 88)) M n (fun q => win q cs) := m1.below ((Below.refl _ _).alloc (Nat.le_refl _) _)
    have b2 : Below w.heap.size w ((w.alloc (.cells #[.string nn, .string vl, .bool st, .bool ow, .int .i64 x, .int .i64 y, .int .i64 z] 88)).alloc (.cells #[.string an, .string av, .bool ast, .bool ao, .int .i64 p, .int .i64 q, .int .i64 r] 88)) := b1.alloc (by simp) _
    have C2 : Hid (∀ j v, #[Value.string nn, .string vl, .bool st, .bool ow, .int .i64 x, .int .i64 y, .int .i64 z][j]? = some v → ((w.alloc (.cells #[.string nn, .string vl, .bool st, .bool ow, .int .i64 x, .int .i64 y, .int .i64 z] 88)).alloc (.cells #[.string an, .string av, .bool ast, .bool ao, .int .i64 p, .int .i64 q, .int .i64 r] 88)).cell? ⟨w.heap.size, j, none⟩ = some v) :=
      fun j v hv => ext_alloc _ _ _ _ _ ((cell_new w _ _ j).trans hv)
    have M2 := hid m2
    have B2 := hid b2
    clear m1 m2 b1 b2
    cases hb : beats ⟨⟨nn, vl, st⟩, ow, ⟨x, y, z⟩⟩ ⟨⟨an, av, ast⟩, ao, ⟨p, q, r⟩⟩ with
    | false =>
      have HO : Hid (∀ q, win q cs = win q (cs ++ [⟨⟨nn, vl, st⟩, ow, ⟨x, y, z⟩⟩])) := fun q => win_less (c := ⟨⟨nn, vl, st⟩, ow, ⟨x, y, z⟩⟩) ho hb q
      rw [hb] at HBT
      clear ho hb
      go_enter Tryz.func66, Tryz.ntmps66
      go_wp2_with (go_at_call 67; refine (HBT.out _).mono ?_; rintro e w3 ⟨rfl, hb3⟩)
      exact bodyPost_end (results_none rfl _ _ _) rfl ⟨rfl, ⟨n, by have := HL.out; simp; omega, (M2.out.below hb3).congr HO.out⟩, Fr.below (below_trans B2.out hb3 (Nat.le_refl _)) M⟩
    | true =>
      have HO : Hid (∀ q, updK (fun q => win q cs) nn.data.toList ⟨⟨nn, vl, st⟩, ow, ⟨x, y, z⟩⟩ q = win q (cs ++ [⟨⟨nn, vl, st⟩, ow, ⟨x, y, z⟩⟩])) := fun q => win_more (c := ⟨⟨nn, vl, st⟩, ow, ⟨x, y, z⟩⟩) ho hb q
      rw [hb] at HBT
      clear ho hb
      go_enter Tryz.func66, Tryz.ntmps66
      go_wp2_with (go_at_call 67; refine (HBT.out _).mono ?_; rintro e w3 ⟨rfl, hb3⟩; have x3 := Ext.below hb3; have g := x3 _ _ _ HB2.out; have g0 := x3 _ _ _ (C2.out 0 _ rfl); have g1 := x3 _ _ _ (C2.out 1 _ rfl); have g2 := x3 _ _ _ (C2.out 2 _ rfl); have g3 := x3 _ _ _ (C2.out 3 _ rfl); have g4 := x3 _ _ _ (C2.out 4 _ rfl); have g5 := x3 _ _ _ (C2.out 5 _ rfl); have g6 := x3 _ _ _ (C2.out 6 _ rfl); have HB3 := hid hb3; clear x3 hb3)
      refine uponC_ins (n := n) (f := fun q => win q cs) (M2.out.below HB3.out) HN.out WK.out fun w' hm' hg => ?_
      go_wp2_with fail
      exact bodyPost_end (results_none rfl _ _ _) rfl ⟨rfl, ⟨n + 1, by have := HL.out; simp; omega, hm'.congr HO.out⟩, (Fr.below (below_trans B2.out HB3.out (Nat.le_refl _)) M).trans (Fr.grown hg)⟩
end Go.Proofs.YtblkldfokeeaeacGreatDoor

namespace Go.Proofs.YtblkldfokeeaeacGreatDoor
open Go.RowKit Go.Maps

/-- Three numbers at a block's first cells. -/
def WC (w : World) (T : Nat) (x : Wt) : Prop := w.cell? ⟨T, 0, none⟩ = some (.int .i64 x.a) ∧ w.cell? ⟨T, 1, none⟩ = some (.int .i64 x.b) ∧ w.cell? ⟨T, 2, none⟩ = some (.int .i64 x.c)
theorem WC.ext {w w' : World} {T : Nat} {x : Wt} (h : WC w T x) (e : Ext w w') : WC w' T x := ⟨e _ _ _ h.1, e _ _ _ h.2.1, e _ _ _ h.2.2⟩
def tellV (B : Nat) : Value := .func (.func 66) #[] #[.pointer (some ⟨B, 0, none⟩)]
set_option maxRecDepth 100000 in
set_option maxHeartbeats 4000000 in
theorem tell1_any (d : Dc) (F T B M : Nat) (x : Wt) (cs : List Cl) (w : World) (hF : w.cell? ⟨F, 0, none⟩ = some (tellV B)) (hT : WC w T x) (hB : w.cell? ⟨B, 0, none⟩ = some (.map (some M))) (hM : MW w M cs) (hn : cs.length < maxLen) (wk : d.name.size ≤ maxLen) :
    Calls Tryz.prog 99 #[declV d, .pointer (some ⟨F, 0, none⟩), .pointer (some ⟨T, 0, none⟩)] w fun e w' => e = .returned (.tuple #[]) ∧ MW w' M (cs ++ [⟨d, false, x⟩]) ∧ Fr M w w' := by
  obtain ⟨nn, vl, st⟩ := d
  obtain ⟨a, b, c⟩ := x
  have e1 := ext_alloc w (.cells #[.string nn, .string vl, .bool st] 40)
  have b1 : Below w.heap.size w (w.alloc (.cells #[.string nn, .string vl, .bool st] 40)) := (Below.refl _ _).alloc (Nat.le_refl _) _
  have f1 := e1 _ _ _ hF
  obtain ⟨t0, t1, t2⟩ := hT.ext e1
  have HC := hid (tell_any ⟨⟨nn, vl, st⟩, false, ⟨a, b, c⟩⟩ B M cs (w.alloc (.cells #[.string nn, .string vl, .bool st] 40)) (e1 _ _ _ hB) (hM.below b1) hn wk)
  have B1 := hid b1
  simp only [declV, tellV, clV] at *
  clear e1 b1 hF hT hB hM hn wk
  go_enter Tryz.func99, Tryz.ntmps99
  go_wp2_with (go_at_call 66; refine HC.out.mono ?_; rintro e w3 ⟨rfl, hm3, hf3⟩)
  exact bodyPost_end (results_none rfl _ _ _) rfl ⟨rfl, hm3, (Fr.below B1.out M).trans hf3⟩

set_option maxRecDepth 100000 in
set_option maxHeartbeats 4000000 in
theorem tell2_any (d : Dc) (F B M : Nat) (cs : List Cl) (w : World) (hF : w.cell? ⟨F, 0, none⟩ = some (tellV B)) (hB : w.cell? ⟨B, 0, none⟩ = some (.map (some M))) (hM : MW w M cs) (hn : cs.length < maxLen) (wk : d.name.size ≤ maxLen) :
    Calls Tryz.prog 100 #[declV d, .pointer (some ⟨F, 0, none⟩)] w fun e w' => e = .returned (.tuple #[]) ∧ MW w' M (cs ++ [⟨d, true, w00⟩]) ∧ Fr M w w' := by
  obtain ⟨nn, vl, st⟩ := d
  have e1 := ext_alloc w (.cells #[.string nn, .string vl, .bool st] 40)
  have b1 : Below w.heap.size w (w.alloc (.cells #[.string nn, .string vl, .bool st] 40)) := (Below.refl _ _).alloc (Nat.le_refl _) _
  have f1 := e1 _ _ _ hF
  have HC := hid (tell_any ⟨⟨nn, vl, st⟩, true, w00⟩ B M cs (w.alloc (.cells #[.string nn, .string vl, .bool st] 40)) (e1 _ _ _ hB) (hM.below b1) hn wk)
  have B1 := hid b1
  simp only [declV, tellV, clV, w00] at *
  clear e1 b1 hF hB hM hn wk
  go_enter Tryz.func100, Tryz.ntmps100
  go_wp2_with (go_at_call 66; refine HC.out.mono ?_; rintro e w3 ⟨rfl, hm3, hf3⟩)
  exact bodyPost_end (results_none rfl _ _ _) rfl ⟨rfl, hm3, (Fr.below B1.out M).trans hf3⟩
end Go.Proofs.YtblkldfokeeaeacGreatDoor
