/-
  The law TopWeight returns true. Conditions: the tables hold what their texts say; the texts are shorter than 2 to the 63.
-/
import Derived.Test.YtblkldfokeeaeacGreatDoorAxTJ
import Derived.Test.YtblkldfokeeaeacGreatDoorAxTH
namespace Go.Proofs.YtblkldfokeeaeacGreatDoor
open Go.RowKit Go.Maps

def permB (x y z : ByteArray) : Nat → ByteArray
  | 0 => ⟨#[60, 115, 116, 121, 108, 101, 62]⟩ ++ x ++ y ++ z ++ ⟨#[60, 47, 115, 116, 121, 108, 101, 62, 60, 112, 32, 99, 108, 97, 115, 115, 61, 34, 107, 34, 32, 105, 100, 61, 34, 113, 34, 62, 120, 60, 47, 112, 62, 60, 112, 32, 99, 108, 97, 115, 115, 61, 34, 107, 34, 62, 121, 60, 47, 112, 62, 60, 112, 62, 122, 60, 47, 112, 62]⟩
  | 1 => ⟨#[60, 115, 116, 121, 108, 101, 62]⟩ ++ x ++ z ++ y ++ ⟨#[60, 47, 115, 116, 121, 108, 101, 62, 60, 112, 32, 99, 108, 97, 115, 115, 61, 34, 107, 34, 32, 105, 100, 61, 34, 113, 34, 62, 120, 60, 47, 112, 62, 60, 112, 32, 99, 108, 97, 115, 115, 61, 34, 107, 34, 62, 121, 60, 47, 112, 62, 60, 112, 62, 122, 60, 47, 112, 62]⟩
  | 2 => ⟨#[60, 115, 116, 121, 108, 101, 62]⟩ ++ y ++ x ++ z ++ ⟨#[60, 47, 115, 116, 121, 108, 101, 62, 60, 112, 32, 99, 108, 97, 115, 115, 61, 34, 107, 34, 32, 105, 100, 61, 34, 113, 34, 62, 120, 60, 47, 112, 62, 60, 112, 32, 99, 108, 97, 115, 115, 61, 34, 107, 34, 62, 121, 60, 47, 112, 62, 60, 112, 62, 122, 60, 47, 112, 62]⟩
  | 3 => ⟨#[60, 115, 116, 121, 108, 101, 62]⟩ ++ y ++ z ++ x ++ ⟨#[60, 47, 115, 116, 121, 108, 101, 62, 60, 112, 32, 99, 108, 97, 115, 115, 61, 34, 107, 34, 32, 105, 100, 61, 34, 113, 34, 62, 120, 60, 47, 112, 62, 60, 112, 32, 99, 108, 97, 115, 115, 61, 34, 107, 34, 62, 121, 60, 47, 112, 62, 60, 112, 62, 122, 60, 47, 112, 62]⟩
  | 4 => ⟨#[60, 115, 116, 121, 108, 101, 62]⟩ ++ z ++ x ++ y ++ ⟨#[60, 47, 115, 116, 121, 108, 101, 62, 60, 112, 32, 99, 108, 97, 115, 115, 61, 34, 107, 34, 32, 105, 100, 61, 34, 113, 34, 62, 120, 60, 47, 112, 62, 60, 112, 32, 99, 108, 97, 115, 115, 61, 34, 107, 34, 62, 121, 60, 47, 112, 62, 60, 112, 62, 122, 60, 47, 112, 62]⟩
  | _ => ⟨#[60, 115, 116, 121, 108, 101, 62]⟩ ++ z ++ y ++ x ++ ⟨#[60, 47, 115, 116, 121, 108, 101, 62, 60, 112, 32, 99, 108, 97, 115, 115, 61, 34, 107, 34, 32, 105, 100, 61, 34, 113, 34, 62, 120, 60, 47, 112, 62, 60, 112, 32, 99, 108, 97, 115, 115, 61, 34, 107, 34, 62, 121, 60, 47, 112, 62, 60, 112, 62, 122, 60, 47, 112, 62]⟩
theorem perm_text {x y z : ByteArray} {a b c : Bs} (hx : x.data.toList = (rQ a).1) (hy : y.data.toList = (rK b).1) (hz : z.data.toList = (rP c).1) (n : Nat) (hn : n < 6) : (permB x y z n).data.toList = Sh.text (tW (ruTx (rows6 a b c n))) := by
  have h1 : n = 0 ∨ n = 1 ∨ n = 2 ∨ n = 3 ∨ n = 4 ∨ n = 5 := by omega
  rcases h1 with rfl | rfl | rfl | rfl | rfl | rfl <;> simp only [permB, ba_data, hx, hy, hz] <;> simp [tW, Sh.text, Sh.first2, Sh.ats2, Sh.at2, Sh.lastTag, Sh.styleL, atK, atKQ, rows6, ruTx]
theorem col_text (a : ByteArray) : bsL (printD [⟨bsL colorL, bsL a.data.toList, false⟩]) = ⟨#[99, 111, 108, 111, 114, 58, 32]⟩ ++ a := by
  apply ba_ext
  rw [ba_data]
  show colorL ++ [58, 32] ++ a.data.toList ++ [] = _
  simp
theorem three_of {w : World} {P : Nat} {x y z : Value} {T : TypeId} (h : w.heap[P]? = some (.cells #[x, y, z] T (0, 0))) : w.cell? ⟨P, 0, none⟩ = some x ∧ w.cell? ⟨P, 1, none⟩ = some y ∧ w.cell? ⟨P, 2, none⟩ = some z := ⟨Sh.cell_of h 0, Sh.cell_of h 1, Sh.cell_of h 2⟩
theorem hK_new {X : World} {T : TypeId} {P : Nat} {cs : Array Value} (h : X.heap.size = P) : (X.alloc (.cells cs T)).heap[P]? = some (.cells cs T (0, 0)) := h ▸ heap_alloc_new X _
theorem hK_al {X : World} {P : Nat} {o o' : Obj} (h : X.heap[P]? = some o) : (X.alloc o').heap[P]? = some o := (Below.heap_alloc _ _ _ (lt_heap h)).trans h
def BF (W X : World) : Prop := Below W.heap.size W X ∧ FaB X W.heap.size 0 0
theorem hK_dr {X : World} {P : Nat} {o : Obj} (h : X.heap[P]? = some o) : X.drew.heap[P]? = some o := h
theorem below_st2 {a w : World} {P j : Nat} {v : Value} (h : Below a.heap.size a w) (hP : a.heap.size ≤ P) : Below a.heap.size a (w.setCell ⟨P, j, none⟩ v) := h.setCell (by simpa using hP) v
def wW (w4 : World) (sx sy sz : ByteArray) : World := ((((((((w4.alloc (.cells #[.string sx, .string sy, .string sz] 9)).alloc (.cells #[.int .i64 0, .int .i64 1, .int .i64 2] 3)).alloc (.cells #[.int .i64 0, .int .i64 2, .int .i64 1] 3)).alloc (.cells #[.int .i64 1, .int .i64 0, .int .i64 2] 3)).alloc (.cells #[.int .i64 1, .int .i64 2, .int .i64 0] 3)).alloc (.cells #[.int .i64 2, .int .i64 0, .int .i64 1] 3)).alloc (.cells #[.int .i64 2, .int .i64 1, .int .i64 0] 3)).alloc (.cells #[.slice (some ⟨w4.heap.size + 1, 0, none⟩) 3 3, .slice (some ⟨w4.heap.size + 1 + 1, 0, none⟩) 3 3, .slice (some ⟨w4.heap.size + 1 + 1 + 1, 0, none⟩) 3 3, .slice (some ⟨w4.heap.size + 1 + 1 + 1 + 1, 0, none⟩) 3 3, .slice (some ⟨w4.heap.size + 1 + 1 + 1 + 1 + 1, 0, none⟩) 3 3, .slice (some ⟨w4.heap.size + 1 + 1 + 1 + 1 + 1 + 1, 0, none⟩) 3 3] 65))
theorem wW_list (w4 : World) (sx sy sz : ByteArray) : (wW w4 sx sy sz).heap[w4.heap.size]? = some (.cells #[.string sx, .string sy, .string sz] 9 (0, 0)) := by
  unfold wW
  repeat' (first | exact hK_new rfl | (refine hK_new ?_; simp; done) | refine hK_al ?_)
theorem wW_rows (w4 : World) (sx sy sz : ByteArray) : (wW w4 sx sy sz).heap[w4.heap.size + 1]? = some (.cells #[.int .i64 0, .int .i64 1, .int .i64 2] 3 (0, 0)) ∧ (wW w4 sx sy sz).heap[w4.heap.size + 1 + 1]? = some (.cells #[.int .i64 0, .int .i64 2, .int .i64 1] 3 (0, 0)) ∧ (wW w4 sx sy sz).heap[w4.heap.size + 1 + 1 + 1]? = some (.cells #[.int .i64 1, .int .i64 0, .int .i64 2] 3 (0, 0)) ∧ (wW w4 sx sy sz).heap[w4.heap.size + 1 + 1 + 1 + 1]? = some (.cells #[.int .i64 1, .int .i64 2, .int .i64 0] 3 (0, 0)) ∧ (wW w4 sx sy sz).heap[w4.heap.size + 1 + 1 + 1 + 1 + 1]? = some (.cells #[.int .i64 2, .int .i64 0, .int .i64 1] 3 (0, 0)) ∧ (wW w4 sx sy sz).heap[w4.heap.size + 1 + 1 + 1 + 1 + 1 + 1]? = some (.cells #[.int .i64 2, .int .i64 1, .int .i64 0] 3 (0, 0)) := by
  unfold wW
  refine ⟨?_, ?_, ?_, ?_, ?_, ?_⟩ <;> repeat' (first | exact hK_new rfl | (refine hK_new ?_; simp; done) | refine hK_al ?_)
theorem wW_below {w w4 : World} (sx sy sz : ByteArray) (h : Below w.heap.size w w4) : Below w.heap.size w (wW w4 sx sy sz) := by
  unfold wW
  repeat' (first | exact h | refine below_al ?_)
theorem ms6 {W w' : World} {L R : Nat} {x y z i j k : Value} {T T' : TypeId} (hL : W.heap[L]? = some (.cells #[x, y, z] T (0, 0))) (hR : W.heap[R]? = some (.cells #[i, j, k] T' (0, 0))) (hb : Below W.heap.size W w') : w'.cell? ⟨L, 0, none⟩ = some x ∧ w'.cell? ⟨L, 1, none⟩ = some y ∧ w'.cell? ⟨L, 2, none⟩ = some z ∧ w'.cell? ⟨R, 0, none⟩ = some i ∧ w'.cell? ⟨R, 1, none⟩ = some j ∧ w'.cell? ⟨R, 2, none⟩ = some k := by
  have k1 := three_of ((hb.block _ (lt_heap hL)).trans hL)
  have k2 := three_of ((hb.block _ (lt_heap hR)).trans hR)
  exact ⟨k1.1, k1.2.1, k1.2.2, k2⟩
theorem sz4 {x y z : ByteArray} (hx : x.size ≤ 100) (hy : y.size ≤ 100) (hz : z.size ≤ 100) : ¬ (9223372036854775807 < 7 + x.size) ∧ ¬ (9223372036854775807 < 7 + x.size + y.size) ∧ ¬ (9223372036854775807 < 7 + x.size + y.size + z.size) ∧ ¬ (9223372036854775807 < 7 + x.size + y.size + z.size + 59) := by omega
set_option maxRecDepth 100000 in
set_option maxHeartbeats 16000000 in
theorem topWeight_any (a b c : ByteArray) (order : Int) (w : World) (ha : a.size ≤ 9223372036854775807) (hb : b.size ≤ 9223372036854775807) (hc : c.size ≤ 9223372036854775807) (hT : Tab w) : Calls Tryz.prog 9 #[.string a, .string b, .string c, .int .i64 order] w fun e w' => e = .returned (.bool true) ∧ Below w.heap.size w w' := by
  have AL := hid (alive2_any w hT)
  have HT := hid hT
  have WA := hid (fun w' => word_any a w' ha)
  have WB := hid (fun w' => word_any b w' hb)
  have WC := hid (fun w' => word_any c w' hc)
  clear hT
  cases hwa : wdB a
  · rw [hwa] at WA
    go_enter Tryz.func9, Tryz.ntmps9
    go_wp2_with (first
      | (go_at_call 27; refine AL.out.mono ?_; rintro e w1 ⟨rfl, hb1⟩; have HB1 := hid hb1; clear hb1)
      | (go_at_call 28; refine (WA.out w1).mono ?_; rintro e w2 ⟨rfl, hb2⟩; have HB2 := hid (below_trans HB1.out hb2 (Nat.le_refl _)); clear hb2))
    go_ret
    exact ⟨rfl, HB2.out⟩
  rw [hwa] at WA
  cases hwb : wdB b
  · rw [hwb] at WB
    go_enter Tryz.func9, Tryz.ntmps9
    go_wp2_with (first
      | (go_at_call 27; refine AL.out.mono ?_; rintro e w1 ⟨rfl, hb1⟩; have HB1 := hid hb1; clear hb1)
      | (go_at_call 28; refine (WB.out w2).mono ?_; rintro e w3 ⟨rfl, hb3⟩; have HB3 := hid (below_trans HB2.out hb3 (Nat.le_refl _)); clear hb3)
      | (go_at_call 28; refine (WA.out w1).mono ?_; rintro e w2 ⟨rfl, hb2⟩; have HB2 := hid (below_trans HB1.out hb2 (Nat.le_refl _)); clear hb2))
    go_ret
    exact ⟨rfl, HB3.out⟩
  rw [hwb] at WB
  cases hwc : wdB c
  · rw [hwc] at WC
    go_enter Tryz.func9, Tryz.ntmps9
    go_wp2_with (first
      | (go_at_call 27; refine AL.out.mono ?_; rintro e w1 ⟨rfl, hb1⟩; have HB1 := hid hb1; clear hb1)
      | (go_at_call 28; refine (WC.out w3).mono ?_; rintro e w4 ⟨rfl, hb4⟩; have HB4 := hid (below_trans HB3.out hb4 (Nat.le_refl _)); clear hb4)
      | (go_at_call 28; refine (WB.out w2).mono ?_; rintro e w3 ⟨rfl, hb3⟩; have HB3 := hid (below_trans HB2.out hb3 (Nat.le_refl _)); clear hb3)
      | (go_at_call 28; refine (WA.out w1).mono ?_; rintro e w2 ⟨rfl, hb2⟩; have HB2 := hid (below_trans HB1.out hb2 (Nat.le_refl _)); clear hb2))
    go_ret
    exact ⟨rfl, HB4.out⟩
  rw [hwc] at WC
  by_cases ho1 : order < 0
  · go_enter Tryz.func9, Tryz.ntmps9
    go_wp2_with (first
      | (go_at_call 27; refine AL.out.mono ?_; rintro e w1 ⟨rfl, hb1⟩; have HB1 := hid hb1; clear hb1)
      | (go_at_call 28; refine (WC.out w3).mono ?_; rintro e w4 ⟨rfl, hb4⟩; have HB4 := hid (below_trans HB3.out hb4 (Nat.le_refl _)); clear hb4)
      | (go_at_call 28; refine (WB.out w2).mono ?_; rintro e w3 ⟨rfl, hb3⟩; have HB3 := hid (below_trans HB2.out hb3 (Nat.le_refl _)); clear hb3)
      | (go_at_call 28; refine (WA.out w1).mono ?_; rintro e w2 ⟨rfl, hb2⟩; have HB2 := hid (below_trans HB1.out hb2 (Nat.le_refl _)); clear hb2))
    go_ret
    exact ⟨rfl, HB4.out⟩
  by_cases ho2 : 5 < order
  · go_enter Tryz.func9, Tryz.ntmps9
    go_wp2_with (first
      | (go_at_call 27; refine AL.out.mono ?_; rintro e w1 ⟨rfl, hb1⟩; have HB1 := hid hb1; clear hb1)
      | (go_at_call 28; refine (WC.out w3).mono ?_; rintro e w4 ⟨rfl, hb4⟩; have HB4 := hid (below_trans HB3.out hb4 (Nat.le_refl _)); clear hb4)
      | (go_at_call 28; refine (WB.out w2).mono ?_; rintro e w3 ⟨rfl, hb3⟩; have HB3 := hid (below_trans HB2.out hb3 (Nat.le_refl _)); clear hb3)
      | (go_at_call 28; refine (WA.out w1).mono ?_; rintro e w2 ⟨rfl, hb2⟩; have HB2 := hid (below_trans HB1.out hb2 (Nat.le_refl _)); clear hb2))
    go_ret
    exact ⟨rfl, HB4.out⟩
  obtain ⟨da, ha20⟩ := wd_of hwa
  obtain ⟨db, hb20⟩ := wd_of hwb
  obtain ⟨dc, hc20⟩ := wd_of hwc
  have ex : (⟨#[35, 113, 123, 99, 111, 108, 111, 114, 58]⟩ ++ a ++ ⟨#[125]⟩ : ByteArray).data.toList = (rQ a.data.toList).1 := by simp only [ba_data]; simp [rQ, ruP]
  have ey : (⟨#[46, 107, 123, 99, 111, 108, 111, 114, 58]⟩ ++ b ++ ⟨#[125]⟩ : ByteArray).data.toList = (rK b.data.toList).1 := by simp only [ba_data]; simp [rK, ruP]
  have ez : (⟨#[112, 123, 99, 111, 108, 111, 114, 58]⟩ ++ c ++ ⟨#[125]⟩ : ByteArray).data.toList = (rP c.data.toList).1 := by simp only [ba_data]; simp [rP, ruP]
  have HN := hid (fun n hn => fold_pg (pgW6 da db dc n hn) _ (perm_text ex ey ez n hn))
  have zx : (⟨#[35, 113, 123, 99, 111, 108, 111, 114, 58]⟩ ++ a ++ ⟨#[125]⟩ : ByteArray).size ≤ 100 := by
    have z1 : (⟨#[35, 113, 123, 99, 111, 108, 111, 114, 58]⟩ : ByteArray).size = 9 := rfl
    have z2 : (⟨#[125]⟩ : ByteArray).size = 1 := rfl
    simp only [ByteArray.size_append]; omega
  have zy : (⟨#[46, 107, 123, 99, 111, 108, 111, 114, 58]⟩ ++ b ++ ⟨#[125]⟩ : ByteArray).size ≤ 100 := by
    have z1 : (⟨#[46, 107, 123, 99, 111, 108, 111, 114, 58]⟩ : ByteArray).size = 9 := rfl
    have z2 : (⟨#[125]⟩ : ByteArray).size = 1 := rfl
    simp only [ByteArray.size_append]; omega
  have zz : (⟨#[112, 123, 99, 111, 108, 111, 114, 58]⟩ ++ c ++ ⟨#[125]⟩ : ByteArray).size ≤ 100 := by
    have z1 : (⟨#[112, 123, 99, 111, 108, 111, 114, 58]⟩ : ByteArray).size = 8 := rfl
    have z2 : (⟨#[125]⟩ : ByteArray).size = 1 := rfl
    simp only [ByteArray.size_append]; omega
  have HZ := hid (And.intro zx (And.intro zy zz))
  clear hwa hwb hwc ha hb hc ex ey ez zx zy zz
  go_enter Tryz.func9, Tryz.ntmps9
  go_upto_region 6 with (first
      | (go_at_call 27; refine AL.out.mono ?_; rintro e w1 ⟨rfl, hb1⟩; have HB1 := hid hb1; clear hb1)
      | (go_at_call 28; refine (WC.out w3).mono ?_; rintro e w4 ⟨rfl, hb4⟩; have HB4 := hid (below_trans HB3.out hb4 (Nat.le_refl _)); clear hb4)
      | (go_at_call 28; refine (WB.out w2).mono ?_; rintro e w3 ⟨rfl, hb3⟩; have HB3 := hid (below_trans HB2.out hb3 (Nat.le_refl _)); clear hb3)
      | (go_at_call 28; refine (WA.out w1).mono ?_; rintro e w2 ⟨rfl, hb2⟩; have HB2 := hid (below_trans HB1.out hb2 (Nat.le_refl _)); clear hb2))
  clear AL WA WB WC HB1 HB2 HB3
  obtain ⟨n, rfl⟩ : ∃ n : Nat, order = n := ⟨order.toNat, by omega⟩
  have hn : n < 6 := by omega
  obtain ⟨bt, F, S⟩ := HN.out n hn
  clear HN ho1 ho2
  have S1 := S 1 (by show 1 < 4; decide)
  have S2 := S 2 (by show 2 < 4; decide)
  have S3 := S 3 (by show 3 < 4; decide)
  rw [show lkW a.data.toList b.data.toList c.data.toList 1 = [⟨bsL colorL, bsL a.data.toList, false⟩] from rfl, col_text] at S1
  rw [show lkW a.data.toList b.data.toList c.data.toList 2 = [⟨bsL colorL, bsL b.data.toList, false⟩] from rfl, col_text] at S2
  rw [show lkW a.data.toList b.data.toList c.data.toList 3 = [⟨bsL colorL, bsL c.data.toList, false⟩] from rfl, col_text] at S3
  have HS1 := hid S1
  have HS2 := hid S2
  have HS3 := hid S3
  have HF := hid F
  clear F S S1 S2 S3 da db dc
  generalize (⟨#[35, 113, 123, 99, 111, 108, 111, 114, 58]⟩ ++ a ++ ⟨#[125]⟩ : ByteArray) = sx at *
  generalize (⟨#[46, 107, 123, 99, 111, 108, 111, 114, 58]⟩ ++ b ++ ⟨#[125]⟩ : ByteArray) = sy at *
  generalize (⟨#[112, 123, 99, 111, 108, 111, 114, 58]⟩ ++ c ++ ⟨#[125]⟩ : ByteArray) = sz at *
  have HL := hid (wW_list w4 sx sy sz)
  have HR := hid (wW_rows w4 sx sy sz)
  have HWb := hid (wW_below sx sy sz HB4.out)
  obtain ⟨zx, zy, zz⟩ := HZ.out
  clear HZ HB4
  have h1 : n = 0 ∨ n = 1 ∨ n = 2 ∨ n = 3 ∨ n = 4 ∨ n = 5 := by omega
  clear hn
  rcases h1 with rfl | rfl | rfl | rfl | rfl | rfl
  all_goals
    simp only [permB] at HF
    go_upto_region 7 with (first | fail)
    generalize hW : ((((((((w4.alloc (.cells #[.string sx, .string sy, .string sz] 9)).alloc (.cells #[.int .i64 0, .int .i64 1, .int .i64 2] 3)).alloc (.cells #[.int .i64 0, .int .i64 2, .int .i64 1] 3)).alloc (.cells #[.int .i64 1, .int .i64 0, .int .i64 2] 3)).alloc (.cells #[.int .i64 1, .int .i64 2, .int .i64 0] 3)).alloc (.cells #[.int .i64 2, .int .i64 0, .int .i64 1] 3)).alloc (.cells #[.int .i64 2, .int .i64 1, .int .i64 0] 3)).alloc (.cells #[.slice (some ⟨w4.heap.size + 1, 0, none⟩) 3 3, .slice (some ⟨w4.heap.size + 1 + 1, 0, none⟩) 3 3, .slice (some ⟨w4.heap.size + 1 + 1 + 1, 0, none⟩) 3 3, .slice (some ⟨w4.heap.size + 1 + 1 + 1 + 1, 0, none⟩) 3 3, .slice (some ⟨w4.heap.size + 1 + 1 + 1 + 1 + 1, 0, none⟩) 3 3, .slice (some ⟨w4.heap.size + 1 + 1 + 1 + 1 + 1 + 1, 0, none⟩) 3 3] 65)) = W
    have eW : wW w4 sx sy sz = W := hW
    rw [eW] at HL HR HWb
    clear hW eW
    have HFW := hid (fun w' (hb : Below W.heap.size W w') => HF.out w' (HT.out.ext (Ext.below (below_trans HWb.out hb (Nat.le_refl _)))))
    clear HF
  have MS := fun (w' : World) (hb : Below W.heap.size W w') => ms6 HL.out HR.out.1 hb
  have hS0 := MS W (Below.refl _ _)
  obtain ⟨n1, n2, n3, n4⟩ := sz4 zx zy zz
  focus go_region_held3 (fun w' => w'.cell? ⟨w4.heap.size, 0, none⟩ = some (.string sx) ∧ w'.cell? ⟨w4.heap.size, 1, none⟩ = some (.string sy) ∧ w'.cell? ⟨w4.heap.size, 2, none⟩ = some (.string sz) ∧ w'.cell? ⟨w4.heap.size + 1, 0, none⟩ = some (.int .i64 0) ∧ w'.cell? ⟨w4.heap.size + 1, 1, none⟩ = some (.int .i64 1) ∧ w'.cell? ⟨w4.heap.size + 1, 2, none⟩ = some (.int .i64 2)) (first | assumption | exact hS0 | (with_reducible refine MS _ ?_; repeat' (with_reducible first | refine below_al ?_ | refine below_dr ?_ | exact HB6.out | exact Below.refl _ _ | refine below_st2 ?_ hsz6 | refine below_st2 ?_ (Nat.le_refl _)))) (first
    | (go_at_call 16; refine have_of (?_ : BF W _) (fun hb0 => (HFW.out _ hb0.1).mono ?_); (· refine ⟨?_, ?_⟩; (· repeat' (with_reducible first | refine below_al ?_ | refine below_dr ?_ | exact Below.refl _ _)); (· unfold FaB; repeat' (with_reducible first | exact hK_new rfl | refine hK_dr ?_ | refine hK_al ?_))); rintro e w6 ⟨rfl, hb6⟩; have HB6 := hid (below_trans hb0.1 hb6 (Nat.le_refl _)); have hsz6 := HB6.out.size; have F6 := hid (hb0.2.below hb6); have f0 := F6.out.fz 0; have f1 := F6.out.fz 1; have f2 := F6.out.cell0; have f3 := F6.out.cell1; clear hb6; simp only [faultV])
    | (go_at_call 16; refine have_of (?_ : Below W.heap.size W _) (fun hb0 => (HFW.out _ hb0).mono ?_); (· repeat' (with_reducible first | refine below_al ?_ | refine below_dr ?_ | exact Below.refl _ _)); rintro e w6 ⟨rfl, hb6⟩; have HB6 := hid (below_trans hb0 hb6 (Nat.le_refl _)); have hsz6 := HB6.out.size; clear hb6; simp only [faultV]))
  rotate_left 2
  have MS := fun (w' : World) (hb : Below W.heap.size W w') => ms6 HL.out HR.out.2.1 hb
  have hS0 := MS W (Below.refl _ _)
  obtain ⟨n1, n2, n3, n4⟩ := sz4 zx zz zy
  focus go_region_held3 (fun w' => w'.cell? ⟨w4.heap.size, 0, none⟩ = some (.string sx) ∧ w'.cell? ⟨w4.heap.size, 1, none⟩ = some (.string sy) ∧ w'.cell? ⟨w4.heap.size, 2, none⟩ = some (.string sz) ∧ w'.cell? ⟨w4.heap.size + 1 + 1, 0, none⟩ = some (.int .i64 0) ∧ w'.cell? ⟨w4.heap.size + 1 + 1, 1, none⟩ = some (.int .i64 2) ∧ w'.cell? ⟨w4.heap.size + 1 + 1, 2, none⟩ = some (.int .i64 1)) (first | assumption | exact hS0 | (with_reducible refine MS _ ?_; repeat' (with_reducible first | refine below_al ?_ | refine below_dr ?_ | exact HB6.out | exact Below.refl _ _ | refine below_st2 ?_ hsz6 | refine below_st2 ?_ (Nat.le_refl _)))) (first
    | (go_at_call 16; refine have_of (?_ : BF W _) (fun hb0 => (HFW.out _ hb0.1).mono ?_); (· refine ⟨?_, ?_⟩; (· repeat' (with_reducible first | refine below_al ?_ | refine below_dr ?_ | exact Below.refl _ _)); (· unfold FaB; repeat' (with_reducible first | exact hK_new rfl | refine hK_dr ?_ | refine hK_al ?_))); rintro e w6 ⟨rfl, hb6⟩; have HB6 := hid (below_trans hb0.1 hb6 (Nat.le_refl _)); have hsz6 := HB6.out.size; have F6 := hid (hb0.2.below hb6); have f0 := F6.out.fz 0; have f1 := F6.out.fz 1; have f2 := F6.out.cell0; have f3 := F6.out.cell1; clear hb6; simp only [faultV])
    | (go_at_call 16; refine have_of (?_ : Below W.heap.size W _) (fun hb0 => (HFW.out _ hb0).mono ?_); (· repeat' (with_reducible first | refine below_al ?_ | refine below_dr ?_ | exact Below.refl _ _)); rintro e w6 ⟨rfl, hb6⟩; have HB6 := hid (below_trans hb0 hb6 (Nat.le_refl _)); have hsz6 := HB6.out.size; clear hb6; simp only [faultV]))
  rotate_left 2
  have MS := fun (w' : World) (hb : Below W.heap.size W w') => ms6 HL.out HR.out.2.2.1 hb
  have hS0 := MS W (Below.refl _ _)
  obtain ⟨n1, n2, n3, n4⟩ := sz4 zy zx zz
  focus go_region_held3 (fun w' => w'.cell? ⟨w4.heap.size, 0, none⟩ = some (.string sx) ∧ w'.cell? ⟨w4.heap.size, 1, none⟩ = some (.string sy) ∧ w'.cell? ⟨w4.heap.size, 2, none⟩ = some (.string sz) ∧ w'.cell? ⟨w4.heap.size + 1 + 1 + 1, 0, none⟩ = some (.int .i64 1) ∧ w'.cell? ⟨w4.heap.size + 1 + 1 + 1, 1, none⟩ = some (.int .i64 0) ∧ w'.cell? ⟨w4.heap.size + 1 + 1 + 1, 2, none⟩ = some (.int .i64 2)) (first | assumption | exact hS0 | (with_reducible refine MS _ ?_; repeat' (with_reducible first | refine below_al ?_ | refine below_dr ?_ | exact HB6.out | exact Below.refl _ _ | refine below_st2 ?_ hsz6 | refine below_st2 ?_ (Nat.le_refl _)))) (first
    | (go_at_call 16; refine have_of (?_ : BF W _) (fun hb0 => (HFW.out _ hb0.1).mono ?_); (· refine ⟨?_, ?_⟩; (· repeat' (with_reducible first | refine below_al ?_ | refine below_dr ?_ | exact Below.refl _ _)); (· unfold FaB; repeat' (with_reducible first | exact hK_new rfl | refine hK_dr ?_ | refine hK_al ?_))); rintro e w6 ⟨rfl, hb6⟩; have HB6 := hid (below_trans hb0.1 hb6 (Nat.le_refl _)); have hsz6 := HB6.out.size; have F6 := hid (hb0.2.below hb6); have f0 := F6.out.fz 0; have f1 := F6.out.fz 1; have f2 := F6.out.cell0; have f3 := F6.out.cell1; clear hb6; simp only [faultV])
    | (go_at_call 16; refine have_of (?_ : Below W.heap.size W _) (fun hb0 => (HFW.out _ hb0).mono ?_); (· repeat' (with_reducible first | refine below_al ?_ | refine below_dr ?_ | exact Below.refl _ _)); rintro e w6 ⟨rfl, hb6⟩; have HB6 := hid (below_trans hb0 hb6 (Nat.le_refl _)); have hsz6 := HB6.out.size; clear hb6; simp only [faultV]))
  rotate_left 2
  have MS := fun (w' : World) (hb : Below W.heap.size W w') => ms6 HL.out HR.out.2.2.2.1 hb
  have hS0 := MS W (Below.refl _ _)
  obtain ⟨n1, n2, n3, n4⟩ := sz4 zy zz zx
  focus go_region_held3 (fun w' => w'.cell? ⟨w4.heap.size, 0, none⟩ = some (.string sx) ∧ w'.cell? ⟨w4.heap.size, 1, none⟩ = some (.string sy) ∧ w'.cell? ⟨w4.heap.size, 2, none⟩ = some (.string sz) ∧ w'.cell? ⟨w4.heap.size + 1 + 1 + 1 + 1, 0, none⟩ = some (.int .i64 1) ∧ w'.cell? ⟨w4.heap.size + 1 + 1 + 1 + 1, 1, none⟩ = some (.int .i64 2) ∧ w'.cell? ⟨w4.heap.size + 1 + 1 + 1 + 1, 2, none⟩ = some (.int .i64 0)) (first | assumption | exact hS0 | (with_reducible refine MS _ ?_; repeat' (with_reducible first | refine below_al ?_ | refine below_dr ?_ | exact HB6.out | exact Below.refl _ _ | refine below_st2 ?_ hsz6 | refine below_st2 ?_ (Nat.le_refl _)))) (first
    | (go_at_call 16; refine have_of (?_ : BF W _) (fun hb0 => (HFW.out _ hb0.1).mono ?_); (· refine ⟨?_, ?_⟩; (· repeat' (with_reducible first | refine below_al ?_ | refine below_dr ?_ | exact Below.refl _ _)); (· unfold FaB; repeat' (with_reducible first | exact hK_new rfl | refine hK_dr ?_ | refine hK_al ?_))); rintro e w6 ⟨rfl, hb6⟩; have HB6 := hid (below_trans hb0.1 hb6 (Nat.le_refl _)); have hsz6 := HB6.out.size; have F6 := hid (hb0.2.below hb6); have f0 := F6.out.fz 0; have f1 := F6.out.fz 1; have f2 := F6.out.cell0; have f3 := F6.out.cell1; clear hb6; simp only [faultV])
    | (go_at_call 16; refine have_of (?_ : Below W.heap.size W _) (fun hb0 => (HFW.out _ hb0).mono ?_); (· repeat' (with_reducible first | refine below_al ?_ | refine below_dr ?_ | exact Below.refl _ _)); rintro e w6 ⟨rfl, hb6⟩; have HB6 := hid (below_trans hb0 hb6 (Nat.le_refl _)); have hsz6 := HB6.out.size; clear hb6; simp only [faultV]))
  rotate_left 2
  have MS := fun (w' : World) (hb : Below W.heap.size W w') => ms6 HL.out HR.out.2.2.2.2.1 hb
  have hS0 := MS W (Below.refl _ _)
  obtain ⟨n1, n2, n3, n4⟩ := sz4 zz zx zy
  focus go_region_held3 (fun w' => w'.cell? ⟨w4.heap.size, 0, none⟩ = some (.string sx) ∧ w'.cell? ⟨w4.heap.size, 1, none⟩ = some (.string sy) ∧ w'.cell? ⟨w4.heap.size, 2, none⟩ = some (.string sz) ∧ w'.cell? ⟨w4.heap.size + 1 + 1 + 1 + 1 + 1, 0, none⟩ = some (.int .i64 2) ∧ w'.cell? ⟨w4.heap.size + 1 + 1 + 1 + 1 + 1, 1, none⟩ = some (.int .i64 0) ∧ w'.cell? ⟨w4.heap.size + 1 + 1 + 1 + 1 + 1, 2, none⟩ = some (.int .i64 1)) (first | assumption | exact hS0 | (with_reducible refine MS _ ?_; repeat' (with_reducible first | refine below_al ?_ | refine below_dr ?_ | exact HB6.out | exact Below.refl _ _ | refine below_st2 ?_ hsz6 | refine below_st2 ?_ (Nat.le_refl _)))) (first
    | (go_at_call 16; refine have_of (?_ : BF W _) (fun hb0 => (HFW.out _ hb0.1).mono ?_); (· refine ⟨?_, ?_⟩; (· repeat' (with_reducible first | refine below_al ?_ | refine below_dr ?_ | exact Below.refl _ _)); (· unfold FaB; repeat' (with_reducible first | exact hK_new rfl | refine hK_dr ?_ | refine hK_al ?_))); rintro e w6 ⟨rfl, hb6⟩; have HB6 := hid (below_trans hb0.1 hb6 (Nat.le_refl _)); have hsz6 := HB6.out.size; have F6 := hid (hb0.2.below hb6); have f0 := F6.out.fz 0; have f1 := F6.out.fz 1; have f2 := F6.out.cell0; have f3 := F6.out.cell1; clear hb6; simp only [faultV])
    | (go_at_call 16; refine have_of (?_ : Below W.heap.size W _) (fun hb0 => (HFW.out _ hb0).mono ?_); (· repeat' (with_reducible first | refine below_al ?_ | refine below_dr ?_ | exact Below.refl _ _)); rintro e w6 ⟨rfl, hb6⟩; have HB6 := hid (below_trans hb0 hb6 (Nat.le_refl _)); have hsz6 := HB6.out.size; clear hb6; simp only [faultV]))
  rotate_left 2
  have MS := fun (w' : World) (hb : Below W.heap.size W w') => ms6 HL.out HR.out.2.2.2.2.2 hb
  have hS0 := MS W (Below.refl _ _)
  obtain ⟨n1, n2, n3, n4⟩ := sz4 zz zy zx
  focus go_region_held3 (fun w' => w'.cell? ⟨w4.heap.size, 0, none⟩ = some (.string sx) ∧ w'.cell? ⟨w4.heap.size, 1, none⟩ = some (.string sy) ∧ w'.cell? ⟨w4.heap.size, 2, none⟩ = some (.string sz) ∧ w'.cell? ⟨w4.heap.size + 1 + 1 + 1 + 1 + 1 + 1, 0, none⟩ = some (.int .i64 2) ∧ w'.cell? ⟨w4.heap.size + 1 + 1 + 1 + 1 + 1 + 1, 1, none⟩ = some (.int .i64 1) ∧ w'.cell? ⟨w4.heap.size + 1 + 1 + 1 + 1 + 1 + 1, 2, none⟩ = some (.int .i64 0)) (first | assumption | exact hS0 | (with_reducible refine MS _ ?_; repeat' (with_reducible first | refine below_al ?_ | refine below_dr ?_ | exact HB6.out | exact Below.refl _ _ | refine below_st2 ?_ hsz6 | refine below_st2 ?_ (Nat.le_refl _)))) (first
    | (go_at_call 16; refine have_of (?_ : BF W _) (fun hb0 => (HFW.out _ hb0.1).mono ?_); (· refine ⟨?_, ?_⟩; (· repeat' (with_reducible first | refine below_al ?_ | refine below_dr ?_ | exact Below.refl _ _)); (· unfold FaB; repeat' (with_reducible first | exact hK_new rfl | refine hK_dr ?_ | refine hK_al ?_))); rintro e w6 ⟨rfl, hb6⟩; have HB6 := hid (below_trans hb0.1 hb6 (Nat.le_refl _)); have hsz6 := HB6.out.size; have F6 := hid (hb0.2.below hb6); have f0 := F6.out.fz 0; have f1 := F6.out.fz 1; have f2 := F6.out.cell0; have f3 := F6.out.cell1; clear hb6; simp only [faultV])
    | (go_at_call 16; refine have_of (?_ : Below W.heap.size W _) (fun hb0 => (HFW.out _ hb0).mono ?_); (· repeat' (with_reducible first | refine below_al ?_ | refine below_dr ?_ | exact Below.refl _ _)); rintro e w6 ⟨rfl, hb6⟩; have HB6 := hid (below_trans hb0 hb6 (Nat.le_refl _)); have hsz6 := HB6.out.size; clear hb6; simp only [faultV]))
  rotate_left 2
  all_goals first
    | (have HBe := hid (below_trans HWb.out (below_setF HB6.out (Nat.le_refl _) 0 0) (Nat.le_refl _)); have FE := hid (F6.out.set 0 0); unfold setF at HBe FE; clear f0 f1 f2 f3; generalize (w6.setCell ⟨W.heap.size, 0, none⟩ (.int .i64 0)).setCell ⟨W.heap.size, 1, none⟩ (.int .i64 0) = w7 at *; generalize W.heap.size = Pf at *)
    | (have HBe := hid (below_trans HWb.out (below_al (o := .cells #[.int .i64 0, .int .i64 0] 25) HB6.out) (Nat.le_refl _)); have FE := hid (FaB.new w6 0 0); generalize w6.alloc (.cells #[.int .i64 0, .int .i64 0] 25) = w7 at *; generalize w6.heap.size = Pf at *)
  all_goals
    clear hS0 MS HL HR HFW n1 n2 n3 n4
    go_wp2_with (first
      | (go_at_call 29; refine (HS3.out w9 (HT.out.ext (Ext.below HB9.out))).mono ?_; rintro e w10 ⟨rfl, hb10⟩; have HB10 := hid (below_trans HB9.out hb10 (Nat.le_refl _)); have FX := FE9.out.below hb10; have y0 := FX.cell0; have y1 := FX.cell1; clear hb10 FX)
      | (go_at_call 29; refine (HS2.out w8 (HT.out.ext (Ext.below HB8.out))).mono ?_; rintro e w9 ⟨rfl, hb9⟩; have HB9 := hid (below_trans HB8.out hb9 (Nat.le_refl _)); have FE9 := hid (FE8.out.below hb9); clear hb9)
      | (go_at_call 29; refine (HS1.out w7 (HT.out.ext (Ext.below HBe.out))).mono ?_; rintro e w8 ⟨rfl, hb8⟩; have HB8 := hid (below_trans HBe.out hb8 (Nat.le_refl _)); have FE8 := hid (FE.out.below hb8); clear hb8))
    go_ret
    exact ⟨rfl, HB10.out⟩
end Go.Proofs.YtblkldfokeeaeacGreatDoor
