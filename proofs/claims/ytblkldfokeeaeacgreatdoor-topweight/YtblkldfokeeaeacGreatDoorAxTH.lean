/-
  The law TopEdge returns true. Conditions: the tables hold what their texts say; the texts are shorter than 2 to the 63.
-/
import Derived.Test.YtblkldfokeeaeacGreatDoorAxTG
namespace Go.Proofs.YtblkldfokeeaeacGreatDoor
open Go.RowKit Go.Maps

theorem fold_pg {t : Sh.Tr} {rows : Nat → List RuT} {lk : Nat → List Dc} (h : Pg t rows lk) (s : ByteArray) (hs : s.data.toList = Sh.text t) :
    ∃ bt : ByteArray, (∀ w, Tab w → Calls Tryz.prog 16 #[.string s] w fun e w' => e = .returned (.tuple #[.string bt, faultV (0, 0)]) ∧ Below w.heap.size w w') ∧
      ∀ k : Nat, k < Sh.count t → ∀ w, Tab w → Calls Tryz.prog 29 #[.string bt, .int .i64 (k : Int)] w fun e w' => e = .returned (.tuple #[.string (bsL (printD (lk k))), .bool true]) ∧ Below w.heap.size w w' := by
  obtain ⟨T, L', h1, h2, h3, h4⟩ := h.style
  refine ⟨bsL T, fun w hT => ?_, fun k hk w hT => ?_⟩
  · have FA := fold_any s w (by rw [Lib.size_eq, hs]; have := h.len; omega) hT
    rw [hs, h1] at FA
    exact FA
  · have hk' : k < L'.length := by rw [h3]; exact hk
    have := style_any T L' k w h2 hk' hT
    rw [h4 k hk] at this
    exact this
theorem edge_text (a b c d : ByteArray) : bsL (printD (sides a.data.toList b.data.toList c.data.toList d.data.toList)) = ⟨#[101, 100, 103, 101, 45, 98, 111, 116, 116, 111, 109, 58, 32]⟩ ++ a ++ ⟨#[59, 32, 101, 100, 103, 101, 45, 108, 101, 102, 116, 58, 32]⟩ ++ b ++ (⟨#[59, 32, 101, 100, 103, 101, 45, 114, 105, 103, 104, 116, 58, 32]⟩ ++ c ++ ⟨#[59, 32, 101, 100, 103, 101, 45, 116, 111, 112, 58, 32]⟩ ++ d) := by
  apply ba_ext
  simp only [ba_data]
  rw [show (bsL (printD (sides a.data.toList b.data.toList c.data.toList d.data.toList))).data.toList = printD (sides a.data.toList b.data.toList c.data.toList d.data.toList) from rfl, print4]
  simp
set_option maxRecDepth 100000 in
set_option maxHeartbeats 8000000 in
theorem topEdge_any (a b : ByteArray) (w : World) (ha : a.size ≤ 9223372036854775807) (hb : b.size ≤ 9223372036854775807) (hT : Tab w) : Calls Tryz.prog 12 #[.string a, .string b] w fun e w' => e = .returned (.bool true) ∧ Below w.heap.size w w' := by
  have AL := hid (alive2_any w hT)
  have HT := hid hT
  have WA := hid (fun w' => word_any a w' ha)
  have WB := hid (fun w' => word_any b w' hb)
  clear hT
  cases hwa : wdB a
  · rw [hwa] at WA
    go_enter Tryz.func12, Tryz.ntmps12
    go_wp2_with (first
      | (go_at_call 27; refine AL.out.mono ?_; rintro e w1 ⟨rfl, hb1⟩; have HB1 := hid hb1; clear hb1)
      | (go_at_call 28; refine (WA.out w1).mono ?_; rintro e w2 ⟨rfl, hb2⟩; have HB2 := hid (below_trans HB1.out hb2 (Nat.le_refl _)); clear hb2))
    go_ret
    exact ⟨rfl, HB2.out⟩
  · rw [hwa] at WA
    cases hwb : wdB b
    · rw [hwb] at WB
      go_enter Tryz.func12, Tryz.ntmps12
      go_wp2_with (first
        | (go_at_call 27; refine AL.out.mono ?_; rintro e w1 ⟨rfl, hb1⟩; have HB1 := hid hb1; clear hb1)
        | (go_at_call 28; refine (WB.out w2).mono ?_; rintro e w3 ⟨rfl, hb3⟩; have HB3 := hid (below_trans HB2.out hb3 (Nat.le_refl _)); clear hb3)
        | (go_at_call 28; refine (WA.out w1).mono ?_; rintro e w2 ⟨rfl, hb2⟩; have HB2 := hid (below_trans HB1.out hb2 (Nat.le_refl _)); clear hb2))
      go_ret
      exact ⟨rfl, HB3.out⟩
    · rw [hwb] at WB
      obtain ⟨da, ha20⟩ := wd_of hwa
      obtain ⟨db, hb20⟩ := wd_of hwb
      obtain ⟨t1, F1, S1⟩ := fold_pg (pgEL da db) (⟨#[60, 115, 116, 121, 108, 101, 62, 112, 123, 101, 100, 103, 101, 58]⟩ ++ a ++ ⟨#[125, 112, 123, 101, 100, 103, 101, 45, 108, 101, 102, 116, 58]⟩ ++ b ++ ⟨#[125, 60, 47, 115, 116, 121, 108, 101, 62, 60, 112, 62, 120, 60, 47, 112, 62]⟩) (by
        simp only [ba_data]
        simp [tE, Sh.text, Sh.first2, Sh.ats2, Sh.lastTag, Sh.styleL, ruTx, rE, rL, ruP])
      obtain ⟨t2, F2, S2⟩ := fold_pg (pgLE da db) (⟨#[60, 115, 116, 121, 108, 101, 62, 112, 123, 101, 100, 103, 101, 45, 108, 101, 102, 116, 58]⟩ ++ b ++ ⟨#[125, 112, 123, 101, 100, 103, 101, 58]⟩ ++ a ++ ⟨#[125, 60, 47, 115, 116, 121, 108, 101, 62, 60, 112, 62, 120, 60, 47, 112, 62]⟩) (by
        simp only [ba_data]
        simp [tE, Sh.text, Sh.first2, Sh.ats2, Sh.lastTag, Sh.styleL, ruTx, rE, rL, ruP])
      have G1 := S1 1 (by show 1 < 2; decide)
      have G2 := S2 1 (by show 1 < 2; decide)
      rw [show lkD (sides a.data.toList b.data.toList a.data.toList a.data.toList) 1 = sides a.data.toList b.data.toList a.data.toList a.data.toList from rfl, edge_text a b a a] at G1
      rw [show lkD (sides a.data.toList a.data.toList a.data.toList a.data.toList) 1 = sides a.data.toList a.data.toList a.data.toList a.data.toList from rfl, edge_text a a a a] at G2
      have HF1 := hid F1
      have HF2 := hid F2
      have HS1 := hid G1
      have HS2 := hid G2
      clear F1 F2 S1 S2 G1 G2 da db hwa hwb ha hb
      go_enter Tryz.func12, Tryz.ntmps12
      go_wp2_with (first
        | (go_at_call 27; refine AL.out.mono ?_; rintro e w1 ⟨rfl, hb1⟩; have HB1 := hid hb1; clear hb1)
        | (go_at_call 28; refine (WB.out w2).mono ?_; rintro e w3 ⟨rfl, hb3⟩; have HB3 := hid (below_trans HB2.out hb3 (Nat.le_refl _)); clear hb3)
        | (go_at_call 28; refine (WA.out w1).mono ?_; rintro e w2 ⟨rfl, hb2⟩; have HB2 := hid (below_trans HB1.out hb2 (Nat.le_refl _)); clear hb2)
        | (go_at_call 16; refine (HF2.out w6 (HT.out.ext (Ext.below HB6.out))).mono ?_; rintro e w7 ⟨rfl, hb7⟩; have HB7 := hid (below_al (below_trans HB6.out hb7 (Nat.le_refl _)) (o := .cells #[.int .i64 0, .int .i64 0] 25)); have FB7 := hid (FaB.new w7 0 0); have FA7 := hid ((FA6.out.below hb7).alloc (.cells #[.int .i64 0, .int .i64 0] 25)); clear hb7; simp only [faultV])
        | (go_at_call 16; refine (HF1.out w3 (HT.out.ext (Ext.below HB3.out))).mono ?_; rintro e w4 ⟨rfl, hb4⟩; have HB4 := hid (below_al (below_trans HB3.out hb4 (Nat.le_refl _)) (o := .cells #[.int .i64 0, .int .i64 0] 25)); have FA4 := hid (FaB.new w4 0 0); clear hb4; simp only [faultV])
        | (go_at_call 29; refine (HS2.out _ (HT.out.ext (Ext.below HB7.out))).mono ?_; rintro e w8 ⟨rfl, hb8⟩; have HB8 := hid (below_trans HB7.out hb8 (Nat.le_refl _)); have F8 := FA7.out.below hb8; have G8 := FB7.out.below hb8; have y0 := F8.cell0; have y1 := F8.cell1; have y2 := G8.cell0; have y3 := G8.cell1; clear hb8 F8 G8)
        | (go_at_call 29; refine (HS1.out _ (HT.out.ext (Ext.below HB4.out))).mono ?_; rintro e w6 ⟨rfl, hb6⟩; have HB6 := hid (below_trans HB4.out hb6 (Nat.le_refl _)); have FA6 := hid (FA4.out.below hb6); clear hb6))
      go_ret
      exact ⟨rfl, HB8.out⟩
end Go.Proofs.YtblkldfokeeaeacGreatDoor
