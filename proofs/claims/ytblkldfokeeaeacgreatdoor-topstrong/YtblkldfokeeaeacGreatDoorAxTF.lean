/-
  The law TopStrong returns true. Conditions: the tables hold what their texts say; the texts are shorter than 2 to the 63.
-/
import Derived.Test.YtblkldfokeeaeacGreatDoorAxTE
namespace Go.Proofs.YtblkldfokeeaeacGreatDoor
open Go.RowKit Go.Maps

theorem of_pg {x : RuT} {own : Bs} {d : Dc} (h : Pg (tSty x.1 own) (fun _ => [x]) (lk1 d)) (sheet o : ByteArray) (hs : sheet.data.toList = x.1) (ho : o.data.toList = own) (hsz : sheet.size ≤ 200) (hoz : o.size ≤ 200) (w : World) (hT : Tab w) :
    Calls Tryz.prog 30 #[.string sheet, .string o] w fun e w' => e = .returned (.string (bsL (printD [d]))) ∧ Below w.heap.size w w' := by
  obtain ⟨T, L', h1, h2, h3, h4⟩ := h.style
  have hk : 1 < L'.length := by rw [h3]; show 1 < 2; decide
  have := of_any sheet o T L' w hsz hoz (by rw [hs, ho]; exact h1) h2 hk hT
  rw [h4 1 (by show 1 < 2; decide)] at this
  exact this
set_option maxRecDepth 100000 in
set_option maxHeartbeats 8000000 in
theorem topStrong_any (a b : ByteArray) (w : World) (ha : a.size ≤ 9223372036854775807) (hb : b.size ≤ 9223372036854775807) (hT : Tab w) : Calls Tryz.prog 10 #[.string a, .string b] w fun e w' => e = .returned (.bool true) ∧ Below w.heap.size w w' := by
  have AL := hid (alive2_any w hT)
  have HT := hid hT
  have WA := hid (fun w' => word_any a w' ha)
  have WB := hid (fun w' => word_any b w' hb)
  clear hT
  cases hwa : wdB a
  · rw [hwa] at WA
    go_enter Tryz.func10, Tryz.ntmps10
    go_wp2_with (first
      | (go_at_call 27; refine AL.out.mono ?_; rintro e w1 ⟨rfl, hb1⟩; have HB1 := hid hb1; clear hb1)
      | (go_at_call 28; refine (WA.out w1).mono ?_; rintro e w2 ⟨rfl, hb2⟩; have HB2 := hid (below_trans HB1.out hb2 (Nat.le_refl _)); clear hb2))
    go_ret
    exact ⟨rfl, HB2.out⟩
  · rw [hwa] at WA
    cases hwb : wdB b
    · rw [hwb] at WB
      go_enter Tryz.func10, Tryz.ntmps10
      go_wp2_with (first
        | (go_at_call 27; refine AL.out.mono ?_; rintro e w1 ⟨rfl, hb1⟩; have HB1 := hid hb1; clear hb1)
        | (go_at_call 28; refine (WB.out w2).mono ?_; rintro e w3 ⟨rfl, hb3⟩; have HB3 := hid (below_trans HB2.out hb3 (Nat.le_refl _)); clear hb3)
        | (go_at_call 28; refine (WA.out w1).mono ?_; rintro e w2 ⟨rfl, hb2⟩; have HB2 := hid (below_trans HB1.out hb2 (Nat.le_refl _)); clear hb2))
      go_ret
      exact ⟨rfl, HB3.out⟩
    · rw [hwb] at WB
      obtain ⟨da, ha20⟩ := wd_of hwa
      obtain ⟨db, hb20⟩ := wd_of hwb
      have z1 : (⟨#[112, 123, 99, 111, 108, 111, 114, 58]⟩ : ByteArray).size = 8 := rfl
      have z2 : (⟨#[125]⟩ : ByteArray).size = 1 := rfl
      have z3 : (⟨#[99, 111, 108, 111, 114, 58]⟩ : ByteArray).size = 6 := rfl
      have z4 : (⟨#[32, 33, 105, 109, 112, 111, 114, 116, 97, 110, 116, 125]⟩ : ByteArray).size = 12 := rfl
      have z5 : (⟨#[35, 122, 44, 112, 123, 99, 111, 108, 111, 114, 58]⟩ : ByteArray).size = 11 := rfl
      have z6 : (⟨#[33, 105, 109, 112, 111, 114, 116, 97, 110, 116]⟩ : ByteArray).size = 10 := rfl
      have O1 := hid (fun w' hT' => of_pg (pg1 da db) (⟨#[112, 123, 99, 111, 108, 111, 114, 58]⟩ ++ a ++ ⟨#[125]⟩) (⟨#[99, 111, 108, 111, 114, 58]⟩ ++ b) (by simp only [ba_data]; simp [ruP]) (by simp only [ba_data]; simp) (by simp only [ByteArray.size_append]; omega) (by simp only [ByteArray.size_append]; omega) w' hT')
      have O2 := hid (fun w' hT' => of_pg (pg2 da db) (⟨#[112, 123, 99, 111, 108, 111, 114, 58]⟩ ++ a ++ ⟨#[32, 33, 105, 109, 112, 111, 114, 116, 97, 110, 116, 125]⟩) (⟨#[99, 111, 108, 111, 114, 58]⟩ ++ b) (by simp only [ba_data]; simp [ruI, Sh.importantL]) (by simp only [ba_data]; simp) (by simp only [ByteArray.size_append]; omega) (by simp only [ByteArray.size_append]; omega) w' hT')
      have O3 := hid (fun w' hT' => of_pg (pg3 da db) (⟨#[35, 122, 44, 112, 123, 99, 111, 108, 111, 114, 58]⟩ ++ a ++ ⟨#[32, 33, 105, 109, 112, 111, 114, 116, 97, 110, 116, 125]⟩) (⟨#[99, 111, 108, 111, 114, 58]⟩ ++ b ++ ⟨#[33, 105, 109, 112, 111, 114, 116, 97, 110, 116]⟩) (by simp only [ba_data]; simp [ruI, Sh.importantL]) (by simp only [ba_data]; simp [Sh.importantL]) (by simp only [ByteArray.size_append]; omega) (by simp only [ByteArray.size_append]; omega) w' hT')
      have p1 : bsL (printD [⟨bsL colorL, bsL b.data.toList, false⟩]) = ⟨#[99, 111, 108, 111, 114, 58, 32]⟩ ++ b := by
        apply ba_ext
        rw [ba_data]
        show colorL ++ [58, 32] ++ b.data.toList ++ [] = _
        simp
      have p2 : bsL (printD [⟨bsL colorL, bsL a.data.toList, true⟩]) = ⟨#[99, 111, 108, 111, 114, 58, 32]⟩ ++ a ++ ⟨#[32, 33, 105, 109, 112, 111, 114, 116, 97, 110, 116]⟩ := by
        apply ba_ext
        rw [ba_data, ba_data]
        show colorL ++ [58, 32] ++ a.data.toList ++ ([32, 33] ++ Sh.importantL) = _
        simp [Sh.importantL]
      have p3 : bsL (printD [⟨bsL colorL, bsL b.data.toList, true⟩]) = ⟨#[99, 111, 108, 111, 114, 58, 32]⟩ ++ b ++ ⟨#[32, 33, 105, 109, 112, 111, 114, 116, 97, 110, 116]⟩ := by
        apply ba_ext
        rw [ba_data, ba_data]
        show colorL ++ [58, 32] ++ b.data.toList ++ ([32, 33] ++ Sh.importantL) = _
        simp [Sh.importantL]
      rw [p1] at O1
      rw [p2] at O2
      rw [p3] at O3
      clear p1 p2 p3 da db hwa hwb ha hb z1 z2 z3 z4 z5 z6
      go_enter Tryz.func10, Tryz.ntmps10
      go_wp2_with (first
        | (go_at_call 27; refine AL.out.mono ?_; rintro e w1 ⟨rfl, hb1⟩; have HB1 := hid hb1; clear hb1)
        | (go_at_call 28; refine (WB.out w2).mono ?_; rintro e w3 ⟨rfl, hb3⟩; have HB3 := hid (below_trans HB2.out hb3 (Nat.le_refl _)); clear hb3)
        | (go_at_call 28; refine (WA.out w1).mono ?_; rintro e w2 ⟨rfl, hb2⟩; have HB2 := hid (below_trans HB1.out hb2 (Nat.le_refl _)); clear hb2)
        | (go_at_call 30; refine (O3.out w5 (HT.out.ext (Ext.below HB5.out))).mono ?_; rintro e w6 ⟨rfl, hb6⟩; have HB6 := hid (below_trans HB5.out hb6 (Nat.le_refl _)); clear hb6)
        | (go_at_call 30; refine (O2.out w4 (HT.out.ext (Ext.below HB4.out))).mono ?_; rintro e w5 ⟨rfl, hb5⟩; have HB5 := hid (below_trans HB4.out hb5 (Nat.le_refl _)); clear hb5)
        | (go_at_call 30; refine (O1.out w3 (HT.out.ext (Ext.below HB3.out))).mono ?_; rintro e w4 ⟨rfl, hb4⟩; have HB4 := hid (below_trans HB3.out hb4 (Nat.le_refl _)); clear hb4))
      go_ret
      exact ⟨rfl, HB6.out⟩
end Go.Proofs.YtblkldfokeeaeacGreatDoor
