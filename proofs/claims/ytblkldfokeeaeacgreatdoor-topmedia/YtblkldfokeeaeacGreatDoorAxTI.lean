/-
  The law TopOwn returns true. Conditions: the tables hold what their texts say; the texts are shorter than 2 to the 63.
-/
import Derived.Test.YtblkldfokeeaeacGreatDoorAxTE
namespace Go.Proofs.YtblkldfokeeaeacGreatDoor
open Go.RowKit Go.Maps

def ownTx (a b c : Bs) : Bs := sizeL ++ 58 :: (a ++ 59 :: (colorL ++ 58 :: (b ++ 59 :: (sizeL ++ 58 :: c))))
def atO (o : Bs) : List Sh.At2 := [([105, 100], [113]), (Sh.styleL, o), ([108, 97, 110, 103], [101, 110])]
def tO (o : Bs) : Sh.Tr := .el [112] (atO o) (.txt 120 .nil) .nil
theorem nmSize : Sh.NameOK sizeL := nameOk (by decide) (by decide) (by decide)
theorem isE_size (v : Bs) (s : Bool) : isE (Sh.ofL ⟨sizeL, v, s⟩) = false := by kernel_rfl
section
variable {a b c : Bs}
theorem ownTx_len (a b c : Bs) : (ownTx a b c).length = a.length + b.length + c.length + 18 := by
  simp [ownTx]
  omega
theorem own_three (ha : Wd a) (hb : Wd b) (hc : Wd c) : Sh.declsParse (ownTx a b c) = .ok [⟨sizeL, a, false⟩, ⟨colorL, b, false⟩, ⟨sizeL, c, false⟩] := by
  have la := ha.len
  have lb := hb.len
  have lc := hc.len
  have hl := ownTx_len a b c
  have h0 : (ownTx a b c).drop 0 = sizeL ++ 58 :: (a ++ 59 :: (colorL ++ 58 :: (b ++ 59 :: (sizeL ++ 58 :: c)))) := rfl
  have d0 := decl_end (c := 59) h0 nmSize ha (by decide) (by decide) (by decide) (by decide) (by decide)
  have h1 : (ownTx a b c).drop (0 + sizeL.length + 1 + a.length) = 59 :: (colorL ++ 58 :: (b ++ 59 :: (sizeL ++ 58 :: c))) := Sh.at_add (Sh.at_one (Sh.at_add h0))
  have h2 := Sh.at_one h1
  have d1 := decl_end (c := 59) h2 nmColor hb (by decide) (by decide) (by decide) (by decide) (by decide)
  have h3 : (ownTx a b c).drop (0 + sizeL.length + 1 + a.length + 1 + colorL.length + 1 + b.length) = 59 :: (sizeL ++ 58 :: c) := Sh.at_add (Sh.at_one (Sh.at_add h2))
  have h4 := Sh.at_one h3
  have d2 := decl_nil h4 nmSize hc
  refine declsParse_of (by omega) (decls_of (k := 0) (c := 115) (Y := [105, 122, 101] ++ 58 :: (a ++ 59 :: (colorL ++ 58 :: (b ++ 59 :: (sizeL ++ 58 :: c))))) rfl (by decide) (declsTo_step (c := 115) h0 (by decide) (by decide) d0 (Sh.at_byte h1) (Sh.gaps_none (c := 99) h2 (by decide) (by decide) (by decide)) (declsTo_step (c := 99) h2 (by decide) (by show 1 < 20; decide) d1 (Sh.at_byte h3) (Sh.gaps_none (c := 115) h4 (by decide) (by decide) (by decide)) (declsTo_last (c := 115) h4 (by decide) (by show 2 < 20; decide) d2 (has_end ?_))))) ?_
  · rw [hl]; simp; omega
  · rw [hl]; simp; omega
theorem all_three (a b c : Bs) : allB ([⟨sizeL, a, false⟩, ⟨colorL, b, false⟩, ⟨sizeL, c, false⟩].map Sh.ofL) = some [⟨bsL sizeL, bsL a, false⟩, ⟨bsL colorL, bsL b, false⟩, ⟨bsL sizeL, bsL c, false⟩] := by kernel_rfl
def lkO (b c : Bs) : Nat → List Dc
  | 0 => [⟨bsL colorL, bsL b, false⟩, ⟨bsL sizeL, bsL c, false⟩]
  | _ => []
theorem printO (b c : Bs) : printD (lkO b c 0) = colorL ++ [58, 32] ++ b ++ [] ++ [59, 32] ++ (sizeL ++ [58, 32] ++ c ++ []) := rfl
theorem atsO (ha : ∀ x ∈ a, Sh.valueB x = true) : Sh.AtsOk (atO a) := by
  refine ⟨by show 3 ≤ 8; decide, fun x hx => ?_, fun x hx => ?_, ?_⟩
  · rcases List.mem_cons.1 hx with rfl | hx
    · exact ⟨⟨105, [100], rfl, by decide, by decide⟩, by show 2 ≤ 20; decide⟩
    rcases List.mem_cons.1 hx with rfl | hx
    · exact Sh.nmSty
    · rw [List.mem_singleton.1 hx]
      exact ⟨⟨108, [97, 110, 103], rfl, by decide, by decide⟩, by show 4 ≤ 20; decide⟩
  · rcases List.mem_cons.1 hx with rfl | hx
    · show ∀ b ∈ [113], _; decide
    rcases List.mem_cons.1 hx with rfl | hx
    · exact ha
    · rw [List.mem_singleton.1 hx]
      show ∀ b ∈ [101, 110], _; decide
  · unfold atO
    simp [Sh.styleL]
theorem ownTx_val (ha : Wd a) (hb : Wd b) (hc : Wd c) : ∀ x ∈ ownTx a b c, Sh.valueB x = true := fun x hx => by
  unfold ownTx at hx
  rcases List.mem_append.1 hx with hx | hx
  · exact List.all_eq_true.1 (show (sizeL.all Sh.valueB) = true by decide) x hx
  rcases List.mem_cons.1 hx with rfl | hx
  · decide
  rcases List.mem_append.1 hx with hx | hx
  · exact (wch_value (ha.ch x hx)).1
  rcases List.mem_cons.1 hx with rfl | hx
  · decide
  rcases List.mem_append.1 hx with hx | hx
  · exact List.all_eq_true.1 (show (colorL.all Sh.valueB) = true by decide) x hx
  rcases List.mem_cons.1 hx with rfl | hx
  · decide
  rcases List.mem_append.1 hx with hx | hx
  · exact (wch_value (hb.ch x hx)).1
  rcases List.mem_cons.1 hx with rfl | hx
  · decide
  rcases List.mem_append.1 hx with hx | hx
  · exact List.all_eq_true.1 (show (sizeL.all Sh.valueB) = true by decide) x hx
  rcases List.mem_cons.1 hx with rfl | hx
  · decide
  · exact (wch_value (hc.ch x hx)).1
def outO (b c : Bs) : Bs := [60, 112, 32, 105, 100, 61, 34, 113, 34, 32, 115, 116, 121, 108, 101, 61, 34] ++ (printD (lkO b c 0)) ++ [34, 32, 108, 97, 110, 103, 61, 34, 101, 110, 34, 62, 120, 60, 47, 112, 62]
theorem out_eq (a b c : Bs) (g : Nat → Bs → Bs) : Sh.text (Sh.edit (fun k => printD (lkO b c k)) g 0 (tO (ownTx a b c))) = outO b c := by
  have e : Sh.editAts (printD (lkO b c 0)) (atO (ownTx a b c)) = atO (printD (lkO b c 0)) := by kernel_rfl
  show Sh.first2 [112] (Sh.editAts (printD (lkO b c 0)) (atO (ownTx a b c))) ++ [120] ++ Sh.lastTag [112] ++ [] = _
  rw [e]
  unfold outO
  generalize printD (lkO b c 0) = v
  simp [Sh.first2, Sh.ats2, Sh.at2, Sh.lastTag, atO, Sh.styleL]
theorem look_own (a b c : Bs) : lookOf ((((treeR (tO (ownTx a b c)) fun _ => ruAt [] 0 []).map ofR).flatMap (ruCl ((Sh.nodes 0 (-1) 0 (tO (ownTx a b c))).map ofN) 0 [])) ++ asC true w00 [⟨bsL sizeL, bsL a, false⟩, ⟨bsL colorL, bsL b, false⟩, ⟨bsL sizeL, bsL c, false⟩]) = lkO b c 0 := by kernel_rfl
theorem pgO (ha : Wd a) (hb : Wd b) (hc : Wd c) : Pg (tO (ownTx a b c)) (fun _ => []) (lkO b c) where
  ok := ⟨by decide, nm_p, by decide, atsO (ownTx_val ha hb hc), ⟨by decide, trivial⟩, trivial⟩
  few := by show 1 ≤ 120; decide
  len := by
    have h1 := ownTx_len a b c
    have la := ha.len
    have lb := hb.len
    have lc := hc.len
    simp [tO, Sh.text, Sh.first2, Sh.ats2, Sh.at2, Sh.lastTag, atO, Sh.styleL]
    omega
  inn := fun y hy => by
    have : y ∈ ([] : List (Nat × Bs)) := hy
    cases this
  sixty := by show 0 ≤ 60; decide
  own := fun v hv => by
    rw [List.mem_singleton.1 (show v ∈ [⟨[112], -1, atO (ownTx a b c)⟩] from hv)]
    exact ⟨_, _, own_three ha hb hc, all_three a b c⟩
  eight := by kernel_rfl
  look := fun k hk hk2 => by
    have hk3 : k < 1 := hk
    match k, hk3 with
    | 0, _ =>
      have : ownD ((Sh.nodes 0 (-1) 0 (tO (ownTx a b c)))[0]'hk2) = [⟨bsL sizeL, bsL a, false⟩, ⟨bsL colorL, bsL b, false⟩, ⟨bsL sizeL, bsL c, false⟩] := ownD_of (o := ownTx a b c) (by rfl) (own_three ha hb hc) (all_three a b c)
      rw [this]
      exact look_own a b c
  twenty := fun k => match k with
    | 0 => by show 2 ≤ 20; decide
    | _ + 1 => Nat.zero_le _
  out := by
    have lb := hb.len
    have lc := hc.len
    have e := out_eq a b c (fun _ _ => List.replicate 0 32)
    show (Sh.text (Sh.edit (fun k => printD (lkO b c k)) (fun _ _ => List.replicate 0 32) 0 (tO (ownTx a b c)))).length ≤ 6000
    rw [e]
    unfold outO
    rw [printO]
    simp
    omega
theorem foldO (ha : Wd a) (hb : Wd b) (hc : Wd c) : foldB (Sh.text (tO (ownTx a b c))) = .ok (outO b c) ∧ foldB (outO b c) = .ok (outO b c) := by
  have h := (pgO ha hb hc).fold
  rw [out_eq] at h
  refine ⟨h, ?_⟩
  obtain ⟨_, _, _, _, _, h1, _, _⟩ := fold_ok h
  exact h1.twice
end
set_option maxRecDepth 100000 in
set_option maxHeartbeats 8000000 in
theorem topOwn_any (a b c : ByteArray) (w : World) (ha : a.size ≤ 9223372036854775807) (hb : b.size ≤ 9223372036854775807) (hc : c.size ≤ 9223372036854775807) (hT : Tab w) : Calls Tryz.prog 14 #[.string a, .string b, .string c] w fun e w' => e = .returned (.bool true) ∧ Below w.heap.size w w' := by
  have AL := hid (alive2_any w hT)
  have HT := hid hT
  have WA := hid (fun w' => word_any a w' ha)
  have WB := hid (fun w' => word_any b w' hb)
  have WC := hid (fun w' => word_any c w' hc)
  clear hT
  cases hwa : wdB a
  · rw [hwa] at WA
    go_enter Tryz.func14, Tryz.ntmps14
    go_wp2_with (first
      | (go_at_call 27; refine AL.out.mono ?_; rintro e w1 ⟨rfl, hb1⟩; have HB1 := hid hb1; clear hb1)
      | (go_at_call 28; refine (WA.out w1).mono ?_; rintro e w2 ⟨rfl, hb2⟩; have HB2 := hid (below_trans HB1.out hb2 (Nat.le_refl _)); clear hb2))
    go_ret
    exact ⟨rfl, HB2.out⟩
  rw [hwa] at WA
  cases hwb : wdB b
  · rw [hwb] at WB
    go_enter Tryz.func14, Tryz.ntmps14
    go_wp2_with (first
      | (go_at_call 27; refine AL.out.mono ?_; rintro e w1 ⟨rfl, hb1⟩; have HB1 := hid hb1; clear hb1)
      | (go_at_call 28; refine (WB.out w2).mono ?_; rintro e w3 ⟨rfl, hb3⟩; have HB3 := hid (below_trans HB2.out hb3 (Nat.le_refl _)); clear hb3)
      | (go_at_call 28; refine (WA.out w1).mono ?_; rintro e w2 ⟨rfl, hb2⟩; have HB2 := hid (below_trans HB1.out hb2 (Nat.le_refl _)); clear hb2))
    go_ret
    exact ⟨rfl, HB3.out⟩
  rw [hwb] at WB
  cases hwc : wdB c
  · rw [hwc] at WC
    go_enter Tryz.func14, Tryz.ntmps14
    go_wp2_with (first
      | (go_at_call 27; refine AL.out.mono ?_; rintro e w1 ⟨rfl, hb1⟩; have HB1 := hid hb1; clear hb1)
      | (go_at_call 28; refine (WC.out w3).mono ?_; rintro e w4 ⟨rfl, hb4⟩; have HB4 := hid (below_trans HB3.out hb4 (Nat.le_refl _)); clear hb4)
      | (go_at_call 28; refine (WB.out w2).mono ?_; rintro e w3 ⟨rfl, hb3⟩; have HB3 := hid (below_trans HB2.out hb3 (Nat.le_refl _)); clear hb3)
      | (go_at_call 28; refine (WA.out w1).mono ?_; rintro e w2 ⟨rfl, hb2⟩; have HB2 := hid (below_trans HB1.out hb2 (Nat.le_refl _)); clear hb2))
    go_ret
    exact ⟨rfl, HB4.out⟩
  rw [hwc] at WC
  obtain ⟨da, ha20⟩ := wd_of hwa
  obtain ⟨db, hb20⟩ := wd_of hwb
  obtain ⟨dc, hc20⟩ := wd_of hwc
  obtain ⟨f1, f2⟩ := foldO da db dc
  have e1 : (⟨#[60, 112, 32, 105, 100, 61, 34, 113, 34, 32, 115, 116, 121, 108, 101, 61, 34, 115, 105, 122, 101, 58]⟩ ++ a ++ ⟨#[59, 99, 111, 108, 111, 114, 58]⟩ ++ b ++ ⟨#[59, 115, 105, 122, 101, 58]⟩ ++ c ++ ⟨#[34, 32, 108, 97, 110, 103, 61, 34, 101, 110, 34, 62, 120, 60, 47, 112, 62]⟩ : ByteArray).data.toList = Sh.text (tO (ownTx a.data.toList b.data.toList c.data.toList)) := by
    simp only [ba_data]
    simp [tO, Sh.text, Sh.first2, Sh.ats2, Sh.at2, Sh.lastTag, atO, Sh.styleL, ownTx]
  have e2 : bsL (outO b.data.toList c.data.toList) = ⟨#[60, 112, 32, 105, 100, 61, 34, 113, 34, 32, 115, 116, 121, 108, 101, 61, 34, 99, 111, 108, 111, 114, 58, 32]⟩ ++ b ++ ⟨#[59, 32, 115, 105, 122, 101, 58, 32]⟩ ++ c ++ ⟨#[34, 32, 108, 97, 110, 103, 61, 34, 101, 110, 34, 62, 120, 60, 47, 112, 62]⟩ := by
    apply ba_ext
    simp only [ba_data]
    rw [show (bsL (outO b.data.toList c.data.toList)).data.toList = outO b.data.toList c.data.toList from rfl]
    unfold outO
    rw [printO]
    simp
  have l1 := (pgO da db dc).len
  have l2 := fold_len f1
  have FA := hid (fun w' hT' => fold_any (⟨#[60, 112, 32, 105, 100, 61, 34, 113, 34, 32, 115, 116, 121, 108, 101, 61, 34, 115, 105, 122, 101, 58]⟩ ++ a ++ ⟨#[59, 99, 111, 108, 111, 114, 58]⟩ ++ b ++ ⟨#[59, 115, 105, 122, 101, 58]⟩ ++ c ++ ⟨#[34, 32, 108, 97, 110, 103, 61, 34, 101, 110, 34, 62, 120, 60, 47, 112, 62]⟩) w' (by rw [Lib.size_eq, e1]; omega) hT')
  have FB := hid (fun w' hT' => fold_any (bsL (outO b.data.toList c.data.toList)) w' (by rw [bsL_size]; omega) hT')
  rw [e1, f1] at FA
  rw [show (bsL (outO b.data.toList c.data.toList)).data.toList = outO b.data.toList c.data.toList from rfl, f2] at FB
  simp only [FoldAns] at FA FB
  rw [e2] at FA FB
  clear e1 e2 f1 f2 l1 l2 da db dc hwa hwb hwc ha hb hc
  go_enter Tryz.func14, Tryz.ntmps14
  go_wp2_with (first
    | (go_at_call 27; refine AL.out.mono ?_; rintro e w1 ⟨rfl, hb1⟩; have HB1 := hid hb1; clear hb1)
    | (go_at_call 28; refine (WC.out w3).mono ?_; rintro e w4 ⟨rfl, hb4⟩; have HB4 := hid (below_trans HB3.out hb4 (Nat.le_refl _)); clear hb4)
    | (go_at_call 28; refine (WB.out w2).mono ?_; rintro e w3 ⟨rfl, hb3⟩; have HB3 := hid (below_trans HB2.out hb3 (Nat.le_refl _)); clear hb3)
    | (go_at_call 28; refine (WA.out w1).mono ?_; rintro e w2 ⟨rfl, hb2⟩; have HB2 := hid (below_trans HB1.out hb2 (Nat.le_refl _)); clear hb2)
    | (go_at_call 16; refine (FB.out _ (HT.out.ext (Ext.below HB5.out))).mono ?_; rintro e w7 ⟨rfl, hb7⟩; have HB7 := hid (below_al (below_trans HB5.out hb7 (Nat.le_refl _)) (o := .cells #[.int .i64 0, .int .i64 0] 25)); have F7 := (FA5.out.below hb7).alloc (.cells #[.int .i64 0, .int .i64 0] 25); have y0 := F7.cell0; have y1 := F7.cell1; clear hb7 F7; simp only [faultV])
    | (go_at_call 16; refine (FA.out w4 (HT.out.ext (Ext.below HB4.out))).mono ?_; rintro e w5 ⟨rfl, hb5⟩; have HB5 := hid (below_al (below_trans HB4.out hb5 (Nat.le_refl _)) (o := .cells #[.int .i64 0, .int .i64 0] 25)); have FA5 := hid (FaB.new w5 0 0); clear hb5; simp only [faultV]))
  go_ret
  exact ⟨rfl, HB7.out⟩
end Go.Proofs.YtblkldfokeeaeacGreatDoor
