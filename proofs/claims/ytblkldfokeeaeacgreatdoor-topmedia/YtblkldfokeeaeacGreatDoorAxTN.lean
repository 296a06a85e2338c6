/-
  The law TopMedia returns true. Conditions: the tables hold what their texts say; the texts are shorter than 2 to the 63.
-/
import Derived.Test.YtblkldfokeeaeacGreatDoorAxTM
namespace Go.Proofs.YtblkldfokeeaeacGreatDoor
open Go.RowKit Go.Maps

theorem bs_one (w : World) (x : ByteArray) {P : Nat} (hP : w.heap.size = P) : BsAt (w.alloc (.cells #[.string x] 9)) (.slice (some ⟨P, 0, none⟩) 1 1) [x] := by
  subst hP
  refine ⟨_, 1, rfl, nofun, fun i hi => ⟨w.heap.size, 0, rfl, ?_⟩⟩
  obtain rfl : i = 0 := by simp at hi; omega
  show World.cell? _ ⟨_, 0, none⟩ = _
  rw [cell_new]
  rfl
set_option maxRecDepth 100000 in
set_option maxHeartbeats 8000000 in
theorem topMedia_any (a b c : ByteArray) (w : World) (ha : a.size ≤ 9223372036854775807) (hb : b.size ≤ 9223372036854775807) (hc : c.size ≤ 9223372036854775807) (hT : Tab w) : Calls Tryz.prog 11 #[.string a, .string b, .string c] w fun e w' => e = .returned (.bool true) ∧ Below w.heap.size w w' := by
  have AL := hid (alive2_any w hT)
  have HT := hid hT
  have WA := hid (fun w' => word_any a w' ha)
  have WB := hid (fun w' => word_any b w' hb)
  have WC := hid (fun w' => word_any c w' hc)
  clear hT
  cases hwa : wdB a
  · rw [hwa] at WA
    go_enter Tryz.func11, Tryz.ntmps11
    go_wp2_with (first
      | (go_at_call 27; refine AL.out.mono ?_; rintro e w1 ⟨rfl, hb1⟩; have HB1 := hid hb1; clear hb1)
      | (go_at_call 28; refine (WA.out w1).mono ?_; rintro e w2 ⟨rfl, hb2⟩; have HB2 := hid (below_trans HB1.out hb2 (Nat.le_refl _)); clear hb2))
    go_ret
    exact ⟨rfl, HB2.out⟩
  rw [hwa] at WA
  cases hwb : wdB b
  · rw [hwb] at WB
    go_enter Tryz.func11, Tryz.ntmps11
    go_wp2_with (first
      | (go_at_call 27; refine AL.out.mono ?_; rintro e w1 ⟨rfl, hb1⟩; have HB1 := hid hb1; clear hb1)
      | (go_at_call 28; refine (WB.out w2).mono ?_; rintro e w3 ⟨rfl, hb3⟩; have HB3 := hid (below_trans HB2.out hb3 (Nat.le_refl _)); clear hb3)
      | (go_at_call 28; refine (WA.out w1).mono ?_; rintro e w2 ⟨rfl, hb2⟩; have HB2 := hid (below_trans HB1.out hb2 (Nat.le_refl _)); clear hb2))
    go_ret
    exact ⟨rfl, HB3.out⟩
  rw [hwb] at WB
  cases hwc : wdB c
  · rw [hwc] at WC
    go_enter Tryz.func11, Tryz.ntmps11
    go_wp2_with (first
      | (go_at_call 27; refine AL.out.mono ?_; rintro e w1 ⟨rfl, hb1⟩; have HB1 := hid hb1; clear hb1)
      | (go_at_call 28; refine (WC.out w3).mono ?_; rintro e w4 ⟨rfl, hb4⟩; have HB4 := hid (below_trans HB3.out hb4 (Nat.le_refl _)); clear hb4)
      | (go_at_call 28; refine (WB.out w2).mono ?_; rintro e w3 ⟨rfl, hb3⟩; have HB3 := hid (below_trans HB2.out hb3 (Nat.le_refl _)); clear hb3)
      | (go_at_call 28; refine (WA.out w1).mono ?_; rintro e w2 ⟨rfl, hb2⟩; have HB2 := hid (below_trans HB1.out hb2 (Nat.le_refl _)); clear hb2))
    go_ret
    exact ⟨rfl, HB4.out⟩
  rw [hwc] at WC
  obtain ⟨da, ha20⟩ := wd_of hwa
  obtain ⟨db, hb20⟩ := wd_of hwb
  obtain ⟨dc, hc20⟩ := wd_of hwc
  obtain ⟨T, L', R', hM⟩ := md_all da db dc
  have e1 : (⟨#[60, 115, 116, 121, 108, 101, 62, 112, 123, 99, 111, 108, 111, 114, 58]⟩ ++ a ++ ⟨#[125, 112, 123, 115, 105, 122, 101, 58]⟩ ++ b ++ ⟨#[125, 64, 109, 101, 100, 105, 97, 32, 119, 105, 100, 101, 123, 112, 123, 99, 111, 108, 111, 114, 58]⟩ ++ c ++ ⟨#[125, 125, 60, 47, 115, 116, 121, 108, 101, 62, 60, 112, 62, 120, 60, 47, 112, 62]⟩ : ByteArray).data.toList = Sh.text (tE (mdT a.data.toList b.data.toList c.data.toList)) := by
    simp only [ba_data]
    simp [tE, Sh.text, Sh.first2, Sh.ats2, Sh.lastTag, Sh.styleL, mdT, rA, rZ, ruP, mdHead]
  have l1 : (Sh.text (tE (mdT a.data.toList b.data.toList c.data.toList))).length ≤ 6000 := by
    have h1 := da.len
    have h2 := db.len
    have h3 := dc.len
    rw [tE_len, mdT_len]; omega
  have FA := hid (fun w' hT' => fold_any _ w' (by rw [Lib.size_eq, e1]; omega) hT')
  rw [e1, hM.fold] at FA
  simp only [FoldAns] at FA
  have hk : 1 < L'.length := by rw [hM.nodes]; decide
  have RB := hid (fun w' hT' => read_any (bsL T) w' (by rw [bsL_size]; have := fold_len hM.fold; omega) hT')
  rw [show (bsL T).data.toList = T from rfl, read_iff.2 hM.again] at RB
  simp only [ReadAns] at RB
  have SA := hid (fun w' hT' => style_any T L' 1 w' hM.again.page hk hT')
  have eZ : bsL (printD [⟨bsL sizeL, bsL b.data.toList, false⟩]) = ⟨#[115, 105, 122, 101, 58, 32]⟩ ++ b := by
    apply ba_ext
    rw [ba_data]
    show sizeL ++ [58, 32] ++ b.data.toList ++ [] = _
    simp
  rw [hM.own hk, eZ] at SA
  obtain ⟨hL120, hS6, hNd⟩ := page_bd hM.again.page
  have HSn := hid (sm_nodes hL120 (fun n hn => ndBd_mono (hNd n hn) hS6))
  have HSr := hid (sm_rules (R := R') (by have := hM.again.few; omega) hM.again.bd)
  have eA : bsL a.data.toList = a := by apply ba_ext; rfl
  have eC : bsL c.data.toList = c := by apply ba_ext; rfl
  have V1 := hid (fun w' lv rv (hl : NdsAt w' lv (L'.map ofN)) (hr : RusAt w' rv (R'.map ofR)) hT' => value_any (lv := lv) (rv := rv) (mv := .slice none 0 0) (media := []) 1 ⟨#[99, 111, 108, 111, 114]⟩ w' hl HSn.out hr HSr.out (bs_nil _) (by simp) hT' (by decide))
  rw [hM.far, eA] at V1
  have V2 := hid (fun w' lv rv mv (hl : NdsAt w' lv (L'.map ofN)) (hr : RusAt w' rv (R'.map ofR)) (hm : BsAt w' mv [⟨#[119, 105, 100, 101]⟩]) hT' => value_any (lv := lv) (rv := rv) (mv := mv) (media := [⟨#[119, 105, 100, 101]⟩]) 1 ⟨#[99, 111, 108, 111, 114]⟩ w' hl HSn.out hr HSr.out hm (by show 1 ≤ 1099511627776; decide) hT' (by decide))
  rw [hM.near, eC] at V2
  simp only [AnsV] at V1 V2
  have HLn := hid hM.nodes
  have HRn := hid hM.rules
  clear hM e1 l1 eZ eA eC hNd hS6 hL120 hk da db dc hwa hwb hwc ha hb hc
  generalize bsL T = bt at *
  go_enter Tryz.func11, Tryz.ntmps11
  go_wp2_with (first
    | (go_at_call 27; refine AL.out.mono ?_; rintro e w1 ⟨rfl, hb1⟩; have HB1 := hid hb1; clear hb1)
    | (go_at_call 28; refine (WC.out w3).mono ?_; rintro e w4 ⟨rfl, hb4⟩; have HB4 := hid (below_trans HB3.out hb4 (Nat.le_refl _)); clear hb4)
    | (go_at_call 28; refine (WB.out w2).mono ?_; rintro e w3 ⟨rfl, hb3⟩; have HB3 := hid (below_trans HB2.out hb3 (Nat.le_refl _)); clear hb3)
    | (go_at_call 28; refine (WA.out w1).mono ?_; rintro e w2 ⟨rfl, hb2⟩; have HB2 := hid (below_trans HB1.out hb2 (Nat.le_refl _)); clear hb2)
    | (go_at_call 16; refine (FA.out w4 (HT.out.ext (Ext.below HB4.out))).mono ?_; rintro e w5 ⟨rfl, hb5⟩; have HB5 := hid (below_al (below_trans HB4.out hb5 (Nat.le_refl _)) (o := .cells #[.int .i64 0, .int .i64 0] 25)); have FA5 := hid (FaB.new w5 0 0); clear hb5; simp only [faultV])
    | (go_at_call 17; refine (RB.out _ (HT.out.ext (Ext.below HB5.out))).mono ?_; rintro e w7 ⟨⟨lv, rv, rfl, hlv, hrv⟩, hb7⟩; obtain ⟨la, lc, rfl⟩ := nd_form hlv; obtain ⟨ra, rc, rfl⟩ := rs_form hrv; have bA := below_al (o := .cells #[.int .i64 0, .int .i64 0] 25) (Below.refl w7.heap.size w7); have HB7 := hid (below_trans (below_trans HB5.out hb7 (Nat.le_refl _)) bA (Nat.le_refl _)); have HN7 := hid (nds_of (nd_below hlv bA)); have HR7 := hid (rus_of (rs_keeps hrv bA)); have F7 := (FA5.out.below hb7).below bA; have y0 := F7.cell0; have y1 := F7.cell1; rw [HLn.out] at HN7; rw [HRn.out] at HR7; clear hb7 hlv hrv bA F7; simp only [faultV, HLn.out, HRn.out])
    | (go_at_call 29; refine (SA.out _ (HT.out.ext (Ext.below HB7.out))).mono ?_; rintro e w8 ⟨rfl, hb8⟩; have HB8 := hid (below_trans HB7.out hb8 (Nat.le_refl _)); have HN8 := hid (HN7.out.ext (Ext.below hb8)); have HR8 := hid (HR7.out.ext (Ext.below hb8)); clear hb8)
    | (go_at_call 19; refine (V2.out _ _ _ _ (HN9.out.ext (Ext.below (below_al (Below.refl _ _)))) (HR9.out.ext (Ext.below (below_al (Below.refl _ _)))) (bs_one w9 _ rfl) (HT.out.ext (Ext.below (below_al HB9.out)))).mono ?_; rintro e w10 ⟨rfl, hb10⟩; have HB10 := hid (below_trans (below_al HB9.out) hb10 (Nat.le_refl _)); clear hb10)
    | (go_at_call 19; refine (V1.out w8 _ _ HN8.out HR8.out (HT.out.ext (Ext.below HB8.out))).mono ?_; rintro e w9 ⟨rfl, hb9⟩; have HB9 := hid (below_trans HB8.out hb9 (Nat.le_refl _)); have HN9 := hid (HN8.out.ext (Ext.below hb9)); have HR9 := hid (HR8.out.ext (Ext.below hb9)); clear hb9))
  go_ret
  exact ⟨rfl, HB10.out⟩
end Go.Proofs.YtblkldfokeeaeacGreatDoor
