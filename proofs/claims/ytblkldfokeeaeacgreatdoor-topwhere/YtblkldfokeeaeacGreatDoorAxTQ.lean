/-
  The law TopWhere returns true. Conditions: the tables hold what their texts say; the texts are shorter than 2 to the 63.
-/
import Derived.Test.YtblkldfokeeaeacGreatDoorAxTP
namespace Go.Proofs.YtblkldfokeeaeacGreatDoor
open Go.RowKit Go.Maps

set_option maxRecDepth 100000 in
set_option maxHeartbeats 16000000 in
theorem topWhere_any (a b : ByteArray) (w : World) (ha : a.size ≤ 9223372036854775807) (hb : b.size ≤ 9223372036854775807) (hT : Tab w) : Calls Tryz.prog 13 #[.string a, .string b] w fun e w' => e = .returned (.bool true) ∧ Below w.heap.size w w' := by
  have AL := hid (alive2_any w hT)
  have HT := hid hT
  have WA := hid (fun w' => word_any a w' ha)
  have WB := hid (fun w' => word_any b w' hb)
  clear hT
  cases hwa : wdB a
  · rw [hwa] at WA
    go_enter Tryz.func13, Tryz.ntmps13
    go_wp2_with (first
      | (go_at_call 27; refine AL.out.mono ?_; rintro e w1 ⟨rfl, hb1⟩; have HB1 := hid hb1; clear hb1)
      | (go_at_call 28; refine (WA.out w1).mono ?_; rintro e w2 ⟨rfl, hb2⟩; have HB2 := hid (below_trans HB1.out hb2 (Nat.le_refl _)); clear hb2))
    go_ret
    exact ⟨rfl, HB2.out⟩
  rw [hwa] at WA
  cases hwb : wdB b
  · rw [hwb] at WB
    go_enter Tryz.func13, Tryz.ntmps13
    go_wp2_with (first
      | (go_at_call 27; refine AL.out.mono ?_; rintro e w1 ⟨rfl, hb1⟩; have HB1 := hid hb1; clear hb1)
      | (go_at_call 28; refine (WB.out w2).mono ?_; rintro e w3 ⟨rfl, hb3⟩; have HB3 := hid (below_trans HB2.out hb3 (Nat.le_refl _)); clear hb3)
      | (go_at_call 28; refine (WA.out w1).mono ?_; rintro e w2 ⟨rfl, hb2⟩; have HB2 := hid (below_trans HB1.out hb2 (Nat.le_refl _)); clear hb2))
    go_ret
    exact ⟨rfl, HB3.out⟩
  rw [hwb] at WB
  obtain ⟨da, ha20⟩ := wd_of hwa
  obtain ⟨db, hb20⟩ := wd_of hwb
  have ex : (⟨#[112, 123, 99, 111, 108, 111, 114, 58]⟩ ++ a ++ ⟨#[125]⟩ : ByteArray).data.toList = ruTx [rP a.data.toList] := by simp only [ba_data]; simp [ruTx, rP, ruP]
  have ey : (⟨#[98, 123, 115, 105, 122, 101, 58]⟩ ++ b ++ ⟨#[125]⟩ : ByteArray).data.toList = ruTx [rB b.data.toList] := by simp only [ba_data]; simp [ruTx, rB, ruP]
  have ev : (⟨#[60, 112, 32, 115, 116, 121, 108, 101, 61, 34, 99, 111, 108, 111, 114, 58, 32]⟩ ++ a ++ ⟨#[34, 62, 120, 60, 98, 32, 115, 116, 121, 108, 101, 61, 34, 115, 105, 122, 101, 58, 32]⟩ ++ b ++ ⟨#[34, 62, 121, 60, 47, 98, 62, 60, 47, 112, 62]⟩ : ByteArray).data.toList = wantL a.data.toList b.data.toList := by simp only [ba_data]; simp [wantL]
  have e2 : ruTx (rw2 a.data.toList b.data.toList) = ruTx [rP a.data.toList] ++ ruTx [rB b.data.toList] := by simp [ruTx]
  have zx : (⟨#[112, 123, 99, 111, 108, 111, 114, 58]⟩ ++ a ++ ⟨#[125]⟩ : ByteArray).size ≤ 100 := by
    have z1 : (⟨#[112, 123, 99, 111, 108, 111, 114, 58]⟩ : ByteArray).size = 8 := rfl
    have z2 : (⟨#[125]⟩ : ByteArray).size = 1 := rfl
    simp only [ByteArray.size_append]; omega
  have zy : (⟨#[98, 123, 115, 105, 122, 101, 58]⟩ ++ b ++ ⟨#[125]⟩ : ByteArray).size ≤ 100 := by
    have z1 : (⟨#[98, 123, 115, 105, 122, 101, 58]⟩ : ByteArray).size = 7 := rfl
    have z2 : (⟨#[125]⟩ : ByteArray).size = 1 := rfl
    simp only [ByteArray.size_append]; omega
  have zv : (⟨#[60, 112, 32, 115, 116, 121, 108, 101, 61, 34, 99, 111, 108, 111, 114, 58, 32]⟩ ++ a ++ ⟨#[34, 62, 120, 60, 98, 32, 115, 116, 121, 108, 101, 61, 34, 115, 105, 122, 101, 58, 32]⟩ ++ b ++ ⟨#[34, 62, 121, 60, 47, 98, 62, 60, 47, 112, 62]⟩ : ByteArray).size ≤ 200 := by
    rw [Lib.size_eq, ev, want_len]
    rw [Lib.size_eq] at ha20 hb20
    omega
  have HP1 := hid (pgH1 da db)
  have HP2 := hid (pgH2 da db)
  have HP3 := hid (pgH3 da db)
  clear hwa hwb ha hb
  go_enter Tryz.func13, Tryz.ntmps13
  go_upto_region 7 with (first
    | (go_at_call 27; refine AL.out.mono ?_; rintro e w1 ⟨rfl, hb1⟩; have HB1 := hid hb1; clear hb1)
    | (go_at_call 28; refine (WB.out w2).mono ?_; rintro e w3 ⟨rfl, hb3⟩; have HB3 := hid (below_trans HB2.out hb3 (Nat.le_refl _)); clear hb3)
    | (go_at_call 28; refine (WA.out w1).mono ?_; rintro e w2 ⟨rfl, hb2⟩; have HB2 := hid (below_trans HB1.out hb2 (Nat.le_refl _)); clear hb2))
  clear AL WA WB HB1 HB2
  generalize (⟨#[112, 123, 99, 111, 108, 111, 114, 58]⟩ ++ a ++ ⟨#[125]⟩ : ByteArray) = sx at *
  generalize (⟨#[98, 123, 115, 105, 122, 101, 58]⟩ ++ b ++ ⟨#[125]⟩ : ByteArray) = sy at *
  generalize (⟨#[60, 112, 32, 115, 116, 121, 108, 101, 61, 34, 99, 111, 108, 111, 114, 58, 32]⟩ ++ a ++ ⟨#[34, 62, 120, 60, 98, 32, 115, 116, 121, 108, 101, 61, 34, 115, 105, 122, 101, 58, 32]⟩ ++ b ++ ⟨#[34, 62, 121, 60, 47, 98, 62, 60, 47, 112, 62]⟩ : ByteArray) = sv at *
  have n1 : ¬ (9223372036854775807 < 7 + sx.size) := by omega
  have n2 : ¬ (9223372036854775807 < 7 + sx.size + sy.size) := by omega
  have n3 : ¬ (9223372036854775807 < 7 + sx.size + sy.size + 8) := by omega
  have n4 : ¬ (9223372036854775807 < 7 + sx.size + sy.size + 8 + 16) := by omega
  have n5 : ¬ (9223372036854775807 < 17 + sv.size) := by omega
  have n6 : ¬ (9223372036854775807 < 23 + sx.size) := by omega
  have n7 : ¬ (9223372036854775807 < 23 + sx.size + sy.size) := by omega
  have n8 : ¬ (9223372036854775807 < 23 + sx.size + sy.size + 8) := by omega
  have n9 : ¬ (9223372036854775807 < sv.size + 17) := by omega
  have n10 : ¬ (9223372036854775807 < 7 + sx.size + 8) := by omega
  have n11 : ¬ (9223372036854775807 < 7 + sx.size + 8 + 16) := by omega
  have n12 : ¬ (9223372036854775807 < 7 + sx.size + 8 + 16 + 7) := by omega
  have n13 : ¬ (9223372036854775807 < 7 + sx.size + 8 + 16 + 7 + sy.size) := by omega
  have n14 : ¬ (9223372036854775807 < 7 + sx.size + 8 + 16 + 7 + sy.size + 8) := by omega
  have n15 : ¬ (9223372036854775807 < 16 + sv.size) := by omega
  have n16 : ¬ (9223372036854775807 < 16 + sv.size + 16) := by omega
  have F1 : Hid (FoldsTo (⟨#[60, 115, 116, 121, 108, 101, 62]⟩ ++ sx ++ sy ++ ⟨#[60, 47, 115, 116, 121, 108, 101, 62]⟩ ++ ⟨#[60, 112, 62, 120, 60, 98, 62, 121, 60, 47, 98, 62, 60, 47, 112, 62]⟩) (⟨#[60, 115, 116, 121, 108, 101, 62, 32, 32, 60, 47, 115, 116, 121, 108, 101, 62]⟩ ++ sv)) := folds_pg HP1.out (outH1 _ _) (by simp only [ba_data, ex, ey]; simp [tH1, tPB, Sh.text, Sh.first2, Sh.ats2, Sh.lastTag, Sh.styleL, e2]) (by simp only [ba_data, ev]; simp)
  have F2 : Hid (FoldsTo (⟨#[60, 112, 62, 120, 60, 98, 62, 121, 60, 47, 98, 62, 60, 47, 112, 62]⟩ ++ ⟨#[60, 115, 116, 121, 108, 101, 62]⟩ ++ sx ++ sy ++ ⟨#[60, 47, 115, 116, 121, 108, 101, 62]⟩) (sv ++ ⟨#[60, 115, 116, 121, 108, 101, 62, 32, 32, 60, 47, 115, 116, 121, 108, 101, 62]⟩)) := folds_pg HP2.out (outH2 _ _) (by simp only [ba_data, ex, ey]; simp [tH2, tPB, Sh.text, Sh.first2, Sh.ats2, Sh.lastTag, Sh.styleL, e2]) (by simp only [ba_data, ev]; simp)
  have F3 : Hid (FoldsTo (⟨#[60, 115, 116, 121, 108, 101, 62]⟩ ++ sx ++ ⟨#[60, 47, 115, 116, 121, 108, 101, 62]⟩ ++ ⟨#[60, 112, 62, 120, 60, 98, 62, 121, 60, 47, 98, 62, 60, 47, 112, 62]⟩ ++ ⟨#[60, 115, 116, 121, 108, 101, 62]⟩ ++ sy ++ ⟨#[60, 47, 115, 116, 121, 108, 101, 62]⟩) (⟨#[60, 115, 116, 121, 108, 101, 62, 32, 60, 47, 115, 116, 121, 108, 101, 62]⟩ ++ sv ++ ⟨#[60, 115, 116, 121, 108, 101, 62, 32, 60, 47, 115, 116, 121, 108, 101, 62]⟩)) := folds_pg HP3.out (outH3 _ _) (by simp only [ba_data, ex, ey]; simp [tH3, tPB, Sh.text, Sh.first2, Sh.ats2, Sh.lastTag, Sh.styleL]) (by simp only [ba_data, ev]; simp)
  have Z : Hid ((⟨#[60, 115, 116, 121, 108, 101, 62]⟩ ++ sx ++ sy ++ ⟨#[60, 47, 115, 116, 121, 108, 101, 62]⟩ ++ ⟨#[60, 112, 62, 120, 60, 98, 62, 121, 60, 47, 98, 62, 60, 47, 112, 62]⟩ : ByteArray).size ≤ maxLen ∧ (⟨#[60, 112, 62, 120, 60, 98, 62, 121, 60, 47, 98, 62, 60, 47, 112, 62]⟩ ++ ⟨#[60, 115, 116, 121, 108, 101, 62]⟩ ++ sx ++ sy ++ ⟨#[60, 47, 115, 116, 121, 108, 101, 62]⟩ : ByteArray).size ≤ maxLen ∧ (⟨#[60, 115, 116, 121, 108, 101, 62]⟩ ++ sx ++ ⟨#[60, 47, 115, 116, 121, 108, 101, 62]⟩ ++ ⟨#[60, 112, 62, 120, 60, 98, 62, 121, 60, 47, 98, 62, 60, 47, 112, 62]⟩ ++ ⟨#[60, 115, 116, 121, 108, 101, 62]⟩ ++ sy ++ ⟨#[60, 47, 115, 116, 121, 108, 101, 62]⟩ : ByteArray).size ≤ maxLen) := by
    have z1 : (⟨#[60, 115, 116, 121, 108, 101, 62]⟩ : ByteArray).size = 7 := rfl
    have z2 : (⟨#[60, 47, 115, 116, 121, 108, 101, 62]⟩ : ByteArray).size = 8 := rfl
    have z3 : (⟨#[60, 112, 62, 120, 60, 98, 62, 121, 60, 47, 98, 62, 60, 47, 112, 62]⟩ : ByteArray).size = 16 := rfl
    unfold maxLen
    refine ⟨?_, ?_, ?_⟩ <;> simp only [ByteArray.size_append] <;> omega
  clear da db ha20 hb20 zx zy zv HP1 HP2 HP3 e2 ex ey ev
  generalize w3 = W at *
  have M0 := MG.made W
  have hmm := @run_makeMap Tryz.prog
  go_region_held3 (fun _ => True) (trivial) (first
    | (with_reducible refine uponG_ins (W := W) (by assumption) ?_ ?_ ?_ ?_; (focus decide); (focus first | exact Z.out.1 | exact Z.out.2.1 | exact Z.out.2.2); (focus first | exact F1.out | exact F2.out | exact F3.out); intro w' hM')
    | (with_reducible refine uponG_range (W := W) (by assumption) ?_; intro w' r cnt HR))
  all_goals
    have GR := hid HR
    clear HR hmm M0 F1 F2 F3 Z n1 n2 n3 n4 n5 n6 n7 n8 n9 n10 n11 n12 n13 n14 n15 n16
    go_wp2_with fail
    go_loopw [9] (fun _ wr => ∃ cnt, RG W wr r cnt) (fun _ wr => wr.rangeLeft W.heap.size r)
    case atStart => exact ⟨_, GR.out⟩
    case round =>
      obtain ⟨cnt, hrg⟩ := hrel
      go_wp2_with (first
        | (at_next; refine wpList_where (W := W) rfl _ rfl rfl hrg ?_ ?_)
        | go_in)
      · go_wp2_with fail
        go_ret
        exact ⟨rfl, below_trans HB3.out hrg.bl (Nat.le_refl _)⟩
      · intro k v w5 cnt5 hF hrg5 hlt hen
        go_wp2_with (first
          | (go_at_call 16; refine (hF w5 (HT.out.ext (Ext.below (below_trans HB3.out hrg5.bl (Nat.le_refl _))))).mono ?_; rintro e w6 ⟨rfl, hb6⟩; have HR6 := hid (hrg5.below (below_al hb6 (o := .cells #[.int .i64 0, .int .i64 0] 25))); have F6 := FaB.new w6 0 0; have y0 := F6.cell0; have y1 := F6.cell1; clear hb6 F6; simp only [faultV])
          | go_in)
        go_roundw
        case rel => exact ⟨_, HR6.out⟩
        case measure => rw [HR6.out.left, ← hrg5.left]; exact hlt
end Go.Proofs.YtblkldfokeeaeacGreatDoor
