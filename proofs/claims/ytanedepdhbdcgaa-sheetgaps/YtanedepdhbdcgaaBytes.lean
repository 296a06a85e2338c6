/-
  What the five tests of one byte tell (isLetter, isNameByte, isPlain, isText, isValue): the plain tests of the Spec text. No condition.
-/
import Derived.Test.YtanedepdhbdcgaaRows
import Derived.Test.YtanedepdhbdcgaaSpec
import Derived.Test.YtanedepdhbdcgaaShelf
import Derived.WalkKit
import Derived.WalkSpells
import Derived.WalkLawsBesides
import Derived.BigQuiet
import Derived.Deep.DeepFit
namespace Go.Proofs.Ytanedepdhbdcgaa
open Go.RowKit

theorem ret_bool {a b : Bool} (h : a = b) : Ending.returned (.bool a) = .returned (.bool b) := by rw [h]

set_option maxHeartbeats 400000 in
theorem letter_any (c : UInt8) (w : World) :
    Calls Try.prog 55 #[.int .u8 c.toNat] w fun e w' => e = .returned (.bool (letterB c)) ∧ w' = w := by
  go_enter Try.func55, Try.ntmps55
  go_wp2
  all_goals
    go_ret
    refine ⟨ret_bool ?_, rfl⟩
    simp only [letterB]
    rw [Bool.eq_iff_iff]
    simp
    try omega

set_option maxHeartbeats 400000 in
theorem plain_any (c : UInt8) (w : World) :
    Calls Try.prog 99 #[.int .u8 c.toNat] w fun e w' => e = .returned (.bool (plainB c)) ∧ w' = w := by
  go_enter Try.func99, Try.ntmps99
  go_wp2
  all_goals
    go_ret
    refine ⟨ret_bool ?_, rfl⟩
    simp only [plainB]
    rw [Bool.eq_iff_iff]
    simp
    try omega

set_option maxHeartbeats 400000 in
theorem nameByte_any (c : UInt8) (w : World) :
    Calls Try.prog 56 #[.int .u8 c.toNat] w fun e w' => e = .returned (.bool (nameB c)) ∧ w' = w := by
  unfold nameB
  cases hb : letterB c <;>
  · go_enter Try.func56, Try.ntmps56
    go_wp2_with (go_at_call 55; refine (letter_any _ _).mono ?_; rintro e w' ⟨rfl, rfl⟩)
    all_goals
      go_ret
      refine ⟨ret_bool ?_, rfl⟩
      rw [Bool.eq_iff_iff]
      simp
      try omega

set_option maxHeartbeats 400000 in
theorem text_any (c : UInt8) (w : World) :
    Calls Try.prog 89 #[.int .u8 c.toNat] w fun e w' => e = .returned (.bool (textB c)) ∧ w' = w := by
  unfold textB
  cases hb : plainB c <;>
  · go_enter Try.func89, Try.ntmps89
    go_wp2_with (go_at_call 99; refine (plain_any _ _).mono ?_; rintro e w' ⟨rfl, rfl⟩)
    all_goals
      go_ret
      refine ⟨ret_bool ?_, rfl⟩
      rw [Bool.eq_iff_iff]
      simp
      try omega

set_option maxHeartbeats 400000 in
theorem value_any (c : UInt8) (w : World) :
    Calls Try.prog 116 #[.int .u8 c.toNat] w fun e w' => e = .returned (.bool (valueB c)) ∧ w' = w := by
  unfold valueB
  cases hb : plainB c <;>
  · go_enter Try.func116, Try.ntmps116
    go_wp2_with (go_at_call 99; refine (plain_any _ _).mono ?_; rintro e w' ⟨rfl, rfl⟩)
    all_goals
      go_ret
      refine ⟨ret_bool ?_, rfl⟩
      rw [Bool.eq_iff_iff]
      simp
      try omega

end Go.Proofs.Ytanedepdhbdcgaa
