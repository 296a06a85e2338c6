/-
  What While and Name of package scan do: the plain answers of the Spec text. Conditions: as for the Scan text.
-/
import Derived.Test.YtanedepdhbdcgaaScan2
import Derived.Deep.LoopGhost
namespace Go.Proofs.Ytanedepdhbdcgaa
open Go.RowKit
variable {T : TypeId}

theorem Kp.below {w w' : World} (h : Below w.heap.size w w') (X : Nat → Prop) : Kp X w w' := ⟨h.os, h.tape, h.output, h.size, fun j hj _ => h.block j hj⟩
theorem RdT.kp {w w' : World} {b : Nat} {s : ByteArray} {k : Nat} {nv : Value} (h : RdT T w b s k nv) (hb : Below w.heap.size w w') : RdT T w' b s k nv := by
  have := hb.block b h.lt
  unfold RdT at h ⊢
  rw [this]; exact h

theorem whileEnd_step {S : List UInt8} {k : Nat} {p : UInt8 → Bool} (h : fitsAt S k p = true) : whileEnd S (k + 1) p = whileEnd S k p := by
  have hk : k < S.length := by
    by_cases hk : k < S.length
    · exact hk
    · rw [fitsAt_ge p (by omega)] at h; cases h
  rw [fitsAt_lt p hk] at h
  unfold whileEnd
  rw [List.drop_eq_getElem_cons hk, List.takeWhile_cons, if_pos h, List.length_cons]
  omega
theorem whileEnd_stop {S : List UInt8} {k : Nat} {p : UInt8 → Bool} (h : fitsAt S k p = false) : whileEnd S k p = k := by
  unfold whileEnd
  by_cases hk : k < S.length
  · rw [fitsAt_lt p hk] at h
    rw [List.drop_eq_getElem_cons hk, List.takeWhile_cons, if_neg (by simp [h])]; rfl
  · rw [List.drop_of_length_le (by omega)]; rfl

set_option maxHeartbeats 1000000 in
theorem while_any (g : Nat) (p : UInt8 → Bool) (hcf : ∀ (args : Array Value) (w : World), Sem.run Try.prog (callFunc g args) w = .ok (.enter g args) w) (hg : Tells g p)
    (b : Nat) (s : ByteArray) (k : Nat) (nv : Value) (w : World) (hl : s.size ≤ 6000) (hk : k ≤ s.size) (hr : RdT T w b s k nv) :
    Calls Try.prog 102 #[.pointer (some ⟨b, 0, none⟩), .func (.func g) #[] #[]] w fun e w' =>
      e = .returned (.string (s.extract k (whileEnd s.data.toList k p))) ∧ RdT T w' b s (whileEnd s.data.toList k p) nv ∧ Kp (· = b) w w' := by
  have h1 := hr.c1
  go_enter Try.func102, Try.ntmps102
  go_wp2_with fail
  go_loopg [] (s.size - k) (fun n wr => ∃ k', n = s.size - k' ∧ k ≤ k' ∧ k' ≤ s.size ∧ RdT T wr b s k' nv ∧ Kp (· = b) w wr ∧ whileEnd s.data.toList k' p = whileEnd s.data.toList k p)
  case atStart => exact ⟨k, rfl, Nat.le_refl _, hk, hr, Kp.refl _ _, rfl⟩
  case round =>
    obtain ⟨k', hn, hk1, hk2, hr', hkp, hw⟩ := hrel
    have A : Hid (whileEnd s.data.toList k' p = whileEnd s.data.toList k p) := hw
    have B : Hid (gk = s.size - k') := hn
    clear hw hn h1 hr
    have h0 := hr'.c0
    have h1 := hr'.c1
    have hz := hr'.fz 1
    cases hf : fitsAt s.data.toList k' p with
    | false =>
      have C : Hid (whileEnd s.data.toList k p = k') := A.out.symm.trans (whileEnd_stop hf)
      have F : Hid (fitsAt s.data.toList k' p = false) := hf
      clear hf
      go_wp2_with (first | (go_at_call 95; refine (hasByte_no g p hcf hg b s k' _ h0 h1 F.out).mono ?_; rintro e w' ⟨rfl, n, rfl⟩) | (go_at_call 103; refine (since_any b s k' k nv _ hl hk2 hk1 (hr'.drewN _)).mono ?_; rintro e w' ⟨rfl, hb⟩))
      go_ret
      rw [C.out]
      exact ⟨rfl, (hr'.drewN _).kp hb, (hkp.drewN _).trans (Kp.below hb _)⟩
    | true =>
      have C : Hid (whileEnd s.data.toList (k' + 1) p = whileEnd s.data.toList k p) := (whileEnd_step hf).trans A.out
      have hlt : k' < s.size := by
        by_cases h : k' < s.size
        · exact h
        · rw [fitsAt_ge p (by rw [← Lib.size_eq]; omega)] at hf; cases hf
      have F : Hid (fitsAt s.data.toList k' p = true) := hf
      clear hf
      go_wp2_with (first | (go_at_call 95; refine (hasByte_yes g p hcf hg b s k' _ h0 h1 F.out).mono ?_; rintro e w' ⟨rfl, n, rfl⟩))
      go_roundg (s.size - (k' + 1))
      case measure => have := B.out; omega
      case rel => exact ⟨k' + 1, rfl, by omega, by omega, (hr'.drewN _).set1 (k' + 1), (hkp.drewN _).trans (Kp.set _ _ _ _), C.out⟩

theorem tells31 : Tells 55 letterB := letter_any
theorem tells32 : Tells 56 nameB := nameByte_any
theorem tells46 : Tells 89 textB := text_any
theorem tells66 : Tells 116 valueB := value_any
theorem cf31 (args : Array Value) (w : World) : Sem.run Try.prog (callFunc 55 args) w = .ok (.enter 55 args) w := cf_of Try.func55 (by kernel_rfl) (by kernel_rfl) args w
theorem cf32 (args : Array Value) (w : World) : Sem.run Try.prog (callFunc 56 args) w = .ok (.enter 56 args) w := cf_of Try.func56 (by kernel_rfl) (by kernel_rfl) args w
theorem cf66 (args : Array Value) (w : World) : Sem.run Try.prog (callFunc 116 args) w = .ok (.enter 116 args) w := cf_of Try.func116 (by kernel_rfl) (by kernel_rfl) args w

theorem whileEnd_le {S : List UInt8} {k : Nat} (p : UInt8 → Bool) (h : k ≤ S.length) : k ≤ whileEnd S k p ∧ whileEnd S k p ≤ S.length := by
  unfold whileEnd
  have := (List.takeWhile_sublist (l := S.drop k) p).length_le
  rw [List.length_drop] at this
  omega

set_option maxHeartbeats 1000000 in
theorem name_yes (b : Nat) (s : ByteArray) (k m : Nat) (nv : Value) (w : World) (hl : s.size ≤ 6000) (hr : RdT T w b s k nv) (hm : nameTo s.data.toList k = .ok m) :
    Calls Try.prog 92 #[.pointer (some ⟨b, 0, none⟩)] w fun e w' =>
      e = .returned (.string (s.extract k m)) ∧ RdT T w' b s m nv ∧ Kp (· = b) w w' := by
  have h1 := hr.c1
  unfold nameTo at hm
  split at hm
  · rename_i hf
    have hlt : k < s.size := by
      by_cases h : k < s.size
      · exact h
      · rw [fitsAt_ge _ (by rw [← Lib.size_eq]; omega)] at hf; cases hf
    have hm' : whileEnd s.data.toList (k + 1) nameB = m := by injection hm
    clear hm
    have hle := whileEnd_le (S := s.data.toList) (k := k + 1) nameB (by rw [← Lib.size_eq]; omega)
    rw [hm', ← Lib.size_eq] at hle
    have M : Hid (whileEnd s.data.toList (k + 1) nameB = m) := hm'
    have F : Hid (fitsAt s.data.toList k letterB = true) := hf
    clear hm' hf
    go_enter Try.func92, Try.ntmps92
    go_wp2_with fail
    refine (needByte_yes 55 letterB cf31 tells31 b s k nv _ hl hr F.out).mono ?_
    rintro e w1 ⟨rfl, hr1, hk1⟩
    go_wp2_with fail
    refine (while_any 56 nameB cf32 tells32 b s (k + 1) nv _ hl (by omega) hr1).mono ?_
    rw [M.out]
    rintro e w2 ⟨rfl, hr2, hk2⟩
    go_wp2_with fail
    refine (since_any b s m k nv _ hl (by omega) (by omega) hr2).mono ?_
    rintro e w3 ⟨rfl, hb⟩
    go_wp2_with fail
    go_ret
    exact ⟨rfl, hr2.kp hb, (hk1.trans hk2).trans (Kp.below hb _)⟩
  · cases hm

set_option maxHeartbeats 1000000 in
theorem name_no (b : Nat) (s : ByteArray) (k : Nat) (x : Nat × Nat) (nv : Value) (w : World) (hr : RdT T w b s k nv) (hm : nameTo s.data.toList k = .error x) :
    Calls Try.prog 92 #[.pointer (some ⟨b, 0, none⟩)] w fun e w' => e = .panicked [{ v := .iface 87 (.agg #[.int .i64 x.1, .int .i64 x.2]), recovered := false }] ∧ ∃ n, w' = w.drewN n := by
  have h1 := hr.c1
  unfold nameTo at hm
  split at hm
  · cases hm
  · rename_i hf
    have hx : (2, k) = x := by injection hm
    subst hx
    have F0 : fitsAt s.data.toList k letterB = false := by simpa using hf
    have F : Hid (fitsAt s.data.toList k letterB = false) := F0
    clear F0
    clear hm hf
    go_enter Try.func92, Try.ntmps92
    go_wp2_with fail
    refine (needByte_no 55 letterB cf31 tells31 b s k nv _ hr F.out).mono ?_
    rintro e w1 ⟨rfl, n, rfl⟩
    exact ⟨rfl, rfl, _, rfl⟩
end Go.Proofs.Ytanedepdhbdcgaa
