/-
  What the small readers of package scan do (At, Len, Ended, Has, Throw, Take, Need), over a text in a reader of their own block: each answer is the plain one of the Spec text. Conditions: the block holds a text of at most 6000 bytes, read up to a place within it.
-/
import Derived.Test.YtanedepdhbdcgaaBytes
namespace Go.Proofs.Ytanedepdhbdcgaa
open Go.RowKit
variable {T : TypeId}

/-- The reader's block: the text, how far it is read, its elements' slice. -/
def RdT (T : TypeId) (w : World) (b : Nat) (s : ByteArray) (k : Nat) (nv : Value) : Prop := w.heap[b]? = some (.cells #[.string s, .int .i64 (k : Int), nv] T (0, 0))

/-- But for the blocks X, what was there is as it was. -/
structure Kp (X : Nat → Prop) (w w' : World) : Prop where
  os : w'.os = w.os
  tape : w'.tape = w.tape
  output : w'.output = w.output
  size : w.heap.size ≤ w'.heap.size
  block : ∀ j, j < w.heap.size → ¬ X j → w'.heap[j]? = w.heap[j]?

theorem Kp.refl (X : Nat → Prop) (w : World) : Kp X w w := ⟨rfl, rfl, rfl, Nat.le_refl _, fun _ _ _ => rfl⟩
theorem Kp.drewN {X : Nat → Prop} {a w : World} (h : Kp X a w) (n : Nat) : Kp X a (w.drewN n) := ⟨h.os, h.tape, h.output, h.size, h.block⟩
theorem Kp.trans {X : Nat → Prop} {a b c : World} (h : Kp X a b) (k : Kp X b c) : Kp X a c :=
  ⟨k.os.trans h.os, k.tape.trans h.tape, k.output.trans h.output, Nat.le_trans h.size k.size, fun j hj hx => (k.block j (Nat.lt_of_lt_of_le hj h.size) hx).trans (h.block j hj hx)⟩

theorem RdT.c0 {w : World} {b : Nat} {s : ByteArray} {k : Nat} {nv : Value} (h : RdT T w b s k nv) : w.cell? ⟨b, 0, none⟩ = some (.string s) := by
  unfold RdT at h; simp [World.cell?, h]
theorem RdT.c1 {w : World} {b : Nat} {s : ByteArray} {k : Nat} {nv : Value} (h : RdT T w b s k nv) : w.cell? ⟨b, 1, none⟩ = some (.int .i64 k) := by
  unfold RdT at h; simp [World.cell?, h]
theorem RdT.c2 {w : World} {b : Nat} {s : ByteArray} {k : Nat} {nv : Value} (h : RdT T w b s k nv) : w.cell? ⟨b, 2, none⟩ = some nv := by
  unfold RdT at h; simp [World.cell?, h]
theorem RdT.fz {w : World} {b : Nat} {s : ByteArray} {k : Nat} {nv : Value} (h : RdT T w b s k nv) (o : Nat) : w.frozen? ⟨b, o, none⟩ = false := by
  unfold RdT at h; simp [World.frozen?, h]
theorem RdT.drewN {w : World} {b : Nat} {s : ByteArray} {k : Nat} {nv : Value} (h : RdT T w b s k nv) (n : Nat) : RdT T (w.drewN n) b s k nv := h
theorem RdT.lt {w : World} {b : Nat} {s : ByteArray} {k : Nat} {nv : Value} (h : RdT T w b s k nv) : b < w.heap.size := by
  unfold RdT at h; exact (Array.getElem?_eq_some_iff.1 h).1
theorem RdT.set1 {w : World} {b : Nat} {s : ByteArray} {k : Nat} {nv : Value} (h : RdT T w b s k nv) (k' : Nat) : RdT T (w.setCell ⟨b, 1, none⟩ (.int .i64 (k' : Int))) b s k' nv := by
  unfold RdT at h ⊢; simp [World.setCell, Array.getElem?_modify, h]
theorem Kp.set (w : World) (b o : Nat) (v : Value) : Kp (· = b) w (w.setCell ⟨b, o, none⟩ v) :=
  ⟨rfl, rfl, rfl, by simp [World.setCell], fun j _ hx => Below.heap_setCell _ _ _ _ hx⟩

theorem extract_list (s : ByteArray) (a : Nat) : (s.extract a s.size).data.toList = s.data.toList.drop a := by
  rw [Lib.extract_data, List.take_of_length_le]
  rw [List.length_drop, Lib.size_eq]
  omega

set_option maxHeartbeats 400000 in
theorem at_any (b : Nat) (k : Int) (w : World) (h : w.cell? ⟨b, 1, none⟩ = some (.int .i64 k)) :
    Calls Try.prog 72 #[.pointer (some ⟨b, 0, none⟩)] w fun e w' => e = .returned (.int .i64 k) ∧ w' = w := by
  go_enter Try.func72, Try.ntmps72
  go_wp2
  go_ret
  exact ⟨rfl, rfl⟩

set_option maxHeartbeats 400000 in
theorem len_any (b : Nat) (s : ByteArray) (w : World) (h : w.cell? ⟨b, 0, none⟩ = some (.string s)) :
    Calls Try.prog 86 #[.pointer (some ⟨b, 0, none⟩)] w fun e w' => e = .returned (.int .i64 s.size) ∧ w' = w := by
  go_enter Try.func86, Try.ntmps86
  go_wp2
  go_ret
  exact ⟨rfl, rfl⟩

set_option maxHeartbeats 400000 in
theorem ended_any (b : Nat) (s : ByteArray) (k : Nat) (w : World) (h0 : w.cell? ⟨b, 0, none⟩ = some (.string s)) (h : w.cell? ⟨b, 1, none⟩ = some (.int .i64 k)) :
    Calls Try.prog 60 #[.pointer (some ⟨b, 0, none⟩)] w fun e w' => e = .returned (.bool (decide (s.size ≤ k))) ∧ ∃ n, w' = w.drewN n := by
  go_enter Try.func60, Try.ntmps60
  go_wp2
  go_quiet (fail)
  go_wp2
  go_ret
  exact ⟨ret_bool (by simp), _, rfl⟩

set_option maxHeartbeats 400000 in
theorem has_any (b : Nat) (s t : ByteArray) (k : Nat) (w : World) (hk : k ≤ s.size) (h0 : w.cell? ⟨b, 0, none⟩ = some (.string s)) (h : w.cell? ⟨b, 1, none⟩ = some (.int .i64 k)) :
    Calls Try.prog 77 #[.pointer (some ⟨b, 0, none⟩), .string t] w fun e w' => e = .returned (.bool (has s.data.toList k t.data.toList)) ∧ ∃ n, w' = w.drewN n := by
  go_enter Try.func77, Try.ntmps77
  go_wp2_with fail
  go_quiet ((go_at_call 91; exact Calls.quiet_of_same (Try.strings_HasPrefix _ _ _)))
  go_wp2_with fail
  go_ret
  refine ⟨ret_bool ?_, _, rfl⟩
  rw [extract_list]
  rfl

set_option maxHeartbeats 400000 in
theorem throw_any (er a : Int) (w : World) :
    Calls Try.prog 71 #[.int .i64 er, .int .i64 a] w fun e w' => e = .panicked [{ v := .iface 87 (.agg #[.int .i64 er, .int .i64 a]), recovered := false }] ∧ w' = w := by
  go_enter Try.func71, Try.ntmps71
  go_wp2
  exact ⟨rfl, rfl, rfl⟩

set_option maxHeartbeats 400000 in
theorem take_yes (b : Nat) (s t : ByteArray) (k : Nat) (nv : Value) (w : World) (hk : k ≤ s.size) (hl : s.size ≤ 6000) (ht : t.size ≤ 6000) (hr : RdT T w b s k nv) (hh : has s.data.toList k t.data.toList = true) :
    Calls Try.prog 61 #[.pointer (some ⟨b, 0, none⟩), .string t] w fun e w' => e = .returned (.bool true) ∧ RdT T w' b s (k + t.size) nv ∧ Kp (· = b) w w' := by
  have h0 := hr.c0
  have h1 := hr.c1
  have hz := hr.fz 1
  go_enter Try.func61, Try.ntmps61
  go_wp2_with (go_at_call 77; refine (has_any b s t k _ hk (by simpa using h0) (by simpa using h1)).mono ?_; rintro e w' ⟨rfl, n, rfl⟩)
  go_ret
  refine ⟨rfl, ?_, ?_⟩
  · exact (hr.drewN _).set1 (k + t.size)
  · exact ((Kp.refl _ w).drewN _).trans (Kp.set _ _ _ _)

set_option maxHeartbeats 400000 in
theorem take_no (b : Nat) (s t : ByteArray) (k : Nat) (nv : Value) (w : World) (hk : k ≤ s.size) (hr : RdT T w b s k nv) (hh : has s.data.toList k t.data.toList = false) :
    Calls Try.prog 61 #[.pointer (some ⟨b, 0, none⟩), .string t] w fun e w' => e = .returned (.bool false) ∧ ∃ n, w' = w.drewN n := by
  have h0 := hr.c0
  have h1 := hr.c1
  go_enter Try.func61, Try.ntmps61
  go_wp2_with (go_at_call 77; refine (has_any b s t k _ hk (by simpa using h0) (by simpa using h1)).mono ?_; rintro e w' ⟨rfl, n, rfl⟩)
  go_ret
  exact ⟨rfl, _, rfl⟩

set_option maxHeartbeats 400000 in
theorem need_yes (b : Nat) (s t : ByteArray) (k : Nat) (nv : Value) (w : World) (hk : k ≤ s.size) (hl : s.size ≤ 6000) (ht : t.size ≤ 6000) (hr : RdT T w b s k nv) (hh : has s.data.toList k t.data.toList = true) :
    Calls Try.prog 79 #[.pointer (some ⟨b, 0, none⟩), .string t] w fun e w' => e = .returned (.tuple #[]) ∧ RdT T w' b s (k + t.size) nv ∧ Kp (· = b) w w' := by
  go_enter Try.func79, Try.ntmps79
  go_wp2_with (go_at_call 61; refine (take_yes b s t k nv _ hk hl ht hr hh).mono ?_; rintro e w' ⟨rfl, hr', hk'⟩)
  go_end0
  exact ⟨rfl, hr', hk'⟩

set_option maxHeartbeats 400000 in
theorem need_no (b : Nat) (s t : ByteArray) (k : Nat) (nv : Value) (w : World) (hk : k ≤ s.size) (hr : RdT T w b s k nv) (hh : has s.data.toList k t.data.toList = false) :
    Calls Try.prog 79 #[.pointer (some ⟨b, 0, none⟩), .string t] w fun e w' => e = .panicked [{ v := .iface 87 (.agg #[.int .i64 2, .int .i64 k]), recovered := false }] ∧ ∃ n, w' = w.drewN n := by
  have h1 := hr.c1
  go_enter Try.func79, Try.ntmps79
  go_wp2_with (first | (go_at_call 61; refine (take_no b s t k nv _ hk hr hh).mono ?_; rintro e w' ⟨rfl, n, rfl⟩) | (go_at_call 71; refine (throw_any _ _ _).mono ?_; rintro e w' ⟨rfl, rfl⟩))
  exact ⟨rfl, rfl, _, rfl⟩
end Go.Proofs.Ytanedepdhbdcgaa
