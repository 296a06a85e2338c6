/-
  What NeedByte and since of package scan, and strings.Clone, do: the plain answers of the Spec text. Conditions: as for the Scan text.
-/
import Derived.Test.YtanedepdhbdcgaaScan
namespace Go.Proofs.Ytanedepdhbdcgaa
open Go.RowKit
variable {T : TypeId}

theorem fitsAt_lt {S : List UInt8} {k : Nat} (p : UInt8 → Bool) (h : k < S.length) : fitsAt S k p = p S[k] := by simp [fitsAt, h]
theorem fitsAt_ge {S : List UInt8} {k : Nat} (p : UInt8 → Bool) (h : S.length ≤ k) : fitsAt S k p = false := by simp [fitsAt, h]
theorem fitsAt_ba {s : ByteArray} {k : Nat} (p : UInt8 → Bool) (h : k < s.size) : fitsAt s.data.toList k p = p s[k] := by
  rw [fitsAt_lt p (by rw [← Lib.size_eq]; exact h)]; rfl

theorem ended_yes (b : Nat) (s : ByteArray) (k : Nat) (w : World) (hk : s.size ≤ k) (h0 : w.cell? ⟨b, 0, none⟩ = some (.string s)) (h : w.cell? ⟨b, 1, none⟩ = some (.int .i64 k)) :
    Calls Try.prog 60 #[.pointer (some ⟨b, 0, none⟩)] w fun e w' => e = .returned (.bool true) ∧ ∃ n, w' = w.drewN n := by
  have := ended_any b s k w h0 h
  rwa [decide_eq_true hk] at this
theorem ended_no (b : Nat) (s : ByteArray) (k : Nat) (w : World) (hk : k < s.size) (h0 : w.cell? ⟨b, 0, none⟩ = some (.string s)) (h : w.cell? ⟨b, 1, none⟩ = some (.int .i64 k)) :
    Calls Try.prog 60 #[.pointer (some ⟨b, 0, none⟩)] w fun e w' => e = .returned (.bool false) ∧ ∃ n, w' = w.drewN n := by
  have := ended_any b s k w h0 h
  rwa [decide_eq_false (by omega)] at this

/-- Function g tells of a byte what p tells. -/
def Tells (g : Nat) (p : UInt8 → Bool) : Prop := ∀ (c : UInt8) (w : World), Calls Try.prog g #[.int .u8 c.toNat] w fun e w' => e = .returned (.bool (p c)) ∧ w' = w

set_option maxHeartbeats 400000 in
theorem hasByte_yes (g : Nat) (p : UInt8 → Bool) (hcf : ∀ (args : Array Value) (w : World), Sem.run Try.prog (callFunc g args) w = .ok (.enter g args) w) (hg : Tells g p)
    (b : Nat) (s : ByteArray) (k : Nat) (w : World) (h0 : w.cell? ⟨b, 0, none⟩ = some (.string s)) (h1 : w.cell? ⟨b, 1, none⟩ = some (.int .i64 k)) (hh : fitsAt s.data.toList k p = true) :
    Calls Try.prog 95 #[.pointer (some ⟨b, 0, none⟩), .func (.func g) #[] #[]] w fun e w' => e = .returned (.bool true) ∧ ∃ n, w' = w.drewN n := by
  have hk : k < s.size := by
    by_cases h : k < s.size
    · exact h
    · rw [fitsAt_ge p (by rw [← Lib.size_eq]; omega)] at hh; cases hh
  have hp : p s[k] = true := by rw [← fitsAt_ba p hk]; exact hh
  clear hh
  go_enter Try.func95, Try.ntmps95
  go_wp2_with fail
  go_quiet (first | (go_at_call 60; exact Calls.quiet_of (ended_no b s k _ hk (by simpa using h0) (by simpa using h1))) | (exact Calls.quiet_of_same (hg _ _)))
  go_wp2_with fail
  go_ret
  exact ⟨rfl, _, rfl⟩

set_option maxHeartbeats 400000 in
theorem hasByte_no (g : Nat) (p : UInt8 → Bool) (hcf : ∀ (args : Array Value) (w : World), Sem.run Try.prog (callFunc g args) w = .ok (.enter g args) w) (hg : Tells g p)
    (b : Nat) (s : ByteArray) (k : Nat) (w : World) (h0 : w.cell? ⟨b, 0, none⟩ = some (.string s)) (h1 : w.cell? ⟨b, 1, none⟩ = some (.int .i64 k)) (hh : fitsAt s.data.toList k p = false) :
    Calls Try.prog 95 #[.pointer (some ⟨b, 0, none⟩), .func (.func g) #[] #[]] w fun e w' => e = .returned (.bool false) ∧ ∃ n, w' = w.drewN n := by
  by_cases hk : k < s.size
  · have hp : p s[k] = false := by rw [← fitsAt_ba p hk]; exact hh
    clear hh
    go_enter Try.func95, Try.ntmps95
    go_wp2_with fail
    go_quiet (first | (go_at_call 60; exact Calls.quiet_of (ended_no b s k _ hk (by simpa using h0) (by simpa using h1))) | (exact Calls.quiet_of_same (hg _ _)))
    go_wp2_with fail
    go_ret
    exact ⟨rfl, _, rfl⟩
  · clear hh
    go_enter Try.func95, Try.ntmps95
    go_wp2_with fail
    go_quiet ((go_at_call 60; exact Calls.quiet_of (ended_yes b s k _ (by omega) (by simpa using h0) (by simpa using h1))))
    go_wp2_with fail
    go_ret
    exact ⟨rfl, _, rfl⟩

theorem hasByte_any (g : Nat) (p : UInt8 → Bool) (hcf : ∀ (args : Array Value) (w : World), Sem.run Try.prog (callFunc g args) w = .ok (.enter g args) w) (hg : Tells g p)
    (b : Nat) (s : ByteArray) (k : Nat) (w : World) (h0 : w.cell? ⟨b, 0, none⟩ = some (.string s)) (h1 : w.cell? ⟨b, 1, none⟩ = some (.int .i64 k)) :
    Calls Try.prog 95 #[.pointer (some ⟨b, 0, none⟩), .func (.func g) #[] #[]] w fun e w' => e = .returned (.bool (fitsAt s.data.toList k p)) ∧ ∃ n, w' = w.drewN n := by
  cases hh : fitsAt s.data.toList k p with
  | true => exact hasByte_yes g p hcf hg b s k w h0 h1 hh
  | false => exact hasByte_no g p hcf hg b s k w h0 h1 hh

set_option maxHeartbeats 400000 in
theorem needByte_yes (g : Nat) (p : UInt8 → Bool) (hcf : ∀ (args : Array Value) (w : World), Sem.run Try.prog (callFunc g args) w = .ok (.enter g args) w) (hg : Tells g p)
    (b : Nat) (s : ByteArray) (k : Nat) (nv : Value) (w : World) (hl : s.size ≤ 6000) (hr : RdT T w b s k nv) (hh : fitsAt s.data.toList k p = true) :
    Calls Try.prog 88 #[.pointer (some ⟨b, 0, none⟩), .func (.func g) #[] #[]] w fun e w' => e = .returned (.tuple #[]) ∧ RdT T w' b s (k + 1) nv ∧ Kp (· = b) w w' := by
  have h0 := hr.c0
  have h1 := hr.c1
  have hz := hr.fz 1
  have hk : k < s.size := by
    by_cases h : k < s.size
    · exact h
    · rw [fitsAt_ge p (by rw [← Lib.size_eq]; omega)] at hh; cases hh
  have HH : Hid (fitsAt s.data.toList k p = true) := hh
  clear hh
  go_enter Try.func88, Try.ntmps88
  go_wp2_with (first | (go_at_call 95; refine (hasByte_yes g p hcf hg b s k _ h0 h1 HH.out).mono ?_; rintro e w' ⟨rfl, n, rfl⟩))
  go_end0
  refine ⟨rfl, ?_, ?_⟩
  · exact (hr.drewN _).set1 (k + 1)
  · exact ((Kp.refl _ w).drewN _).trans (Kp.set _ _ _ _)

theorem cf_of {f : FuncId} {fn : Func} (hf : Try.prog.funcs[f]? = some fn) (h1 : (fn.name == "runtime.NumGoroutine") = false) (h2 : fn.body.isSome = true) (args : Array Value) (w : World) :
    Sem.run Try.prog (callFunc f args) w = .ok (.enter f args) w := by
  have h1' : ¬ fn.name = "runtime.NumGoroutine" := by simpa using h1
  have h2' : ¬ fn.body = none := by intro h; rw [h] at h2; cases h2
  simp [go_sem, callFunc, hf, h1', h2']

set_option maxHeartbeats 400000 in
theorem needByte_no (g : Nat) (p : UInt8 → Bool) (hcf : ∀ (args : Array Value) (w : World), Sem.run Try.prog (callFunc g args) w = .ok (.enter g args) w) (hg : Tells g p)
    (b : Nat) (s : ByteArray) (k : Nat) (nv : Value) (w : World) (hr : RdT T w b s k nv) (hh : fitsAt s.data.toList k p = false) :
    Calls Try.prog 88 #[.pointer (some ⟨b, 0, none⟩), .func (.func g) #[] #[]] w fun e w' => e = .panicked [{ v := .iface 87 (.agg #[.int .i64 2, .int .i64 k]), recovered := false }] ∧ ∃ n, w' = w.drewN n := by
  have h0 := hr.c0
  have h1 := hr.c1
  have HH : Hid (fitsAt s.data.toList k p = false) := hh
  clear hh
  go_enter Try.func88, Try.ntmps88
  go_wp2_with (first | (go_at_call 95; refine (hasByte_no g p hcf hg b s k _ h0 h1 HH.out).mono ?_; rintro e w' ⟨rfl, n, rfl⟩) | (go_at_call 71; refine (throw_any _ _ _).mono ?_; rintro e w' ⟨rfl, rfl⟩))
  exact ⟨rfl, rfl, _, rfl⟩

theorem below_undrew {B : Nat} {w w' : World} (h : Below B w.drew w') : Below B w w' := ⟨h.os, h.tape, h.output, h.size, h.block⟩

theorem clone_any (s : ByteArray) (w : World) (hs : s.size ≤ 6000) :
    Calls Try.prog 39 #[.string s] w fun e w' => e = .returned (.string s) ∧ Below w.heap.size w w' := by
  go_enter Try.func39, Try.ntmps39
  go_wp2_with (go_at_call 57; refine (Try.stringslite_Clone _ _ (by omega)).mono ?_; rintro e w' ⟨rfl, hb⟩)
  go_ret
  exact ⟨rfl, hb⟩

set_option maxHeartbeats 400000 in
theorem since_any (b : Nat) (s : ByteArray) (k a : Nat) (nv : Value) (w : World) (hl : s.size ≤ 6000) (hk : k ≤ s.size) (ha : a ≤ k) (hr : RdT T w b s k nv) :
    Calls Try.prog 103 #[.pointer (some ⟨b, 0, none⟩), .int .i64 a] w fun e w' => e = .returned (.string (s.extract a k)) ∧ Below w.heap.size w w' := by
  have h0 := hr.c0
  have h1 := hr.c1
  have hsz : (s.extract a k).size ≤ 6000 := by rw [ByteArray.size_extract]; omega
  go_enter Try.func103, Try.ntmps103
  go_wp2_with fail
  go_region_with (go_at_call 39; refine (clone_any _ _ hsz).mono ?_; rintro e w' ⟨rfl, hb⟩)
  all_goals
    go_wp2_with fail
    go_ret
    exact ⟨rfl, below_undrew hb⟩

end Go.Proofs.Ytanedepdhbdcgaa
