/-
  What page.Ahead, has and single answer: the plain answers. Conditions: the elements lie as they must, at most 2^20 of them.
-/
import Derived.Test.YtlodblcmpebfkaaDoorMMem
namespace Go.Proofs.YtlodblcmpebfkaaDoor
open Go.RowKit

theorem ret_bool {a b : Bool} (h : a = b) : Ending.returned (.bool a) = .returned (.bool b) := by rw [h]
theorem ret_int {k : IntKind} {a b : Int} (h : a = b) : Ending.returned (.int k a) = .returned (.int k b) := by rw [h]

theorem has_any (lv : Value) (l : List Nd) (k : Int) (w : World) (hl : NdsAt w lv l) :
    Calls Tryd.prog 12 #[lv, .int .i64 k] w fun e w' => e = .returned (.bool (inB l k)) ∧ w' = w := by
  obtain ⟨a, cap, rfl⟩ := Sl.form hl
  clear hl
  by_cases h0 : 0 ≤ k
  · have E : Hid (inB l k = decide (k < (l.length : Int))) := by show inB l k = _; simp [inB, h0]
    go_enter Tryd.func12, Tryd.ntmps12
    go_wp2
    all_goals go_ret
    all_goals exact ⟨ret_bool E.out.symm, rfl⟩
  · have E : Hid (inB l k = false) := by show inB l k = _; simp [inB, h0]
    go_enter Tryd.func12, Tryd.ntmps12
    go_wp2
    all_goals go_ret
    all_goals exact ⟨ret_bool E.out.symm, rfl⟩

theorem eN.c1 {w : World} {b o : Nat} {x : Nd} (h : eN w (fun j => w.cell? ⟨b, o + j, none⟩) x) : w.cell? ⟨b, o + 1, none⟩ = some (.int .i64 x.parent) := h.2.1

set_option maxHeartbeats 1000000 in
theorem ahead_any (lv : Value) (l : List Nd) (k : Nat) (w : World) (hl : NdsAt w lv l) (hs : l.length ≤ lim) (hk : k < l.length) :
    Calls Tryd.prog 30 #[lv, .int .i64 (k : Int)] w fun e w' => e = .returned (.int .i64 (ahead l k)) ∧ ∃ n, w' = w.drewN n := by
  obtain ⟨a, cap, rfl⟩ := Sl.form hl
  unfold lim at hs
  have HL := hid hl
  obtain ⟨b, off, rfl, hc⟩ := Sl.at hl hk
  have c1 := hc.c1
  clear hl hc
  have hp : par l k = l[k].parent := by simp [par, ndAt_eq hk]
  rw [← hp] at c1
  clear hp
  have E0 : Hid (ahead l k = aheadTo l (par l k) k) := rfl
  generalize ahead l k = A at *
  generalize par l k = p at *
  have hk2 : decide (l.length ≤ k) = false := by simp; omega
  go_enter Tryd.func30, Tryd.ntmps30
  go_wp2_with fail
  go_loopg [5] k (fun n i wr => ∃ j : Nat, n = j ∧ j ≤ k ∧ i = .int .i64 ((j : Int) - 1) ∧ A = aheadTo l p j ∧ ∃ m, wr = w.drewN m)
  case atStart => exact ⟨k, rfl, Nat.le_refl _, rfl, E0.out, 0, rfl⟩
  case round =>
    obtain ⟨j, hn, hj, rfl, hA, m, rfl⟩ := hrel
    have GK := hid hn
    have GA := hid hA
    clear hn hA
    cases j with
    | zero => 
      go_wp2_with fail
      go_ret
      exact ⟨ret_int GA.out.symm, m, rfl⟩
    | succ j =>
      obtain ⟨b', off', hb, hd⟩ := Sl.at HL.out (show j < l.length by omega)
      injection hb with hb
      injection hb with hb1 hb2 
      subst hb1 hb2
      have d1 := hd.c1
      have hp : par l j = l[j].parent := by simp [par, ndAt_eq (show j < l.length by omega)]
      rw [← hp] at d1
      clear hp hd
      have e1 : ((j + 1 : Nat) : Int) - 1 = j := by omega
      rw [e1]
      clear e1
      have GE : Hid (A = if par l j = p then (j : Int) else aheadTo l p j) := GA.out
      generalize par l j = q at *
      have hjl : j < l.length := by omega
      by_cases hq : q = p
      · have hq' : (q == p) = true := by simp [hq]
        have GX : Hid (A = j) := by have := GE.out; rw [if_pos hq] at this; exact this
        clear hq
        go_wp2_with fail
        go_quiet (fail)
        go_wp2_with fail
        go_ret
        exact ⟨ret_int GX.out.symm, _, World.drewN_drewN _ _ _⟩
      · have hq' : (q == p) = false := by simp [hq]
        have GX : Hid (A = aheadTo l p j) := by have := GE.out; rw [if_neg hq] at this; exact this
        clear hq
        go_wp2_with fail
        go_quiet (fail)
        go_wp2_with fail
        go_roundg j
        case measure => have := GK.out; omega
        case rel => exact ⟨j, rfl, by omega, by go_num, GX.out, _, rfl⟩
theorem single_any (lv : Value) (l : List Nd) (k : Nat) (j : Int) (w : World) (hl : NdsAt w lv l) (hs : l.length ≤ lim) (hk : k < l.length) :
    Calls Tryd.prog 27 #[lv, .int .i64 (k : Int), .int .i64 j] w fun e w' => e = .returned (.int .i64 (single l k j)) ∧ ∃ n, w' = w.drewN n := by
  obtain ⟨a, cap, rfl⟩ := Sl.form hl
  have HL := hid hl
  have HS := hid hs
  unfold lim at hs
  obtain ⟨b, off, rfl, hc⟩ := Sl.at hl hk
  have c1 := hc.c1
  clear hl hc
  have hp : par l k = l[k].parent := by simp [par, ndAt_eq hk]
  rw [← hp] at c1
  clear hp
  by_cases h2 : j = 2
  · subst h2
    have E : Hid (single l k 2 = par l k) := by show single l k 2 = par l k; simp [single]
    generalize single l k 2 = x at *
    generalize par l k = p at *
    go_enter Tryd.func27, Tryd.ntmps27
    go_wp2_with fail
    go_ret
    exact ⟨ret_int E.out.symm, 0, rfl⟩
  · by_cases h3 : j = 3
    · subst h3
      have E : Hid (single l k 3 = ahead l k) := by show single l k 3 = ahead l k; simp [single]
      generalize single l k 3 = x at *
      go_enter Tryd.func27, Tryd.ntmps27
      go_wp2_with (go_at_call 30; refine (ahead_any _ l k _ HL.out HS.out hk).mono ?_; rintro e w' ⟨rfl, n, rfl⟩)
      go_ret
      exact ⟨ret_int E.out.symm, n, rfl⟩
    · have E : Hid (single l k j = -1) := by show single l k j = -1; simp [single, h2, h3]
      generalize single l k j = x at *
      go_enter Tryd.func27, Tryd.ntmps27
      go_wp2_with fail
      go_ret
      exact ⟨ret_int E.out.symm, 0, rfl⟩
end Go.Proofs.YtlodblcmpebfkaaDoor
