/-
  A row of truth values that a call makes. No function of the program is named here; no condition.
-/
import Derived.Test.YtlodblcmpebfkaaDoorR6
namespace Go.Proofs.YtlodblcmpebfkaaDoor
open Go.RowKit

/-- Block T holds f 0, f 1, .. -/
def FB (w : World) (T n : Nat) (f : Nat → Bool) : Prop := ∃ cur, w.heap[T]? = some (.cells cur 4 (0, 0)) ∧ cur.size = n ∧ ∀ j, j < n → cur[j]? = some (.bool (f j))
theorem FB.cell {w : World} {T n : Nat} {f : Nat → Bool} (h : FB w T n f) {j : Nat} (hj : j < n) : w.cell? ⟨T, j, none⟩ = some (.bool (f j)) := by
  obtain ⟨cur, h1, h2, h3⟩ := h
  rw [← h3 j hj]
  unfold World.cell?
  rw [h1]; rfl
theorem FB.fz {w : World} {T n : Nat} {f : Nat → Bool} (h : FB w T n f) (j : Nat) : w.frozen? ⟨T, j, none⟩ = false := by
  obtain ⟨cur, h1, h2, h3⟩ := h
  simp [World.frozen?, h1]
theorem FB.lt {w : World} {T n : Nat} {f : Nat → Bool} (h : FB w T n f) : T < w.heap.size := by
  obtain ⟨cur, h1, _⟩ := h
  exact (Array.getElem?_eq_some_iff.1 h1).1
theorem FB.keep {w w' : World} {T n : Nat} {f : Nat → Bool} (h : FB w T n f) (e : w'.heap[T]? = w.heap[T]?) : FB w' T n f := by
  obtain ⟨cur, h1, h2, h3⟩ := h
  exact ⟨cur, by rw [e]; exact h1, h2, h3⟩
theorem FB.below {w w' : World} {B T n : Nat} {f : Nat → Bool} (h : FB w T n f) (hb : Below B w w') (hT : T < B) : FB w' T n f := h.keep (hb.block T hT)
theorem FB.same {w : World} {T n : Nat} {f g : Nat → Bool} (h : FB w T n f) (e : ∀ j, j < n → f j = g j) : FB w T n g := by
  obtain ⟨cur, h1, h2, h3⟩ := h
  exact ⟨cur, h1, h2, fun j hj => by rw [h3 j hj, e j hj]⟩
theorem FB.set {w : World} {T n : Nat} {f : Nat → Bool} (h : FB w T n f) {u : Nat} (hu : u < n) (x : Bool) : FB (w.setCell ⟨T, u, none⟩ (.bool x)) T n (fun j => if j = u then x else f j) := by
  obtain ⟨cur, h1, h2, h3⟩ := h
  refine ⟨cur.setIfInBounds u (.bool x), ?_, by simpa using h2, fun j hj => ?_⟩
  · simp [World.setCell, Array.getElem?_modify, h1]
  · rw [Array.getElem?_setIfInBounds]
    by_cases e : u = j
    · subst e
      rw [if_pos rfl, if_pos (by omega)]
      simp
    · have e' : ¬ j = u := fun h => e h.symm
      rw [if_neg e, h3 j hj]
      simp [e']
theorem FB.made {w w' : World} {T n : Nat} (h : w'.ownsRow w.heap.size 4 1 (.slice (some ⟨T, 0, none⟩) n n) n (madeCells #[.bool false] (n * 1)).toList) : FB w' T n (fun _ => false) := by
  obtain ⟨cur, h1, h2, h3⟩ := TB.made h
  exact ⟨cur, h1, h2, fun j hj => by rw [h3 j hj]; simp⟩
/-- The marks up to k, and one more. -/
theorem FB.next {w : World} {T n k : Nat} {f : Nat → Bool} (h : FB w T n (fun j => decide (j < k) && f j)) (hk : k < n) {x : Bool} (hx : x = f k) : FB (w.setCell ⟨T, k, none⟩ (.bool x)) T n (fun j => decide (j < k + 1) && f j) := by
  refine (h.set hk x).same fun j _ => ?_
  by_cases e : j = k
  · subst e
    rw [if_pos rfl, hx, decide_eq_true (Nat.lt_succ_self j), Bool.true_and]
  · rw [if_neg e]
    by_cases e2 : j < k
    · rw [decide_eq_true e2, decide_eq_true (Nat.lt_succ_of_lt e2)]
    · rw [decide_eq_false e2, decide_eq_false (by omega)]
/-- Whom part i means. -/
def mB (l : List Nd) (s : List Pt) (i k : Nat) : Bool := partB l k (ptAt s i) && rest l s i k
theorem mB_zero (l : List Nd) (s : List Pt) (k : Nat) : mB l s 0 k = partB l k (ptAt s 0) := by simp [mB, rest]
theorem mB_succ (l : List Nd) (s : List Pt) (i k : Nat) : mB l s (i + 1) k = (partB l k (ptAt s (i + 1)) && (ups l k (ptAt s (i + 1)).join).any (mB l s i)) := rfl
end Go.Proofs.YtlodblcmpebfkaaDoor
