/-
  The law PropsEdge, walked: it answers true. Conditions: the texts are together of at most 2^20 bytes; the two tables hold what their texts say.
-/
import Derived.Test.YtnigckmaklbiaabDoorP6
namespace Go.Proofs.YtnigckmaklbiaabDoor
open Go.RowKit

/-- The texts, a blank between any two. -/
def joinB : List ByteArray → ByteArray
  | [] => ⟨#[]⟩
  | x :: l => l.foldl (fun s y => (s ++ blank) ++ y) x
def NoBl (x : ByteArray) : Prop := ∀ b ∈ x.data.toList, b ≠ 32
theorem join_snoc (l : List ByteArray) (hl : l ≠ []) (y : ByteArray) : joinB (l ++ [y]) = (joinB l ++ blank) ++ y := by
  cases l with
  | nil => exact absurd rfl hl
  | cons x l => simp [joinB, List.foldl_append]
theorem data_app (a b : ByteArray) : (a ++ b).data.toList = a.data.toList ++ b.data.toList := by
  rw [ByteArray.data_append]; simp
theorem words_join : ∀ (n : Nat) (l : List ByteArray), l.length = n → l ≠ [] → (∀ x ∈ l, NoBl x) → l.map (·.data.toList) = words (joinB l).data.toList
  | 0, l, hn, hl, _ => absurd (List.length_eq_zero_iff.1 hn) hl
  | n + 1, l, hn, hl, h => by
    rcases List.eq_nil_or_concat l with rfl | ⟨l', y, rfl⟩
    · exact absurd rfl hl
    · rw [List.concat_eq_append] at *
      by_cases h0 : l' = []
      · subst h0
        simp [joinB]
        rw [words_one (h y (by simp))]
      · have ih := words_join n l' (by simpa using hn) h0 (fun x hx => h x (List.mem_append_left _ hx))
        rw [join_snoc l' h0, data_app, data_app, List.append_assoc]
        show _ = words (_ ++ 32 :: y.data.toList)
        rw [words_app, ← ih, words_one (h y (by simp))]
        simp
theorem join_size : ∀ (l : List ByteArray) (x : ByteArray), (l.foldl (fun s y => (s ++ blank) ++ y) x).size = x.size + (l.map (fun y : ByteArray => y.size + 1)).sum
  | [], x => by simp
  | y :: l, x => by
    rw [List.foldl_cons, join_size l, List.map_cons, List.sum_cons, ByteArray.size_append, ByteArray.size_append]
    show x.size + 1 + y.size + _ = _
    omega
theorem joinB_size (l : List ByteArray) : (joinB l).size ≤ (l.map (fun y : ByteArray => y.size + 1)).sum := by
  cases l with
  | nil => exact Nat.zero_le _
  | cons x l =>
    unfold joinB
    rw [join_size, List.map_cons, List.sum_cons]
    omega
theorem sum_take (l : List ByteArray) (k : Nat) : ((l.take k).map (fun y : ByteArray => y.size + 1)).sum ≤ (l.map (fun y : ByteArray => y.size + 1)).sum := by
  conv => rhs; rw [← List.take_append_drop k l]
  rw [List.map_append, List.sum_append]
  omega
theorem sum_mem {l : List ByteArray} {x : ByteArray} (h : x ∈ l) : x.size + 1 ≤ (l.map (fun y : ByteArray => y.size + 1)).sum := by
  obtain ⟨a, b, rfl⟩ := List.append_of_mem h
  rw [List.map_append, List.map_cons, List.sum_append, List.sum_cons]
  omega
end Go.Proofs.YtnigckmaklbiaabDoor
