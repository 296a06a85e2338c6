/-
  A text's words, at each blank: the pieces of Split, and the same asked place by place. No function of the program is named here; no condition.
-/
import Derived.Test.YtlodblcmpebfkaaDoorR2
namespace Go.Proofs.YtlodblcmpebfkaaDoor
open Go.RowKit

def words : List UInt8 → List (List UInt8)
  | [] => [[]]
  | b :: l => if b = 32 then [] :: words l else match words l with
    | [] => [[b]]
    | p :: ps => (b :: p) :: ps
def piece (l : List UInt8) : List UInt8 := l.takeWhile (fun b => b != 32)
def refW : Bool → List UInt8 → List UInt8 → Bool
  | st, [], nm => st && ((piece []).length != 0 && piece [] == nm)
  | st, b :: l, nm => (st && ((piece (b :: l)).length != 0 && piece (b :: l) == nm)) || refW (b == 32) l nm

theorem words_split : ∀ s : List UInt8, Lib.splitK [32] 0 (Lib.count s [32]) s = words s
  | [] => rfl
  | b :: l => by
    have ih := words_split l
    unfold words
    split
    · rename_i e
      subst e
      rw [Lib.count_cons_eq, Nat.add_comm, ← ih]
      have e0 : Lib.index (32 :: l) [32] = 0 := by simp [Lib.index]
      simp [Lib.splitK, e0]
    · rename_i hne
      rw [Lib.count_cons_ne _ _ _ hne, ← ih]
      cases Lib.count l [32] with
      | zero => rfl
      | succ k =>
        have e1 : Lib.index (b :: l) [32] = if Lib.index l [32] == -1 then -1 else Lib.index l [32] + 1 := by
          have : (32 == b) = false := by simp; exact fun h => hne h.symm
          simp [Lib.index, List.isPrefixOf, this]
        have hge := Lib.index_ge l [32]
        simp only [Lib.splitK, e1]
        cases hq : (Lib.index l [32] == -1)
        · have hq' : Lib.index l [32] ≠ -1 := by simpa using hq
          have e2 : (Lib.index l [32] + 1 == -1) = false := by simp; omega
          have e3 : (Lib.index l [32] + 1).toNat = (Lib.index l [32]).toNat + 1 := by omega
          simp [e2, e3]
        · simp
theorem words_head : ∀ l : List UInt8, ∃ ps, words l = piece l :: ps
  | [] => ⟨[], rfl⟩
  | b :: l => by
    obtain ⟨ps, h⟩ := words_head l
    unfold words
    split
    · rename_i e; exact ⟨words l, by rw [e]; simp [piece]⟩
    · rename_i e; exact ⟨ps, by rw [h]; simp [piece, e]⟩
theorem refW_words (nm : List UInt8) (hn : nm ≠ []) : ∀ l : List UInt8, (refW true l nm = true ↔ nm ∈ words l) ∧ (refW false l nm = true ↔ nm ∈ (words l).tail)
  | [] => by simp [refW, words, piece, hn]
  | b :: l => by
    obtain ⟨i1, i2⟩ := refW_words nm hn l
    obtain ⟨ps, h⟩ := words_head l
    by_cases e : b = 32
    · subst e
      simp [refW, words, piece, hn, i1]
    · have e' : (b == 32) = false := by simp [e]
      rw [h] at i2
      simp only [List.tail_cons] at i2
      have hp : piece (b :: l) = b :: piece l := by simp [piece, e]
      simp only [refW, e', words, if_neg e, h, hp, List.length_cons, List.tail_cons, List.mem_cons, i2, Bool.or_eq_true, Bool.and_eq_true, Bool.false_and, Bool.true_and, beq_iff_eq, bne_iff_ne]
      constructor
      · constructor
        · rintro (⟨_, h⟩ | h)
          · exact .inl h.symm
          · exact .inr h
        · rintro (h | h)
          · exact .inl ⟨by omega, h.symm⟩
          · exact .inr h
      · simp
theorem refW_nil : ∀ (st : Bool) (l : List UInt8), refW st l [] = false
  | st, [] => by simp [refW, piece]
  | st, b :: l => by
    rw [refW, refW_nil]
    cases h : piece (b :: l) <;> simp
theorem cls_ref (v nm : ByteArray) : clsB v nm = refW true v.data.toList nm.data.toList := by
  unfold clsB
  cases hq : nm.toList.isEmpty
  · have hn : nm.data.toList ≠ [] := by
      intro h
      rw [Lib.toList_data, h] at hq
      cases hq
    have h1 := (refW_words _ hn v.data.toList).1
    have h2 := Lib.splitB_data blank 0 (Lib.countB v blank) v
    rw [Bool.eq_iff_iff, h1, ← words_split]
    simp only [Bool.not_false, Bool.true_and]
    rw [Lib.containsS_iff, show Lib.splitK [32] 0 (Lib.count v.data.toList [32]) v.data.toList = _ from h2.symm, List.mem_map]
    constructor
    · exact fun h => ⟨nm, h, rfl⟩
    · rintro ⟨x, hx, e⟩
      rw [← ByteArray.ext (Array.toList_inj.1 e)]
      exact hx
  · have hn : nm.data.toList = [] := by
      rw [Lib.toList_data] at hq
      exact List.isEmpty_iff.1 hq
    rw [hn, refW_nil]
    rfl
theorem refW_end (st : Bool) (nm : List UInt8) : refW st [] nm = false := by simp [refW, piece]
/-- What is asked from place j on. -/
def refAt (L nm : List UInt8) (j : Nat) : Bool := refW (j == 0 || L[j - 1]? == some 32) (L.drop j) nm
theorem refAt_end {L nm : List UInt8} {j : Nat} (h : L.length ≤ j) : refAt L nm j = false := by
  unfold refAt
  rw [List.drop_eq_nil_of_le h, refW_end]
theorem refAt_skip {L nm : List UInt8} {j : Nat} {c : UInt8} (h : L[j]? = some c) (hc : c ≠ 32) : refAt L nm (j + 1) = refAt L nm (j + 2) := by
  by_cases hl : j + 1 < L.length
  · unfold refAt
    rw [List.drop_eq_getElem_cons hl]
    have e1 : (j + 1 == 0 || L[j + 1 - 1]? == some 32) = false := by simp [h, hc]
    have e2 : (j + 2 == 0 || L[j + 2 - 1]? == some 32) = (L[j + 1] == 32) := by
      rw [show j + 2 - 1 = j + 1 from rfl, List.getElem?_eq_getElem hl]
      simp
    rw [e1, e2]
    simp [refW]
  · rw [refAt_end (by omega), refAt_end (by omega)]
theorem refAt_start {L nm : List UInt8} {j : Nat} (h : (j == 0 || L[j - 1]? == some 32) = true) : refAt L nm j = (((piece (L.drop j)).length != 0 && piece (L.drop j) == nm) || refAt L nm (j + 1)) := by
  by_cases hl : j < L.length
  · have e2 : (j + 1 == 0 || L[j + 1 - 1]? == some 32) = (L[j] == 32) := by
      rw [show j + 1 - 1 = j from rfl, List.getElem?_eq_getElem hl]
      simp
    unfold refAt
    rw [h, e2, List.drop_eq_getElem_cons hl]
    simp [refW]
  · rw [refAt_end (by omega), refAt_end (by omega), List.drop_eq_nil_of_le (by omega)]
    simp [piece]
theorem piece_step {L : List UInt8} {e : Nat} {c : UInt8} (h : L[e]? = some c) (hc : c ≠ 32) : piece (L.drop e) = c :: piece (L.drop (e + 1)) := by
  obtain ⟨hl, rfl⟩ := List.getElem?_eq_some_iff.1 h
  rw [List.drop_eq_getElem_cons hl]
  unfold piece
  rw [List.takeWhile_cons, if_pos (by simpa using hc)]
theorem piece_stop {L : List UInt8} {e : Nat} (h : L[e]? = some 32 ∨ L.length ≤ e) : piece (L.drop e) = [] := by
  rcases h with h | h
  · obtain ⟨hl, hc⟩ := List.getElem?_eq_some_iff.1 h
    rw [List.drop_eq_getElem_cons hl, hc]
    simp [piece]
  · rw [List.drop_eq_nil_of_le h]
    rfl
/-- From j to e no blank stands. -/
def Run (L : List UInt8) (j e : Nat) : Prop := piece (L.drop j) = (L.drop j).take (e - j) ++ piece (L.drop e)
theorem Run.start (L : List UInt8) (j : Nat) : Run L j j := by simp [Run]
theorem Run.step {L : List UInt8} {j e : Nat} {c : UInt8} (h : Run L j e) (hj : j ≤ e) (he : L[e]? = some c) (hc : c ≠ 32) : Run L j (e + 1) := by
  unfold Run at *
  have hl := (List.getElem?_eq_some_iff.1 he).1
  rw [h, piece_step he hc, show e + 1 - j = (e - j) + 1 by omega, List.take_succ_eq_append_getElem (by simp; omega)]
  simp only [List.getElem_drop, List.append_assoc, List.singleton_append]
  obtain ⟨_, rfl⟩ := List.getElem?_eq_some_iff.1 he
  congr 3
  congr 1
  omega
theorem Run.stop {L : List UInt8} {j e : Nat} (h : Run L j e) (he : L[e]? = some 32 ∨ L.length ≤ e) : piece (L.drop j) = (L.drop j).take (e - j) := by
  unfold Run at h
  rw [h, piece_stop he, List.append_nil]
theorem extract_run (v : ByteArray) (j e : Nat) : (v.extract j e).toList = (v.data.toList.drop j).take (e - j) := by
  rw [Lib.toList_data, ByteArray.data_extract]
  simp [Array.toList_extract, List.extract]
theorem cls_at (v nm : ByteArray) : clsB v nm = refAt v.data.toList nm.data.toList 0 := cls_ref v nm
theorem clsOf_at (l : List At) (nm : ByteArray) : clsOf l nm = refAt ((getA clsN l).getD ⟨#[]⟩).data.toList nm.data.toList 0 := by
  unfold clsOf
  cases getA clsN l with
  | none => exact (refAt_end (Nat.zero_le _)).symm
  | some v => exact cls_at v nm
end Go.Proofs.YtlodblcmpebfkaaDoor
