/-
  Where the attributes of an element stand: one behind the other, from its name's end to a '>'. No program's function is named here.
-/
import Derived.Test.YtblkldfokeeaeacGreatDoorA32
namespace Go.Proofs.YtblkldfokeeaeacGreatDoor.Sh
def Row (S : Bs) (k : Nat) (n : Nd) : Prop := ∃ l Q, n.nameEnd = k ∧ n.attrs = atrs k l ∧ S.drop k = ats2 l ++ 62 :: Q
theorem nodes_row {S : Bs} : ∀ (t : Tr) (k : Nat) (p : Int) (i : Nat) (Q : Bs), S.drop k = text t ++ Q → ∀ n ∈ nodes k p i t, Row S n.nameEnd n
  | .nil, _, _, _, _, _ => fun n hn => by cases hn
  | .txt b r, k, p, i, Q, h => nodes_row r (k + 1) p i Q (drop_on (a := [b]) h)
  | .note c r, k, p, i, Q, h => by
    have h0 : S.drop k = ([60, 33, 45, 45] ++ c ++ [45, 45, 62]) ++ (text r ++ Q) := by rw [h]; simp [text]
    have hk : k + ([60, 33, 45, 45] ++ c ++ [45, 45, 62]).length = k + 7 + c.length := by simp; omega
    have h1 := drop_on h0
    rw [hk] at h1
    exact nodes_row r (k + 7 + c.length) p i Q h1
  | .sty l s r, k, p, i, Q, h => by
    have h8 : (lastTag styleL).length = 8 := by decide
    have h0 : S.drop k = ([60] ++ styleL) ++ (ats2 l ++ 62 :: (s ++ (lastTag styleL ++ (text r ++ Q)))) := by rw [h]; simp [text, first2]
    have hk : k + ([60] ++ styleL).length = k + 6 := by simp [styleL]
    have h1 := drop_on h0
    rw [hk] at h1
    have g0 : S.drop k = (first2 styleL l ++ s ++ lastTag styleL) ++ (text r ++ Q) := by rw [h]; simp [text]
    have g1 := drop_on g0
    have hg : k + (first2 styleL l ++ s ++ lastTag styleL).length = k + (first2 styleL l).length + s.length + 8 := by simp [h8]; omega
    rw [hg] at g1
    intro n hn
    rcases List.mem_cons.1 hn with rfl | hn
    · exact ⟨l, _, rfl, rfl, h1⟩
    · exact nodes_row r _ p (i + 1) Q g1 n hn
  | .el m l t r, k, p, i, Q, h => by
    have h0 : S.drop k = ([60] ++ m) ++ (ats2 l ++ 62 :: (text t ++ (lastTag m ++ (text r ++ Q)))) := by rw [h]; simp [text, first2]
    have hk : k + ([60] ++ m).length = k + 1 + m.length := by simp; omega
    have h1 := drop_on h0
    rw [hk] at h1
    have g0 : S.drop k = first2 m l ++ (text t ++ (lastTag m ++ (text r ++ Q))) := by rw [h]; simp [text]
    have g1 := drop_on g0
    have g3 := drop_on (drop_on g1)
    intro n hn
    rcases List.mem_cons.1 hn with rfl | hn
    · exact ⟨l, _, rfl, rfl, h1⟩
    · rcases List.mem_append.1 hn with hn | hn
      · exact nodes_row t _ i (i + 1) _ g1 n hn
      · exact nodes_row r _ p (i + 1 + count t) Q g3 n hn
def offA (l : List At2) (j : Nat) : Nat := (ats2 (l.take j)).length
theorem offA_next {l : List At2} {j : Nat} (h : j < l.length) : offA l (j + 1) = offA l j + (at2 l[j]).length := by
  unfold offA
  rw [List.take_succ_eq_append_getElem h]
  unfold ats2
  rw [List.flatMap_append, List.length_append, List.flatMap_cons, List.flatMap_nil, List.append_nil]
theorem offA_all (l : List At2) : offA l l.length = (ats2 l).length := by unfold offA; rw [List.take_length]
theorem offA_lt {l : List At2} : ∀ {i j : Nat}, i < j → j ≤ l.length → offA l i < offA l j
  | i, 0, h, _ => by omega
  | i, j + 1, h, hj => by
    have e := offA_next (l := l) (j := j) (by omega)
    have : 0 < (at2 l[j]).length := by simp [at2]
    rcases Nat.lt_or_ge i j with h1 | h1
    · have := offA_lt (l := l) h1 (by omega); omega
    · have : i = j := by omega
      subst this
      omega
theorem atrs_at : ∀ {l : List At2} {k j : Nat} (_ : j < l.length) (h' : j < (atrs k l).length), (atrs k l)[j].from_ = k + offA l j ∧ (atrs k l)[j].to_ = k + offA l (j + 1)
  | a :: l, k, 0, _, _ => by simp [atrs, offA, ats2]
  | a :: l, k, j + 1, h, h' => by
    have := atrs_at (l := l) (k := k + (at2 a).length) (j := j) (by simpa using h) (by simpa [atrs] using h')
    have e1 : offA (a :: l) (j + 1) = (at2 a).length + offA l j := by simp [offA, ats2]
    have e2 : offA (a :: l) (j + 1 + 1) = (at2 a).length + offA l (j + 1) := by simp [offA, ats2]
    rw [e1, e2]
    simp only [atrs, List.getElem_cons_succ]
    omega
theorem row_byte {S : Bs} {k : Nat} {l : List At2} {Q : Bs} (h : S.drop k = ats2 l ++ 62 :: Q) : (∀ j, j < l.length → S[k + offA l j]? = some 32) ∧ S[k + offA l l.length]? = some 62 := by
  constructor
  · intro j hj
    have e : ats2 l = ats2 (l.take j) ++ (at2 l[j] ++ ats2 (l.drop (j + 1))) := by
      conv => lhs; rw [← List.take_append_drop j l, List.drop_eq_getElem_cons hj]
      unfold ats2
      rw [List.flatMap_append, List.flatMap_cons]
    have h1 : S.drop (k + offA l j) = at2 l[j] ++ ats2 (l.drop (j + 1)) ++ 62 :: Q := by
      have : S.drop k = ats2 (l.take j) ++ (at2 l[j] ++ ats2 (l.drop (j + 1)) ++ 62 :: Q) := by rw [h, e]; simp
      exact drop_on this
    have h2 := congrArg (fun x => x[0]?) h1
    simp only [List.getElem?_drop, Nat.add_zero] at h2
    rw [h2]
    rfl
  · have h1 := drop_on h
    have h2 := congrArg (fun x => x[0]?) h1
    simp only [List.getElem?_drop, Nat.add_zero] at h2
    rw [offA_all, h2]
    rfl
end Go.Proofs.YtblkldfokeeaeacGreatDoor.Sh
