/-
  The plain answer of package props, over lists: what a declaration stands for, an edge's four sides, a text's words, lists of declarations, what a property is. No program's function is named here; no condition.
-/
import Derived.Lib.Split
import Derived.Lib.SplitLaws
namespace Go.Proofs.YtnigckmaklbiaabDoor

structure Dc where
  name : ByteArray
  val : ByteArray
  strong : Bool

def blank : ByteArray := ⟨#[32]⟩
def edgeN : ByteArray := ⟨#[101, 100, 103, 101]⟩
def sd0 : ByteArray := ⟨#[101, 100, 103, 101, 45, 116, 111, 112]⟩
def sd1 : ByteArray := ⟨#[101, 100, 103, 101, 45, 114, 105, 103, 104, 116]⟩
def sd2 : ByteArray := ⟨#[101, 100, 103, 101, 45, 98, 111, 116, 116, 111, 109]⟩
def sd3 : ByteArray := ⟨#[101, 100, 103, 101, 45, 108, 101, 102, 116]⟩

def isE (d : Dc) : Bool := d.name.toList == edgeN.toList
def cutB (v : ByteArray) : List ByteArray := Lib.splitB blank 0 (min 5 (v.size + 1) - 1) v
def v0 (l : List ByteArray) : ByteArray := l.getD 0 ⟨#[]⟩
def v1 (l : List ByteArray) : ByteArray := l.getD 1 (v0 l)
def v2 (l : List ByteArray) : ByteArray := l.getD 2 (v0 l)
def v3 (l : List ByteArray) : ByteArray := l.getD 3 (v1 l)
def fourB (st : Bool) (l : List ByteArray) : List Dc := [⟨sd0, v0 l, st⟩, ⟨sd1, v1 l, st⟩, ⟨sd2, v2 l, st⟩, ⟨sd3, v3 l, st⟩]
def expB (d : Dc) : Option (List Dc) := if isE d then (if 4 < (cutB d.val).length then none else some (fourB d.strong (cutB d.val))) else some [d]
def allB : List Dc → Option (List Dc)
  | [] => some []
  | d :: l => (expB d).bind fun x => (allB l).map (x ++ ·)

theorem allB_snoc : ∀ (l : List Dc) (d : Dc), allB (l ++ [d]) = (allB l).bind fun a => (expB d).map (a ++ ·)
  | [], d => by
    show (expB d).bind (fun x => (allB []).map (x ++ ·)) = _
    simp only [allB, Option.map_some, Option.bind_some]
    cases expB d <;> simp
  | c :: l, d => by
    show (expB c).bind (fun x => (allB (l ++ [d])).map (x ++ ·)) = ((expB c).bind fun x => (allB l).map (x ++ ·)).bind _
    rw [allB_snoc l d]
    cases expB c <;> cases allB l <;> cases expB d <;> simp
theorem allB_stop : ∀ (a b : List Dc) (d : Dc) , allB a ≠ none → expB d = none → allB (a ++ d :: b) = none
  | [], b, d, _, h => by show (expB d).bind _ = none; rw [h]; rfl
  | c :: a, b, d, h0, h => by
    show (expB c).bind (fun x => (allB (a ++ d :: b)).map (x ++ ·)) = none
    rw [allB_stop a b d (fun e => h0 (by show (expB c).bind (fun x => (allB a).map (x ++ ·)) = none; rw [e]; cases expB c <;> rfl)) h]
    cases expB c <;> rfl
theorem allB_next {l a : List Dc} {k : Nat} (hk : k < l.length) (h : allB (l.take k) = some a) : allB (l.take (k + 1)) = (expB l[k]).map (a ++ ·) := by
  rw [List.take_succ_eq_append_getElem hk, allB_snoc, h]; rfl
theorem allB_none {l a : List Dc} {k : Nat} (hk : k < l.length) (h : allB (l.take k) = some a) (hx : expB l[k] = none) : allB l = none := by
  have e : l = l.take k ++ l[k] :: l.drop (k + 1) := by rw [← List.drop_eq_getElem_cons hk, List.take_append_drop]
  rw [e]
  exact allB_stop _ _ _ (by rw [h]; simp) hx
theorem expB_len {d : Dc} {x : List Dc} (h : expB d = some x) : x.length ≤ 4 := by
  unfold expB at h
  split at h
  · split at h
    · cases h
    · injection h with h; rw [← h]; simp [fourB]
  · injection h with h; rw [← h]; simp
theorem allB_len : ∀ {l a : List Dc}, allB l = some a → a.length ≤ 4 * l.length
  | [], a, h => by injection h with h; rw [← h]; simp
  | d :: l, a, h => by
    change (expB d).bind (fun x => (allB l).map (x ++ ·)) = some a at h
    cases hx : expB d with
    | none => rw [hx] at h; cases h
    | some x =>
      cases hy : allB l with
      | none => rw [hx, hy] at h; cases h
      | some y =>
        rw [hx, hy] at h
        injection h with h
        have h1 := expB_len hx
        have h2 := allB_len hy
        rw [← h, List.length_append, List.length_cons]
        omega
theorem expB_plain {d : Dc} {x : List Dc} (h : expB d = some x) : ∀ y ∈ x, isE y = false ∧ y.strong = d.strong := by
  unfold expB at h
  split at h
  · split at h
    · cases h
    · injection h with h
      rw [← h]
      intro y hy
      simp [fourB] at hy
      rcases hy with rfl | rfl | rfl | rfl
      · exact ⟨show (sd0.toList == edgeN.toList) = false by decide +kernel, rfl⟩
      · exact ⟨show (sd1.toList == edgeN.toList) = false by decide +kernel, rfl⟩
      · exact ⟨show (sd2.toList == edgeN.toList) = false by decide +kernel, rfl⟩
      · exact ⟨show (sd3.toList == edgeN.toList) = false by decide +kernel, rfl⟩
  · rename_i hq
    injection h with h
    rw [← h]
    intro y hy
    simp at hy
    rw [hy]
    exact ⟨by simpa using hq, rfl⟩
theorem allB_plain : ∀ {l a : List Dc}, allB l = some a → ∀ y ∈ a, isE y = false
  | [], a, h => by injection h with h; rw [← h]; simp
  | d :: l, a, h => by
    change (expB d).bind (fun x => (allB l).map (x ++ ·)) = some a at h
    cases hx : expB d with
    | none => rw [hx] at h; cases h
    | some x =>
      cases hy : allB l with
      | none => rw [hx, hy] at h; cases h
      | some y =>
        rw [hx, hy] at h
        injection h with h
        rw [← h]
        intro z hz
        rcases List.mem_append.1 hz with hz | hz
        · exact (expB_plain hx z hz).1
        · exact allB_plain hy z hz
theorem plain_allB : ∀ {a : List Dc}, (∀ y ∈ a, isE y = false) → allB a = some a
  | [], _ => rfl
  | d :: l, h => by
    have hd := h d (List.mem_cons_self ..)
    show (expB d).bind (fun x => (allB l).map (x ++ ·)) = _
    rw [plain_allB (fun y hy => h y (List.mem_cons_of_mem _ hy))]
    unfold expB
    rw [hd]
    rfl
theorem allB_twice {l a : List Dc} (h : allB l = some a) : allB a = some a := plain_allB (allB_plain h)
theorem allB_each {l a : List Dc} (h : allB l = some a) {k : Nat} (hk : k < l.length) : ∃ x, expB l[k] = some x := by
  cases hx : expB l[k] with
  | some x => exact ⟨x, rfl⟩
  | none =>
    exfalso
    have e : l = l.take k ++ l[k] :: l.drop (k + 1) := by rw [← List.drop_eq_getElem_cons hk, List.take_append_drop]
    cases ht : allB (l.take k) with
    | some b => rw [allB_none hk ht hx] at h; cases h
    | none =>
      have : ∀ (a b : List Dc), allB a = none → allB (a ++ b) = none := fun a b => by
        induction a with
        | nil => intro h; cases h
        | cons c a ih =>
          intro h
          change (expB c).bind (fun x => (allB a).map (x ++ ·)) = none at h
          show (expB c).bind (fun x => (allB (a ++ b)).map (x ++ ·)) = none
          cases hc : expB c with
          | none => rfl
          | some x =>
            rw [hc] at h
            cases ha : allB a with
            | none => rw [ih ha]; rfl
            | some y => rw [ha] at h; cases h
      rw [e, this _ _ ht] at h
      cases h

/-! ### words -/
def glue (pre : List UInt8) : List (List UInt8) → List (List UInt8)
  | [] => [pre]
  | p :: ps => (pre ++ p) :: ps
def words : List UInt8 → List (List UInt8)
  | [] => [[]]
  | b :: l => if b = 32 then [] :: words l else glue [b] (words l)
theorem words_ne : ∀ l : List UInt8, words l ≠ []
  | [] => by simp [words]
  | b :: l => by
    unfold words
    split
    · simp
    · cases words l <;> simp [glue]
theorem glue_nil {l : List (List UInt8)} (h : l ≠ []) : glue [] l = l := by cases l with
  | nil => exact absurd rfl h
  | cons p ps => rfl
theorem glue_glue (a b : List UInt8) (l : List (List UInt8)) : glue a (glue b l) = glue (a ++ b) l := by cases l <;> simp [glue]
theorem glue_len {a : List UInt8} {l : List (List UInt8)} (h : l ≠ []) : (glue a l).length = l.length := by cases l with
  | nil => exact absurd rfl h
  | cons p ps => rfl
theorem words_app : ∀ (a b : List UInt8), words (a ++ 32 :: b) = words a ++ words b
  | [], b => by simp [words]
  | c :: a, b => by
    have ih := words_app a b
    rw [List.cons_append]
    by_cases hc : c = 32
    · simp [words, hc, ih]
    · simp only [words, if_neg hc, ih]
      cases h : words a with
      | nil => exact absurd h (words_ne a)
      | cons p ps => rfl
theorem words_one : ∀ {a : List UInt8}, (∀ b ∈ a, b ≠ 32) → words a = [a]
  | [], _ => rfl
  | b :: l, h => by
    have hb := h b (List.mem_cons_self ..)
    unfold words
    rw [if_neg hb, words_one (fun x hx => h x (List.mem_cons_of_mem _ hx))]
    rfl
theorem words_le : ∀ l : List UInt8, (words l).length ≤ l.length + 1
  | [] => by simp [words]
  | b :: l => by
    have ih := words_le l
    unfold words
    split
    · simp; omega
    · rw [glue_len (words_ne l)]; simp; omega
def cutW : Nat → List UInt8 → List (List UInt8)
  | 0, s => [s]
  | _ + 1, [] => [[]]
  | k + 1, b :: l => if b = 32 then [] :: cutW k l else glue [b] (cutW (k + 1) l)
theorem cutW_ne : ∀ (k : Nat) (l : List UInt8), cutW k l ≠ []
  | 0, l => by simp [cutW]
  | k + 1, [] => by simp [cutW]
  | k + 1, b :: l => by
    unfold cutW
    split
    · simp
    · cases cutW (k + 1) l <;> simp [glue]
theorem split_cut : ∀ (s : List UInt8) (k : Nat), Lib.splitK [32] 0 k s = cutW k s
  | s, 0 => by unfold cutW; rfl
  | [], k + 1 => rfl
  | b :: l, k + 1 => by
    have ih := split_cut l
    unfold cutW
    split
    · rename_i e
      subst e
      have e0 : Lib.index (32 :: l) [32] = 0 := by simp [Lib.index]
      rw [← ih]
      simp [Lib.splitK, e0]
    · rename_i hne
      rw [← ih]
      have e1 : Lib.index (b :: l) [32] = if Lib.index l [32] == -1 then -1 else Lib.index l [32] + 1 := by
        have : (32 == b) = false := by simp; exact fun h => hne h.symm
        simp [Lib.index, List.isPrefixOf, this]
      have hge := Lib.index_ge l [32]
      simp only [Lib.splitK, e1]
      cases hq : (Lib.index l [32] == -1)
      · have hq' : Lib.index l [32] ≠ -1 := by simpa using hq
        have e2 : (Lib.index l [32] + 1 == -1) = false := by simp; omega
        have e3 : (Lib.index l [32] + 1).toNat = (Lib.index l [32]).toNat + 1 := by omega
        simp [e2, e3, glue]
      · simp [glue]
theorem words_single : ∀ {s : List UInt8}, (words s).length ≤ 1 → words s = [s]
  | [], _ => rfl
  | b :: l, h => by
    unfold words at h ⊢
    split at h
    · have := words_ne l
      cases hw : words l with
      | nil => exact absurd hw this
      | cons p ps => rw [hw] at h; simp at h
    · rename_i hne
      rw [if_neg hne]
      rw [glue_len (words_ne l)] at h
      rw [words_single h]
      rfl
theorem cutW_words : ∀ (s : List UInt8) (k : Nat), (cutW k s).length = min (k + 1) (words s).length ∧ ((words s).length ≤ k + 1 → cutW k s = words s)
  | s, 0 => by
    have := List.length_pos_iff.2 (words_ne s)
    unfold cutW
    refine ⟨by simp; omega, fun h => (words_single (by omega)).symm⟩
  | [], k + 1 => by simp [cutW, words]
  | b :: l, k + 1 => by
    unfold cutW words
    split
    · obtain ⟨h1, h2⟩ := cutW_words l k
      refine ⟨by simp only [List.length_cons, h1]; omega, fun h => ?_⟩
      rw [h2 (by simp at h; omega)]
    · obtain ⟨h1, h2⟩ := cutW_words l (k + 1)
      rw [glue_len (words_ne l), glue_len (cutW_ne _ l)]
      exact ⟨h1, fun h => by rw [h2 h]⟩
theorem cut_data (v : ByteArray) : (cutB v).map (·.data.toList) = cutW (min 5 (v.size + 1) - 1) v.data.toList := by
  unfold cutB
  rw [Lib.splitB_data, ← split_cut]
  rfl
theorem cut_many (v : ByteArray) : 4 < (cutB v).length ↔ 4 < (words v.data.toList).length := by
  have h1 := congrArg List.length (cut_data v)
  rw [List.length_map, (cutW_words _ _).1] at h1
  have h2 := words_le v.data.toList
  rw [← Lib.size_eq] at h2
  omega
theorem cut_few (v : ByteArray) (h : ¬ 4 < (words v.data.toList).length) : (cutB v).map (·.data.toList) = words v.data.toList := by
  rw [cut_data]
  refine (cutW_words _ _).2 ?_
  have h2 := words_le v.data.toList
  rw [← Lib.size_eq] at h2
  omega
theorem cut_pos (v : ByteArray) : 0 < (cutB v).length := by
  have h1 := congrArg List.length (cut_data v)
  rw [List.length_map] at h1
  have := List.length_pos_iff.2 (cutW_ne (min 5 (v.size + 1) - 1) v.data.toList)
  omega
theorem cut_le (v : ByteArray) : (cutB v).length ≤ 5 := by
  have h1 := congrArg List.length (cut_data v)
  rw [List.length_map, (cutW_words _ _).1] at h1
  omega
theorem data_inj : ∀ {a b : List ByteArray}, a.map (·.data.toList) = b.map (·.data.toList) → a = b
  | [], [], _ => rfl
  | [], _ :: _, h => by cases h
  | _ :: _, [], h => by cases h
  | x :: a, y :: b, h => by
    injection h with h1 h2
    rw [ByteArray.ext (Array.toList_inj.1 h1), data_inj h2]
theorem cut_eq {v : ByteArray} {l : List ByteArray} (h : l.map (·.data.toList) = words v.data.toList) : (4 < l.length ↔ 4 < (cutB v).length) ∧ (¬ 4 < l.length → cutB v = l) := by
  have hl := congrArg List.length h
  rw [List.length_map] at hl
  refine ⟨by rw [cut_many, hl], fun h4 => data_inj ?_⟩
  rw [h, cut_few v (by omega)]

/-! ### properties -/
def cN : ByteArray := ⟨#[99, 111, 108, 111, 114]⟩
def fN : ByteArray := ⟨#[102, 111, 110, 116]⟩
def zN : ByteArray := ⟨#[115, 105, 122, 101]⟩
end Go.Proofs.YtnigckmaklbiaabDoor
