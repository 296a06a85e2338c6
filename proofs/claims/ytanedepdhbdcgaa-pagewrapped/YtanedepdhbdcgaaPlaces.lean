/-
  Where the elements of a page stand, by the plain answer of the Spec text: each name and attribute stands where it says, a parent ahead of its elements, a fault within the page. No condition.
-/
import Derived.Test.YtanedepdhbdcgaaPage5
namespace Go.Proofs.Ytanedepdhbdcgaa

def AtrOk (S : List UInt8) (ne : Nat) (a : Atr) : Prop := ne ≤ a.from_ ∧ a.from_ ≤ a.to_ ∧ a.to_ ≤ S.length ∧ sub S a.from_ a.to_ = [32] ++ a.name ++ [61, 34] ++ a.val ++ [34]
def NdOk (S : List UInt8) (i : Nat) (n : Nd) : Prop :=
  -1 ≤ n.parent ∧ n.parent < i ∧ n.nameEnd ≤ S.length ∧ n.name.length + 1 ≤ n.nameEnd ∧ sub S (n.nameEnd - n.name.length - 1) n.nameEnd = [60] ++ n.name ∧ (∀ a ∈ n.attrs, AtrOk S n.nameEnd a) ∧ n.inFrom ≤ n.inTo ∧ n.inTo ≤ S.length ∧ n.attrs.length ≤ 8
def Good (S : List UInt8) (L : List Nd) : Prop := ∀ (i : Nat) (h : i < L.length), NdOk S i L[i]

theorem has_sub {S : List UInt8} {k : Nat} {t : List UInt8} (h : has S k t = true) : sub S k (k + t.length) = t := by
  unfold has at h
  have := List.prefix_iff_eq_take.1 (List.isPrefixOf_iff_prefix.1 h)
  unfold sub
  rw [show k + t.length - k = t.length by omega]
  exact this.symm
theorem sub_split (S : List UInt8) {a b c : Nat} (h1 : a ≤ b) (h2 : b ≤ c) : sub S a c = sub S a b ++ sub S b c := by
  unfold sub
  have e : S.drop b = (S.drop a).drop (b - a) := by rw [List.drop_drop]; congr 1; omega
  rw [e, show c - a = (b - a) + (c - b) by omega, List.take_add]
theorem sub_len (S : List UInt8) {a b : Nat} (h1 : a ≤ b) (h2 : b ≤ S.length) : (sub S a b).length = b - a := by
  unfold sub
  rw [List.length_take, List.length_drop]
  omega
theorem nameTo_err {S : List UInt8} {k : Nat} {x : Nat × Nat} (h : nameTo S k = .error x) : (2, k) = x := by
  unfold nameTo at h
  split at h
  · cases h
  · injection h
theorem need_at {S : List UInt8} {k : Nat} {x : Nat × Nat} {t : List UInt8} (h : need S k t = .error x) (hk : k ≤ S.length) : x.2 ≤ S.length := by
  obtain ⟨_, rfl⟩ := need_err h
  exact hk

theorem attrName_ok {S : List UInt8} {k m : Nat} {l : List Atr} {nm : List UInt8} (h : attrName S k l = .ok (nm, m)) : nameTo S k = .ok m ∧ nm = sub S k m ∧ l.length < 8 := by
  unfold attrName at h
  split at h
  · cases h
  · rename_i e hn
    split at h
    · cases h
    split at h
    · cases h
    split at h
    · cases h
    injection h with h
    injection h with h1 h2
    subst h2
    exact ⟨hn, h1.symm, by omega⟩
theorem attrName_at {S : List UInt8} {k : Nat} {l : List Atr} {x : Nat × Nat} (h : attrName S k l = .error x) (hk : k ≤ S.length) : x.2 ≤ S.length := by
  unfold attrName at h
  split at h
  · rename_i hn
    injection h with h
    subst h
    have := nameTo_err hn
    rw [← this]; exact hk
  · split at h
    · injection h with h; rw [← h]; exact hk
    split at h
    · injection h with h; rw [← h]; exact hk
    split at h
    · injection h with h; rw [← h]; exact hk
    cases h

theorem attr_good {S : List UInt8} {k m : Nat} {l : List Atr} {a : Atr} (h : attr S k l = .ok (a, m)) (hk : k ≤ S.length) : k < m ∧ m ≤ S.length ∧ l.length < 8 ∧ AtrOk S k a := by
  unfold attr at h
  split at h
  · cases h
  rename_i k1 e1
  split at h
  · cases h
  rename_i nm k2 e2
  split at h
  · cases h
  rename_i k3 e3
  split at h
  · cases h
  rename_i k5 e5
  injection h with h
  injection h with ha hm
  subst hm
  subst ha
  obtain ⟨t1, rfl⟩ := need_ok e1
  obtain ⟨t3, rfl⟩ := need_ok e3
  obtain ⟨t5, rfl⟩ := need_ok e5
  obtain ⟨hn, rfl, h8⟩ := attrName_ok e2
  have l1 := has_le t1 hk
  have l2 := nameTo_le hn
  have l3 := has_le t3 l2.2
  have l4 := whileEnd_le valueB l3
  have l5 := has_le t5 l4.2
  have s1 := has_sub t1
  have s3 := has_sub t3
  have s5 := has_sub t5
  simp only [List.length_cons, List.length_nil, Nat.zero_add] at *
  refine ⟨by omega, l5, h8, Nat.le_refl _, by simp only; omega, l5, ?_⟩
  simp only
  rw [sub_split S (b := k + 1) (by omega) (by omega), sub_split S (a := k + 1) (b := k2) (by omega) (by omega), sub_split S (a := k2) (b := k2 + (1 + 1)) (by omega) (by omega), sub_split S (a := k2 + (1 + 1)) (b := whileEnd S (k2 + (1 + 1)) valueB) (by omega) (by omega), s1, s3, s5]
  simp
theorem attr_at {S : List UInt8} {k : Nat} {l : List Atr} {x : Nat × Nat} (h : attr S k l = .error x) (hk : k ≤ S.length) : x.2 ≤ S.length := by
  unfold attr at h
  split at h
  · rename_i e1
    injection h with h; subst h; exact need_at e1 hk
  rename_i k1 e1
  obtain ⟨t1, rfl⟩ := need_ok e1
  have l1 := has_le t1 hk
  split at h
  · rename_i e2
    injection h with h; subst h; exact attrName_at e2 l1
  rename_i nm k2 e2
  obtain ⟨hn, rfl, h8⟩ := attrName_ok e2
  have l2 := nameTo_le hn
  split at h
  · rename_i e3
    injection h with h; subst h; exact need_at e3 l2.2
  rename_i k3 e3
  obtain ⟨t3, rfl⟩ := need_ok e3
  have l3 := has_le t3 l2.2
  have l4 := whileEnd_le valueB l3
  split at h
  · rename_i e5
    injection h with h; subst h; exact need_at e5 l4.2
  cases h

theorem AtrOk.mono {S : List UInt8} {a b : Nat} {x : Atr} (h : AtrOk S b x) (hab : a ≤ b) : AtrOk S a x := ⟨Nat.le_trans hab h.1, h.2⟩

theorem attrsTo_good {S : List UInt8} (ne : Nat) : ∀ (f k : Nat) (l : List Atr), ne ≤ k → k ≤ S.length → l.length ≤ 8 → (∀ a ∈ l, AtrOk S ne a) → f + l.length = 10 →
    match attrsTo f S k l with | .ok (l', m) => ne ≤ m ∧ m ≤ S.length ∧ l'.length ≤ 8 ∧ (∀ a ∈ l', AtrOk S ne a) | .error x => x.2 ≤ S.length
  | 0, k, l, _, _, h8, _, hf => by omega
  | f + 1, k, l, hne, hk, h8, hl, hf => by
    rw [attrsTo]
    by_cases hh : has S k [32] = true
    · rw [if_pos hh]
      cases ea : attr S k l with
      | error x => exact attr_at ea hk
      | ok p =>
        obtain ⟨a, k1⟩ := p
        obtain ⟨g1, g2, g3, g4⟩ := attr_good ea hk
        refine attrsTo_good ne f k1 (l ++ [a]) (by omega) g2 (by simp; omega) ?_ (by simp; omega)
        intro c hc
        rcases List.mem_append.1 hc with hc | hc
        · exact hl c hc
        · rw [List.mem_singleton.1 hc]; exact g4.mono hne
    · rw [if_neg hh]
      exact ⟨hne, hk, h8, hl⟩

theorem firstTag_good {S : List UInt8} {k : Nat} (hk : k ≤ S.length) :
    match firstTag S k with | .ok (n, m) => k < m ∧ m ≤ S.length ∧ n.inFrom = 0 ∧ n.inTo = 0 ∧ (∀ i (p : Int), -1 ≤ p → p < (i : Nat) → NdOk S i { n with parent := p }) | .error x => x.2 ≤ S.length := by
  unfold firstTag
  cases e1 : need S k [60] with
  | error x => exact need_at e1 hk
  | ok k1 =>
  obtain ⟨t1, h1⟩ := need_ok e1
  have l1 := has_le t1 hk
  have s1 := has_sub t1
  simp only [List.length_cons, List.length_nil, Nat.zero_add] at h1 l1 s1
  subst h1
  simp only
  cases e2 : nameTo S (k + 1) with
  | error x => rw [← nameTo_err e2]; exact l1
  | ok k2 =>
  have l2 := nameTo_le e2
  simp only
  by_cases h20 : 20 < (sub S (k + 1) k2).length
  · rw [if_pos h20]; exact l1
  rw [if_neg h20]
  have hg := attrsTo_good (S := S) k2 10 k2 [] (Nat.le_refl _) l2.2 (by simp) (by simp) rfl
  cases e3 : attrsTo 10 S k2 [] with
  | error x => rw [e3] at hg; exact hg
  | ok p =>
  obtain ⟨l, k3⟩ := p
  rw [e3] at hg
  obtain ⟨g1, g2, g3, g4⟩ := hg
  simp only
  cases e4 : need S k3 [62] with
  | error x => exact need_at e4 g2
  | ok k4 =>
  obtain ⟨t4, h4⟩ := need_ok e4
  have l4 := has_le t4 g2
  simp only [List.length_cons, List.length_nil, Nat.zero_add] at h4 l4
  subst h4
  have n1 := sub_len S (a := k + 1) (b := k2) (by omega) l2.2
  refine ⟨by omega, l4, rfl, rfl, fun i p hp1 hp2 => ⟨hp1, hp2, l2.2, by simp only; omega, ?_, g4, Nat.le_refl _, Nat.zero_le _, g3⟩⟩
  simp only
  rw [n1, show k2 - (k2 - (k + 1)) - 1 = k by omega, sub_split S (b := k + 1) (by omega) (by omega), s1]

theorem Good.push {S : List UInt8} {L : List Nd} {n : Nd} (h : Good S L) (hn : NdOk S L.length n) : Good S (L ++ [n]) := by
  intro i hi
  by_cases hlt : i < L.length
  · rw [List.getElem_append_left hlt]; exact h i hlt
  · have : i = L.length := by simp at hi; omega
    subst this
    simpa using hn

/-- What a reader of items keeps. -/
def Keeps (S : List UInt8) (L : List Nd) (r : Res (Nat × List Nd)) : Prop := match r with | .ok (k', L') => k' ≤ S.length ∧ L.length ≤ L'.length ∧ Good S L' | .error x => x.2 ≤ S.length

theorem element_good {S : List UInt8} (rec : Nat → Int → Nat → List Nd → Res (Nat × List Nd)) (hrec : ∀ (k : Nat) (parent : Int) (deep : Nat) (L : List Nd), k ≤ S.length → -1 ≤ parent → parent < (L.length : Nat) → Good S L → Keeps S L (rec k parent deep L))
    {k : Nat} {parent : Int} {deep : Nat} {L : List Nd} (hk : k ≤ S.length) (hp1 : -1 ≤ parent) (hp2 : parent < (L.length : Nat)) (hL : Good S L) : Keeps S L (element rec S k parent deep L) := by
  unfold element
  split
  · exact hk
  have hf := firstTag_good (S := S) hk
  cases e1 : firstTag S k with
  | error x => rw [e1] at hf; exact hf
  | ok p =>
  obtain ⟨n, k1⟩ := p
  rw [e1] at hf
  obtain ⟨f1, f2, f3, f4, f5⟩ := hf
  have ok1 := f5 L.length parent hp1 hp2
  simp only
  split
  · cases e2 : pastAt S k1 (lastTag styleL) with
    | none => exact Nat.le_refl _
    | some m =>
      have lm := pastAt_le e2 f2
      have h8 : (lastTag styleL).length = 8 := by decide
      rw [h8] at lm
      refine ⟨lm.2, by simp, hL.push ?_⟩
      obtain ⟨o1, o2, o3, o4, o5, o6, o7, o8, o9⟩ := ok1
      exact ⟨o1, o2, o3, o4, o5, o6, lm.1, by simp only; omega, o9⟩
  · have hr := hrec k1 L.length (deep + 1) (L ++ [{ n with parent := parent }]) f2 (by omega) (by simp; omega) (hL.push ok1)
    cases e2 : rec k1 L.length (deep + 1) (L ++ [{ n with parent := parent }]) with
    | error x => rw [e2] at hr; exact hr
    | ok q =>
      obtain ⟨k2, L2⟩ := q
      rw [e2] at hr
      obtain ⟨r1, r2, r3⟩ := hr
      simp only
      cases e3 : need S k2 (lastTag n.name) with
      | error x => exact need_at e3 r1
      | ok k3 =>
        obtain ⟨t3, rfl⟩ := need_ok e3
        refine ⟨has_le t3 r1, ?_, r3⟩
        simp at r2; omega

theorem items_good {S : List UInt8} : ∀ (f k : Nat) (parent : Int) (deep : Nat) (L : List Nd), k ≤ S.length → -1 ≤ parent → parent < (L.length : Nat) → Good S L → Keeps S L (items f S k parent deep L)
  | 0, k, parent, deep, L, _, _, _, _ => Nat.zero_le _
  | f + 1, k, parent, deep, L, hk, hp1, hp2, hL => by
    rw [items]
    by_cases h1 : S.length ≤ k ∨ has S k [60, 47] = true
    · rw [if_pos h1]; exact ⟨hk, Nat.le_refl _, hL⟩
    rw [if_neg h1]
    by_cases h2 : has S k [60, 33, 45, 45] = true
    · rw [if_pos h2]
      have l2 := has_le h2 hk
      cases e : pastAt S (k + 4) [45, 45, 62] with
      | none => exact Nat.le_refl _
      | some m => exact items_good f (m + 3) parent deep L (pastAt_le e l2).2 hp1 hp2 hL
    rw [if_neg h2]
    by_cases h3 : has S k [60] = true
    · rw [if_pos h3]
      have he := element_good (S := S) (items f S) (fun k parent deep L a b c d => items_good f k parent deep L a b c d) (deep := deep) hk hp1 hp2 hL
      cases e : element (items f S) S k parent deep L with
      | error x => rw [e] at he; exact he
      | ok q =>
        obtain ⟨k1, L1⟩ := q
        rw [e] at he
        obtain ⟨r1, r2, r3⟩ := he
        have hi := items_good f k1 parent deep L1 r1 hp1 (by omega) r3
        simp only
        cases e2 : items f S k1 parent deep L1 with
        | error x => rw [e2] at hi; exact hi
        | ok q =>
          obtain ⟨k2, L2⟩ := q
          rw [e2] at hi
          exact ⟨hi.1, Nat.le_trans r2 hi.2.1, hi.2.2⟩
    rw [if_neg h3]
    by_cases h4 : fitsAt S k textB = true
    · rw [if_pos h4]
      exact items_good f (k + 1) parent deep L (by omega) hp1 hp2 hL
    rw [if_neg h4]
    exact hk

theorem parse_good (S : List UInt8) : match parse S with | .ok L => Good S L | .error x => x.2 ≤ S.length := by
  unfold parse
  by_cases h : 6000 < S.length
  · rw [if_pos h]; exact Nat.zero_le _
  rw [if_neg h]
  unfold readAll
  have hi := items_good (S := S) 6001 0 (-1) 1 [] (Nat.zero_le _) (by omega) (by simp) (fun i hi => by simp at hi)
  cases e : items 6001 S 0 (-1) 1 [] with
  | error x => rw [e] at hi; exact hi
  | ok q =>
    obtain ⟨k, L⟩ := q
    rw [e] at hi
    simp only
    by_cases hk : k < S.length
    · rw [if_pos hk]; exact hi.1
    · rw [if_neg hk]; exact hi.2.2
end Go.Proofs.Ytanedepdhbdcgaa
