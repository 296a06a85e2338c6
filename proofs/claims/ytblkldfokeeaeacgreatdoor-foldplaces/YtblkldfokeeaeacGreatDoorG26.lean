/-
  What is read of a page is read where it stands within another: two pages are one, and a page within an element is one deeper; by the plain answer of the Spec text. No condition.
  No fault that a page is told with is nothing: by the plain answer of the Spec text. No condition.
  What wrongDecls, wrongOwn, readStyles and Read of package fold answer: the plain answers, in new memory. Conditions: the tables hold what their texts say; the page is shorter than 2 to the 63.
-/
import Derived.Test.YtblkldfokeeaeacGreatDoorG25
namespace Go.Proofs.YtblkldfokeeaeacGreatDoor.Sh.Pl

def shA (d : Nat) (a : Atr) : Atr := ⟨a.name, a.val, a.from_ + d, a.to_ + d⟩
def shN (d : Nat) (c : Int → Int) (n : Nd) : Nd :=
  ⟨n.name, c n.parent, n.attrs.map (shA d), n.nameEnd + d, if n.name = styleL then n.inFrom + d else n.inFrom, if n.name = styleL then n.inTo + d else n.inTo⟩

section
variable {P S T : List UInt8}

theorem drop_sh (P S T : List UInt8) {k : Nat} (hk : k ≤ S.length) : (P ++ S ++ T).drop (k + P.length) = S.drop k ++ T := by
  rw [List.append_assoc, Nat.add_comm, ← List.drop_drop, List.drop_left, List.drop_append_of_le_length hk]

theorem has_sh (P S T : List UInt8) {t : List UInt8} {k : Nat} (hk : k + t.length ≤ S.length) : has (P ++ S ++ T) (k + P.length) t = has S k t := by
  unfold has
  rw [drop_sh P S T (by omega), Bool.eq_iff_iff, List.isPrefixOf_iff_prefix, List.isPrefixOf_iff_prefix]
  constructor
  · intro h
    exact List.prefix_of_prefix_length_le h (List.prefix_append _ _) (by rw [List.length_drop]; omega)
  · intro h
    exact h.trans (List.prefix_append _ _)
theorem has_up (P S T : List UInt8) {t : List UInt8} {k : Nat} (hk : k ≤ S.length) (h : has S k t = true) : has (P ++ S ++ T) (k + P.length) t = true := by
  rw [has_sh P S T (has_le h hk)]; exact h
theorem get_sh (P S T : List UInt8) {k : Nat} (hk : k < S.length) : (P ++ S ++ T)[k + P.length]? = S[k]? := by
  rw [List.append_assoc, List.getElem?_append_right (by omega), List.getElem?_append_left (by omega)]
  congr 1
  omega
theorem fitsAt_sh (P S T : List UInt8) (p : UInt8 → Bool) {k : Nat} (hk : k < S.length) : fitsAt (P ++ S ++ T) (k + P.length) p = fitsAt S k p := by
  unfold fitsAt
  rw [get_sh P S T hk]
theorem fitsAt_lt' {p : UInt8 → Bool} {k : Nat} (h : fitsAt S k p = true) : k < S.length := by
  by_cases hk : k < S.length
  · exact hk
  · rw [fitsAt_ge p (by omega)] at h; cases h
theorem sub_sh (P S T : List UInt8) {a b : Nat} (h1 : a ≤ b) (h2 : b ≤ S.length) : sub (P ++ S ++ T) (a + P.length) (b + P.length) = sub S a b := by
  unfold sub
  rw [drop_sh P S T (by omega), show b + P.length - (a + P.length) = b - a by omega, List.take_append_of_le_length (by rw [List.length_drop]; omega)]
theorem takeWhile_app {p : UInt8 → Bool} : ∀ (l m : List UInt8), (l.takeWhile p).length < l.length → (l ++ m).takeWhile p = l.takeWhile p
  | [], m, h => by simp at h
  | a :: l, m, h => by
    simp only [List.cons_append, List.takeWhile_cons] at h ⊢
    split
    · rename_i ha
      rw [if_pos ha] at h
      rw [takeWhile_app l m (by simpa using h)]
    · rfl
theorem whileEnd_sh (P S T : List UInt8) (p : UInt8 → Bool) {k : Nat} (hk : k ≤ S.length) (h : whileEnd S k p < S.length) : whileEnd (P ++ S ++ T) (k + P.length) p = whileEnd S k p + P.length := by
  unfold whileEnd at h ⊢
  rw [drop_sh P S T hk, takeWhile_app _ _ (by rw [List.length_drop]; omega)]
  omega
theorem nameTo_sh (P S T : List UInt8) {k m : Nat} (h : nameTo S k = .ok m) (hm : m < S.length) : nameTo (P ++ S ++ T) (k + P.length) = .ok (m + P.length) := by
  unfold nameTo at h ⊢
  split at h
  · rename_i hf
    injection h with h
    subst h
    have hk := fitsAt_lt' hf
    rw [fitsAt_sh P S T letterB hk, if_pos hf, show k + P.length + 1 = (k + 1) + P.length by omega, whileEnd_sh P S T nameB (by omega) hm]
  · cases h
theorem index_app : ∀ (l m t : List UInt8) (i : Nat), Lib.index l t = i → i + t.length ≤ l.length → Lib.index (l ++ m) t = i := by
  intro l m t i h hl
  obtain ⟨h1, h2, h3⟩ := index_spec l t i h
  have sh : ∀ j, j + t.length ≤ l.length → t.isPrefixOf ((l ++ m).drop j) = t.isPrefixOf (l.drop j) := fun j hj => by
    have := has_sh [] l m (t := t) (k := j) hj
    simpa [has] using this
  refine Lib.index_first (by simp; omega) ?_ ?_
  · unfold Lib.occAt; rw [sh i hl]; exact h1
  · intro j hj
    unfold Lib.occAt; rw [sh j (by omega)]; exact h3 j hj
theorem pastAt_sh (P S T : List UInt8) {k m : Nat} {t : List UInt8} (h : pastAt S k t = some m) (hk : k ≤ S.length) : pastAt (P ++ S ++ T) (k + P.length) t = some (m + P.length) := by
  have hl := pastAt_le h hk
  unfold pastAt at h ⊢
  split at h
  · cases h
  · rename_i hge
    injection h with h
    have hi : Lib.index (S.drop k) t = ((m - k : Nat) : Int) := by omega
    have := index_app (S.drop k) T t (m - k) hi (by rw [List.length_drop]; omega)
    rw [drop_sh P S T hk, this, if_neg (by omega)]
    congr 1
    simp
    omega

theorem need_sh (P S T : List UInt8) {k m : Nat} {t : List UInt8} (h : need S k t = .ok m) (hk : k ≤ S.length) : need (P ++ S ++ T) (k + P.length) t = .ok (m + P.length) := by
  obtain ⟨h1, rfl⟩ := need_ok h
  unfold need
  rw [if_pos (has_up P S T hk h1)]
  congr 1
  omega
theorem any_sh (d : Nat) (l : List Atr) (x : List UInt8) : (l.map (shA d)).any (fun a => a.name == x) = l.any (fun a => a.name == x) := by
  induction l with
  | nil => rfl
  | cons a l ih => simp only [List.map_cons, List.any_cons, ih, shA]
theorem attrName_sh (P S T : List UInt8) {k m : Nat} {l : List Atr} {nm : List UInt8} (h : attrName S k l = .ok (nm, m)) (hm : m < S.length) : attrName (P ++ S ++ T) (k + P.length) (l.map (shA P.length)) = .ok (nm, m + P.length) := by
  unfold attrName at h ⊢
  split at h
  · cases h
  rename_i e hn
  have ll := nameTo_le hn
  split at h
  · cases h
  rename_i h8
  split at h
  · cases h
  rename_i h20
  split at h
  · cases h
  rename_i hany
  injection h with h
  injection h with h1 h2
  subst h2
  rw [nameTo_sh P S T hn hm]
  simp only
  rw [sub_sh P S T (by omega) (by omega), List.length_map, any_sh, if_neg h8, if_neg h20, if_neg hany, h1]
theorem attr_sh (P S T : List UInt8) {k m : Nat} {l : List Atr} {a : Atr} (h : attr S k l = .ok (a, m)) (hk : k ≤ S.length) : attr (P ++ S ++ T) (k + P.length) (l.map (shA P.length)) = .ok (shA P.length a, m + P.length) := by
  unfold attr at h
  split at h
  · cases h
  rename_i k1 e1
  split at h
  · cases h
  rename_i nm k2 e2
  split at h
  · cases h
  rename_i k3 e3
  split at h
  · cases h
  rename_i k5 e5
  injection h with h
  injection h with ha hm
  subst hm
  subst ha
  have o1 := need_ok e1
  have o3 := need_ok e3
  have o5 := need_ok e5
  have l1 := has_le o1.1 hk
  have l2 := attrName_le e2
  have l3 := has_le o3.1 l2.2
  rw [o1.2] at l1
  rw [o3.2] at l3
  have l4 := whileEnd_le valueB l3
  have l5 := has_le o5.1 l4.2
  have q3 := o3.2
  simp only [List.length_cons, List.length_nil] at q3 l5
  unfold attr
  rw [need_sh P S T e1 hk]
  simp only
  rw [attrName_sh P S T e2 (by omega)]
  simp only
  rw [need_sh P S T e3 l2.2]
  simp only
  rw [whileEnd_sh P S T valueB l3 (by omega), need_sh P S T e5 l4.2]
  simp only
  rw [sub_sh P S T l4.1 l4.2]
  rfl
theorem attrsTo_sh (P S T : List UInt8) : ∀ (f k : Nat) (l l' : List Atr) (m : Nat), attrsTo f S k l = .ok (l', m) → k ≤ S.length → m < S.length → attrsTo f (P ++ S ++ T) (k + P.length) (l.map (shA P.length)) = .ok (l'.map (shA P.length), m + P.length)
  | 0, _, _, _, _, h, _, _ => by simp [attrsTo] at h
  | f + 1, k, l, l', m, h, hk, hm => by
    rw [attrsTo] at h ⊢
    split at h
    · rename_i hh
      rw [if_pos (has_up P S T hk hh)]
      split at h
      · cases h
      · rename_i a k1 ea
        have la := attr_le ea hk
        rw [attr_sh P S T ea hk]
        simp only
        have := attrsTo_sh P S T f k1 _ _ _ h la.2.1 hm
        simpa using this
    · rename_i hh
      injection h with h
      injection h with h1 h2
      subst h1 h2
      rw [has_sh P S T (by simp; omega), if_neg hh]
theorem firstTag_sh (P S T : List UInt8) {k m : Nat} {n : Nd} (h : firstTag S k = .ok (n, m)) (hk : k ≤ S.length) :
    firstTag (P ++ S ++ T) (k + P.length) = .ok (⟨n.name, 0, n.attrs.map (shA P.length), n.nameEnd + P.length, 0, 0⟩, m + P.length) ∧ n.parent = 0 ∧ n.inFrom = 0 ∧ n.inTo = 0 ∧ fitsAt S (k + 1) letterB = true := by
  unfold firstTag at h
  split at h
  · cases h
  rename_i k1 e1
  split at h
  · cases h
  rename_i k2 e2
  split at h
  · cases h
  rename_i h20
  split at h
  · cases h
  rename_i l k3 e3
  split at h
  · cases h
  rename_i k4 e4
  injection h with h
  injection h with ha hm
  subst hm
  subst ha
  have o1 := need_ok e1
  have o4 := need_ok e4
  have l1 := has_le o1.1 hk
  have q1 := o1.2
  simp only [List.length_cons, List.length_nil] at q1 l1
  have l2 := nameTo_le e2
  have l3 := attrsTo_le 10 _ _ _ _ e3 l2.2
  have l4 := has_le o4.1 l3.2
  simp only [List.length_cons, List.length_nil] at l4
  refine ⟨?_, rfl, rfl, rfl, ?_⟩
  · unfold firstTag
    rw [need_sh P S T e1 hk]
    simp only
    rw [nameTo_sh P S T e2 (by omega)]
    simp only
    have e3' := attrsTo_sh P S T 10 _ _ _ _ e3 l2.2 (by omega)
    simp only [List.map_nil] at e3'
    rw [sub_sh P S T (by omega) l2.2, if_neg h20, e3']
    simp only
    rw [need_sh P S T e4 l3.2]
  · unfold nameTo at e2
    split at e2
    · rename_i hf
      rw [← q1] at hf
      simpa using hf
    · cases e2
end


theorem has_head {S : List UInt8} {k : Nat} {b : UInt8} {t : List UInt8} (h : has S k (b :: t) = true) : S[k]? = some b := by
  unfold has at h
  obtain ⟨r, hr⟩ := List.isPrefixOf_iff_prefix.1 h
  have : (S.drop k)[0]? = some b := by rw [← hr]; rfl
  simpa using this
theorem has_second {S : List UInt8} {k : Nat} {a b : UInt8} {t : List UInt8} (h : has S k (a :: b :: t) = true) : S[k + 1]? = some b := by
  unfold has at h
  obtain ⟨r, hr⟩ := List.isPrefixOf_iff_prefix.1 h
  have : (S.drop k)[1]? = some b := by rw [← hr]; rfl
  simpa using this
theorem fits_get {S : List UInt8} {k : Nat} {p : UInt8 → Bool} {b : UInt8} (h : fitsAt S k p = true) (hb : S[k]? = some b) : p b = true := by
  unfold fitsAt at h
  rw [hb] at h
  exact h

/-- Of items, at fuel f: what is read of S is read of P, S and T, so much on. -/
def ItemsSh (P S T : List UInt8) (E : List Nd) (c : Int → Int) (δ f : Nat) : Prop :=
  ∀ (k : Nat) (parent : Int) (deep : Nat) (L : List Nd) (k' : Nat) (L' : List Nd), items f S k parent deep L = .ok (k', L') → k ≤ S.length →
    k ≤ k' ∧ k' ≤ S.length ∧ L.length ≤ L'.length ∧ (k' = S.length ∨ has S k' [60, 47] = true) ∧
    ((∃ x, items f (P ++ S ++ T) (k + P.length) (c parent) (deep + δ) (E ++ L.map (shN P.length c)) = .error (4, x) ∧ (0 < δ ∨ 120 < L'.length + E.length)) ∨
     (∃ r, 1 ≤ r ∧ f ≤ r + (k' - k) ∧ items f (P ++ S ++ T) (k + P.length) (c parent) (deep + δ) (E ++ L.map (shN P.length c)) = items r (P ++ S ++ T) (k' + P.length) (c parent) (deep + δ) (E ++ L'.map (shN P.length c))))

theorem has_pre {S : List UInt8} {k : Nat} {t u : List UInt8} (h : has S k (t ++ u) = true) : has S k t = true := by
  unfold has at h ⊢
  exact List.isPrefixOf_iff_prefix.2 ((List.prefix_append t u).trans (List.isPrefixOf_iff_prefix.1 h))

theorem element_sh {P S T : List UInt8} {E : List Nd} {c : Int → Int} {δ f : Nat} (hc : ∀ n : Nat, c n = n + E.length) (H : ItemsSh P S T E c δ f) {k : Nat} {parent : Int} {deep : Nat} {L : List Nd} {k1 : Nat} {L1 : List Nd}
    (h : element (items f S) S k parent deep L = .ok (k1, L1)) (hk : k ≤ S.length) :
    k < k1 ∧ k1 ≤ S.length ∧ L.length < L1.length ∧ fitsAt S (k + 1) letterB = true ∧
    ((∃ x, element (items f (P ++ S ++ T)) (P ++ S ++ T) (k + P.length) (c parent) (deep + δ) (E ++ L.map (shN P.length c)) = .error (4, x) ∧ (0 < δ ∨ 120 < L1.length + E.length)) ∨
     element (items f (P ++ S ++ T)) (P ++ S ++ T) (k + P.length) (c parent) (deep + δ) (E ++ L.map (shN P.length c)) = .ok (k1 + P.length, E ++ L1.map (shN P.length c))) := by
  unfold element at h
  split at h
  · cases h
  rename_i hg
  split at h
  · cases h
  rename_i n k2 e1
  have lf := firstTag_le e1 hk
  obtain ⟨sh1, sh2, sh3, sh4, sh5⟩ := firstTag_sh P S T e1 hk
  obtain ⟨nm, p0, ats, ne, i0, t0⟩ := n
  simp only at sh1 sh2 sh3 sh4 lf
  subst sh2 sh3 sh4
  simp only at h
  have hlen : (E ++ L.map (shN P.length c)).length = L.length + E.length := by simp; omega
  split at h
  · rename_i hst
    subst hst
    split at h
    · cases h
    rename_i m e2
    have lm := pastAt_le e2 lf.2.1
    have h8 : (lastTag styleL).length = 8 := by decide
    rw [h8] at lm
    injection h with h
    injection h with h1 h2
    subst h1 h2
    refine ⟨by omega, lm.2, by simp, sh5, ?_⟩
    by_cases hg2 : 20 < deep + δ ∨ 120 ≤ (E ++ L.map (shN P.length c)).length
    · refine .inl ⟨k + P.length, ?_, ?_⟩
      · unfold element; rw [if_pos hg2]
      · rw [hlen] at hg2; simp; omega
    · right
      unfold element
      rw [if_neg hg2, sh1]
      simp only
      rw [if_pos trivial, pastAt_sh P S T e2 lf.2.1]
      simp only [List.map_append, List.map_cons, List.map_nil, shN, List.append_assoc]
      rw [if_pos trivial, if_pos trivial]
      congr 2
      omega
  · rename_i hst
    split at h
    · cases h
    rename_i k3 L2 e2
    split at h
    · cases h
    rename_i k4 e3
    injection h with h
    injection h with h1 h2
    subst h1 h2
    obtain ⟨a1, a2, a3, a4, a5⟩ := H _ _ _ _ _ _ e2 lf.2.1
    have o3 := need_ok e3
    have l3 := has_le o3.1 a2
    simp at a3
    refine ⟨by omega, by omega, by omega, sh5, ?_⟩
    have hp : (((E ++ L.map (shN P.length c)).length : Nat) : Int) = c (L.length : Nat) := by rw [hc, hlen]; omega
    have hnode : E ++ L.map (shN P.length c) ++ [(⟨nm, c parent, ats.map (shA P.length), ne + P.length, 0, 0⟩ : Nd)] = E ++ (L ++ [(⟨nm, parent, ats, ne, 0, 0⟩ : Nd)]).map (shN P.length c) := by
      simp [shN, hst]
    by_cases hg2 : 20 < deep + δ ∨ 120 ≤ (E ++ L.map (shN P.length c)).length
    · refine .inl ⟨k + P.length, ?_, ?_⟩
      · unfold element; rw [if_pos hg2]
      · rw [hlen] at hg2; omega
    · have hrec : items f (P ++ S ++ T) (k2 + P.length) ((E ++ L.map (shN P.length c)).length : Nat) (deep + δ + 1) (E ++ L.map (shN P.length c) ++ [(⟨nm, c parent, ats.map (shA P.length), ne + P.length, 0, 0⟩ : Nd)]) = items f (P ++ S ++ T) (k2 + P.length) (c (L.length : Nat)) (deep + 1 + δ) (E ++ (L ++ [(⟨nm, parent, ats, ne, 0, 0⟩ : Nd)]).map (shN P.length c)) := by
        rw [hp, hnode, show deep + δ + 1 = deep + 1 + δ by omega]
      rcases a5 with ⟨x, hx, hcond⟩ | ⟨r, hr1, hr2, hr3⟩
      · refine .inl ⟨x, ?_, hcond⟩
        unfold element
        rw [if_neg hg2, sh1]
        simp only
        rw [if_neg hst, hrec, hx]
      · right
        obtain ⟨r', rfl⟩ : ∃ r', r = r' + 1 := ⟨r - 1, by omega⟩
        have hstop : items (r' + 1) (P ++ S ++ T) (k3 + P.length) (c (L.length : Nat)) (deep + 1 + δ) (E ++ L2.map (shN P.length c)) = .ok (k3 + P.length, E ++ L2.map (shN P.length c)) := by
          rw [items, if_pos (Or.inr (has_up P S T a2 (has_pre (t := [60, 47]) (u := nm ++ [62]) (by simpa [lastTag] using o3.1))))]
        unfold element
        rw [if_neg hg2, sh1]
        simp only
        rw [if_neg hst, hrec, hr3, hstop]
        simp only
        rw [need_sh P S T e3 a2]

theorem items_sh {P S T : List UInt8} {E : List Nd} {c : Int → Int} {δ : Nat} (hc : ∀ n : Nat, c n = n + E.length) : ∀ f, ItemsSh P S T E c δ f
  | 0 => by intro k parent deep L k' L' h; simp [items] at h
  | f + 1 => by
    intro k parent deep L k' L' h hk
    have IH := items_sh (P := P) (S := S) (T := T) (δ := δ) hc f
    rw [items] at h
    by_cases h1 : S.length ≤ k ∨ has S k [60, 47] = true
    · rw [if_pos h1] at h
      injection h with h
      injection h with h2 h3
      subst h2 h3
      refine ⟨Nat.le_refl _, hk, Nat.le_refl _, ?_, .inr ⟨f + 1, by omega, by omega, rfl⟩⟩
      rcases h1 with h1 | h1
      · left; omega
      · exact .inr h1
    rw [if_neg h1] at h
    have hlt : k < S.length := by omega
    have hX : ¬ (P ++ S ++ T).length ≤ k + P.length := by simp; omega
    by_cases h2 : has S k [60, 33, 45, 45] = true
    · rw [if_pos h2] at h
      have l2 := has_le h2 hk
      have hn47 : ¬ has (P ++ S ++ T) (k + P.length) [60, 47] = true := by
        intro hh
        have e1 := has_second hh
        have e2 := has_second h2
        simp only [List.length_cons, List.length_nil] at l2
        rw [show k + P.length + 1 = k + 1 + P.length by omega, get_sh P S T (by omega), e2] at e1
        simp at e1
      split at h
      · cases h
      · rename_i m e
        have lm := pastAt_le e l2
        obtain ⟨a1, a2, a3, a4, a5⟩ := IH _ _ _ _ _ _ h lm.2
        have step : ∀ (p : Int) (dd : Nat) (LL : List Nd), items (f + 1) (P ++ S ++ T) (k + P.length) p dd LL = items f (P ++ S ++ T) (m + 3 + P.length) p dd LL := fun p dd LL => by
          rw [items, if_neg (not_or.2 ⟨hX, hn47⟩), if_pos (has_up P S T hk h2), show k + P.length + 4 = k + 4 + P.length by omega, pastAt_sh P S T e l2]
          simp only
          rw [show m + P.length + 3 = m + 3 + P.length by omega]
        simp only [List.length_cons, List.length_nil] at lm
        refine ⟨by omega, a2, a3, a4, ?_⟩
        rcases a5 with ⟨x, hx, hcond⟩ | ⟨r, hr1, hr2, hr3⟩
        · exact .inl ⟨x, by rw [step]; exact hx, hcond⟩
        · exact .inr ⟨r, hr1, by omega, by rw [step]; exact hr3⟩
    rw [if_neg h2] at h
    by_cases h3 : has S k [60] = true
    · rw [if_pos h3] at h
      split at h
      · cases h
      · rename_i k1 L1 e
        obtain ⟨b1, b2, b3, b4, b5⟩ := element_sh hc IH e hk
        have hk1 := fitsAt_lt' b4
        have hno : ∀ (b : UInt8) (t : List UInt8), letterB b = false → ¬ has (P ++ S ++ T) (k + P.length) (60 :: b :: t) = true := fun b t hb hh => by
          have e1 := has_second hh
          rw [show k + P.length + 1 = k + 1 + P.length by omega, get_sh P S T hk1] at e1
          have := fits_get b4 e1
          rw [hb] at this
          cases this
        have step : ∀ (p : Int) (dd : Nat) (LL : List Nd), items (f + 1) (P ++ S ++ T) (k + P.length) p dd LL = (match element (items f (P ++ S ++ T)) (P ++ S ++ T) (k + P.length) p dd LL with | .error x => .error x | .ok (k1, L1) => items f (P ++ S ++ T) k1 p dd L1) := fun p dd LL => by
          rw [items, if_neg (not_or.2 ⟨hX, hno 47 [] (by decide)⟩), if_neg (hno 33 [45, 45] (by decide)), if_pos (has_up P S T hk h3)]
          cases element (items f (P ++ S ++ T)) (P ++ S ++ T) (k + P.length) p dd LL <;> rfl
        obtain ⟨a1, a2, a3, a4, a5⟩ := IH _ _ _ _ _ _ h b2
        refine ⟨by omega, a2, by omega, a4, ?_⟩
        rcases b5 with ⟨x, hx, hcond⟩ | hx
        · exact .inl ⟨x, by rw [step, hx], by omega⟩
        · rcases a5 with ⟨y, hy, hcond⟩ | ⟨r, hr1, hr2, hr3⟩
          · exact .inl ⟨y, by rw [step, hx]; exact hy, hcond⟩
          · exact .inr ⟨r, hr1, by omega, by rw [step, hx]; exact hr3⟩
    rw [if_neg h3] at h
    by_cases h4 : fitsAt S k textB = true
    · rw [if_pos h4] at h
      have hno : ∀ t : List UInt8, ¬ has (P ++ S ++ T) (k + P.length) (60 :: t) = true := fun t hh => by
        have e1 := has_head hh
        rw [get_sh P S T hlt] at e1
        have := fits_get h4 e1
        revert this
        decide
      have step : ∀ (p : Int) (dd : Nat) (LL : List Nd), items (f + 1) (P ++ S ++ T) (k + P.length) p dd LL = items f (P ++ S ++ T) (k + 1 + P.length) p dd LL := fun p dd LL => by
        rw [items, if_neg (not_or.2 ⟨hX, hno [47]⟩), if_neg (hno [33, 45, 45]), if_neg (hno []), if_pos (by rw [fitsAt_sh P S T textB hlt]; exact h4), show k + P.length + 1 = k + 1 + P.length by omega]
      obtain ⟨a1, a2, a3, a4, a5⟩ := IH _ _ _ _ _ _ h (by omega)
      refine ⟨by omega, a2, a3, a4, ?_⟩
      rcases a5 with ⟨x, hx, hcond⟩ | ⟨r, hr1, hr2, hr3⟩
      · exact .inl ⟨x, by rw [step]; exact hx, hcond⟩
      · exact .inr ⟨r, hr1, by omega, by rw [step]; exact hr3⟩
    · rw [if_neg h4] at h
      cases h

theorem element_congr {S : List UInt8} {r1 r2 : Nat → Int → Nat → List Nd → Res (Nat × List Nd)} {k : Nat} (hk : k ≤ S.length) (h : ∀ k1, k < k1 → k1 ≤ S.length → ∀ p d L, r1 k1 p d L = r2 k1 p d L) (parent : Int) (deep : Nat) (L : List Nd) :
    element r1 S k parent deep L = element r2 S k parent deep L := by
  unfold element
  split
  · rfl
  cases e : firstTag S k with
  | error x => rfl
  | ok p =>
    obtain ⟨n, k1⟩ := p
    have := firstTag_le e hk
    simp only
    split
    · rfl
    · rw [h k1 this.1 this.2.1]

theorem element_go {S : List UInt8} {f k : Nat} {parent : Int} {deep : Nat} {L : List Nd} {k1 : Nat} {L1 : List Nd} (h : element (items f S) S k parent deep L = .ok (k1, L1)) (hk : k ≤ S.length) : k < k1 ∧ k1 ≤ S.length := by
  have := element_sh (P := []) (T := []) (E := []) (c := id) (δ := 0) (fun n => by simp) (items_sh (fun n => by simp) f) h hk
  exact ⟨this.1, this.2.1⟩

theorem items_fuel {S : List UInt8} : ∀ (f k : Nat) (parent : Int) (deep : Nat) (L : List Nd), k ≤ S.length → S.length - k < f → items (f + 1) S k parent deep L = items f S k parent deep L
  | 0, _, _, _, _, _, h => by omega
  | f + 1, k, parent, deep, L, hk, hf => by
    rw [items, items.eq_2 S k parent deep L f]
    by_cases h1 : S.length ≤ k ∨ has S k [60, 47] = true
    · rw [if_pos h1, if_pos h1]
    rw [if_neg h1, if_neg h1]
    by_cases h2 : has S k [60, 33, 45, 45] = true
    · rw [if_pos h2, if_pos h2]
      have l2 := has_le h2 hk
      cases e : pastAt S (k + 4) [45, 45, 62] with
      | none => rfl
      | some m =>
        have lm := pastAt_le e l2
        simp only [List.length_cons, List.length_nil] at lm
        exact items_fuel f (m + 3) parent deep L (by omega) (by omega)
    rw [if_neg h2, if_neg h2]
    by_cases h3 : has S k [60] = true
    · rw [if_pos h3, if_pos h3, element_congr hk (fun k1 a b p d M => items_fuel f k1 p d M b (by omega))]
      cases e : element (items f S) S k parent deep L with
      | error x => rfl
      | ok q =>
        obtain ⟨k1, L1⟩ := q
        have := element_go e hk
        exact items_fuel f k1 parent deep L1 this.2 (by omega)
    rw [if_neg h3, if_neg h3]
    by_cases h4 : fitsAt S k textB = true
    · rw [if_pos h4, if_pos h4]
      have := fitsAt_lt' h4
      exact items_fuel f (k + 1) parent deep L (by omega) (by omega)
    rw [if_neg h4, if_neg h4]

theorem items_more {S : List UInt8} {f k : Nat} {parent : Int} {deep : Nat} {L : List Nd} (hk : k ≤ S.length) (hf : S.length - k < f) : ∀ e, items (f + e) S k parent deep L = items f S k parent deep L
  | 0 => rfl
  | e + 1 => by rw [← Nat.add_assoc, items_fuel (f + e) k parent deep L hk (by omega)]; exact items_more hk hf e
theorem items_same {S : List UInt8} {f g k : Nat} {parent : Int} {deep : Nat} {L : List Nd} (hk : k ≤ S.length) (hf : S.length - k < f) (hg : S.length - k < g) : items f S k parent deep L = items g S k parent deep L := by
  by_cases h : f ≤ g
  · obtain ⟨e, rfl⟩ : ∃ e, g = f + e := ⟨g - f, by omega⟩
    exact (items_more hk hf e).symm
  · obtain ⟨e, rfl⟩ : ∃ e, f = g + e := ⟨f - g, by omega⟩
    exact items_more hk hg e

theorem parse_ok {S : List UInt8} {L : List Nd} (h : parse S = .ok L) : S.length ≤ 6000 ∧ items 6001 S 0 (-1) 1 [] = .ok (S.length, L) := by
  unfold parse at h
  split at h
  · cases h
  rename_i hl
  refine ⟨by omega, ?_⟩
  unfold readAll at h
  split at h
  · cases h
  rename_i k L' e
  split at h
  · cases h
  rename_i hk
  injection h with h
  subst h
  have := (items_sh (P := []) (T := []) (E := []) (c := id) (δ := 0) (fun n => by simp) 6001 _ _ _ _ _ _ e (Nat.zero_le _)).2.1
  rw [e, show k = S.length by omega]

theorem parse_of {S : List UInt8} {L : List Nd} (hl : S.length ≤ 6000) (h : items 6001 S 0 (-1) 1 [] = .ok (S.length, L)) : parse S = .ok L := by
  unfold parse
  rw [if_neg (by omega)]
  unfold readAll
  rw [h]
  simp

/-- Two pages are one. -/
theorem parse_joined {S T : List UInt8} {a b : List Nd} (ha : parse S = .ok a) (hb : parse T = .ok b) (hl : S.length + T.length ≤ 6000) (hn : a.length + b.length ≤ 120) :
    parse (S ++ T) = .ok (a ++ b.map (shN S.length (fun p => if 0 ≤ p then p + a.length else p))) := by
  obtain ⟨_, ia⟩ := parse_ok ha
  obtain ⟨_, ib⟩ := parse_ok hb
  have id0 : ∀ l : List Nd, l.map (shN 0 id) = l := by
    intro l
    induction l with
    | nil => rfl
    | cons n l ih =>
      have h1 : ∀ m : List Atr, m.map (shA 0) = m := by
        intro m
        induction m with
        | nil => rfl
        | cons x m im => simp only [List.map_cons, im, shA, Nat.add_zero]
      rw [List.map_cons, ih]
      obtain ⟨n1, n2, n3, n4, n5, n6⟩ := n
      simp [shN, h1]
  obtain ⟨_, _, _, _, p1⟩ := items_sh (P := []) (T := T) (E := []) (c := id) (δ := 0) (fun n => by simp) 6001 _ _ _ _ _ _ ia (Nat.zero_le _)
  obtain ⟨_, _, _, _, p2⟩ := items_sh (P := S) (T := []) (E := a) (c := fun p => if 0 ≤ p then p + a.length else p) (δ := 0) (fun n => by simp) 6001 _ _ _ _ _ _ ib (Nat.zero_le _)
  simp only [List.nil_append, List.length_nil, Nat.add_zero, Nat.zero_add, List.map_nil, List.append_nil, id0] at p1 p2
  rcases p1 with ⟨x, _, hx⟩ | ⟨r, r1, r2, r3⟩
  · simp at hx; omega
  rcases p2 with ⟨x, _, hx⟩ | ⟨q, q1, q2, q3⟩
  · omega
  refine parse_of (by simp; omega) ?_
  have hid : (id (-1 : Int)) = -1 := rfl
  rw [hid] at r3
  rw [r3, items_same (g := 6001) (by simp) (by simp; omega) (by simp; omega)]
  have hneg : (if (0 : Int) ≤ -1 then (-1 : Int) + a.length else -1) = -1 := by simp
  rw [hneg] at q3
  rw [q3]
  obtain ⟨q', rfl⟩ : ∃ q', q = q' + 1 := ⟨q - 1, by omega⟩
  rw [items, if_pos (Or.inl (by simp; omega))]
  simp [Nat.add_comm]

/-- One deeper. -/
theorem parse_wrapped {S : List UInt8} {L : List Nd} (h : parse S = .ok L) :
    (∃ x, parse ([60, 112, 62] ++ S ++ [60, 47, 112, 62]) = .error (4, x)) ∨
    parse ([60, 112, 62] ++ S ++ [60, 47, 112, 62]) = .ok (⟨[112], -1, [], 2, 0, 0⟩ :: L.map (shN 3 (fun p => p + 1))) := by
  obtain ⟨hl, hi⟩ := parse_ok h
  by_cases hbig : 6000 < ([60, 112, 62] ++ S ++ [60, 47, 112, 62]).length
  · left
    refine ⟨0, ?_⟩
    unfold parse
    rw [if_pos hbig]
  have hlen : S.length + 7 ≤ 6000 := by simp at hbig; omega
  have hi' : items 6000 S 0 (-1) 1 [] = .ok (S.length, L) := by rw [items_same (g := 6001) (Nat.zero_le _) (by omega) (by omega)]; exact hi
  have ft : firstTag ([60, 112, 62] ++ S ++ [60, 47, 112, 62]) 0 = .ok (⟨[112], 0, [], 2, 0, 0⟩, 3) := by
    simp [firstTag, need, has, nameTo, fitsAt, whileEnd, letterB, nameB, sub, attrsTo]
  obtain ⟨_, _, _, _, p1⟩ := items_sh (P := [60, 112, 62]) (T := [60, 47, 112, 62]) (E := [⟨[112], -1, [], 2, 0, 0⟩]) (c := fun p => p + 1) (δ := 1) (fun n => by simp) 6000 _ _ _ _ _ _ hi' (Nat.zero_le _)
  have hP : ([60, 112, 62] : List UInt8).length = 3 := rfl
  rw [hP] at p1
  generalize hX : [60, 112, 62] ++ S ++ [60, 47, 112, 62] = X at *
  have hXl : X.length = S.length + 7 := by rw [← hX]; simp
  have h0 : ∀ t : List UInt8, has X 0 t = t.isPrefixOf X := fun t => by simp [has]
  have e1 : has X 0 [60, 47] = false := by rw [h0, ← hX]; rfl
  have e2 : has X 0 [60, 33, 45, 45] = false := by rw [h0, ← hX]; rfl
  have e3 : has X 0 [60] = true := by rw [h0, ← hX]; rfl
  have step : items 6001 X 0 (-1) 1 [] = (match element (items 6000 X) X 0 (-1) 1 [] with | .error x => .error x | .ok (k1, L1) => items 6000 X k1 (-1) 1 L1) := by
    rw [items.eq_2, if_neg (fun h => h.elim (fun h => by omega) (fun h => by rw [e1] at h; cases h)), if_neg (by rw [e2]; decide), if_pos e3]
    cases element (items 6000 X) X 0 (-1) 1 [] <;> rfl
  have hnest : ¬ ((20 : Nat) < 1 ∨ 120 ≤ ([] : List Nd).length) := by simp
  have hns : ¬ ([112] : List UInt8) = styleL := by decide
  simp only [Nat.zero_add, List.map_nil, List.append_nil] at p1
  rcases p1 with ⟨x, hx, _⟩ | ⟨r, r1, r2, r3⟩
  · left
    refine ⟨x, ?_⟩
    unfold parse
    rw [if_neg (by omega)]
    unfold readAll
    have : element (items 6000 X) X 0 (-1) 1 [] = .error (4, x) := by
      unfold element
      rw [if_neg hnest, ft]
      simp only
      rw [if_neg hns]
      have : items 6000 X 3 (([] : List Nd).length : Nat) (1 + 1) ([] ++ [(⟨[112], -1, [], 2, 0, 0⟩ : Nd)]) = .error (4, x) := hx
      rw [this]
    rw [step, this]
  · right
    obtain ⟨r', rfl⟩ : ∃ r', r = r' + 1 := ⟨r - 1, by omega⟩
    have hT : has X (S.length + 3) [60, 47, 112, 62] = true := by
      have hd := drop_sh [60, 112, 62] S [60, 47, 112, 62] (Nat.le_refl S.length)
      rw [hP, hX] at hd
      unfold has
      rw [hd]
      simp
    rw [items.eq_2 X (S.length + 3), if_pos (Or.inr (has_pre (t := [60, 47]) (u := [112, 62]) hT))] at r3
    have : element (items 6000 X) X 0 (-1) 1 [] = .ok (S.length + 7, ⟨[112], -1, [], 2, 0, 0⟩ :: L.map (shN 3 (fun p => p + 1))) := by
      unfold element
      rw [if_neg hnest, ft]
      simp only
      rw [if_neg hns]
      have hit : items 6000 X 3 (([] : List Nd).length : Nat) (1 + 1) ([] ++ [(⟨[112], -1, [], 2, 0, 0⟩ : Nd)]) = .ok (S.length + 3, [⟨[112], -1, [], 2, 0, 0⟩] ++ L.map (shN 3 (fun p => p + 1))) := r3
      rw [hit]
      simp only
      have : need X (S.length + 3) (lastTag [112]) = .ok (S.length + 7) := by
        unfold need
        rw [if_pos (show has X (S.length + 3) (lastTag [112]) = true from hT)]
        rfl
      rw [this]
      rfl
    refine parse_of (by omega) ?_
    rw [step, this]
    simp only
    rw [items.eq_2, if_pos (Or.inl (by omega)), hXl]
end Go.Proofs.YtblkldfokeeaeacGreatDoor.Sh.Pl

namespace Go.Proofs.YtblkldfokeeaeacGreatDoor.Sh.Pl

theorem need_nz {S : List UInt8} {k : Nat} {x : Nat × Nat} {t : List UInt8} (h : need S k t = .error x) : x.1 ≠ 0 := by
  obtain ⟨_, rfl⟩ := need_err h
  simp
theorem nameTo_nz {S : List UInt8} {k : Nat} {x : Nat × Nat} (h : nameTo S k = .error x) : x.1 ≠ 0 := by
  rw [← nameTo_err h]; simp
theorem attrName_nz {S : List UInt8} {k : Nat} {l : List Atr} {x : Nat × Nat} (h : attrName S k l = .error x) : x.1 ≠ 0 := by
  unfold attrName at h
  split at h
  · rename_i hn
    injection h with h
    subst h
    exact nameTo_nz hn
  · split at h
    · injection h with h; rw [← h]; simp
    split at h
    · injection h with h; rw [← h]; simp
    split at h
    · injection h with h; rw [← h]; simp
    cases h
theorem attr_nz {S : List UInt8} {k : Nat} {l : List Atr} {x : Nat × Nat} (h : attr S k l = .error x) : x.1 ≠ 0 := by
  unfold attr at h
  split at h
  · rename_i e1
    injection h with h; subst h; exact need_nz e1
  split at h
  · rename_i e2
    injection h with h; subst h; exact attrName_nz e2
  split at h
  · rename_i e3
    injection h with h; subst h; exact need_nz e3
  split at h
  · rename_i e5
    injection h with h; subst h; exact need_nz e5
  cases h
theorem attrsTo_nz {S : List UInt8} : ∀ (f k : Nat) (l : List Atr) (x : Nat × Nat), f + l.length = 10 → l.length ≤ 8 → k ≤ S.length → attrsTo f S k l = .error x → x.1 ≠ 0
  | 0, _, _, _, h1, h2, _, _ => by omega
  | f + 1, k, l, x, h1, h2, hk, h => by
    rw [attrsTo] at h
    split at h
    · split at h
      · rename_i e
        injection h with h; subst h; exact attr_nz e
      · rename_i a k1 ea
        have la := attr_le ea hk
        exact attrsTo_nz f k1 _ x (by simp; omega) (by simp; omega) la.2.1 h
    · cases h
theorem firstTag_nz {S : List UInt8} {k : Nat} {x : Nat × Nat} (h : firstTag S k = .error x) : x.1 ≠ 0 := by
  unfold firstTag at h
  split at h
  · rename_i e1
    injection h with h; subst h; exact need_nz e1
  split at h
  · rename_i e2
    injection h with h; subst h; exact nameTo_nz e2
  rename_i k2 e2
  have l2 := nameTo_le e2
  split at h
  · injection h with h; rw [← h]; simp
  split at h
  · rename_i e3
    injection h with h; subst h; exact attrsTo_nz 10 _ _ _ rfl (by simp) l2.2 e3
  split at h
  · rename_i e4
    injection h with h; subst h; exact need_nz e4
  cases h
theorem element_nz {S : List UInt8} {f k : Nat} (IH : ∀ (k : Nat) (parent : Int) (deep : Nat) (L : List Nd) (x : Nat × Nat), k ≤ S.length → S.length - k < f → items f S k parent deep L = .error x → x.1 ≠ 0)
    {parent : Int} {deep : Nat} {L : List Nd} {x : Nat × Nat} (hk : k ≤ S.length) (hf : S.length - k < f + 1) (h : element (items f S) S k parent deep L = .error x) : x.1 ≠ 0 := by
  unfold element at h
  split at h
  · injection h with h; rw [← h]; simp
  split at h
  · rename_i e1
    injection h with h; subst h; exact firstTag_nz e1
  rename_i n k1 e1
  have lf := firstTag_le e1 hk
  split at h
  · split at h
    · injection h with h; rw [← h]; simp
    · cases h
  · split at h
    · rename_i e2
      injection h with h; subst h; exact IH _ _ _ _ _ lf.2.1 (by omega) e2
    · split at h
      · rename_i e3
        injection h with h; subst h; exact need_nz e3
      · cases h
theorem items_nz {S : List UInt8} : ∀ (f k : Nat) (parent : Int) (deep : Nat) (L : List Nd) (x : Nat × Nat), k ≤ S.length → S.length - k < f → items f S k parent deep L = .error x → x.1 ≠ 0
  | 0, _, _, _, _, _, _, h, _ => by omega
  | f + 1, k, parent, deep, L, x, hk, hf, h => by
    rw [items] at h
    by_cases h1 : S.length ≤ k ∨ has S k [60, 47] = true
    · rw [if_pos h1] at h; cases h
    rw [if_neg h1] at h
    by_cases h2 : has S k [60, 33, 45, 45] = true
    · rw [if_pos h2] at h
      have l2 := has_le h2 hk
      split at h
      · injection h with h; rw [← h]; simp
      · rename_i m e
        have lm := pastAt_le e l2
        simp only [List.length_cons, List.length_nil] at lm
        exact items_nz f _ _ _ _ _ (by omega) (by omega) h
    rw [if_neg h2] at h
    by_cases h3 : has S k [60] = true
    · rw [if_pos h3] at h
      split at h
      · rename_i e
        injection h with h; subst h
        exact element_nz (fun k p d L x a b c => items_nz f k p d L x a b c) hk hf e
      · rename_i k1 L1 e
        have := element_go e hk
        exact items_nz f _ _ _ _ _ this.2 (by omega) h
    rw [if_neg h3] at h
    by_cases h4 : fitsAt S k textB = true
    · rw [if_pos h4] at h
      have := fitsAt_lt' h4
      exact items_nz f _ _ _ _ _ (by omega) (by omega) h
    rw [if_neg h4] at h
    injection h with h; rw [← h]; simp
theorem parse_nz {S : List UInt8} {x : Nat × Nat} (h : parse S = .error x) : x.1 ≠ 0 := by
  unfold parse at h
  split at h
  · injection h with h; rw [← h]; simp
  rename_i hl
  unfold readAll at h
  split at h
  · rename_i e
    injection h with h; subst h
    exact items_nz 6001 _ _ _ _ _ (Nat.zero_le _) (by omega) e
  · split at h
    · injection h with h; rw [← h]; simp
    · cases h
end Go.Proofs.YtblkldfokeeaeacGreatDoor.Sh.Pl

namespace Go.Proofs.YtblkldfokeeaeacGreatDoor
open Go.RowKit

theorem tab_mx {w : World} (h : Tab w) : Sh.Mx w := h.mx
theorem declsErr_nz {s : Bs} {e : Nat} (h : declsErr s = some e) : e ≠ 0 := by
  unfold declsErr at h
  cases hp : Sh.declsParse s with
  | error x => rw [hp] at h; injection h with h; subst h; exact Sh.decls_fault hp
  | ok D =>
    rw [hp] at h
    simp only at h
    split at h
    · injection h with h; omega
    · cases h
set_option maxRecDepth 100000 in
set_option maxHeartbeats 4000000 in
theorem wrongDecls_any (s : Bs) (w : World) (hs : s.length ≤ 6000) (hT : Tab w) :
    Calls Tryz.prog 64 #[.string (bsL s)] w fun e w' => e = .returned (.int .i64 (((declsErr s).getD 0 : Nat) : Int)) ∧ Below w.heap.size w w' := by
  have HT := hid hT
  clear hT
  go_enter Tryz.func64, Tryz.ntmps64
  go_wp2_with fail
  refine Sh.dparse_any (bsL s) w _ (by rw [bsL_size]; omega) (tab_mx HT.out) (hid ?_) (hid ?_)
  · intro L nv w2 hp hd hb2
    rw [bsL_data] at hp
    have hdd := ds_of hd
    obtain ⟨na, nc, rfl⟩ := Sl.form hdd
    have b3 := hb2.alloc hb2.size (.cells #[.int .i64 0, .int .i64 0] 25)
    have x3 := Ext.below b3
    have sm : SmDs (L.map ofD) := sm_decls (Sh.declsParse_ok hp).1 fun d hd => dcl_bd ((Sh.declsParse_ok hp).2 d hd)
    have AA := hid (all_any (.slice na (L.map ofD).length nc) (L.map ofD) (w2.alloc (.cells #[.int .i64 0, .int .i64 0] 25)) (hdd.ext (ext_alloc _ _)) sm (HT.out.ext x3))
    have HE : Hid (declsErr s = if (allB (L.map Sh.ofL)).isNone then some 5 else none) := by
      show declsErr s = _
      unfold declsErr
      rw [hp]
    rw [map_ofD] at AA ⊢
    have B3 := hid b3
    clear hp hd hdd hb2 b3 x3 sm
    generalize L.map Sh.ofL = ds at *
    cases ha : allB ds with
    | none =>
      rw [ha] at AA HE
      simp only [Ans, badV] at AA
      go_wp2_with (go_at_call 62; refine AA.out.mono ?_; rintro e w4 ⟨rfl, hb4⟩; have B4 := hid (below_trans B3.out hb4 (Nat.le_refl _)); clear hb4)
      go_ret
      exact ⟨by rw [HE.out]; rfl, B4.out⟩
    | some A =>
      rw [ha] at AA HE
      simp only [Ans] at AA
      go_wp2_with (go_at_call 62; refine AA.out.mono ?_; rintro e w4 ⟨⟨aa, ac, rfl, _⟩, hb4⟩; have B4 := hid (below_trans B3.out hb4 (Nat.le_refl _)); clear hb4)
      go_ret
      exact ⟨by rw [HE.out]; rfl, B4.out⟩
  · intro y w2 hp hb2
    rw [bsL_data] at hp
    have hy := Sh.decls_fault hp
    have hy' : ¬ ((y.1 : Int) = 0) := by omega
    have HE : Hid (declsErr s = some y.1) := by
      show declsErr s = _
      unfold declsErr
      rw [hp]
    have B3 := hid (hb2.alloc hb2.size (.cells #[.int .i64 y.1, .int .i64 y.2] 25))
    clear hp hb2 hy
    go_wp2_with fail
    go_ret
    exact ⟨by rw [HE.out]; rfl, B3.out⟩

/-! ### wrongOwn -/
def ownN (n : Sh.Nd) : Bs := match ownA n with
  | none => []
  | some a => a.name
def ownT (n : Sh.Nd) : Nat := match ownA n with
  | none => 0
  | some a => a.to_
theorem atr_eq (n : Sh.Nd) : atrV (ownA n) = .agg #[.string (bsL (ownN n)), .string (bsL (ownV n)), .int .i64 (ownF n), .int .i64 (ownT n)] := by
  unfold ownN ownV ownF ownT
  cases ownA n <;> rfl
theorem own_len {n : Sh.Nd} {m : Nat} (h : NdBd m n) : (ownV n).length ≤ m ∧ ownF n ≤ m := by
  unfold ownV ownF
  cases ho : ownA n with
  | none => exact ⟨Nat.zero_le _, Nat.zero_le _⟩
  | some a =>
    obtain ⟨_, h1, h2, h3⟩ := h.at_ a (own_find ho).1
    exact ⟨h1, Nat.le_trans h2 h3⟩
theorem ndBd_mono {m k : Nat} {n : Sh.Nd} (h : NdBd m n) (hm : m ≤ k) : NdBd k n :=
  ⟨h.few, Nat.le_trans h.ne hm, h.fr, Nat.le_trans h.to hm, fun a ha => by obtain ⟨x1, x2, x3, x4⟩ := h.at_ a ha; exact ⟨x1, by omega, x3, by omega⟩, h.nm⟩
def nodeW (n : Sh.Nd) (av : Value) : Array Value := #[.string (bsL n.name), .int .i64 n.parent, av, .int .i64 n.nameEnd, .int .i64 n.inFrom, .int .i64 n.inTo]
theorem nd_cells {w : World} {b off : Nat} {n : Sh.Nd} (h : eN w (fun j => w.cell? ⟨b, off + j, none⟩) (ofN n)) : ∃ aa ac, w.cell? ⟨b, off, none⟩ = some (.string (bsL n.name)) ∧ w.cell? ⟨b, off + 1, none⟩ = some (.int .i64 n.parent) ∧ w.cell? ⟨b, off + 2, none⟩ = some (.slice aa n.attrs.length ac) ∧ w.cell? ⟨b, off + 3, none⟩ = some (.int .i64 n.nameEnd) ∧ w.cell? ⟨b, off + 4, none⟩ = some (.int .i64 n.inFrom) ∧ w.cell? ⟨b, off + 5, none⟩ = some (.int .i64 n.inTo) ∧ AtsAt w (.slice aa n.attrs.length ac) (n.attrs.map ofA) := by
  obtain ⟨h0, h1, ⟨v, h2, hA⟩, h3, h4, h5⟩ := h
  obtain ⟨aa, ac, rfl⟩ := Sl.form hA
  have e : (ofN n).attrs.length = n.attrs.length := List.length_map ..
  rw [e] at h2 hA
  exact ⟨aa, ac, h0, h1, h2, h3, h4, h5, hA⟩
set_option maxRecDepth 100000 in
set_option maxHeartbeats 4000000 in
theorem wrongOwn_any (L : List Sh.Nd) (lv : Value) (w : World) (hL : NdsAt w lv (L.map ofN)) (hl : L.length ≤ 120) (hb : ∀ n ∈ L, NdBd 6000 n) (hT : Tab w) :
    Calls Tryz.prog 35 #[lv] w fun e w' => e = .returned (faultV ((wrongO L).getD (0, 0))) ∧ Below w.heap.size w w' := by
  obtain ⟨la, lc, rfl⟩ := Sl.form hL
  have HR := hid hL
  have HB := hid hb
  have HT := hid hT
  have HL : Hid ((L.map ofN).length = L.length) := List.length_map ..
  clear hL hb hT
  rw [HL.out]
  go_enter Tryz.func35, Tryz.ntmps35
  go_wp2_with fail
  go_loopg [10] L.length (fun n i wr => ∃ j : Nat, n = L.length - j ∧ j ≤ L.length ∧ i = .int .i64 (j : Int) ∧ wrongO L = wrongO (L.drop j) ∧ FaB wr w.heap.size 0 0 ∧ Below w.heap.size w wr)
  case atStart => exact ⟨0, rfl, Nat.zero_le _, rfl, rfl, FaB.new _ _ _, (Below.refl _ _).alloc (Nat.le_refl _) _⟩
  case round =>
    obtain ⟨j, hn, hj, rfl, hw, hf, hB⟩ := hrel
    rename World => wo
    have GK := hid hn
    have HW := hid hw
    have HF := hid hf
    have HBw := hid hB
    clear hn hw hf hB
    by_cases hlt : j < L.length
    · obtain ⟨b, off, rfl, he⟩ := Sl.at (HR.out.ext (Ext.below HBw.out)) (i := j) (by rw [HL.out]; exact hlt)
      rw [List.getElem_map] at he
      obtain ⟨aa, ac, c0, c1, c2, c3, c4, c5, hA⟩ := nd_cells he
      have hbd := HB.out L[j] (List.getElem_mem hlt)
      have HO := hid (own_len hbd)
      have HN : Hid (wrongO L = match declsErr (ownV L[j]) with | some e => some (e, ownF L[j]) | none => wrongO (L.drop (j + 1))) := by
        show wrongO L = _
        rw [HW.out, List.drop_eq_getElem_cons hlt]; rfl
      have HJ := hid hlt
      have e1 := ext_alloc wo (.cells #[.string (bsL L[j].name), .int .i64 L[j].parent, .slice aa L[j].attrs.length ac, .int .i64 L[j].nameEnd, .int .i64 L[j].inFrom, .int .i64 L[j].inTo] 49)
      have OS := ownStyle_any L[j] (.slice aa L[j].attrs.length ac) _ (hA.ext e1) hbd.few
      rw [atr_eq] at OS
      simp only [nodeV, ofN] at OS
      have OSt := hid OS
      have HB1 : Hid (Below w.heap.size w (wo.alloc (.cells #[.string (bsL L[j].name), .int .i64 L[j].parent, .slice aa L[j].attrs.length ac, .int .i64 L[j].nameEnd, .int .i64 L[j].inFrom, .int .i64 L[j].inTo] 49))) := HBw.out.alloc HBw.out.size _
      have HF1 := hid (HF.out.alloc (.cells #[.string (bsL L[j].name), .int .i64 L[j].parent, .slice aa L[j].attrs.length ac, .int .i64 L[j].nameEnd, .int .i64 L[j].inFrom, .int .i64 L[j].inTo] 49))
      clear he hA e1 OS hbd
      generalize (ownA L[j]).isSome = has at *
      generalize bsL L[j].name = nn at *
      generalize L[j].attrs.length = al at *
      generalize ownV L[j] = ov at *
      generalize ownF L[j] = of at *
      generalize ownT L[j] = ot at *
      generalize bsL (ownN L[j]) = on at *
      go_wp2_with (go_at_call 63; refine OSt.out.mono ?_; rintro e w2 ⟨rfl, hb2⟩; have F2 := hid (HF1.out.below hb2); have B2 := hid (below_trans HB1.out hb2 (Nat.le_refl _)); clear hb2)
      have e3 := ext_alloc w2 (.cells #[.string on, .string (bsL ov), .int .i64 of, .int .i64 ot] 51)
      have WD := hid (wrongDecls_any ov (w2.alloc (.cells #[.string on, .string (bsL ov), .int .i64 of, .int .i64 ot] 51)) HO.out.1 ((HT.out.ext (Ext.below B2.out)).ext e3))
      have F3 := hid (F2.out.alloc (.cells #[.string on, .string (bsL ov), .int .i64 of, .int .i64 ot] 51))
      have B3 := hid (B2.out.alloc B2.out.size (.cells #[.string on, .string (bsL ov), .int .i64 of, .int .i64 ot] 51))
      have K2 := hid (cell_new w2 #[.string on, .string (bsL ov), .int .i64 of, .int .i64 ot] 51 2)
      clear e3
      refine WD.out.mono ?_
      rintro e w4 ⟨rfl, hb4⟩
      have F4 := hid (F3.out.below hb4)
      have B4 := hid (below_trans B3.out hb4 (Nat.le_refl _))
      have k2 := Ext.below hb4 _ _ _ K2.out
      clear hb4 WD
      cases hd : declsErr ov with
      | some er =>
        have HN2 : Hid (wrongO L = some (er, of)) := by have := HN.out; rw [hd] at this; exact this
        have hnz := declsErr_nz hd
        have hnz' : ¬ ((er : Int) = 0) := by omega
        have z0 := F4.out.fz 0
        have z1 := F4.out.fz 1
        have y0 := F4.out.cell0
        have y1 := F4.out.cell1
        simp only [Option.getD]
        clear HN hd
        go_wp2_with fail
        have FS := F4.out.set er of
        have q0 := FS.cell0
        have q1 := FS.cell1
        refine bodyPost_ret (v := faultV (er, of)) (by simp [results, Tryz.results35, go_sem, q0, q1, faultV]) rfl ⟨by rw [HN2.out]; rfl, (B4.out.setCell (Nat.le_refl _) _).setCell (Nat.le_refl _) _⟩
      | none =>
        have HN2 : Hid (wrongO L = wrongO (L.drop (j + 1))) := by have := HN.out; rw [hd] at this; exact this
        simp only [Option.getD]
        clear HN hd
        go_wp2_with fail
        go_roundg (L.length - (j + 1))
        case measure => have := GK.out; have := HJ.out; omega
        case rel => exact ⟨j + 1, rfl, by have := HJ.out; omega, by go_num, HN2.out, F4.out, B4.out⟩
    · have HN2 : Hid (wrongO L = none) := by
        show wrongO L = none
        rw [HW.out, List.drop_eq_nil_of_le (by omega)]; rfl
      have z0 := HF.out.fz 0
      have z1 := HF.out.fz 1
      have y0 := HF.out.cell0
      have y1 := HF.out.cell1
      go_wp2_with fail
      have FS := HF.out.set 0 0
      have q0 := FS.cell0
      have q1 := FS.cell1
      refine bodyPost_ret (v := faultV (0, 0)) (by simp [results, Tryz.results35, go_sem, q0, q1, faultV]) rfl ⟨by rw [HN2.out]; rfl, (HBw.out.setCell (Nat.le_refl _) _).setCell (Nat.le_refl _) _⟩
end Go.Proofs.YtblkldfokeeaeacGreatDoor
