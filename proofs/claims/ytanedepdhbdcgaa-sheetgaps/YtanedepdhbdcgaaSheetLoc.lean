/-
  What is read of a text up to a brace hangs on these bytes alone: the plain readers of the SheetSpec text, up to a rule. No program is named here; no condition.
-/
import Derived.Test.YtanedepdhbdcgaaMem
import Derived.Test.YtanedepdhbdcgaaSheetSpec
namespace Go.Proofs.Ytanedepdhbdcgaa
open Go

theorem has_iff {S : List UInt8} {k : Nat} {t : List UInt8} : has S k t = true ↔ ∀ j (h : j < t.length), S[k + j]? = some t[j] := by
  unfold has
  rw [List.isPrefixOf_iff_prefix, List.prefix_iff_getElem?]
  constructor
  · intro h j hj
    have := h j hj
    rwa [List.getElem?_drop] at this
  · intro h j hj
    rw [List.getElem?_drop]
    exact h j hj

/-- S from k on and S' from k' on are the same up to n bytes on, where the byte c stands (a brace). -/
structure Agree (c : UInt8) (S : List UInt8) (k : Nat) (S' : List UInt8) (k' : Nat) (n : Nat) : Prop where
  brace : S[k + n]? = some c
  same : ∀ i, i ≤ n → S'[k' + i]? = S[k + i]?

theorem Agree.brace' {c : UInt8} {S S' : List UInt8} {k k' n : Nat} (h : Agree c S k S' k' n) : S'[k' + n]? = some c := by rw [h.same n (Nat.le_refl _)]; exact h.brace
theorem Agree.step {c : UInt8} {S S' : List UInt8} {k k' n d : Nat} (h : Agree c S k S' k' n) (hd : d ≤ n) : Agree c S (k + d) S' (k' + d) (n - d) := by
  refine ⟨?_, fun i hi => ?_⟩
  · rw [show k + d + (n - d) = k + n by omega]; exact h.brace
  · rw [Nat.add_assoc, Nat.add_assoc]; exact h.same (d + i) (by omega)
theorem Agree.lt {c : UInt8} {S S' : List UInt8} {k k' n : Nat} (h : Agree c S k S' k' n) : k + n < S.length := by
  have := h.brace
  exact (List.getElem?_eq_some_iff.1 this).1
theorem Agree.lt' {c : UInt8} {S S' : List UInt8} {k k' n : Nat} (h : Agree c S k S' k' n) : k' + n < S'.length := (List.getElem?_eq_some_iff.1 h.brace').1

/-- A token that has no c but as its only byte. -/
def Tame (c : UInt8) (t : List UInt8) : Prop := (∀ x ∈ t, x ≠ c) ∨ t.length = 1
instance (c : UInt8) (t : List UInt8) : Decidable (Tame c t) := inferInstanceAs (Decidable (_ ∨ _))

theorem has_same {c : UInt8} {S S' : List UInt8} {k k' n : Nat} (h : Agree c S k S' k' n) {t : List UInt8} (ht : Tame c t) : has S' k' t = has S k t := by
  rw [Bool.eq_iff_iff, has_iff, has_iff]
  have key : ∀ (X Y : List UInt8) (x y : Nat), X[x + n]? = some c → (∀ i, i ≤ n → Y[y + i]? = X[x + i]?) → (∀ j (h : j < t.length), X[x + j]? = some t[j]) → ∀ j (h : j < t.length), Y[y + j]? = some t[j] := by
    intro X Y x y hb hs hx j hj
    by_cases hjn : j ≤ n
    · rw [hs j hjn]; exact hx j hj
    · rcases ht with ht | ht
      · have := hx n (by omega)
        rw [hb] at this
        injection this with this
        exact absurd this.symm (ht _ (List.getElem_mem _))
      · omega
  constructor
  · exact key S' S k' k h.brace' (fun i hi => (h.same i hi).symm)
  · exact key S S' k k' h.brace h.same

theorem fits_same {c : UInt8} {S S' : List UInt8} {k k' n : Nat} (h : Agree c S k S' k' n) (p : UInt8 → Bool) : fitsAt S' k' p = fitsAt S k p := by
  have := h.same 0 (Nat.zero_le _)
  simp only [Nat.add_zero] at this
  unfold fitsAt
  rw [this]

theorem sub_same {c : UInt8} {S S' : List UInt8} {k k' n d : Nat} (h : Agree c S k S' k' n) (hd : d ≤ n) : sub S' k' (k' + d) = sub S k (k + d) := by
  unfold sub
  apply List.ext_getElem?
  intro i
  rw [List.getElem?_take, List.getElem?_take, List.getElem?_drop, List.getElem?_drop, Nat.add_sub_cancel_left, Nat.add_sub_cancel_left]
  split
  · exact h.same i (by omega)
  · rfl

structure Loc (c : UInt8) {α : Type} (f : Pr α) : Prop where
  adv : ∀ {S : List UInt8} {k m : Nat} {a : α}, f S k = .ok (a, m) → k ≤ m
  loc : ∀ {S S' : List UInt8} {k k' n d : Nat} {a : α}, f S k = .ok (a, k + d) → Agree c S k S' k' n → d ≤ n → f S' k' = .ok (a, k' + d)

theorem loc_ret {c : UInt8} {α : Type} (a : α) : Loc c (ret a) := by
  refine ⟨fun h => ?_, fun h _ _ => ?_⟩
  · injection h with h; injection h with _ h; omega
  · injection h with h
    injection h with h1 h2
    subst h1
    have : _ = 0 := Nat.add_left_cancel (h2.symm.trans (Nat.add_zero _).symm)
    subst this
    rfl
theorem loc_bad {c : UInt8} {α : Type} (e : Nat) : Loc c (bad (α := α) e) := ⟨fun h => (by cases h), fun h _ _ => (by cases h)⟩
theorem loc_bnd {c : UInt8} {α β : Type} {f : Pr α} {g : α → Pr β} (hf : Loc c f) (hg : ∀ a, Loc c (g a)) : Loc c (bnd f g) := by
  have key : ∀ {S : List UInt8} {k m : Nat} {b : β}, bnd f g S k = .ok (b, m) → ∃ a m1, f S k = .ok (a, m1) ∧ g a S m1 = .ok (b, m) := by
    intro S k m b h
    unfold bnd at h
    split at h
    · cases h
    · rename_i a m1 e
      exact ⟨a, m1, e, h⟩
  refine ⟨fun h => ?_, fun h ag hd => ?_⟩
  · obtain ⟨a, m1, h1, h2⟩ := key h
    exact Nat.le_trans (hf.adv h1) ((hg a).adv h2)
  · obtain ⟨a, m1, h1, h2⟩ := key h
    have a1 := hf.adv h1
    have a2 := (hg a).adv h2
    obtain ⟨d1, rfl⟩ := Nat.exists_eq_add_of_le a1
    obtain ⟨d2, hd2⟩ := Nat.exists_eq_add_of_le a2
    have e2 : _ = d1 + d2 := Nat.add_left_cancel (hd2.trans (Nat.add_assoc _ _ _))
    subst e2
    have r1 := hf.loc h1 ag (by omega)
    rw [← Nat.add_assoc] at h2
    have r2 := (hg a).loc h2 (ag.step (d := d1) (by omega)) (by omega)
    unfold bnd
    rw [r1, ← Nat.add_assoc]
    exact r2
theorem loc_opt {c : UInt8} {α : Type} {t : List UInt8} {f g : Pr α} (ht : ∀ x ∈ t, x ≠ c) (hf : Loc c f) (hg : Loc c g) : Loc c (opt t f g) := by
  refine ⟨fun h => ?_, fun h ag hd => ?_⟩
  · unfold opt at h
    split at h
    · have := hf.adv h; omega
    · exact hg.adv h
  · unfold opt at h ⊢
    rw [has_same ag (.inl ht)]
    split at h
    · rename_i hh
      rw [if_pos hh]
      have a1 := hf.adv h
      obtain ⟨d2, hd2⟩ := Nat.exists_eq_add_of_le a1
      have e2 : _ = t.length + d2 := Nat.add_left_cancel (hd2.trans (Nat.add_assoc _ _ _))
      subst e2
      rw [← Nat.add_assoc] at h ⊢
      exact hf.loc h (ag.step (by omega)) (by omega)
    · rename_i hh
      rw [if_neg hh]
      exact hg.loc h ag hd
theorem loc_look {c : UInt8} {α : Type} {t : List UInt8} {f g : Pr α} (ht : Tame c t) (hf : Loc c f) (hg : Loc c g) : Loc c (look t f g) := by
  refine ⟨fun h => ?_, fun h ag hd => ?_⟩
  · unfold look at h
    split at h
    · exact hf.adv h
    · exact hg.adv h
  · unfold look at h ⊢
    rw [has_same ag ht]
    split at h
    · rename_i hh; rw [if_pos hh]; exact hf.loc h ag hd
    · rename_i hh; rw [if_neg hh]; exact hg.loc h ag hd
theorem loc_fits {c : UInt8} {α : Type} {p : UInt8 → Bool} {f g : Pr α} (hf : Loc c f) (hg : Loc c g) : Loc c (fits p f g) := by
  refine ⟨fun h => ?_, fun h ag hd => ?_⟩
  · unfold fits at h
    split at h
    · exact hf.adv h
    · exact hg.adv h
  · unfold fits at h ⊢
    rw [fits_same ag p]
    split at h
    · rename_i hh; rw [if_pos hh]; exact hf.loc h ag hd
    · rename_i hh; rw [if_neg hh]; exact hg.loc h ag hd
theorem loc_ended {c : UInt8} {α : Type} {f g : Pr α} (hf : Loc c f) (hg : Loc c g) : Loc c (ended f g) := by
  refine ⟨fun h => ?_, fun h ag hd => ?_⟩
  · unfold ended at h
    split at h
    · exact hf.adv h
    · exact hg.adv h
  · unfold ended at h ⊢
    have h1 := ag.lt
    have h2 := ag.lt'
    rw [if_neg (by omega)] at h ⊢
    exact hg.loc h ag hd
theorem loc_tok {c : UInt8} {t : List UInt8} (ht : ∀ x ∈ t, x ≠ c) : Loc c (tok t) := loc_opt ht (loc_ret ()) (loc_bad 2)
theorem loc_ite {c : UInt8} {α : Type} {q : Prop} [Decidable q] {f g : Pr α} (hf : Loc c f) (hg : Loc c g) : Loc c (if q then f else g) := by
  split
  · exact hf
  · exact hg

/-- Where the first such token stands. -/
theorem pastAt_iff {S : List UInt8} {k e : Nat} {t : List UInt8} (ht : t ≠ []) : pastAt S k t = some e ↔ k ≤ e ∧ has S e t = true ∧ ∀ j, k ≤ j → j < e → has S j t = false := by
  have spec : ∀ i : Nat, Lib.index (S.drop k) t = i → has S (k + i) t = true ∧ ∀ j, k ≤ j → j < k + i → has S j t = false := by
    intro i hi
    obtain ⟨h1, h2, h3⟩ := index_spec (S.drop k) t i hi
    refine ⟨by unfold has; rw [← List.drop_drop]; exact h1, fun j hj1 hj2 => ?_⟩
    obtain ⟨d, rfl⟩ := Nat.exists_eq_add_of_le hj1
    have := h3 d (by omega)
    unfold has; rw [← List.drop_drop]; exact this
  have hge := Lib.index_ge (S.drop k) t
  constructor
  · intro h
    unfold pastAt at h
    split at h
    · cases h
    · rename_i hn
      injection h with h
      obtain ⟨i, hi⟩ : ∃ i : Nat, Lib.index (S.drop k) t = i := ⟨(Lib.index (S.drop k) t).toNat, by omega⟩
      have := spec i hi
      rw [hi] at h
      subst h
      exact ⟨by simp, by simpa using this.1, fun j h1 h2 => this.2 j h1 (by simpa using h2)⟩
  · rintro ⟨h1, h2, h3⟩
    obtain ⟨d, rfl⟩ := Nat.exists_eq_add_of_le h1
    have hlt : k + d < S.length := by
      have := has_iff.1 h2 0 (List.length_pos_iff.2 ht)
      exact (List.getElem?_eq_some_iff.1 this).1
    have hi : Lib.index (S.drop k) t = (d : Int) := Lib.index_first (by rw [List.length_drop]; omega) (by unfold has at h2; rw [← List.drop_drop] at h2; exact h2) (fun j hj => by
      have := h3 (k + j) (by omega) (by omega)
      unfold has at this
      rw [← List.drop_drop] at this
      exact this)
    unfold pastAt
    rw [hi, if_neg (by omega)]
    simp

theorem whileEnd_iff {S : List UInt8} {k m : Nat} {p : UInt8 → Bool} (hk : k ≤ m) : whileEnd S k p = m ↔ (∀ j, k ≤ j → j < m → fitsAt S j p = true) ∧ fitsAt S m p = false := by
  induction hd : m - k generalizing k with
  | zero =>
    have : m = k := by omega
    subst this
    constructor
    · intro h
      refine ⟨fun j h1 h2 => by omega, ?_⟩
      cases hf : fitsAt S m p with
      | false => rfl
      | true =>
        have h1 := whileEnd_step hf
        have h2 : m + 1 ≤ whileEnd S (m + 1) p := by unfold whileEnd; omega
        omega
    · rintro ⟨_, h⟩
      exact whileEnd_stop h
  | succ n ih =>
    cases hf : fitsAt S k p with
    | true =>
      have := ih (k := k + 1) (by omega) (by omega)
      rw [← whileEnd_step hf, this]
      constructor
      · rintro ⟨h1, h2⟩
        refine ⟨fun j hj1 hj2 => ?_, h2⟩
        by_cases hjk : j = k
        · rw [hjk]; exact hf
        · exact h1 j (by omega) hj2
      · rintro ⟨h1, h2⟩
        exact ⟨fun j hj1 hj2 => h1 j (by omega) hj2, h2⟩
    | false =>
      rw [whileEnd_stop hf]
      constructor
      · intro h; omega
      · rintro ⟨h1, _⟩
        have := h1 k (Nat.le_refl _) (by omega)
        rw [hf] at this
        cases this

theorem while_same {c : UInt8} {S S' : List UInt8} {k k' n d : Nat} {p : UInt8 → Bool} (ag : Agree c S k S' k' n) (hd : d ≤ n) (h : whileEnd S k p = k + d) : whileEnd S' k' p = k' + d := by
  rw [whileEnd_iff (by omega)] at h ⊢
  refine ⟨fun j h1 h2 => ?_, ?_⟩
  · obtain ⟨i, rfl⟩ := Nat.exists_eq_add_of_le h1
    rw [fits_same (ag.step (d := i) (by omega))]
    exact h.1 _ (by omega) (by omega)
  · rw [fits_same (ag.step (d := d) hd)]
    exact h.2

theorem loc_chars {c : UInt8} (p : UInt8 → Bool) : Loc c (chars p) := by
  refine ⟨fun h => ?_, fun h ag hd => ?_⟩
  · injection h with h
    injection h with _ h
    rw [← h]; unfold whileEnd; omega
  · injection h with h
    injection h with h1 h2
    have h3 := while_same ag hd h2
    unfold chars
    rw [h3, ← h1, h2, sub_same ag hd]

theorem loc_sname {c : UInt8} : Loc c sname := by
  have key : ∀ {S : List UInt8} {k m : Nat} {a : List UInt8}, sname S k = .ok (a, m) → fitsAt S k letterB = true ∧ whileEnd S (k + 1) nameB = m ∧ ¬ 20 < (sub S k m).length ∧ a = sub S k m := by
    intro S k m a h
    unfold sname nameTo at h
    split at h
    · cases h
    · rename_i e he
      split at he
      · rename_i hf
        injection he with he
        split at h
        · cases h
        · rename_i h20
          injection h with h
          injection h with h1 h2
          subst h2
          exact ⟨hf, he, h20, h1.symm⟩
      · cases he
  refine ⟨fun h => ?_, fun {S S' k k' n d a} h ag hd => ?_⟩
  · obtain ⟨_, h, _, _⟩ := key h
    rw [← h]; unfold whileEnd; omega
  · obtain ⟨h1, h2, h3, h4⟩ := key h
    have hd1 : 1 ≤ d := by
      have : k + 1 ≤ whileEnd S (k + 1) nameB := by unfold whileEnd; omega
      omega
    have w := while_same (d := d - 1) (p := nameB) (ag.step (d := 1) (by omega)) (by omega) (by rw [h2]; omega)
    unfold sname nameTo
    rw [fits_same ag, if_pos h1, w, show k' + 1 + (d - 1) = k' + d by omega]
    simp only
    rw [sub_same ag hd, if_neg h3, h4]

theorem has_nil_false {S : List UInt8} {k : Nat} {t : List UInt8} (h : S.length ≤ k) (ht : t ≠ []) : has S k t = false := by
  cases hh : has S k t with
  | false => rfl
  | true =>
    have := has_iff.1 hh 0 (List.length_pos_iff.2 ht)
    have := (List.getElem?_eq_some_iff.1 this).1
    omega

theorem gapsTo_adv {S : List UInt8} : ∀ (f k m : Nat), gapsTo f S k = .ok m → k ≤ m
  | 0, _, _, h => by cases h
  | f + 1, k, m, h => by
    rw [gapsTo] at h
    split at h
    · have := gapsTo_adv f _ _ h; omega
    split at h
    · have := gapsTo_adv f _ _ h; omega
    split at h
    · split at h
      · cases h
      · rename_i e he
        have := (pastAt_iff (by simp)).1 he
        have := gapsTo_adv f _ _ h
        omega
    · injection h with h; omega

theorem past_same {c : UInt8} {S S' : List UInt8} {k k' n d : Nat} {t : List UInt8} (ht : Tame c t) (hn : t ≠ []) (ag : Agree c S k S' k' n) (hd : d ≤ n) (h : pastAt S k t = some (k + d)) : pastAt S' k' t = some (k' + d) := by
  rw [pastAt_iff hn] at h ⊢
  refine ⟨by omega, ?_, fun j h1 h2 => ?_⟩
  · rw [has_same (ag.step hd) ht]; exact h.2.1
  · obtain ⟨i, rfl⟩ := Nat.exists_eq_add_of_le h1
    rw [has_same (ag.step (d := i) (by omega)) ht]
    exact h.2.2 _ (by omega) (by omega)

theorem gapsTo_loc {c : UInt8} (hc : c = 123 ∨ c = 125) {S S' : List UInt8} : ∀ (f k k' n d : Nat), gapsTo f S k = .ok (k + d) → Agree c S k S' k' n → d ≤ n → gapsTo f S' k' = .ok (k' + d)
  | 0, _, _, _, _, h, _, _ => by cases h
  | f + 1, k, k', n, d, h, ag, hd => by
    rw [gapsTo] at h ⊢
    rw [has_same ag (t := [32]) (by rcases hc with rfl | rfl <;> decide), has_same ag (t := [10]) (by rcases hc with rfl | rfl <;> decide), has_same ag (t := [47, 42]) (by rcases hc with rfl | rfl <;> decide)]
    split at h
    · rename_i hh
      rw [if_pos hh]
      have := gapsTo_adv f _ _ h
      have := gapsTo_loc hc f (k + 1) (k' + 1) (n - 1) (d - 1) (by rw [h]; congr 1; omega) (ag.step (by omega)) (by omega)
      rw [this]; congr 1; omega
    rename_i hh
    rw [if_neg hh]
    split at h
    · rename_i hh
      rw [if_pos hh]
      have := gapsTo_adv f _ _ h
      have := gapsTo_loc hc f (k + 1) (k' + 1) (n - 1) (d - 1) (by rw [h]; congr 1; omega) (ag.step (by omega)) (by omega)
      rw [this]; congr 1; omega
    rename_i hh
    rw [if_neg hh]
    split at h
    · rename_i hh
      rw [if_pos hh]
      split at h
      · cases h
      · rename_i e he
        have a1 := ((pastAt_iff (by simp)).1 he).1
        have a2 := gapsTo_adv f _ _ h
        obtain ⟨i, rfl⟩ := Nat.exists_eq_add_of_le a1
        have := past_same (by rcases hc with rfl | rfl <;> decide) (by simp) (ag.step (d := 2) (by omega)) (d := i) (by omega) he
        rw [this]
        have := gapsTo_loc hc f (k + 2 + i + 2) (k' + 2 + i + 2) (n - (2 + i + 2)) (d - (2 + i + 2)) (by rw [h]; congr 1; omega) (by
          have := ag.step (d := 2 + i + 2) (by omega)
          rw [show k + 2 + i + 2 = k + (2 + i + 2) by omega, show k' + 2 + i + 2 = k' + (2 + i + 2) by omega]
          exact this) (by omega)
        simp only
        rw [this]; congr 1; omega
    · rename_i hh
      rw [if_neg hh]
      injection h with h
      have : d = 0 := by omega
      subst this
      rfl

theorem loc_gaps {c : UInt8} (hc : c = 123 ∨ c = 125) : Loc c gaps := by
  have key : ∀ {S : List UInt8} {k m : Nat} {g : Bool}, gaps S k = .ok (g, m) → gapsTo 4001 S k = .ok m ∧ g = decide (k < m) := by
    intro S k m g h
    unfold gaps at h
    split at h
    · cases h
    · rename_i k1 e
      injection h with h
      injection h with h1 h2
      subst h2
      exact ⟨e, h1.symm⟩
  refine ⟨fun h => gapsTo_adv _ _ _ (key h).1, fun {S S' k k' n d a} h ag hd => ?_⟩
  obtain ⟨h1, h2⟩ := key h
  have := gapsTo_loc hc 4001 k k' n d h1 ag hd
  unfold gaps
  rw [this, h2]
  have : decide (k' < k' + d) = decide (k < k + d) := by simp
  rw [← this]

theorem loc_word (ahead : List UInt8) : Loc 125 (word ahead) := by
  have key : ∀ {S : List UInt8} {k m : Nat} {a : List UInt8}, word ahead S k = .ok (a, m) ↔ bnd (chars wordB) (fun u => if u = [] ∨ 60 < ahead.length + u.length then bad 2 else bnd gaps (fun _ => ret (ahead ++ u))) S k = .ok (a, m) := by
    intro S k m a
    unfold word
    simp only [bnd, chars]
    by_cases h1 : sub S k (whileEnd S k wordB) = []
    · rw [if_pos h1, if_pos (.inl h1)]
      constructor
      · intro h; cases h
      · intro h; cases h
    · rw [if_neg h1]
      by_cases h2 : 60 < ahead.length + (sub S k (whileEnd S k wordB)).length
      · rw [if_pos h2, if_pos (.inr h2)]
        constructor
        · intro h; cases h
        · intro h; cases h
      · rw [if_neg h2, if_neg (by rintro (h | h); exact h1 h; exact h2 h)]
        rfl
  have L : Loc 125 (bnd (chars wordB) (fun u => if u = [] ∨ 60 < ahead.length + u.length then bad 2 else bnd gaps (fun _ => ret (ahead ++ u)))) := loc_bnd (loc_chars _) (fun u => loc_ite (loc_bad 2) (loc_bnd (loc_gaps (.inr rfl)) (fun _ => loc_ret _)))
  exact ⟨fun h => L.adv (key.1 h), fun h ag hd => key.2 (L.loc (key.1 h) ag hd)⟩

theorem loc_valueTo : ∀ (f : Nat) (v : List UInt8), Loc 125 (valueTo f v)
  | 0, _ => loc_bad 0
  | f + 1, v => loc_fits (loc_bnd (loc_word _) (loc_valueTo f)) (loc_ret v)
theorem loc_value : Loc 125 value := loc_bnd (loc_word _) (loc_valueTo 62)
theorem loc_decl : Loc 125 decl :=
  loc_bnd loc_sname fun _ => loc_bnd (loc_gaps (.inr rfl)) fun _ => loc_bnd (loc_tok (by decide)) fun _ => loc_bnd (loc_gaps (.inr rfl)) fun _ => loc_bnd loc_value fun _ =>
    loc_opt (by decide) (loc_bnd (loc_tok (by decide)) fun _ => loc_bnd (loc_gaps (.inr rfl)) fun _ => loc_ret _) (loc_ret _)
theorem loc_declsTo : ∀ (f : Nat) (l : List Dcl), Loc 125 (declsTo f l)
  | 0, _ => loc_bad 0
  | f + 1, l => loc_ended (loc_ret l) (loc_look (by decide) (loc_ret l) (loc_bnd (loc_ite (loc_fits (loc_bad 5) (loc_ret ())) (loc_ret ())) fun _ => loc_bnd loc_decl fun d => loc_opt (by decide) (loc_bnd (loc_gaps (.inr rfl)) fun _ => loc_declsTo f (l ++ [d])) (loc_ret _)))
theorem loc_decls : Loc 125 decls := loc_bnd (loc_gaps (.inr rfl)) fun _ => loc_declsTo 22 []
theorem loc_aheadOfPart (n most : Nat) : Loc 125 (aheadOfPart n most) := by
  have hp : ∀ {S S' : List UInt8} {k k' n : Nat}, Agree 125 S k S' k' n → hasPart S' k' = hasPart S k := by
    intro S S' k k' n ag
    unfold hasPart
    rw [fits_same ag, has_same ag (t := [42]) (by decide), has_same ag (t := [46]) (by decide), has_same ag (t := [35]) (by decide), has_same ag (t := [91]) (by decide), has_same ag (t := firstL) (by decide)]
  refine ⟨fun h => ?_, fun h ag hd => ?_⟩
  · unfold aheadOfPart at h
    split at h
    · cases h
    split at h
    · cases h
    injection h with h
    injection h with _ h
    omega
  · unfold aheadOfPart at h ⊢
    rw [hp ag]
    split at h
    · cases h
    split at h
    · cases h
    rename_i h1 h2
    injection h with h
    injection h with _ h
    rw [if_neg h1, if_neg h2]
    have : _ = 0 := Nat.add_left_cancel (h.symm.trans (Nat.add_zero _).symm)
    rw [this]
    rfl
theorem loc_attrTest : Loc 125 attrTest := loc_bnd loc_sname fun _ => loc_ite (loc_bad 1) (loc_bnd (loc_opt (by decide) (loc_bnd loc_sname fun _ => loc_ret _) (loc_ret _)) fun _ => loc_bnd (loc_tok (by decide)) fun _ => loc_ret _)
theorem loc_test : Loc 125 test := loc_opt (by decide) (loc_bnd loc_sname fun _ => loc_ret _) (loc_opt (by decide) (loc_bnd loc_sname fun _ => loc_ret _) (loc_opt (by decide) (loc_ret _) (loc_opt (by decide) loc_attrTest (loc_ret _))))
theorem loc_testsTo : ∀ (f : Nat) (l : List Tst), Loc 125 (testsTo f l)
  | 0, _ => loc_bad 0
  | f + 1, l => loc_bnd loc_test fun t => loc_ite (loc_ret l) (loc_ite (loc_bad 5) (loc_testsTo f (l ++ [t])))
theorem loc_part (j : Nat) : Loc 125 (part j) := loc_bnd (loc_opt (by decide) (loc_ret _) (loc_fits (loc_bnd loc_sname fun _ => loc_ret _) (loc_ret _))) fun l => loc_bnd (loc_testsTo 8 l) fun _ => loc_ret _
theorem loc_join : Loc 125 join := loc_bnd (loc_gaps (.inr rfl)) fun _ => loc_opt (by decide) (loc_bnd (loc_gaps (.inr rfl)) fun _ => loc_ret _) (loc_opt (by decide) (loc_bnd (loc_gaps (.inr rfl)) fun _ => loc_ret _) (loc_ite (loc_look (by decide) (loc_ret _) (loc_look (by decide) (loc_ret _) (loc_ended (loc_ret _) (loc_ret _)))) (loc_ret _)))
theorem loc_selectorTo : ∀ (f j : Nat) (l : List Prt), Loc 125 (selectorTo f j l)
  | 0, _, _ => loc_bad 0
  | f + 1, j, l => loc_bnd (loc_aheadOfPart _ _) fun _ => loc_bnd (loc_part j) fun p => loc_bnd loc_join fun q => loc_ite (loc_selectorTo f q.1 (l ++ [p])) (loc_ret _)
theorem loc_selectorsTo : ∀ (f : Nat) (l : List (List Prt)), Loc 125 (selectorsTo f l)
  | 0, _ => loc_bad 0
  | f + 1, l => loc_bnd (loc_aheadOfPart _ _) fun _ => loc_bnd (loc_selectorTo 8 0 []) fun p => loc_opt (by decide) (loc_bnd (loc_gaps (.inr rfl)) fun _ => loc_selectorsTo f (l ++ [p])) (loc_ret _)
/-- A rule, up to its closing brace. -/
def ruleBody (n : Nat) : Pr (List (List Prt) × List Dcl) :=
  bnd (aheadOfPart n 60) fun _ => bnd selectors fun l => bnd (tok [123]) fun _ => bnd decls fun d => ret (l, d)
theorem loc_ruleBody (n : Nat) : Loc 125 (ruleBody n) := loc_bnd (loc_aheadOfPart _ _) fun _ => loc_bnd (loc_selectorsTo 10 []) fun _ => loc_bnd (loc_tok (by decide)) fun _ => loc_bnd loc_decls fun _ => loc_ret _
/-- What stands behind the word, up to the brace. -/
def mediaBody : Pr (List UInt8) := bnd gaps fun g => if g then bnd sname fun n => bnd gaps fun _ => ret n else bad 2
theorem loc_mediaBody : Loc 123 mediaBody := loc_bnd (loc_gaps (.inl rfl)) fun _ => loc_ite (loc_bnd loc_sname fun _ => loc_bnd (loc_gaps (.inl rfl)) fun _ => loc_ret _) (loc_bad 2)
end Go.Proofs.Ytanedepdhbdcgaa
