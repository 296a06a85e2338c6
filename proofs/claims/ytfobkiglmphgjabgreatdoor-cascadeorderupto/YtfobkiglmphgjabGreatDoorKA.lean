/-
  Plain laws on what package sheet reads. No program is named here.
-/
import Derived.Test.YtfobkiglmphgjabGreatDoorK0
namespace Go.Proofs.YtfobkiglmphgjabGreatDoor.Sh
open Go

theorem has_iff {S : List UInt8} {k : Nat} {t : List UInt8} : has S k t = true ↔ ∀ j (h : j < t.length), S[k + j]? = some t[j] := by
  unfold has
  rw [List.isPrefixOf_iff_prefix, List.prefix_iff_getElem?]
  constructor
  · intro h j hj
    have := h j hj
    rwa [List.getElem?_drop] at this
  · intro h j hj
    rw [List.getElem?_drop]
    exact h j hj

/-- S from k on and S' from k' on are the same up to n bytes on, where the byte c stands (a brace). -/
structure Agree (c : UInt8) (S : List UInt8) (k : Nat) (S' : List UInt8) (k' : Nat) (n : Nat) : Prop where
  brace : S[k + n]? = some c
  same : ∀ i, i ≤ n → S'[k' + i]? = S[k + i]?

theorem Agree.brace' {c : UInt8} {S S' : List UInt8} {k k' n : Nat} (h : Agree c S k S' k' n) : S'[k' + n]? = some c := by rw [h.same n (Nat.le_refl _)]; exact h.brace
theorem Agree.step {c : UInt8} {S S' : List UInt8} {k k' n d : Nat} (h : Agree c S k S' k' n) (hd : d ≤ n) : Agree c S (k + d) S' (k' + d) (n - d) := by
  refine ⟨?_, fun i hi => ?_⟩
  · rw [show k + d + (n - d) = k + n by omega]; exact h.brace
  · rw [Nat.add_assoc, Nat.add_assoc]; exact h.same (d + i) (by omega)
theorem Agree.lt {c : UInt8} {S S' : List UInt8} {k k' n : Nat} (h : Agree c S k S' k' n) : k + n < S.length := by
  have := h.brace
  exact (List.getElem?_eq_some_iff.1 this).1
theorem Agree.lt' {c : UInt8} {S S' : List UInt8} {k k' n : Nat} (h : Agree c S k S' k' n) : k' + n < S'.length := (List.getElem?_eq_some_iff.1 h.brace').1

/-- A token that has no c but as its only byte. -/
def Tame (c : UInt8) (t : List UInt8) : Prop := (∀ x ∈ t, x ≠ c) ∨ t.length = 1
instance (c : UInt8) (t : List UInt8) : Decidable (Tame c t) := inferInstanceAs (Decidable (_ ∨ _))

theorem has_same {c : UInt8} {S S' : List UInt8} {k k' n : Nat} (h : Agree c S k S' k' n) {t : List UInt8} (ht : Tame c t) : has S' k' t = has S k t := by
  rw [Bool.eq_iff_iff, has_iff, has_iff]
  have key : ∀ (X Y : List UInt8) (x y : Nat), X[x + n]? = some c → (∀ i, i ≤ n → Y[y + i]? = X[x + i]?) → (∀ j (h : j < t.length), X[x + j]? = some t[j]) → ∀ j (h : j < t.length), Y[y + j]? = some t[j] := by
    intro X Y x y hb hs hx j hj
    by_cases hjn : j ≤ n
    · rw [hs j hjn]; exact hx j hj
    · rcases ht with ht | ht
      · have := hx n (by omega)
        rw [hb] at this
        injection this with this
        exact absurd this.symm (ht _ (List.getElem_mem _))
      · omega
  constructor
  · exact key S' S k' k h.brace' (fun i hi => (h.same i hi).symm)
  · exact key S S' k k' h.brace h.same

theorem fits_same {c : UInt8} {S S' : List UInt8} {k k' n : Nat} (h : Agree c S k S' k' n) (p : UInt8 → Bool) : fitsAt S' k' p = fitsAt S k p := by
  have := h.same 0 (Nat.zero_le _)
  simp only [Nat.add_zero] at this
  unfold fitsAt
  rw [this]

theorem sub_same {c : UInt8} {S S' : List UInt8} {k k' n d : Nat} (h : Agree c S k S' k' n) (hd : d ≤ n) : sub S' k' (k' + d) = sub S k (k + d) := by
  unfold sub
  apply List.ext_getElem?
  intro i
  rw [List.getElem?_take, List.getElem?_take, List.getElem?_drop, List.getElem?_drop, Nat.add_sub_cancel_left, Nat.add_sub_cancel_left]
  split
  · exact h.same i (by omega)
  · rfl

structure Loc (c : UInt8) {α : Type} (f : Pr α) : Prop where
  adv : ∀ {S : List UInt8} {k m : Nat} {a : α}, f S k = .ok (a, m) → k ≤ m
  loc : ∀ {S S' : List UInt8} {k k' n d : Nat} {a : α}, f S k = .ok (a, k + d) → Agree c S k S' k' n → d ≤ n → f S' k' = .ok (a, k' + d)

theorem loc_ret {c : UInt8} {α : Type} (a : α) : Loc c (ret a) := by
  refine ⟨fun h => ?_, fun h _ _ => ?_⟩
  · injection h with h; injection h with _ h; omega
  · injection h with h
    injection h with h1 h2
    subst h1
    have : _ = 0 := Nat.add_left_cancel (h2.symm.trans (Nat.add_zero _).symm)
    subst this
    rfl
theorem loc_bad {c : UInt8} {α : Type} (e : Nat) : Loc c (bad (α := α) e) := ⟨fun h => (by cases h), fun h _ _ => (by cases h)⟩
theorem loc_bnd {c : UInt8} {α β : Type} {f : Pr α} {g : α → Pr β} (hf : Loc c f) (hg : ∀ a, Loc c (g a)) : Loc c (bnd f g) := by
  have key : ∀ {S : List UInt8} {k m : Nat} {b : β}, bnd f g S k = .ok (b, m) → ∃ a m1, f S k = .ok (a, m1) ∧ g a S m1 = .ok (b, m) := by
    intro S k m b h
    unfold bnd at h
    split at h
    · cases h
    · rename_i a m1 e
      exact ⟨a, m1, e, h⟩
  refine ⟨fun h => ?_, fun h ag hd => ?_⟩
  · obtain ⟨a, m1, h1, h2⟩ := key h
    exact Nat.le_trans (hf.adv h1) ((hg a).adv h2)
  · obtain ⟨a, m1, h1, h2⟩ := key h
    have a1 := hf.adv h1
    have a2 := (hg a).adv h2
    obtain ⟨d1, rfl⟩ := Nat.exists_eq_add_of_le a1
    obtain ⟨d2, hd2⟩ := Nat.exists_eq_add_of_le a2
    have e2 : _ = d1 + d2 := Nat.add_left_cancel (hd2.trans (Nat.add_assoc _ _ _))
    subst e2
    have r1 := hf.loc h1 ag (by omega)
    rw [← Nat.add_assoc] at h2
    have r2 := (hg a).loc h2 (ag.step (d := d1) (by omega)) (by omega)
    unfold bnd
    rw [r1, ← Nat.add_assoc]
    exact r2
theorem loc_opt {c : UInt8} {α : Type} {t : List UInt8} {f g : Pr α} (ht : ∀ x ∈ t, x ≠ c) (hf : Loc c f) (hg : Loc c g) : Loc c (opt t f g) := by
  refine ⟨fun h => ?_, fun h ag hd => ?_⟩
  · unfold opt at h
    split at h
    · have := hf.adv h; omega
    · exact hg.adv h
  · unfold opt at h ⊢
    rw [has_same ag (.inl ht)]
    split at h
    · rename_i hh
      rw [if_pos hh]
      have a1 := hf.adv h
      obtain ⟨d2, hd2⟩ := Nat.exists_eq_add_of_le a1
      have e2 : _ = t.length + d2 := Nat.add_left_cancel (hd2.trans (Nat.add_assoc _ _ _))
      subst e2
      rw [← Nat.add_assoc] at h ⊢
      exact hf.loc h (ag.step (by omega)) (by omega)
    · rename_i hh
      rw [if_neg hh]
      exact hg.loc h ag hd
theorem loc_look {c : UInt8} {α : Type} {t : List UInt8} {f g : Pr α} (ht : Tame c t) (hf : Loc c f) (hg : Loc c g) : Loc c (look t f g) := by
  refine ⟨fun h => ?_, fun h ag hd => ?_⟩
  · unfold look at h
    split at h
    · exact hf.adv h
    · exact hg.adv h
  · unfold look at h ⊢
    rw [has_same ag ht]
    split at h
    · rename_i hh; rw [if_pos hh]; exact hf.loc h ag hd
    · rename_i hh; rw [if_neg hh]; exact hg.loc h ag hd
theorem loc_fits {c : UInt8} {α : Type} {p : UInt8 → Bool} {f g : Pr α} (hf : Loc c f) (hg : Loc c g) : Loc c (fits p f g) := by
  refine ⟨fun h => ?_, fun h ag hd => ?_⟩
  · unfold fits at h
    split at h
    · exact hf.adv h
    · exact hg.adv h
  · unfold fits at h ⊢
    rw [fits_same ag p]
    split at h
    · rename_i hh; rw [if_pos hh]; exact hf.loc h ag hd
    · rename_i hh; rw [if_neg hh]; exact hg.loc h ag hd
theorem loc_ended {c : UInt8} {α : Type} {f g : Pr α} (hf : Loc c f) (hg : Loc c g) : Loc c (ended f g) := by
  refine ⟨fun h => ?_, fun h ag hd => ?_⟩
  · unfold ended at h
    split at h
    · exact hf.adv h
    · exact hg.adv h
  · unfold ended at h ⊢
    have h1 := ag.lt
    have h2 := ag.lt'
    rw [if_neg (by omega)] at h ⊢
    exact hg.loc h ag hd
theorem loc_tok {c : UInt8} {t : List UInt8} (ht : ∀ x ∈ t, x ≠ c) : Loc c (tok t) := loc_opt ht (loc_ret ()) (loc_bad 2)
theorem loc_ite {c : UInt8} {α : Type} {q : Prop} [Decidable q] {f g : Pr α} (hf : Loc c f) (hg : Loc c g) : Loc c (if q then f else g) := by
  split
  · exact hf
  · exact hg

/-- Where the first such token stands. -/
theorem pastAt_iff {S : List UInt8} {k e : Nat} {t : List UInt8} (ht : t ≠ []) : pastAt S k t = some e ↔ k ≤ e ∧ has S e t = true ∧ ∀ j, k ≤ j → j < e → has S j t = false := by
  have spec : ∀ i : Nat, Lib.index (S.drop k) t = i → has S (k + i) t = true ∧ ∀ j, k ≤ j → j < k + i → has S j t = false := by
    intro i hi
    obtain ⟨h1, h2, h3⟩ := index_spec (S.drop k) t i hi
    refine ⟨by unfold has; rw [← List.drop_drop]; exact h1, fun j hj1 hj2 => ?_⟩
    obtain ⟨d, rfl⟩ := Nat.exists_eq_add_of_le hj1
    have := h3 d (by omega)
    unfold has; rw [← List.drop_drop]; exact this
  have hge := Lib.index_ge (S.drop k) t
  constructor
  · intro h
    unfold pastAt at h
    split at h
    · cases h
    · rename_i hn
      injection h with h
      obtain ⟨i, hi⟩ : ∃ i : Nat, Lib.index (S.drop k) t = i := ⟨(Lib.index (S.drop k) t).toNat, by omega⟩
      have := spec i hi
      rw [hi] at h
      subst h
      exact ⟨by simp, by simpa using this.1, fun j h1 h2 => this.2 j h1 (by simpa using h2)⟩
  · rintro ⟨h1, h2, h3⟩
    obtain ⟨d, rfl⟩ := Nat.exists_eq_add_of_le h1
    have hlt : k + d < S.length := by
      have := has_iff.1 h2 0 (List.length_pos_iff.2 ht)
      exact (List.getElem?_eq_some_iff.1 this).1
    have hi : Lib.index (S.drop k) t = (d : Int) := Lib.index_first (by rw [List.length_drop]; omega) (by unfold has at h2; rw [← List.drop_drop] at h2; exact h2) (fun j hj => by
      have := h3 (k + j) (by omega) (by omega)
      unfold has at this
      rw [← List.drop_drop] at this
      exact this)
    unfold pastAt
    rw [hi, if_neg (by omega)]
    simp

theorem whileEnd_iff {S : List UInt8} {k m : Nat} {p : UInt8 → Bool} (hk : k ≤ m) : whileEnd S k p = m ↔ (∀ j, k ≤ j → j < m → fitsAt S j p = true) ∧ fitsAt S m p = false := by
  induction hd : m - k generalizing k with
  | zero =>
    have : m = k := by omega
    subst this
    constructor
    · intro h
      refine ⟨fun j h1 h2 => by omega, ?_⟩
      cases hf : fitsAt S m p with
      | false => rfl
      | true =>
        have h1 := whileEnd_step hf
        have h2 : m + 1 ≤ whileEnd S (m + 1) p := by unfold whileEnd; omega
        omega
    · rintro ⟨_, h⟩
      exact whileEnd_stop h
  | succ n ih =>
    cases hf : fitsAt S k p with
    | true =>
      have := ih (k := k + 1) (by omega) (by omega)
      rw [← whileEnd_step hf, this]
      constructor
      · rintro ⟨h1, h2⟩
        refine ⟨fun j hj1 hj2 => ?_, h2⟩
        by_cases hjk : j = k
        · rw [hjk]; exact hf
        · exact h1 j (by omega) hj2
      · rintro ⟨h1, h2⟩
        exact ⟨fun j hj1 hj2 => h1 j (by omega) hj2, h2⟩
    | false =>
      rw [whileEnd_stop hf]
      constructor
      · intro h; omega
      · rintro ⟨h1, _⟩
        have := h1 k (Nat.le_refl _) (by omega)
        rw [hf] at this
        cases this

theorem while_same {c : UInt8} {S S' : List UInt8} {k k' n d : Nat} {p : UInt8 → Bool} (ag : Agree c S k S' k' n) (hd : d ≤ n) (h : whileEnd S k p = k + d) : whileEnd S' k' p = k' + d := by
  rw [whileEnd_iff (by omega)] at h ⊢
  refine ⟨fun j h1 h2 => ?_, ?_⟩
  · obtain ⟨i, rfl⟩ := Nat.exists_eq_add_of_le h1
    rw [fits_same (ag.step (d := i) (by omega))]
    exact h.1 _ (by omega) (by omega)
  · rw [fits_same (ag.step (d := d) hd)]
    exact h.2

theorem loc_chars {c : UInt8} (p : UInt8 → Bool) : Loc c (chars p) := by
  refine ⟨fun h => ?_, fun h ag hd => ?_⟩
  · injection h with h
    injection h with _ h
    rw [← h]; unfold whileEnd; omega
  · injection h with h
    injection h with h1 h2
    have h3 := while_same ag hd h2
    unfold chars
    rw [h3, ← h1, h2, sub_same ag hd]

theorem loc_sname {c : UInt8} : Loc c sname := by
  have key : ∀ {S : List UInt8} {k m : Nat} {a : List UInt8}, sname S k = .ok (a, m) → fitsAt S k letterB = true ∧ whileEnd S (k + 1) nameB = m ∧ ¬ 20 < (sub S k m).length ∧ a = sub S k m := by
    intro S k m a h
    unfold sname nameTo at h
    split at h
    · cases h
    · rename_i e he
      split at he
      · rename_i hf
        injection he with he
        split at h
        · cases h
        · rename_i h20
          injection h with h
          injection h with h1 h2
          subst h2
          exact ⟨hf, he, h20, h1.symm⟩
      · cases he
  refine ⟨fun h => ?_, fun {S S' k k' n d a} h ag hd => ?_⟩
  · obtain ⟨_, h, _, _⟩ := key h
    rw [← h]; unfold whileEnd; omega
  · obtain ⟨h1, h2, h3, h4⟩ := key h
    have hd1 : 1 ≤ d := by
      have : k + 1 ≤ whileEnd S (k + 1) nameB := by unfold whileEnd; omega
      omega
    have w := while_same (d := d - 1) (p := nameB) (ag.step (d := 1) (by omega)) (by omega) (by rw [h2]; omega)
    unfold sname nameTo
    rw [fits_same ag, if_pos h1, w, show k' + 1 + (d - 1) = k' + d by omega]
    simp only
    rw [sub_same ag hd, if_neg h3, h4]

theorem has_nil_false {S : List UInt8} {k : Nat} {t : List UInt8} (h : S.length ≤ k) (ht : t ≠ []) : has S k t = false := by
  cases hh : has S k t with
  | false => rfl
  | true =>
    have := has_iff.1 hh 0 (List.length_pos_iff.2 ht)
    have := (List.getElem?_eq_some_iff.1 this).1
    omega

theorem gapsTo_adv {S : List UInt8} : ∀ (f k m : Nat), gapsTo f S k = .ok m → k ≤ m
  | 0, _, _, h => by cases h
  | f + 1, k, m, h => by
    rw [gapsTo] at h
    split at h
    · have := gapsTo_adv f _ _ h; omega
    split at h
    · have := gapsTo_adv f _ _ h; omega
    split at h
    · split at h
      · cases h
      · rename_i e he
        have := (pastAt_iff (by simp)).1 he
        have := gapsTo_adv f _ _ h
        omega
    · injection h with h; omega

theorem past_same {c : UInt8} {S S' : List UInt8} {k k' n d : Nat} {t : List UInt8} (ht : Tame c t) (hn : t ≠ []) (ag : Agree c S k S' k' n) (hd : d ≤ n) (h : pastAt S k t = some (k + d)) : pastAt S' k' t = some (k' + d) := by
  rw [pastAt_iff hn] at h ⊢
  refine ⟨by omega, ?_, fun j h1 h2 => ?_⟩
  · rw [has_same (ag.step hd) ht]; exact h.2.1
  · obtain ⟨i, rfl⟩ := Nat.exists_eq_add_of_le h1
    rw [has_same (ag.step (d := i) (by omega)) ht]
    exact h.2.2 _ (by omega) (by omega)

theorem gapsTo_loc {c : UInt8} (hc : c = 123 ∨ c = 125) {S S' : List UInt8} : ∀ (f k k' n d : Nat), gapsTo f S k = .ok (k + d) → Agree c S k S' k' n → d ≤ n → gapsTo f S' k' = .ok (k' + d)
  | 0, _, _, _, _, h, _, _ => by cases h
  | f + 1, k, k', n, d, h, ag, hd => by
    rw [gapsTo] at h ⊢
    rw [has_same ag (t := [32]) (by rcases hc with rfl | rfl <;> decide), has_same ag (t := [10]) (by rcases hc with rfl | rfl <;> decide), has_same ag (t := [47, 42]) (by rcases hc with rfl | rfl <;> decide)]
    split at h
    · rename_i hh
      rw [if_pos hh]
      have := gapsTo_adv f _ _ h
      have := gapsTo_loc hc f (k + 1) (k' + 1) (n - 1) (d - 1) (by rw [h]; congr 1; omega) (ag.step (by omega)) (by omega)
      rw [this]; congr 1; omega
    rename_i hh
    rw [if_neg hh]
    split at h
    · rename_i hh
      rw [if_pos hh]
      have := gapsTo_adv f _ _ h
      have := gapsTo_loc hc f (k + 1) (k' + 1) (n - 1) (d - 1) (by rw [h]; congr 1; omega) (ag.step (by omega)) (by omega)
      rw [this]; congr 1; omega
    rename_i hh
    rw [if_neg hh]
    split at h
    · rename_i hh
      rw [if_pos hh]
      split at h
      · cases h
      · rename_i e he
        have a1 := ((pastAt_iff (by simp)).1 he).1
        have a2 := gapsTo_adv f _ _ h
        obtain ⟨i, rfl⟩ := Nat.exists_eq_add_of_le a1
        have := past_same (by rcases hc with rfl | rfl <;> decide) (by simp) (ag.step (d := 2) (by omega)) (d := i) (by omega) he
        rw [this]
        have := gapsTo_loc hc f (k + 2 + i + 2) (k' + 2 + i + 2) (n - (2 + i + 2)) (d - (2 + i + 2)) (by rw [h]; congr 1; omega) (by
          have := ag.step (d := 2 + i + 2) (by omega)
          rw [show k + 2 + i + 2 = k + (2 + i + 2) by omega, show k' + 2 + i + 2 = k' + (2 + i + 2) by omega]
          exact this) (by omega)
        simp only
        rw [this]; congr 1; omega
    · rename_i hh
      rw [if_neg hh]
      injection h with h
      have : d = 0 := by omega
      subst this
      rfl

theorem loc_gaps {c : UInt8} (hc : c = 123 ∨ c = 125) : Loc c gaps := by
  have key : ∀ {S : List UInt8} {k m : Nat} {g : Bool}, gaps S k = .ok (g, m) → gapsTo 4001 S k = .ok m ∧ g = decide (k < m) := by
    intro S k m g h
    unfold gaps at h
    split at h
    · cases h
    · rename_i k1 e
      injection h with h
      injection h with h1 h2
      subst h2
      exact ⟨e, h1.symm⟩
  refine ⟨fun h => gapsTo_adv _ _ _ (key h).1, fun {S S' k k' n d a} h ag hd => ?_⟩
  obtain ⟨h1, h2⟩ := key h
  have := gapsTo_loc hc 4001 k k' n d h1 ag hd
  unfold gaps
  rw [this, h2]
  have : decide (k' < k' + d) = decide (k < k + d) := by simp
  rw [← this]

theorem loc_word (ahead : List UInt8) : Loc 125 (word ahead) := by
  have key : ∀ {S : List UInt8} {k m : Nat} {a : List UInt8}, word ahead S k = .ok (a, m) ↔ bnd (chars wordB) (fun u => if u = [] ∨ 60 < ahead.length + u.length then bad 2 else bnd gaps (fun _ => ret (ahead ++ u))) S k = .ok (a, m) := by
    intro S k m a
    unfold word
    simp only [bnd, chars]
    by_cases h1 : sub S k (whileEnd S k wordB) = []
    · rw [if_pos h1, if_pos (.inl h1)]
      constructor
      · intro h; cases h
      · intro h; cases h
    · rw [if_neg h1]
      by_cases h2 : 60 < ahead.length + (sub S k (whileEnd S k wordB)).length
      · rw [if_pos h2, if_pos (.inr h2)]
        constructor
        · intro h; cases h
        · intro h; cases h
      · rw [if_neg h2, if_neg (by rintro (h | h); exact h1 h; exact h2 h)]
        rfl
  have L : Loc 125 (bnd (chars wordB) (fun u => if u = [] ∨ 60 < ahead.length + u.length then bad 2 else bnd gaps (fun _ => ret (ahead ++ u)))) := loc_bnd (loc_chars _) (fun u => loc_ite (loc_bad 2) (loc_bnd (loc_gaps (.inr rfl)) (fun _ => loc_ret _)))
  exact ⟨fun h => L.adv (key.1 h), fun h ag hd => key.2 (L.loc (key.1 h) ag hd)⟩

theorem loc_valueTo : ∀ (f : Nat) (v : List UInt8), Loc 125 (valueTo f v)
  | 0, _ => loc_bad 0
  | f + 1, v => loc_fits (loc_bnd (loc_word _) (loc_valueTo f)) (loc_ret v)
theorem loc_value : Loc 125 value := loc_bnd (loc_word _) (loc_valueTo 62)
theorem loc_decl : Loc 125 decl :=
  loc_bnd loc_sname fun _ => loc_bnd (loc_gaps (.inr rfl)) fun _ => loc_bnd (loc_tok (by decide)) fun _ => loc_bnd (loc_gaps (.inr rfl)) fun _ => loc_bnd loc_value fun _ =>
    loc_opt (by decide) (loc_bnd (loc_tok (by decide)) fun _ => loc_bnd (loc_gaps (.inr rfl)) fun _ => loc_ret _) (loc_ret _)
theorem loc_declsTo : ∀ (f : Nat) (l : List Dcl), Loc 125 (declsTo f l)
  | 0, _ => loc_bad 0
  | f + 1, l => loc_ended (loc_ret l) (loc_look (by decide) (loc_ret l) (loc_bnd (loc_ite (loc_fits (loc_bad 5) (loc_ret ())) (loc_ret ())) fun _ => loc_bnd loc_decl fun d => loc_opt (by decide) (loc_bnd (loc_gaps (.inr rfl)) fun _ => loc_declsTo f (l ++ [d])) (loc_ret _)))
theorem loc_decls : Loc 125 decls := loc_bnd (loc_gaps (.inr rfl)) fun _ => loc_declsTo 22 []
theorem loc_aheadOfPart (n most : Nat) : Loc 125 (aheadOfPart n most) := by
  have hp : ∀ {S S' : List UInt8} {k k' n : Nat}, Agree 125 S k S' k' n → hasPart S' k' = hasPart S k := by
    intro S S' k k' n ag
    unfold hasPart
    rw [fits_same ag, has_same ag (t := [42]) (by decide), has_same ag (t := [46]) (by decide), has_same ag (t := [35]) (by decide), has_same ag (t := [91]) (by decide), has_same ag (t := firstL) (by decide)]
  refine ⟨fun h => ?_, fun h ag hd => ?_⟩
  · unfold aheadOfPart at h
    split at h
    · cases h
    split at h
    · cases h
    injection h with h
    injection h with _ h
    omega
  · unfold aheadOfPart at h ⊢
    rw [hp ag]
    split at h
    · cases h
    split at h
    · cases h
    rename_i h1 h2
    injection h with h
    injection h with _ h
    rw [if_neg h1, if_neg h2]
    have : _ = 0 := Nat.add_left_cancel (h.symm.trans (Nat.add_zero _).symm)
    rw [this]
    rfl
theorem loc_attrTest : Loc 125 attrTest := loc_bnd loc_sname fun _ => loc_ite (loc_bad 1) (loc_bnd (loc_opt (by decide) (loc_bnd loc_sname fun _ => loc_ret _) (loc_ret _)) fun _ => loc_bnd (loc_tok (by decide)) fun _ => loc_ret _)
theorem loc_test : Loc 125 test := loc_opt (by decide) (loc_bnd loc_sname fun _ => loc_ret _) (loc_opt (by decide) (loc_bnd loc_sname fun _ => loc_ret _) (loc_opt (by decide) (loc_ret _) (loc_opt (by decide) loc_attrTest (loc_ret _))))
theorem loc_testsTo : ∀ (f : Nat) (l : List Tst), Loc 125 (testsTo f l)
  | 0, _ => loc_bad 0
  | f + 1, l => loc_bnd loc_test fun t => loc_ite (loc_ret l) (loc_ite (loc_bad 5) (loc_testsTo f (l ++ [t])))
theorem loc_part (j : Nat) : Loc 125 (part j) := loc_bnd (loc_opt (by decide) (loc_ret _) (loc_fits (loc_bnd loc_sname fun _ => loc_ret _) (loc_ret _))) fun l => loc_bnd (loc_testsTo 8 l) fun _ => loc_ret _
theorem loc_join : Loc 125 join := loc_bnd (loc_gaps (.inr rfl)) fun _ => loc_opt (by decide) (loc_bnd (loc_gaps (.inr rfl)) fun _ => loc_ret _) (loc_opt (by decide) (loc_bnd (loc_gaps (.inr rfl)) fun _ => loc_ret _) (loc_ite (loc_look (by decide) (loc_ret _) (loc_look (by decide) (loc_ret _) (loc_ended (loc_ret _) (loc_ret _)))) (loc_ret _)))
theorem loc_selectorTo : ∀ (f j : Nat) (l : List Prt), Loc 125 (selectorTo f j l)
  | 0, _, _ => loc_bad 0
  | f + 1, j, l => loc_bnd (loc_aheadOfPart _ _) fun _ => loc_bnd (loc_part j) fun p => loc_bnd loc_join fun q => loc_ite (loc_selectorTo f q.1 (l ++ [p])) (loc_ret _)
theorem loc_selectorsTo : ∀ (f : Nat) (l : List (List Prt)), Loc 125 (selectorsTo f l)
  | 0, _ => loc_bad 0
  | f + 1, l => loc_bnd (loc_aheadOfPart _ _) fun _ => loc_bnd (loc_selectorTo 8 0 []) fun p => loc_opt (by decide) (loc_bnd (loc_gaps (.inr rfl)) fun _ => loc_selectorsTo f (l ++ [p])) (loc_ret _)
/-- A rule, up to its closing brace. -/
def ruleBody (n : Nat) : Pr (List (List Prt) × List Dcl) :=
  bnd (aheadOfPart n 60) fun _ => bnd selectors fun l => bnd (tok [123]) fun _ => bnd decls fun d => ret (l, d)
theorem loc_ruleBody (n : Nat) : Loc 125 (ruleBody n) := loc_bnd (loc_aheadOfPart _ _) fun _ => loc_bnd (loc_selectorsTo 10 []) fun _ => loc_bnd (loc_tok (by decide)) fun _ => loc_bnd loc_decls fun _ => loc_ret _
/-- What stands behind the word, up to the brace. -/
def mediaBody : Pr (List UInt8) := bnd gaps fun g => if g then bnd sname fun n => bnd gaps fun _ => ret n else bad 2
theorem loc_mediaBody : Loc 123 mediaBody := loc_bnd (loc_gaps (.inl rfl)) fun _ => loc_ite (loc_bnd loc_sname fun _ => loc_bnd (loc_gaps (.inl rfl)) fun _ => loc_ret _) (loc_bad 2)
end Go.Proofs.YtfobkiglmphgjabGreatDoor.Sh

namespace Go.Proofs.YtfobkiglmphgjabGreatDoor.Sh
open Go

theorem has_lt {S : List UInt8} {k x : Nat} {t : List UInt8} (h : has S k t = true) (ht : x < t.length) : S[k + x]? = some t[x] ∧ k + x < S.length := by
  have := has_iff.1 h x ht
  exact ⟨this, (List.getElem?_eq_some_iff.1 this).1⟩
theorem no_tok {S : List UInt8} {k : Nat} {c x : UInt8} {t : List UInt8} (h : S[k]? = some c) (hx : c ≠ x) : has S k (x :: t) = false := by
  cases hh : has S k (x :: t) with
  | false => rfl
  | true =>
    have := (has_lt (x := 0) hh (by simp)).1
    rw [Nat.add_zero, h] at this
    injection this with this
    exact absurd this hx
theorem one_tok {S : List UInt8} {k : Nat} {c : UInt8} : has S k [c] = true ↔ S[k]? = some c := by
  rw [has_iff]
  constructor
  · intro h; exact h 0 (by simp)
  · intro h j hj
    have : j = 0 := by simpa using hj
    subst this
    exact h

theorem gapsTo_fuel {S : List UInt8} : ∀ (f f' k : Nat), S.length - k < f → S.length - k < f' → gapsTo f S k = gapsTo f' S k
  | 0, _, _, h, _ => absurd h (Nat.not_lt_zero _)
  | _ + 1, 0, _, _, h => absurd h (Nat.not_lt_zero _)
  | f + 1, f' + 1, k, h1, h2 => by
    rw [gapsTo, gapsTo]
    by_cases a1 : has S k [32] = true
    · have := (has_lt (x := 0) a1 (by simp)).2
      rw [if_pos a1, if_pos a1]
      exact gapsTo_fuel f f' (k + 1) (by omega) (by omega)
    rw [if_neg a1, if_neg a1]
    by_cases a2 : has S k [10] = true
    · have := (has_lt (x := 0) a2 (by simp)).2
      rw [if_pos a2, if_pos a2]
      exact gapsTo_fuel f f' (k + 1) (by omega) (by omega)
    rw [if_neg a2, if_neg a2]
    by_cases a3 : has S k [47, 42] = true
    · have := (has_lt (x := 0) a3 (by simp)).2
      rw [if_pos a3, if_pos a3]
      cases hp : pastAt S (k + 2) [42, 47] with
      | none => rfl
      | some e =>
        have := ((pastAt_iff (by simp)).1 hp).1
        exact gapsTo_fuel f f' (e + 2) (by omega) (by omega)
    · rw [if_neg a3, if_neg a3]

theorem gaps_iff {S : List UInt8} {k m : Nat} {g : Bool} : gaps S k = .ok (g, m) ↔ gapsTo 4001 S k = .ok m ∧ g = decide (k < m) := by
  unfold gaps
  cases gapsTo 4001 S k with
  | error x => simp
  | ok k1 =>
    simp
    constructor
    · rintro ⟨h1, rfl⟩; exact ⟨rfl, h1.symm⟩
    · rintro ⟨rfl, h⟩; exact ⟨h.symm, rfl⟩

theorem gp_blank {S : List UInt8} {k : Nat} (hS : S.length ≤ 4000) (h : has S k [32] = true ∨ has S k [10] = true) : gapsTo 4001 S k = gapsTo 4001 S (k + 1) := by
  have hk : k < S.length := by
    rcases h with h | h
    · exact (has_lt (x := 0) h (by simp)).2
    · exact (has_lt (x := 0) h (by simp)).2
  have e : gapsTo 4001 S k = gapsTo 4000 S (k + 1) := by
    rw [gapsTo]
    by_cases a : has S k [32] = true
    · rw [if_pos a]
    · rw [if_neg a, if_pos (h.resolve_left a)]
  rw [e]
  exact gapsTo_fuel _ _ _ (by omega) (by omega)
theorem gp_note {S : List UInt8} {k e : Nat} (hS : S.length ≤ 4000) (h : has S k [47, 42] = true) (hp : pastAt S (k + 2) [42, 47] = some e) : gapsTo 4001 S k = gapsTo 4001 S (e + 2) := by
  have hk := has_lt (x := 0) h (by simp)
  rw [Nat.add_zero] at hk
  have := ((pastAt_iff (by simp)).1 hp).1
  have e1 : gapsTo 4001 S k = gapsTo 4000 S (e + 2) := by
    rw [gapsTo, if_neg (by rw [no_tok hk.1 (by decide)]; decide), if_neg (by rw [no_tok hk.1 (by decide)]; decide), if_pos h, hp]
  rw [e1]
  exact gapsTo_fuel _ _ _ (by omega) (by omega)
theorem gp_stop {S : List UInt8} {k : Nat} (h1 : has S k [32] = false) (h2 : has S k [10] = false) (h3 : has S k [47, 42] = false) : gapsTo 4001 S k = .ok k := by
  rw [gapsTo, if_neg (by rw [h1]; decide), if_neg (by rw [h2]; decide), if_neg (by rw [h3]; decide)]
theorem gp_stop_at {S : List UInt8} {k : Nat} {c : UInt8} (h : S[k]? = some c) (h1 : c ≠ 32) (h2 : c ≠ 10) (h3 : c ≠ 47) : gapsTo 4001 S k = .ok k := gp_stop (no_tok h h1) (no_tok h h2) (no_tok h h3)
theorem gp_end {S : List UInt8} {k : Nat} (h : S.length ≤ k) : gapsTo 4001 S k = .ok k := gp_stop (has_nil_false h (by simp)) (has_nil_false h (by simp)) (has_nil_false h (by simp))

theorem gapsTo_le {S : List UInt8} : ∀ (f k m : Nat), gapsTo f S k = .ok m → k ≤ S.length → m ≤ S.length
  | 0, _, _, h, _ => by cases h
  | f + 1, k, m, h, hk => by
    rw [gapsTo] at h
    split at h
    · rename_i hh
      have := (has_lt (x := 0) hh (by simp)).2
      exact gapsTo_le f _ _ h (by omega)
    split at h
    · rename_i hh
      have := (has_lt (x := 0) hh (by simp)).2
      exact gapsTo_le f _ _ h (by omega)
    split at h
    · split at h
      · cases h
      · rename_i e he
        have := (has_lt (x := 1) ((pastAt_iff (by simp)).1 he).2.1 (by simp)).2
        exact gapsTo_le f _ _ h (by omega)
    · injection h with h; omega

theorem has_in {S S' : List UInt8} {k k' n : Nat} {t : List UInt8} (h : ∀ i, i < n → S'[k' + i]? = S[k + i]?) (ht : t.length ≤ n) : has S' k' t = has S k t := by
  rw [Bool.eq_iff_iff, has_iff, has_iff]
  constructor
  · intro hh j hj; rw [← h j (by omega)]; exact hh j hj
  · intro hh j hj; rw [h j (by omega)]; exact hh j hj

/-- Gaps that were run through are run through wherever these bytes stand. -/
theorem gaps_run {S S' : List UInt8} (hS' : S'.length ≤ 4000) : ∀ (f k k' d : Nat), gapsTo f S k = .ok (k + d) → (∀ i, i < d → S'[k' + i]? = S[k + i]?) → gapsTo 4001 S' k' = gapsTo 4001 S' (k' + d)
  | 0, _, _, _, h, _ => by cases h
  | f + 1, k, k', d, h, hs => by
    rw [gapsTo] at h
    have one : ∀ d', (∀ i, i < d' + 1 → S'[k' + i]? = S[k + i]?) → (has S k [32] = true ∨ has S k [10] = true) → gapsTo f S (k + 1) = .ok (k + 1 + d') → gapsTo 4001 S' k' = gapsTo 4001 S' (k' + (d' + 1)) := by
      intro d' hs hb h
      have hb' : has S' k' [32] = true ∨ has S' k' [10] = true := by
        rw [has_in hs (t := [32]) (by simp), has_in hs (t := [10]) (by simp)]
        exact hb
      rw [gp_blank hS' hb', gaps_run hS' f (k + 1) (k' + 1) d' h (fun i hi => by
        have := hs (1 + i) (by omega)
        rw [← Nat.add_assoc, ← Nat.add_assoc] at this
        exact this)]
      congr 1; omega
    split at h
    · rename_i hh
      have := gapsTo_adv f _ _ h
      obtain ⟨d', rfl⟩ : ∃ d', d = d' + 1 := ⟨d - 1, by omega⟩
      exact one d' hs (.inl hh) (by rw [h]; congr 1; omega)
    split at h
    · rename_i hh
      have := gapsTo_adv f _ _ h
      obtain ⟨d', rfl⟩ : ∃ d', d = d' + 1 := ⟨d - 1, by omega⟩
      exact one d' hs (.inr hh) (by rw [h]; congr 1; omega)
    split at h
    · rename_i hh
      split at h
      · cases h
      · rename_i e he
        have a1 := gapsTo_adv f _ _ h
        have pe := (pastAt_iff (by simp)).1 he
        obtain ⟨i, rfl⟩ := Nat.exists_eq_add_of_le pe.1
        obtain ⟨d', rfl⟩ : ∃ d', d = 2 + i + 2 + d' := ⟨d - (2 + i + 2), by omega⟩
        have sh : ∀ x, ∀ j, j < 2 + i + 2 + d' - x → x ≤ 2 + i + 2 + d' → S'[k' + x + j]? = S[k + x + j]? := fun x j hj hx => by rw [Nat.add_assoc, Nat.add_assoc]; exact hs (x + j) (by omega)
        have n1 : has S' k' [47, 42] = true := by rw [has_in hs (by simp; omega)]; exact hh
        have n2 : pastAt S' (k' + 2) [42, 47] = some (k' + 2 + i) := by
          rw [pastAt_iff (by simp)]
          refine ⟨by omega, ?_, fun j h1 h2 => ?_⟩
          · have e0 := has_in (k := k + (2 + i)) (k' := k' + (2 + i)) (n := 2 + d') (t := [42, 47]) (fun j hj => sh (2 + i) j (by omega) (by omega)) (by simp)
            rw [show k' + 2 + i = k' + (2 + i) by omega, e0, show k + (2 + i) = k + 2 + i by omega]
            exact pe.2.1
          · obtain ⟨j', rfl⟩ := Nat.exists_eq_add_of_le h1
            have e0 := has_in (k := k + (2 + j')) (k' := k' + (2 + j')) (n := 2 + d') (t := [42, 47]) (fun j hj => sh (2 + j') j (by omega) (by omega)) (by simp)
            rw [show k' + 2 + j' = k' + (2 + j') by omega, e0, show k + (2 + j') = k + 2 + j' by omega]
            exact pe.2.2 _ (by omega) (by omega)
        rw [gp_note hS' n1 n2, gaps_run hS' f (k + 2 + i + 2) (k' + 2 + i + 2) d' (by rw [h]; congr 1; omega) (fun j hj => by
          have := sh (2 + i + 2) j (by omega) (by omega)
          rw [show k' + 2 + i + 2 = k' + (2 + i + 2) by omega, show k + 2 + i + 2 = k + (2 + i + 2) by omega]
          exact this)]
        congr 1; omega
    · injection h with h
      have : d = 0 := by omega
      subst this
      rfl

theorem rule_eq (n : Nat) (S : List UInt8) (k : Nat) : rule n S k = bnd (ruleBody n) (fun p => bnd (tok [125]) fun _ => ret p) S k := by
  unfold rule ruleBody bnd
  cases aheadOfPart n 60 S k with
  | error x => rfl
  | ok a =>
    obtain ⟨_, k1⟩ := a
    simp only
    cases selectors S k1 with
    | error x => rfl
    | ok a =>
      obtain ⟨l, k2⟩ := a
      simp only
      cases tok [123] S k2 with
      | error x => rfl
      | ok a =>
        obtain ⟨_, k3⟩ := a
        simp only
        cases decls S k3 with
        | error x => rfl
        | ok a => rfl
theorem mediaHead_eq (S : List UInt8) (k : Nat) : mediaHead S k = bnd mediaBody (fun n => bnd (tok [123]) fun _ => ret n) S k := by
  unfold mediaHead mediaBody bnd
  cases gaps S k with
  | error x => rfl
  | ok a =>
    obtain ⟨g, k1⟩ := a
    cases g with
    | false => rfl
    | true =>
      simp only [if_true]
      cases sname S k1 with
      | error x => rfl
      | ok a =>
        obtain ⟨n, k2⟩ := a
        simp only
        cases gaps S k2 with
        | error x => rfl
        | ok a => rfl
theorem bnd_ok {α β : Type} {f : Pr α} {g : α → Pr β} {S : List UInt8} {k m : Nat} {b : β} : bnd f g S k = .ok (b, m) ↔ ∃ a m1, f S k = .ok (a, m1) ∧ g a S m1 = .ok (b, m) := by
  unfold bnd
  cases f S k with
  | error x => simp
  | ok a =>
    obtain ⟨a, m1⟩ := a
    constructor
    · intro h; exact ⟨a, m1, rfl, h⟩
    · rintro ⟨a', m1', h1, h2⟩
      injection h1 with h1
      injection h1 with h1 h3
      subst h1 h3
      exact h2
theorem tok_iff {S : List UInt8} {k m : Nat} {c : UInt8} {u : Unit} : tok [c] S k = .ok (u, m) ↔ S[k]? = some c ∧ m = k + 1 := by
  unfold tok opt
  rw [← one_tok (k := k)]
  cases h : has S k [c] with
  | false => simp [bad]
  | true =>
    simp [ret]
    exact eq_comm
theorem rule_iff {n : Nat} {S : List UInt8} {k m : Nat} {p : List (List Prt) × List Dcl} : rule n S k = .ok (p, m) ↔ ∃ d, m = k + d + 1 ∧ ruleBody n S k = .ok (p, k + d) ∧ S[k + d]? = some 125 := by
  rw [rule_eq, bnd_ok]
  constructor
  · rintro ⟨a, m1, h1, h2⟩
    rw [bnd_ok] at h2
    obtain ⟨_, m2, h3, h4⟩ := h2
    obtain ⟨d, rfl⟩ := Nat.exists_eq_add_of_le ((loc_ruleBody n).adv h1)
    rw [tok_iff] at h3
    injection h4 with h4
    injection h4 with h4 h5
    subst h4
    exact ⟨d, by omega, h1, h3.1⟩
  · rintro ⟨d, rfl, h1, h2⟩
    refine ⟨p, k + d, h1, ?_⟩
    rw [bnd_ok]
    exact ⟨(), k + d + 1, tok_iff.2 ⟨h2, rfl⟩, rfl⟩
theorem mediaHead_iff {S : List UInt8} {k m : Nat} {n : List UInt8} : mediaHead S k = .ok (n, m) ↔ ∃ d, m = k + d + 1 ∧ mediaBody S k = .ok (n, k + d) ∧ S[k + d]? = some 123 := by
  rw [mediaHead_eq, bnd_ok]
  constructor
  · rintro ⟨a, m1, h1, h2⟩
    rw [bnd_ok] at h2
    obtain ⟨_, m2, h3, h4⟩ := h2
    obtain ⟨d, rfl⟩ := Nat.exists_eq_add_of_le (loc_mediaBody.adv h1)
    rw [tok_iff] at h3
    injection h4 with h4
    injection h4 with h4 h5
    subst h4
    exact ⟨d, by omega, h1, h3.1⟩
  · rintro ⟨d, rfl, h1, h2⟩
    refine ⟨n, k + d, h1, ?_⟩
    rw [bnd_ok]
    exact ⟨(), k + d + 1, tok_iff.2 ⟨h2, rfl⟩, rfl⟩

theorem ahead_iff {n most : Nat} {S : List UInt8} {k m : Nat} {u : Unit} : aheadOfPart n most S k = .ok (u, m) ↔ hasPart S k = true ∧ n < most ∧ m = k := by
  unfold aheadOfPart
  cases hasPart S k with
  | false => simp
  | true =>
    by_cases h : most ≤ n
    · simp [h]; omega
    · simp [h]
      constructor
      · rintro rfl; exact ⟨by omega, rfl⟩
      · rintro ⟨_, rfl⟩; rfl
theorem ruleBody_part {n : Nat} {S : List UInt8} {k m : Nat} {p : List (List Prt) × List Dcl} (h : ruleBody n S k = .ok (p, m)) : hasPart S k = true ∧ n < 60 := by
  unfold ruleBody at h
  rw [bnd_ok] at h
  obtain ⟨_, m1, h1, _⟩ := h
  rw [ahead_iff] at h1
  exact ⟨h1.1, h1.2.1⟩
theorem ruleBody_n {n n' : Nat} {S : List UInt8} {k m : Nat} {p : List (List Prt) × List Dcl} (h : ruleBody n S k = .ok (p, m)) (hn : n' < 60) : ruleBody n' S k = .ok (p, m) := by
  unfold ruleBody at h ⊢
  rw [bnd_ok] at h ⊢
  obtain ⟨a, m1, h1, h2⟩ := h
  rw [ahead_iff] at h1
  exact ⟨a, m1, ahead_iff.2 ⟨h1.1, hn, h1.2.2⟩, h2⟩
/-- A rule is that rule wherever its bytes stand. -/
theorem rule_move {n n' : Nat} {S S' : List UInt8} {k k' d : Nat} {p : List (List Prt) × List Dcl} (h : rule n S k = .ok (p, k + d + 1)) (hs : ∀ i, i ≤ d → S'[k' + i]? = S[k + i]?) (hn : n' < 60) : rule n' S' k' = .ok (p, k' + d + 1) := by
  rw [rule_iff] at h
  obtain ⟨d', hd, h1, h2⟩ := h
  have : d' = d := by omega
  subst this
  have ag : Agree 125 S k S' k' d' := ⟨h2, hs⟩
  exact rule_iff.2 ⟨d', rfl, (loc_ruleBody n').loc (ruleBody_n h1 hn) ag (Nat.le_refl _), ag.brace'⟩
theorem hasPart_byte {S : List UInt8} {k : Nat} (h : hasPart S k = true) : ∃ c, S[k]? = some c ∧ (letterB c = true ∨ c = 42 ∨ c = 46 ∨ c = 35 ∨ c = 91 ∨ c = 58) := by
  unfold hasPart at h
  simp only [Bool.or_eq_true] at h
  rcases h with ((((h | h) | h) | h) | h) | h
  · unfold fitsAt at h
    split at h
    · rename_i c hc; exact ⟨c, hc, .inl h⟩
    · cases h
  · exact ⟨_, one_tok.1 h, by simp⟩
  · exact ⟨_, one_tok.1 h, by simp⟩
  · exact ⟨_, one_tok.1 h, by simp⟩
  · exact ⟨_, one_tok.1 h, by simp⟩
  · exact ⟨58, (has_lt (x := 0) h (by decide)).1, by simp⟩
/-- No rule begins with one of these. -/
theorem rule_byte {n : Nat} {S : List UInt8} {k m : Nat} {p : List (List Prt) × List Dcl} (h : rule n S k = .ok (p, m)) : ∃ c, S[k]? = some c ∧ c ≠ 32 ∧ c ≠ 10 ∧ c ≠ 47 ∧ c ≠ 64 ∧ c ≠ 125 := by
  rw [rule_iff] at h
  obtain ⟨d, _, h1, _⟩ := h
  obtain ⟨c, hc, hl⟩ := hasPart_byte (ruleBody_part h1).1
  refine ⟨c, hc, ?_⟩
  rcases hl with hl | hl
  · have : 97 ≤ c.toNat := by unfold letterB at hl; simp at hl; exact hl.1
    have hx : c ≠ 125 := by rintro rfl; exact absurd hl (by decide)
    refine ⟨?_, ?_, ?_, ?_, hx⟩ <;> (rintro rfl; exact absurd this (by decide))
  · rcases hl with rfl | rfl | rfl | rfl | rfl <;> decide
theorem rule_n {n : Nat} {S : List UInt8} {k m : Nat} {p : List (List Prt) × List Dcl} (h : rule n S k = .ok (p, m)) : n < 60 := by
  rw [rule_iff] at h
  obtain ⟨d, _, h1, _⟩ := h
  exact (ruleBody_part h1).2

/-- The sheet S, read from k on, within md, where the rules L stand already, has the rules A. -/
inductive Ps (S : List UInt8) : Nat → Option (List UInt8) → List Rl → List Rl → Prop where
  | fin {k k1 : Nat} {L : List Rl} (g : gapsTo 4001 S k = .ok k1) (e : S.length ≤ k1) : Ps S k none L L
  | media {k k1 k2 : Nat} {n : List UInt8} {L A : List Rl} (g : gapsTo 4001 S k = .ok k1) (e : k1 < S.length) (h : has S k1 mediaL = true) (m : mediaHead S (k1 + 6) = .ok (n, k2)) (next : Ps S k2 (some n) L A) : Ps S k none L A
  | rule0 {k k1 k2 : Nat} {p : List (List Prt) × List Dcl} {L A : List Rl} (g : gapsTo 4001 S k = .ok k1) (e : k1 < S.length) (h : has S k1 mediaL = false) (m : rule L.length S k1 = .ok (p, k2)) (next : Ps S k2 none (L ++ [⟨[], p.1, p.2, k1, k2⟩]) A) : Ps S k none L A
  | close {k k1 : Nat} {n : List UInt8} {L A : List Rl} (g : gapsTo 4001 S k = .ok k1) (h : has S k1 [125] = true) (next : Ps S (k1 + 1) none L A) : Ps S k (some n) L A
  | rule1 {k k1 k2 : Nat} {n : List UInt8} {p : List (List Prt) × List Dcl} {L A : List Rl} (g : gapsTo 4001 S k = .ok k1) (h : has S k1 [125] = false) (m : rule L.length S k1 = .ok (p, k2)) (next : Ps S k2 (some n) (L ++ [⟨n, p.1, p.2, k1, k2⟩]) A) : Ps S k (some n) L A

theorem Ps.of_rulesTo {S : List UInt8} : ∀ (f k : Nat) (md : Option (List UInt8)) (L A : List Rl), rulesTo f S k md L = .ok A → Ps S k md L A
  | 0, _, _, _, _, h => by simp [rulesTo] at h
  | f + 1, k, md, L, A, h => by
    rw [rulesTo] at h
    split at h
    · cases h
    rename_i g k1 e
    have e1 := (gaps_iff.1 e).1
    cases md with
    | none =>
      simp only at h
      split at h
      · rename_i he
        injection h with h
        subst h
        exact .fin e1 he
      rename_i he
      split at h
      · rename_i hm
        split at h
        · cases h
        rename_i n k2 em
        exact .media e1 (by omega) hm em (Ps.of_rulesTo f _ _ _ _ h)
      · rename_i hm
        split at h
        · cases h
        rename_i p k2 er
        exact .rule0 e1 (by omega) (by simpa using hm) er (Ps.of_rulesTo f _ _ _ _ h)
    | some n =>
      simp only at h
      split at h
      · rename_i hc
        exact .close e1 hc (Ps.of_rulesTo f _ _ _ _ h)
      · rename_i hc
        split at h
        · cases h
        rename_i p k2 er
        exact .rule1 e1 (by simpa using hc) er (Ps.of_rulesTo f _ _ _ _ h)

/-- Enough steps are enough. -/
theorem Ps.to_rulesTo {S : List UInt8} {k : Nat} {md : Option (List UInt8)} {L A : List Rl} (h : Ps S k md L A) : ∀ f, S.length - k < f → rulesTo f S k md L = .ok A := by
  have adv : ∀ {k k1 : Nat}, gapsTo 4001 S k = .ok k1 → k ≤ k1 := fun h => gapsTo_adv _ _ _ h
  induction h with
  | fin g e =>
    intro f hf
    obtain ⟨f, rfl⟩ : ∃ f', f = f' + 1 := ⟨f - 1, by omega⟩
    rw [rulesTo, gaps_iff.2 ⟨g, rfl⟩]
    simp only
    rw [if_pos e]
  | media g e hm m next ih =>
    intro f hf
    obtain ⟨f, rfl⟩ : ∃ f', f = f' + 1 := ⟨f - 1, by omega⟩
    have a1 := adv g
    obtain ⟨d, rfl, _, _⟩ := mediaHead_iff.1 m
    rw [rulesTo, gaps_iff.2 ⟨g, rfl⟩]
    simp only
    rw [if_neg (by omega), if_pos hm, m]
    exact ih f (by omega)
  | rule0 g e hm m next ih =>
    intro f hf
    obtain ⟨f, rfl⟩ : ∃ f', f = f' + 1 := ⟨f - 1, by omega⟩
    have a1 := adv g
    obtain ⟨d, rfl, _, _⟩ := rule_iff.1 m
    rw [rulesTo, gaps_iff.2 ⟨g, rfl⟩]
    simp only
    rw [if_neg (by omega), if_neg (by rw [hm]; decide), m]
    exact ih f (by omega)
  | close g hc next ih =>
    intro f hf
    obtain ⟨f, rfl⟩ : ∃ f', f = f' + 1 := ⟨f - 1, by omega⟩
    have a1 := adv g
    have a2 := (has_lt (x := 0) hc (by simp)).2
    rw [rulesTo, gaps_iff.2 ⟨g, rfl⟩]
    simp only
    rw [if_pos hc]
    exact ih f (by omega)
  | rule1 g hc m next ih =>
    intro f hf
    obtain ⟨f, rfl⟩ : ∃ f', f = f' + 1 := ⟨f - 1, by omega⟩
    have a1 := adv g
    obtain ⟨d, rfl, _, hb⟩ := rule_iff.1 m
    have a2 := (List.getElem?_eq_some_iff.1 hb).1
    rw [rulesTo, gaps_iff.2 ⟨g, rfl⟩]
    simp only
    rw [if_neg (by rw [hc]; decide), m]
    exact ih f (by omega)

theorem Ps.iff {S : List UInt8} (hS : S.length ≤ 4000) {A : List Rl} : sheetParse S = .ok A ↔ Ps S 0 none [] A := by
  unfold sheetParse
  rw [if_neg (by omega)]
  exact ⟨fun h => Ps.of_rulesTo _ _ _ _ _ h, fun h => h.to_rulesTo 4001 (by omega)⟩
theorem sheetParse_le {S : List UInt8} {A : List Rl} (h : sheetParse S = .ok A) : S.length ≤ 4000 := by
  unfold sheetParse at h
  split at h
  · cases h
  · omega
theorem Ps.congr {S : List UInt8} {k k' : Nat} {md : Option (List UInt8)} {L A : List Rl} (h : Ps S k' md L A) (e : gapsTo 4001 S k = gapsTo 4001 S k') : Ps S k md L A := by
  cases h with
  | fin g h => exact .fin (e.trans g) h
  | media g h1 h2 h3 h4 => exact .media (e.trans g) h1 h2 h3 h4
  | rule0 g h1 h2 h3 h4 => exact .rule0 (e.trans g) h1 h2 h3 h4
  | close g h1 h2 => exact .close (e.trans g) h1 h2
  | rule1 g h1 h2 h3 => exact .rule1 (e.trans g) h1 h2 h3
end Go.Proofs.YtfobkiglmphgjabGreatDoor.Sh

namespace Go.Proofs.YtfobkiglmphgjabGreatDoor.Sh
open Go

/-- So much on. -/
def sh (o : Nat) (r : Rl) : Rl := { r with from_ := r.from_ + o, to_ := r.to_ + o }

/-- Rules that stand one behind the other, from k on. -/
def Chain (S : List UInt8) : Nat → List Rl → Prop
  | _, [] => True
  | k, r :: M => k ≤ r.from_ ∧ r.from_ < r.to_ ∧ r.to_ ≤ S.length ∧ (∃ n, rule n S r.from_ = .ok ((r.sels, r.decls), r.to_)) ∧ Chain S r.to_ M

theorem Chain.weaken {S : List UInt8} {k k' : Nat} {M : List Rl} (h : Chain S k' M) (hk : k ≤ k') : Chain S k M := by
  cases M with
  | nil => trivial
  | cons r M => exact ⟨Nat.le_trans hk h.1, h.2⟩
theorem Chain.mem {S : List UInt8} : ∀ {M : List Rl} {k : Nat}, Chain S k M → ∀ r ∈ M, k ≤ r.from_ ∧ r.from_ < r.to_ ∧ r.to_ ≤ S.length ∧ ∃ n, rule n S r.from_ = .ok ((r.sels, r.decls), r.to_)
  | [], _, _, _, h => by cases h
  | r :: M, k, h, x, hx => by
    rcases List.mem_cons.1 hx with rfl | hx
    · exact ⟨h.1, h.2.1, h.2.2.1, h.2.2.2.1⟩
    · have := Chain.mem h.2.2.2.2 x hx
      exact ⟨by have := h.1; have := h.2.1; omega, this.2⟩

theorem Ps.chain {S : List UInt8} {k : Nat} {md : Option (List UInt8)} {L A : List Rl} (h : Ps S k md L A) : ∃ M, A = L ++ M ∧ Chain S k M ∧ (L.length ≤ 60 → A.length ≤ 60) := by
  have adv : ∀ {k k1 : Nat}, gapsTo 4001 S k = .ok k1 → k ≤ k1 := fun h => gapsTo_adv _ _ _ h
  induction h with
  | fin g e => exact ⟨[], by simp, trivial, fun h => h⟩
  | media g e hm m next ih =>
    obtain ⟨M, h1, h2, h3⟩ := ih
    obtain ⟨d, rfl, _, _⟩ := mediaHead_iff.1 m
    have := adv g
    exact ⟨M, h1, h2.weaken (by omega), h3⟩
  | @rule0 k k1 k2 p L A g e hm m next ih =>
    obtain ⟨M, h1, h2, h3⟩ := ih
    have a1 := adv g
    have hn := rule_n m
    have m' := m
    obtain ⟨d, rfl, _, hb⟩ := rule_iff.1 m
    have a2 := (List.getElem?_eq_some_iff.1 hb).1
    exact ⟨⟨[], p.1, p.2, k1, k1 + d + 1⟩ :: M, by rw [h1]; simp, ⟨a1, by show k1 < k1 + d + 1; omega, by show k1 + d + 1 ≤ S.length; omega, ⟨_, m'⟩, h2⟩, fun _ => h3 (by simp; omega)⟩
  | close g hc next ih =>
    obtain ⟨M, h1, h2, h3⟩ := ih
    have := adv g
    exact ⟨M, h1, h2.weaken (by omega), h3⟩
  | @rule1 k k1 k2 n p L A g hc m next ih =>
    obtain ⟨M, h1, h2, h3⟩ := ih
    have a1 := adv g
    have hn := rule_n m
    have m' := m
    obtain ⟨d, rfl, _, hb⟩ := rule_iff.1 m
    have a2 := (List.getElem?_eq_some_iff.1 hb).1
    exact ⟨⟨n, p.1, p.2, k1, k1 + d + 1⟩ :: M, by rw [h1]; simp, ⟨a1, by show k1 < k1 + d + 1; omega, by show k1 + d + 1 ≤ S.length; omega, ⟨_, m'⟩, h2⟩, fun _ => h3 (by simp; omega)⟩

theorem sub_get {S : List UInt8} {a b : Nat} (i : Nat) (hi : i < b - a) : (sub S a b)[i]? = S[a + i]? := by
  unfold sub
  rw [List.getElem?_take, if_pos hi, List.getElem?_drop]
theorem sub_len {S : List UInt8} {a b : Nat} (hb : b ≤ S.length) : (sub S a b).length = b - a := by
  unfold sub
  rw [List.length_take, List.length_drop]; omega

/-- Each text by itself is that rule. -/
theorem rule_alone {n : Nat} {S : List UInt8} {a b : Nat} {p : List (List Prt) × List Dcl} (hS : S.length ≤ 4000) (h : rule n S a = .ok (p, b)) (hb : b ≤ S.length) : sheetParse (sub S a b) = .ok [⟨[], p.1, p.2, 0, b - a⟩] := by
  obtain ⟨d, rfl, _, _⟩ := rule_iff.1 h
  have hl := sub_len (a := a) hb
  have hl' : (sub S a (a + d + 1)).length = d + 1 := by rw [hl]; omega
  obtain ⟨c, hc, c1, c2, c3, c4, c5⟩ := rule_byte h
  have hc' : (sub S a (a + d + 1))[0]? = some c := by rw [sub_get 0 (by omega)]; exact hc
  have hr : rule 0 (sub S a (a + d + 1)) 0 = .ok (p, 0 + d + 1) := rule_move h (fun i hi => by rw [Nat.zero_add, sub_get i (by omega)]) (by omega)
  rw [Ps.iff (by omega)]
  have e : a + d + 1 - a = 0 + d + 1 := by omega
  rw [e]
  refine .rule0 (gp_stop_at hc' c1 c2 c3) (by omega) (no_tok hc' c4) hr ?_
  exact .fin (gp_end (by omega)) (by omega)

/-- What follows is the same wherever it stands, behind fewer rules or others. -/
theorem Ps.shift {S S' : List UInt8} {k : Nat} {md : Option (List UInt8)} {L A : List Rl} (h : Ps S k md L A) (hS' : S'.length ≤ 4000) (o : Nat) :
    (∀ i, S'[k + o + i]? = S[k + i]?) → ∃ M, A = L ++ M ∧ ∀ L2 : List Rl, L2.length + M.length ≤ 60 → Ps S' (k + o) md L2 (L2 ++ M.map (sh o)) := by
  have adv : ∀ {k k1 : Nat}, gapsTo 4001 S k = .ok k1 → k ≤ k1 := fun h => gapsTo_adv _ _ _ h
  have fwd : ∀ {k : Nat} (x : Nat), (∀ i, S'[k + o + i]? = S[k + i]?) → ∀ i, S'[k + x + o + i]? = S[k + x + i]? := fun {k} x hs i => by
    have := hs (x + i)
    rw [show k + x + o + i = k + o + (x + i) by omega, this, Nat.add_assoc]
  have byBrace : ∀ {k k1 n : Nat} {c : UInt8}, (c = 123 ∨ c = 125) → gapsTo 4001 S k = .ok k1 → (∀ i, S'[k + o + i]? = S[k + i]?) → k1 ≤ k + n → S[k + n]? = some c → gapsTo 4001 S' (k + o) = .ok (k1 + o) := by
    intro k k1 n c hc g hs hn hb
    have a := adv g
    obtain ⟨d, rfl⟩ := Nat.exists_eq_add_of_le a
    have := gapsTo_loc hc 4001 k (k + o) n d g ⟨hb, fun i _ => hs i⟩ (by omega)
    rw [this]; congr 1; omega
  induction h with
  | @fin k k1 L g e =>
    intro hs
    refine ⟨[], by simp, fun L2 _ => ?_⟩
    have a := adv g
    obtain ⟨d, rfl⟩ := Nat.exists_eq_add_of_le a
    have r := gaps_run hS' 4001 k (k + o) d g (fun i _ => hs i)
    have hend : S'.length ≤ k + o + d := by
      have : S'[k + o + d]? = none := (hs d).trans (List.getElem?_eq_none (by omega))
      exact List.getElem?_eq_none_iff.1 this
    rw [gp_end hend] at r
    simpa using Ps.fin (L := L2) r hend
  | @media k k1 k2 n L A g e hm m next ih =>
    intro hs
    obtain ⟨d, rfl, mb, hb⟩ := mediaHead_iff.1 m
    have a := adv g
    obtain ⟨x, rfl⟩ := Nat.exists_eq_add_of_le a
    have hs2 := fwd (x + 6 + d + 1) hs
    obtain ⟨M, h1, h2⟩ := ih (by rw [show k + x + 6 + d + 1 = k + (x + 6 + d + 1) by omega]; exact hs2)
    refine ⟨M, h1, fun L2 hl => ?_⟩
    have g' := byBrace (n := x + 6 + d) (.inl rfl) g hs (by omega) (by rw [← hb]; congr 1; omega)
    have hx : S'[k + o + (x + 6 + d)]? = some 123 := by rw [hs]; rw [← hb]; congr 1; omega
    have e' := (List.getElem?_eq_some_iff.1 hx).1
    refine .media (n := n) g' (by omega) ?_ (mediaHead_iff.2 ⟨d, rfl, ?_, ?_⟩) ?_
    · have := has_in (S := S) (S' := S') (k := k + x) (k' := k + x + o) (n := 6) (t := mediaL) (fun i _ => fwd x hs i) (by decide)
      rw [this]; exact hm
    · have := loc_mediaBody.loc mb (S' := S') (k' := k + x + o + 6) (n := d) ⟨hb, fun i _ => by
        have := fwd (x + 6) hs i
        rw [show k + x + o + 6 + i = k + (x + 6) + o + i by omega, this]; congr 1⟩ (Nat.le_refl _)
      exact this
    · rw [← hx]; congr 1; omega
    · have := h2 L2 hl
      rw [show k + x + o + 6 + d + 1 = k + x + 6 + d + 1 + o by omega]
      exact this
  | @rule0 k k1 k2 p L A g e hm m next ih =>
    intro hs
    obtain ⟨c, hc, _, _, _, c4, _⟩ := rule_byte m
    have m' := m
    obtain ⟨d, rfl, _, hb⟩ := rule_iff.1 m
    have a := adv g
    obtain ⟨x, rfl⟩ := Nat.exists_eq_add_of_le a
    have hs2 := fwd (x + d + 1) hs
    obtain ⟨M, h1, h2⟩ := ih (by rw [show k + x + d + 1 = k + (x + d + 1) by omega]; exact hs2)
    refine ⟨⟨[], p.1, p.2, k + x, k + x + d + 1⟩ :: M, by rw [h1]; simp, fun L2 hl => ?_⟩
    simp only [List.length_cons] at hl
    have g' := byBrace (n := x + d) (.inr rfl) g hs (by omega) (by rw [← hb]; congr 1; omega)
    have hx : S'[k + x + o]? = some c := by have := fwd x hs 0; simp only [Nat.add_zero] at this; rw [this]; exact hc
    have e' := (List.getElem?_eq_some_iff.1 hx).1
    refine .rule0 g' e' (no_tok hx c4) (rule_move m' (fun i _ => fwd x hs i) (by omega)) ?_
    have := h2 (L2 ++ [sh o ⟨[], p.1, p.2, k + x, k + x + d + 1⟩]) (by simp; omega)
    rw [show k + x + o + d + 1 = k + x + d + 1 + o by omega]
    simpa [sh] using this
  | @close k k1 n L A g hc next ih =>
    intro hs
    have a := adv g
    obtain ⟨x, rfl⟩ := Nat.exists_eq_add_of_le a
    have hs2 := fwd (x + 1) hs
    obtain ⟨M, h1, h2⟩ := ih hs2
    refine ⟨M, h1, fun L2 hl => ?_⟩
    have hb := one_tok.1 hc
    have g' := byBrace (n := x) (.inr rfl) g hs (by omega) hb
    refine .close g' (one_tok.2 (by have := fwd x hs 0; simp only [Nat.add_zero] at this; rw [this]; exact hb)) ?_
    have := h2 L2 hl
    rw [show k + x + o + 1 = k + x + 1 + o by omega]
    exact this
  | @rule1 k k1 k2 n p L A g hcl m next ih =>
    intro hs
    obtain ⟨c, hc, _, _, _, _, c5⟩ := rule_byte m
    have m' := m
    obtain ⟨d, rfl, _, hb⟩ := rule_iff.1 m
    have a := adv g
    obtain ⟨x, rfl⟩ := Nat.exists_eq_add_of_le a
    have hs2 := fwd (x + d + 1) hs
    obtain ⟨M, h1, h2⟩ := ih (by rw [show k + x + d + 1 = k + (x + d + 1) by omega]; exact hs2)
    refine ⟨⟨n, p.1, p.2, k + x, k + x + d + 1⟩ :: M, by rw [h1]; simp, fun L2 hl => ?_⟩
    simp only [List.length_cons] at hl
    have g' := byBrace (n := x + d) (.inr rfl) g hs (by omega) (by rw [← hb]; congr 1; omega)
    have hx : S'[k + x + o]? = some c := by have := fwd x hs 0; simp only [Nat.add_zero] at this; rw [this]; exact hc
    refine .rule1 g' (no_tok hx c5) (rule_move m' (fun i _ => fwd x hs i) (by omega)) ?_
    have := h2 (L2 ++ [sh o ⟨n, p.1, p.2, k + x, k + x + d + 1⟩]) (by simp; omega)
    rw [show k + x + o + d + 1 = k + x + d + 1 + o by omega]
    simpa [sh] using this

/-- A sheet and then another: the first one's steps are the same. -/
theorem Ps.ahead {s S : List UInt8} {k : Nat} {md : Option (List UInt8)} {L A : List Rl} (h : Ps s k md L A) (hS : S.length ≤ 4000) (hp : ∀ i, i < s.length → S[i]? = s[i]?) (hl : s.length ≤ S.length) :
    k ≤ s.length → ∀ B, Ps S s.length none A B → Ps S k md L B := by
  have adv : ∀ {k k1 : Nat}, gapsTo 4001 s k = .ok k1 → k ≤ k1 := fun h => gapsTo_adv _ _ _ h
  have byBrace : ∀ {k k1 n : Nat} {c : UInt8}, (c = 123 ∨ c = 125) → gapsTo 4001 s k = .ok k1 → k1 ≤ k + n → s[k + n]? = some c → gapsTo 4001 S k = .ok k1 := by
    intro k k1 n c hc g hn hb
    have a := adv g
    obtain ⟨d, rfl⟩ := Nat.exists_eq_add_of_le a
    have hlt := (List.getElem?_eq_some_iff.1 hb).1
    exact gapsTo_loc hc 4001 k k n d g ⟨hb, fun i hi => hp _ (by omega)⟩ (by omega)
  induction h with
  | @fin k k1 L g e =>
    intro hk B hB
    have a := adv g
    have b := gapsTo_le _ _ _ g hk
    obtain ⟨d, rfl⟩ := Nat.exists_eq_add_of_le a
    refine hB.congr ?_
    rw [gaps_run hS 4001 k k d g (fun i hi => hp _ (by omega))]
    congr 1; omega
  | @media k k1 k2 n L A g e hm m next ih =>
    intro hk B hB
    obtain ⟨d, rfl, mb, hb⟩ := mediaHead_iff.1 m
    have a := adv g
    have hlt := (List.getElem?_eq_some_iff.1 hb).1
    obtain ⟨x, rfl⟩ := Nat.exists_eq_add_of_le a
    have g' := byBrace (n := x + 6 + d) (.inl rfl) g (by omega) (by rw [← hb]; congr 1; omega)
    refine .media (n := n) g' (by omega) ?_ (mediaHead_iff.2 ⟨d, rfl, ?_, ?_⟩) (ih (by omega) B hB)
    · rw [has_in (S := s) (k := k + x) (n := 6) (fun i hi => hp _ (by omega)) (by decide)]; exact hm
    · exact loc_mediaBody.loc mb (n := d) ⟨hb, fun i hi => hp _ (by omega)⟩ (Nat.le_refl _)
    · rw [hp _ hlt]; exact hb
  | @rule0 k k1 k2 p L A g e hm m next ih =>
    intro hk B hB
    obtain ⟨c, hc, _, _, _, c4, _⟩ := rule_byte m
    have m' := m
    have hn := rule_n m
    obtain ⟨d, rfl, _, hb⟩ := rule_iff.1 m
    have a := adv g
    have hlt := (List.getElem?_eq_some_iff.1 hb).1
    obtain ⟨x, rfl⟩ := Nat.exists_eq_add_of_le a
    have g' := byBrace (n := x + d) (.inr rfl) g (by omega) (by rw [← hb]; congr 1; omega)
    exact .rule0 g' (by omega) (no_tok (by rw [hp _ e]; exact hc) c4) (rule_move m' (fun i hi => hp _ (by omega)) hn) (ih (by omega) B hB)
  | @close k k1 n L A g hc next ih =>
    intro hk B hB
    have hb := one_tok.1 hc
    have a := adv g
    have hlt := (List.getElem?_eq_some_iff.1 hb).1
    obtain ⟨x, rfl⟩ := Nat.exists_eq_add_of_le a
    have g' := byBrace (n := x) (.inr rfl) g (by omega) hb
    exact .close g' (one_tok.2 (by rw [hp _ hlt]; exact hb)) (ih (by omega) B hB)
  | @rule1 k k1 k2 n p L A g hcl m next ih =>
    intro hk B hB
    obtain ⟨c, hc, _, _, _, _, c5⟩ := rule_byte m
    have m' := m
    have hn := rule_n m
    obtain ⟨d, rfl, _, hb⟩ := rule_iff.1 m
    have a := adv g
    have hlt := (List.getElem?_eq_some_iff.1 hb).1
    have hlt2 := (List.getElem?_eq_some_iff.1 hc).1
    obtain ⟨x, rfl⟩ := Nat.exists_eq_add_of_le a
    have g' := byBrace (n := x + d) (.inr rfl) g (by omega) (by rw [← hb]; congr 1; omega)
    exact .rule1 g' (no_tok (by rw [hp _ hlt2]; exact hc) c5) (rule_move m' (fun i hi => hp _ (by omega)) hn) (ih (by omega) B hB)

/-- One sheet behind the other. -/
theorem sheet_joined {s t : List UInt8} {A B : List Rl} (hA : sheetParse s = .ok A) (hB : sheetParse t = .ok B) (hl : s.length + t.length + 1 ≤ 4000) (h60 : A.length + B.length ≤ 60) :
    sheetParse (s ++ [10] ++ t) = .ok (A ++ B.map (sh (s.length + 1))) := by
  have hlen : (s ++ [10] ++ t).length = s.length + 1 + t.length := by simp; omega
  rw [Ps.iff (by omega)] at hA hB ⊢
  refine hA.ahead (by omega) (fun i hi => ?_) (by omega) (Nat.zero_le _) _ ?_
  · rw [List.append_assoc, List.getElem?_append_left hi]
  obtain ⟨M, h1, h2⟩ := hB.shift (S' := s ++ [10] ++ t) (by omega) (s.length + 1) (fun i => by
    rw [List.getElem?_append_right (by simp)]
    congr 1
    simp)
  simp only [List.nil_append] at h1
  subst h1
  have := h2 A h60
  rw [Nat.zero_add] at this
  refine this.congr ?_
  refine gp_blank (by omega) (.inr (one_tok.2 ?_))
  rw [List.append_assoc, List.getElem?_append_right (Nat.le_refl _)]
  simp

theorem blanks_run {S : List UInt8} (hS : S.length ≤ 4000) : ∀ (d k : Nat), (∀ i, i < d → S[k + i]? = some 32) → gapsTo 4001 S k = gapsTo 4001 S (k + d)
  | 0, _, _ => rfl
  | d + 1, k, h => by
    rw [gp_blank hS (.inl (one_tok.2 (by simpa using h 0 (by omega)))), blanks_run hS d (k + 1) (fun i hi => by
      have := h (1 + i) (by omega)
      rw [← Nat.add_assoc] at this
      exact this)]
    congr 1; omega

/-- A rule that is blanked out is gone, and nothing else. -/
theorem Ps.blank {S S' : List UInt8} {k : Nat} {md : Option (List UInt8)} {L A : List Rl} (h : Ps S k md L A) (hS : S.length ≤ 4000) (hl : S'.length = S.length) (a b : Nat)
    (out : ∀ i, i < a ∨ b ≤ i → S'[i]? = S[i]?) (within : ∀ i, a ≤ i → i < b → S'[i]? = some 32) (hA : A.length ≤ 60) :
    ∀ (M : List Rl) (x : Nat) (hx : x < M.length), A = L ++ M → M[x].from_ = a → M[x].to_ = b → Ps S' k md L (L ++ M.eraseIdx x) := by
  have adv : ∀ {k k1 : Nat}, gapsTo 4001 S k = .ok k1 → k ≤ k1 := fun h => gapsTo_adv _ _ _ h
  have byBrace : ∀ {k k1 n : Nat} {c : UInt8}, (c = 123 ∨ c = 125) → gapsTo 4001 S k = .ok k1 → k1 ≤ k + n → S[k + n]? = some c → k + n < a → gapsTo 4001 S' k = .ok k1 := by
    intro k k1 n c hc g hn hb ha
    have a1 := adv g
    obtain ⟨d, rfl⟩ := Nat.exists_eq_add_of_le a1
    exact gapsTo_loc hc 4001 k k n d g ⟨hb, fun i hi => out _ (.inl (by omega))⟩ (by omega)
  have here : ∀ {k k1 d : Nat} {md : Option (List UInt8)} {r : Rl} {L A M : List Rl}, gapsTo 4001 S k = .ok k1 → k1 = a → k1 + d + 1 = b → Ps S (k1 + d + 1) md (L ++ [r]) A → A = L ++ (r :: M) → A.length ≤ 60 → Ps S' k md L (L ++ M) := by
    intro k k1 d md r L A M g e1 e2 next hM hA
    obtain ⟨M2, h1, h2⟩ := next.shift (S' := S') (by omega) 0 (fun i => by rw [Nat.add_zero]; exact out _ (.inr (by omega)))
    have : M2 = M := by
      rw [hM] at h1
      simp at h1
      exact h1.symm
    subst this
    have h3 := h2 L (by rw [hM] at hA; simp at hA; omega)
    have e0 : M2.map (sh 0) = M2 := by
      have : ∀ r : Rl, sh 0 r = r := fun r => by simp [sh]
      simp [List.map_congr_left (fun r _ => this r)]
    rw [e0, Nat.add_zero] at h3
    refine h3.congr ?_
    have a1 := adv g
    obtain ⟨y, rfl⟩ := Nat.exists_eq_add_of_le a1
    rw [gaps_run (S := S) (by omega) 4001 k k y g (fun i hi => out _ (.inl (by omega))), blanks_run (by omega) (d + 1) (k + y) (fun i hi => within _ (by omega) (by omega))]
    rfl
  induction h with
  | fin g e =>
    intro M x hx hM _ _
    have : M = [] := by simpa using hM
    subst this
    exact absurd hx (by simp)
  | @media k k1 k2 n L A g e hm m next ih =>
    intro M x hx hM ha hb'
    obtain ⟨M2, c1, c2, _⟩ := next.chain
    have : M2 = M := by rw [hM] at c1; simpa using c1.symm
    subst this
    have hfrom := (c2.mem _ (List.getElem_mem hx)).1
    obtain ⟨d, rfl, mb, hb⟩ := mediaHead_iff.1 m
    have a1 := adv g
    have hlt := (List.getElem?_eq_some_iff.1 hb).1
    obtain ⟨y, rfl⟩ := Nat.exists_eq_add_of_le a1
    have g' := byBrace (n := y + 6 + d) (.inl rfl) g (by omega) (by rw [← hb]; congr 1; omega) (by omega)
    refine .media (n := n) g' (by omega) ?_ (mediaHead_iff.2 ⟨d, rfl, ?_, ?_⟩) (ih hA M2 x hx hM ha hb')
    · rw [has_in (S := S) (k := k + y) (n := 6) (fun i hi => out _ (.inl (by omega))) (by decide)]; exact hm
    · exact loc_mediaBody.loc mb (n := d) ⟨hb, fun i hi => out _ (.inl (by omega))⟩ (Nat.le_refl _)
    · rw [out _ (.inl (by omega))]; exact hb
  | @rule0 k k1 k2 p L A g e hm m next ih =>
    intro M x hx hM ha hb'
    obtain ⟨M2, c1, c2, _⟩ := next.chain
    have hMM : M = ⟨[], p.1, p.2, k1, k2⟩ :: M2 := by rw [hM] at c1; simpa using c1
    subst hMM
    obtain ⟨c, hc, _, _, _, c4, _⟩ := rule_byte m
    have m' := m
    have hn := rule_n m
    obtain ⟨d, rfl, _, hb⟩ := rule_iff.1 m
    cases x with
    | zero => exact here g ha hb' next hM hA
    | succ x =>
      have hx' : x < M2.length := by simpa using hx
      simp only [List.getElem_cons_succ] at ha hb'
      have hfrom := (c2.mem _ (List.getElem_mem hx')).1
      have a1 := adv g
      have hlt := (List.getElem?_eq_some_iff.1 hb).1
      obtain ⟨y, rfl⟩ := Nat.exists_eq_add_of_le a1
      have g' := byBrace (n := y + d) (.inr rfl) g (by omega) (by rw [← hb]; congr 1; omega) (by omega)
      have := ih hA M2 x hx' (by rw [hM]; simp) ha hb'
      refine .rule0 g' (by omega) (no_tok (by rw [out _ (.inl (by omega))]; exact hc) c4) (rule_move m' (fun i hi => out _ (.inl (by omega))) hn) ?_
      simpa using this
  | @close k k1 n L A g hcl next ih =>
    intro M x hx hM ha hb'
    obtain ⟨M2, c1, c2, _⟩ := next.chain
    have : M2 = M := by rw [hM] at c1; simpa using c1.symm
    subst this
    have hfrom := (c2.mem _ (List.getElem_mem hx)).1
    have hb := one_tok.1 hcl
    have a1 := adv g
    obtain ⟨y, rfl⟩ := Nat.exists_eq_add_of_le a1
    have g' := byBrace (n := y) (.inr rfl) g (by omega) hb (by omega)
    exact .close g' (one_tok.2 (by rw [out _ (.inl (by omega))]; exact hb)) (ih hA M2 x hx hM ha hb')
  | @rule1 k k1 k2 n p L A g hcl m next ih =>
    intro M x hx hM ha hb'
    obtain ⟨M2, c1, c2, _⟩ := next.chain
    have hMM : M = ⟨n, p.1, p.2, k1, k2⟩ :: M2 := by rw [hM] at c1; simpa using c1
    subst hMM
    obtain ⟨c, hc, _, _, _, _, c5⟩ := rule_byte m
    have m' := m
    have hn := rule_n m
    obtain ⟨d, rfl, _, hb⟩ := rule_iff.1 m
    cases x with
    | zero => exact here g ha hb' next hM hA
    | succ x =>
      have hx' : x < M2.length := by simpa using hx
      simp only [List.getElem_cons_succ] at ha hb'
      have hfrom := (c2.mem _ (List.getElem_mem hx')).1
      have a1 := adv g
      obtain ⟨y, rfl⟩ := Nat.exists_eq_add_of_le a1
      have g' := byBrace (n := y + d) (.inr rfl) g (by omega) (by rw [← hb]; congr 1; omega) (by omega)
      have := ih hA M2 x hx' (by rw [hM]; simp) ha hb'
      refine .rule1 g' (no_tok (by rw [out _ (.inl (by omega))]; exact hc) c5) (rule_move m' (fun i hi => out _ (.inl (by omega))) hn) ?_
      simpa using this

def mwideL : List UInt8 := [64, 109, 101, 100, 105, 97, 32, 119, 105, 100, 101, 123]
def wideN : List UInt8 := [119, 105, 100, 101]
/-- The same rule, of that media, so much on. -/
def mw (r : Rl) : Rl := { sh 12 r with media := wideN }

theorem media_in {s : List UInt8} {k : Nat} {md : Option (List UInt8)} {L A : List Rl} (h : Ps s k md L A) (hl : s.length + 13 ≤ 4000) : md = none → k ≤ s.length →
    ∀ L' : List Rl, L'.length = L.length → ∀ f, s.length + 13 - (12 + k) < f →
      (∃ M, A = L ++ M ∧ rulesTo f (mwideL ++ s ++ [125]) (12 + k) (some wideN) L' = .ok (L' ++ M.map mw)) ∨
      ((∃ r ∈ A, r.media ≠ []) ∨ ∃ x, rulesTo f (mwideL ++ s ++ [125]) (12 + k) (some wideN) L' = .error (2, x) ∧ 64 ∈ s) := by
  have len : (mwideL ++ s ++ [125]).length = s.length + 13 := by simp [mwideL]
  have inn : ∀ i, i < s.length → (mwideL ++ s ++ [125])[12 + i]? = s[i]? := fun i hi => by
    rw [List.append_assoc, List.getElem?_append_right (by simp [mwideL]), List.getElem?_append_left (by simp [mwideL]; exact hi)]
    congr 1
    simp [mwideL]
  have lst : (mwideL ++ s ++ [125])[12 + s.length]? = some 125 := by
    rw [List.append_assoc, List.getElem?_append_right (by simp [mwideL]), List.getElem?_append_right (by simp [mwideL])]
    simp [mwideL]
  have adv : ∀ {k k1 : Nat}, gapsTo 4001 s k = .ok k1 → k ≤ k1 := fun h => gapsTo_adv _ _ _ h
  generalize mwideL ++ s ++ [125] = S' at *
  have byBrace : ∀ {k k1 n : Nat} {c : UInt8}, (c = 123 ∨ c = 125) → gapsTo 4001 s k = .ok k1 → k1 ≤ k + n → s[k + n]? = some c → gapsTo 4001 S' (12 + k) = .ok (12 + k1) := by
    intro k k1 n c hc g hn hb
    have a := adv g
    obtain ⟨d, rfl⟩ := Nat.exists_eq_add_of_le a
    have hlt := (List.getElem?_eq_some_iff.1 hb).1
    have := gapsTo_loc hc 4001 k (12 + k) n d g ⟨hb, fun i hi => by rw [Nat.add_assoc]; exact inn _ (by omega)⟩ (by omega)
    rw [this]; congr 1; omega
  induction h with
  | @fin k k1 L g e =>
    intro _ hk L' hL f hf
    left
    refine ⟨[], by simp, ?_⟩
    have a := adv g
    have b := gapsTo_le _ _ _ g hk
    obtain ⟨d, rfl⟩ := Nat.exists_eq_add_of_le a
    have r := gaps_run (S' := S') (by omega) 4001 k (12 + k) d g (fun i hi => by rw [Nat.add_assoc]; exact inn _ (by omega))
    rw [show 12 + k + d = 12 + s.length by omega, gp_stop_at lst (by decide) (by decide) (by decide)] at r
    have q : Ps S' (12 + k) (some wideN) L' L' := .close r (one_tok.2 lst) (.fin (gp_end (by omega)) (by omega))
    rw [q.to_rulesTo f (by omega)]
    simp
  | @media k k1 k2 n L A g e hm m next ih =>
    intro _ hk L' hL f hf
    right
    right
    obtain ⟨d, rfl, mb, hb⟩ := mediaHead_iff.1 m
    have a := adv g
    have hlt := (List.getElem?_eq_some_iff.1 hb).1
    obtain ⟨x, rfl⟩ := Nat.exists_eq_add_of_le a
    have g' := byBrace (n := x + 6 + d) (.inl rfl) g (by omega) (by rw [← hb]; congr 1; omega)
    have h64 := (has_lt (x := 0) hm (by decide)).1
    rw [Nat.add_zero] at h64
    have h64' : S'[12 + (k + x)]? = some 64 := by rw [inn _ e]; exact h64
    obtain ⟨f, rfl⟩ : ∃ f', f = f' + 1 := ⟨f - 1, by omega⟩
    refine ⟨12 + (k + x), ?_, ?_⟩
    · have hp : hasPart S' (12 + (k + x)) = false := by
        cases hh : hasPart S' (12 + (k + x)) with
        | false => rfl
        | true =>
          obtain ⟨c, hc, hx⟩ := hasPart_byte hh
          rw [h64'] at hc
          injection hc with hc
          subst hc
          exact absurd hx (by decide)
      have hr : rule L'.length S' (12 + (k + x)) = .error (2, 12 + (k + x)) := by
        unfold rule bnd aheadOfPart
        rw [if_pos hp]
      rw [rulesTo, gaps_iff.2 ⟨g', rfl⟩]
      simp only
      rw [if_neg (by rw [no_tok h64' (by decide)]; decide), hr]
    · exact List.mem_of_getElem? h64
  | @rule0 k k1 k2 p L A g e hm m next ih =>
    intro _ hk L' hL f hf
    obtain ⟨c, hc, _, _, _, c4, c5⟩ := rule_byte m
    have m' := m
    have hn := rule_n m
    obtain ⟨d, rfl, _, hb⟩ := rule_iff.1 m
    have a := adv g
    have hlt := (List.getElem?_eq_some_iff.1 hb).1
    obtain ⟨x, rfl⟩ := Nat.exists_eq_add_of_le a
    have g' := byBrace (n := x + d) (.inr rfl) g (by omega) (by rw [← hb]; congr 1; omega)
    have hc' : S'[12 + (k + x)]? = some c := by rw [inn _ e]; exact hc
    have r' : rule L'.length S' (12 + (k + x)) = .ok (p, 12 + (k + x) + d + 1) := rule_move m' (fun i hi => by rw [Nat.add_assoc]; exact inn _ (by omega)) (by omega)
    obtain ⟨f, rfl⟩ : ∃ f', f = f' + 1 := ⟨f - 1, by omega⟩
    have step : rulesTo (f + 1) S' (12 + k) (some wideN) L' = rulesTo f S' (12 + (k + x + d + 1)) (some wideN) (L' ++ [mw ⟨[], p.1, p.2, k + x, k + x + d + 1⟩]) := by
      rw [rulesTo, gaps_iff.2 ⟨g', rfl⟩]
      simp only
      rw [if_neg (by rw [no_tok hc' c5]; decide), r']
      simp only [mw, sh]
      rw [show 12 + (k + x) + d + 1 = 12 + (k + x + d + 1) by omega, show 12 + (k + x) = k + x + 12 by omega, show 12 + (k + x + d + 1) = k + x + d + 1 + 12 by omega]
    rcases ih rfl (by omega) (L' ++ [mw ⟨[], p.1, p.2, k + x, k + x + d + 1⟩]) (by simp [hL]) f (by omega) with ⟨M, h1, h2⟩ | h2 | ⟨y, h2, h3⟩
    · left
      refine ⟨⟨[], p.1, p.2, k + x, k + x + d + 1⟩ :: M, by rw [h1]; simp, ?_⟩
      rw [step, h2]
      simp
    · exact .inr (.inl h2)
    · exact .inr (.inr ⟨y, by rw [step]; exact h2, h3⟩)
  | close g hc next ih => intro h; cases h
  | rule1 g hc m next ih => intro h; cases h

/-- Within media they are the same. -/
theorem sheet_media {s : List UInt8} {A : List Rl} (hA : sheetParse s = .ok A) (hl : s.length + 20 ≤ 4000) (hm : ∀ r ∈ A, r.media = []) :
    sheetParse (mwideL ++ s ++ [125]) = .ok (A.map mw) ∨ ∃ x, sheetParse (mwideL ++ s ++ [125]) = .error (2, x) ∧ 64 ∈ s := by
  have len : (mwideL ++ s ++ [125]).length = s.length + 13 := by simp [mwideL]
  rw [Ps.iff (by omega)] at hA
  have head : rulesTo 4001 (mwideL ++ s ++ [125]) 0 none [] = rulesTo 4000 (mwideL ++ s ++ [125]) 12 (some wideN) [] := by
    have e0 : ∀ i (hi : i < 12), (mwideL ++ s ++ [125])[i]? = some (mwideL[i]'(by simpa [mwideL] using hi)) := fun i hi => by
      rw [List.append_assoc, List.getElem?_append_left (by simpa [mwideL] using hi)]
      exact List.getElem?_eq_getElem _
    generalize mwideL ++ s ++ [125] = S' at *
    have b0 : S'[0]? = some 64 := e0 0 (by omega)
    have b6 : S'[6]? = some 32 := e0 6 (by omega)
    have b7 : S'[7]? = some 119 := e0 7 (by omega)
    have b11 : S'[11]? = some 123 := e0 11 (by omega)
    have g0 : gapsTo 4001 S' 0 = .ok 0 := gp_stop_at b0 (by decide) (by decide) (by decide)
    have hm : has S' 0 mediaL = true := by
      rw [has_iff]
      intro j hj
      have hj' : j < 6 := hj
      rw [Nat.zero_add, e0 j (by omega)]
      congr 1
      match j, hj' with
      | 0, _ => rfl
      | 1, _ => rfl
      | 2, _ => rfl
      | 3, _ => rfl
      | 4, _ => rfl
      | 5, _ => rfl
    have mh : mediaHead S' 6 = .ok (wideN, 12) := by
      have g1 : gaps S' 6 = .ok (true, 7) := gaps_iff.2 ⟨by rw [gp_blank (by omega) (.inl (one_tok.2 b6)), gp_stop_at b7 (by decide) (by decide) (by decide)], rfl⟩
      have g2 : gaps S' 11 = .ok (false, 11) := gaps_iff.2 ⟨gp_stop_at b11 (by decide) (by decide) (by decide), rfl⟩
      have ft : ∀ j (hj : j < 12) (q : UInt8 → Bool), fitsAt S' j q = q (mwideL[j]'(by simpa [mwideL] using hj)) := fun j hj q => by unfold fitsAt; rw [e0 j hj]
      have w : whileEnd S' 8 nameB = 11 := by
        rw [whileEnd_iff (by omega)]
        refine ⟨fun j h1 h2 => ?_, by rw [ft 11 (by omega)]; rfl⟩
        match j, h1, h2 with
        | 8, _, _ => rw [ft 8 (by omega)]; rfl
        | 9, _, _ => rw [ft 9 (by omega)]; rfl
        | 10, _, _ => rw [ft 10 (by omega)]; rfl
      have sb : sub S' 7 11 = wideN := by
        apply List.ext_getElem?
        intro i
        by_cases hi : i < 4
        · rw [sub_get i (by omega), e0 (7 + i) (by omega)]
          match i, hi with
          | 0, _ => rfl
          | 1, _ => rfl
          | 2, _ => rfl
          | 3, _ => rfl
        · rw [List.getElem?_eq_none (by rw [sub_len (by omega)]; omega), List.getElem?_eq_none (by show 4 ≤ i; omega)]
      have sn : sname S' 7 = .ok (wideN, 11) := by
        unfold sname nameTo
        rw [ft 7 (by omega), if_pos (by rfl), w]
        simp only
        rw [sb, if_neg (by decide)]
      have tk : tok [123] S' 11 = .ok ((), 12) := tok_iff.2 ⟨b11, rfl⟩
      simp only [mediaHead, bnd, g1, sn, g2, tk, ret, if_true]
    rw [rulesTo, gaps_iff.2 ⟨g0, rfl⟩]
    simp only
    rw [if_neg (by omega), if_pos hm, show 0 + 6 = 6 from rfl, mh]
  have sp : sheetParse (mwideL ++ s ++ [125]) = rulesTo 4000 (mwideL ++ s ++ [125]) 12 (some wideN) [] := by
    unfold sheetParse sheetAll
    rw [if_neg (by omega), head]
  rw [sp]
  rcases media_in hA (by omega) rfl (Nat.zero_le _) [] rfl 4000 (by omega) with ⟨M, h1, h2⟩ | ⟨r, hr, hne⟩ | ⟨x, h1, h2⟩
  · left
    simp only [List.nil_append] at h1 h2
    rw [h1]
    exact h2
  · exact absurd (hm r hr) hne
  · exact .inr ⟨x, h1, h2⟩
end Go.Proofs.YtfobkiglmphgjabGreatDoor.Sh

namespace Go.Proofs.YtfobkiglmphgjabGreatDoor.Sh
open Go

/-- A fault is one, and lies within the text; an answer goes on, within the text. -/
def Fine {α : Type} (S : List UInt8) (k : Nat) : Res (α × Nat) → Prop
  | .error x => x.1 ≠ 0 ∧ x.2 ≤ S.length
  | .ok (_, m) => k ≤ m ∧ m ≤ S.length

def Sane {α : Type} (f : Pr α) : Prop := ∀ (S : List UInt8) (k : Nat), S.length ≤ 4000 → k ≤ S.length → Fine S k (f S k)

theorem sane_ret {α : Type} (a : α) : Sane (ret a) := fun _ _ _ hk => ⟨Nat.le_refl _, hk⟩
theorem sane_bad {α : Type} {e : Nat} (he : e ≠ 0) : Sane (bad (α := α) e) := fun _ _ _ hk => ⟨he, hk⟩
theorem sane_if {α : Type} {P : α → Prop} {β : Type} {f : Pr α} {g : α → Pr β} (hf : Sane f) (hP : ∀ S k a m, f S k = .ok (a, m) → P a) (hg : ∀ a, P a → Sane (g a)) : Sane (bnd f g) := by
  intro S k hS hk
  have h := hf S k hS hk
  unfold bnd
  cases e : f S k with
  | error x => rw [e] at h; exact h
  | ok q =>
    obtain ⟨a, m⟩ := q
    rw [e] at h
    have h2 := hg a (hP S k a m e) S m hS h.2
    show Fine S k (g a S m)
    cases e2 : g a S m with
    | error x => rw [e2] at h2; exact h2
    | ok q => rw [e2] at h2; exact ⟨Nat.le_trans h.1 h2.1, h2.2⟩
theorem sane_bnd {α β : Type} {f : Pr α} {g : α → Pr β} (hf : Sane f) (hg : ∀ a, Sane (g a)) : Sane (bnd f g) := sane_if (P := fun _ => True) hf (fun _ _ _ _ _ => trivial) (fun a _ => hg a)
theorem sane_opt {α : Type} {t : List UInt8} {f g : Pr α} (hf : Sane f) (hg : Sane g) : Sane (opt t f g) := by
  intro S k hS hk
  unfold opt
  split
  · rename_i hh
    have := has_le hh hk
    have h := hf S (k + t.length) hS this
    cases e : f S (k + t.length) with
    | error x => rw [e] at h; exact h
    | ok q => rw [e] at h; exact ⟨by have := h.1; omega, h.2⟩
  · exact hg S k hS hk
theorem sane_look {α : Type} {t : List UInt8} {f g : Pr α} (hf : Sane f) (hg : Sane g) : Sane (look t f g) := by
  intro S k hS hk
  unfold look
  split
  · exact hf S k hS hk
  · exact hg S k hS hk
theorem sane_fits {α : Type} {p : UInt8 → Bool} {f g : Pr α} (hf : Sane f) (hg : Sane g) : Sane (fits p f g) := by
  intro S k hS hk
  unfold fits
  split
  · exact hf S k hS hk
  · exact hg S k hS hk
theorem sane_ended {α : Type} {f g : Pr α} (hf : Sane f) (hg : Sane g) : Sane (ended f g) := by
  intro S k hS hk
  unfold ended
  split
  · exact hf S k hS hk
  · exact hg S k hS hk
theorem sane_ite {α : Type} {q : Prop} [Decidable q] {f g : Pr α} (hf : q → Sane f) (hg : ¬ q → Sane g) : Sane (if q then f else g) := by
  split
  · rename_i h; exact hf h
  · rename_i h; exact hg h
theorem sane_tok {t : List UInt8} : Sane (tok t) := sane_opt (sane_ret _) (sane_bad (by decide))

theorem gapsTo_fine {S : List UInt8} : ∀ (f k : Nat), S.length - k < f → k ≤ S.length → match gapsTo f S k with | .error x => x.1 ≠ 0 ∧ x.2 ≤ S.length | .ok m => k ≤ m ∧ m ≤ S.length
  | 0, _, h, _ => absurd h (Nat.not_lt_zero _)
  | f + 1, k, h, hk => by
    have more : ∀ k', k < k' → k' ≤ S.length → (match gapsTo f S k' with | .error x => x.1 ≠ 0 ∧ x.2 ≤ S.length | .ok m => k ≤ m ∧ m ≤ S.length) := by
      intro k' h1 h2
      have := gapsTo_fine f k' (by omega) h2
      cases e : gapsTo f S k' with
      | error x => rw [e] at this; exact this
      | ok m => rw [e] at this; exact ⟨by have := this.1; omega, this.2⟩
    rw [gapsTo]
    by_cases a1 : has S k [32] = true
    · rw [if_pos a1]
      have := (has_lt (x := 0) a1 (by simp)).2
      exact more (k + 1) (by omega) (by omega)
    rw [if_neg a1]
    by_cases a2 : has S k [10] = true
    · rw [if_pos a2]
      have := (has_lt (x := 0) a2 (by simp)).2
      exact more (k + 1) (by omega) (by omega)
    rw [if_neg a2]
    by_cases a3 : has S k [47, 42] = true
    · rw [if_pos a3]
      cases hp : pastAt S (k + 2) [42, 47] with
      | none => exact ⟨by simp, hk⟩
      | some e =>
        have p := (pastAt_iff (by simp)).1 hp
        have := (has_lt (x := 1) p.2.1 (by simp)).2
        exact more (e + 2) (by omega) (by omega)
    · rw [if_neg a3]
      exact ⟨Nat.le_refl _, hk⟩
theorem sane_gaps : Sane gaps := by
  intro S k hS hk
  have := gapsTo_fine 4001 k (by omega) hk
  unfold gaps
  cases e : gapsTo 4001 S k with
  | error x => rw [e] at this; exact this
  | ok m => rw [e] at this; exact this
theorem sane_sname : Sane sname := by
  intro S k hS hk
  unfold sname
  cases e : nameTo S k with
  | error x =>
    unfold nameTo at e
    split at e
    · cases e
    · injection e with e
      subst e
      exact ⟨by simp, hk⟩
  | ok m =>
    have := nameTo_le e
    simp only
    split
    · exact ⟨by simp, hk⟩
    · exact ⟨by omega, this.2⟩
theorem sane_word (ahead : List UInt8) : Sane (word ahead) := by
  intro S k hS hk
  have hw := whileEnd_le wordB hk
  simp only [word, chars]
  split
  · exact ⟨by simp, hk⟩
  split
  · exact ⟨by simp, hk⟩
  have h := sane_bnd sane_gaps (fun _ => sane_ret (ahead ++ sub S k (whileEnd S k wordB))) S (whileEnd S k wordB) hS hw.2
  generalize bnd gaps (fun _ => ret (ahead ++ sub S k (whileEnd S k wordB))) S (whileEnd S k wordB) = q at h ⊢
  cases q with
  | error x => exact h
  | ok q => exact ⟨Nat.le_trans hw.1 h.1, h.2⟩
theorem word_grows {ahead : List UInt8} {S : List UInt8} {k k' : Nat} {v : List UInt8} (h : word ahead S k = .ok (v, k')) : v.length ≤ 60 ∧ ahead.length < v.length := by
  simp only [word, chars] at h
  split at h
  · cases h
  rename_i hne
  split at h
  · cases h
  rename_i h60
  rw [bnd_ok] at h
  obtain ⟨_, m1, _, h2⟩ := h
  injection h2 with h2
  injection h2 with h2 _
  have : 0 < (sub S k (whileEnd S k wordB)).length := List.length_pos_iff.2 hne
  rw [← h2, List.length_append]
  omega
theorem sane_valueTo : ∀ (f : Nat) (v : List UInt8), v.length ≤ 60 → 60 < v.length + f → Sane (valueTo f v)
  | 0, v, h1, h2 => by omega
  | f + 1, v, h1, h2 => sane_fits (sane_if (P := fun u => u.length ≤ 60 ∧ v.length + 1 < u.length) (sane_word _) (fun S k a m e => by
      have := word_grows e
      simp at this
      exact this) (fun u hu => sane_valueTo f u hu.1 (by omega))) (sane_ret v)
theorem sane_value : Sane value := sane_if (P := fun u => u.length ≤ 60) (sane_word _) (fun S k a m e => (word_grows e).1) (fun u hu => sane_valueTo 62 u hu (by omega))
theorem sane_decl : Sane decl :=
  sane_bnd sane_sname fun _ => sane_bnd sane_gaps fun _ => sane_bnd sane_tok fun _ => sane_bnd sane_gaps fun _ => sane_bnd sane_value fun _ =>
    sane_opt (sane_bnd sane_tok fun _ => sane_bnd sane_gaps fun _ => sane_ret _) (sane_ret _)
theorem decl_letter' {S : List UInt8} {k k' : Nat} {d : Dcl} (h : decl S k = .ok (d, k')) : fitsAt S k letterB = true := by
  unfold decl at h
  rw [bnd_ok] at h
  obtain ⟨n, m, h1, _⟩ := h
  unfold sname nameTo at h1
  cases hf : fitsAt S k letterB with
  | true => rfl
  | false => rw [hf] at h1; cases h1
theorem sane_declsTo : ∀ (f : Nat) (l : List Dcl), f + l.length = 22 → l.length ≤ 20 → Sane (declsTo f l)
  | 0, l, h1, h2 => by omega
  | f + 1, l, h1, h2 => by
    refine sane_ended (sane_ret l) (sane_look (sane_ret l) ?_)
    by_cases h20 : 20 ≤ l.length
    · rw [if_pos h20]
      intro S k hS hk
      cases hf : fitsAt S k letterB with
      | true =>
        unfold bnd fits
        rw [if_pos hf]
        exact ⟨by simp, hk⟩
      | false =>
        have e : fits letterB (bad 5) (ret ()) S k = .ok ((), k) := by unfold fits; rw [if_neg (by rw [hf]; decide)]; rfl
        have hd := sane_decl S k hS hk
        cases ed : decl S k with
        | error x =>
          rw [ed] at hd
          simp only [bnd, e, ed]
          exact hd
        | ok q =>
          obtain ⟨d, m⟩ := q
          have := decl_letter' ed
          rw [hf] at this
          cases this
    · rw [if_neg h20]
      exact sane_bnd (sane_ret ()) fun _ => sane_bnd sane_decl fun d => sane_opt (sane_bnd sane_gaps fun _ => sane_declsTo f (l ++ [d]) (by simp; omega) (by simp; omega)) (sane_ret _)
theorem sane_decls : Sane decls := sane_bnd sane_gaps fun _ => sane_declsTo 22 [] (by simp) (by simp)
theorem sane_aheadOfPart (n most : Nat) : Sane (aheadOfPart n most) := by
  intro S k hS hk
  unfold aheadOfPart
  split
  · exact ⟨by simp, hk⟩
  split
  · exact ⟨by simp, hk⟩
  · exact ⟨Nat.le_refl _, hk⟩
theorem sane_attrTest : Sane attrTest := sane_bnd sane_sname fun _ => sane_ite (fun _ => sane_bad (by decide)) (fun _ => sane_bnd (sane_opt (sane_bnd sane_sname fun _ => sane_ret _) (sane_ret _)) fun _ => sane_bnd sane_tok fun _ => sane_ret _)
theorem sane_test : Sane test := sane_opt (sane_bnd sane_sname fun _ => sane_ret _) (sane_opt (sane_bnd sane_sname fun _ => sane_ret _) (sane_opt (sane_ret _) (sane_opt sane_attrTest (sane_ret _))))
theorem sane_testsTo : ∀ (f : Nat) (l : List Tst), 8 ≤ f + l.length → l.length ≤ 6 → Sane (testsTo f l)
  | 0, l, h1, h2 => by omega
  | f + 1, l, h1, h2 => sane_bnd sane_test fun t => sane_ite (fun _ => sane_ret l) (fun _ => sane_ite (fun _ => sane_bad (by decide)) (fun h => sane_testsTo f (l ++ [t]) (by simp; omega) (by simp; omega)))
theorem partHead_len {S : List UInt8} {k m : Nat} {l : List Tst} (h : partHead S k = .ok (l, m)) : l.length ≤ 1 := by
  unfold partHead opt at h
  split at h
  · injection h with h; injection h with h _; rw [← h]; simp
  unfold fits at h
  split at h
  · rw [bnd_ok] at h
    obtain ⟨n, m1, _, h2⟩ := h
    injection h2 with h2; injection h2 with h2 _; rw [← h2]; simp
  · injection h with h; injection h with h _; rw [← h]; simp
theorem sane_part (j : Nat) : Sane (part j) := sane_if (P := fun l => l.length ≤ 1) (sane_opt (sane_ret _) (sane_fits (sane_bnd sane_sname fun _ => sane_ret _) (sane_ret _))) (fun S k a m e => partHead_len e) (fun l hl => sane_bnd (sane_testsTo 8 l (by omega) (by omega)) fun _ => sane_ret _)
theorem sane_join : Sane join := sane_bnd sane_gaps fun _ => sane_opt (sane_bnd sane_gaps fun _ => sane_ret _) (sane_opt (sane_bnd sane_gaps fun _ => sane_ret _) (sane_ite (fun _ => sane_look (sane_ret _) (sane_look (sane_ret _) (sane_ended (sane_ret _) (sane_ret _)))) (fun _ => sane_ret _)))
theorem sane_selectorTo : ∀ (f j : Nat) (l : List Prt), f + l.length = 8 → l.length ≤ 6 → Sane (selectorTo f j l)
  | 0, _, l, h1, h2 => by omega
  | f + 1, j, l, h1, h2 => sane_if (P := fun _ => l.length < 6) (sane_aheadOfPart _ _) (fun S k a m e => (ahead_iff.1 e).2.1) fun _ h => sane_bnd (sane_part j) fun p => sane_bnd sane_join fun q => sane_ite (fun _ => sane_selectorTo f q.1 (l ++ [p]) (by simp; omega) (by simp; omega)) (fun _ => sane_ret _)
theorem sane_selectorsTo : ∀ (f : Nat) (l : List (List Prt)), f + l.length = 10 → l.length ≤ 8 → Sane (selectorsTo f l)
  | 0, l, h1, h2 => by omega
  | f + 1, l, h1, h2 => sane_if (P := fun _ => l.length < 8) (sane_aheadOfPart _ _) (fun S k a m e => (ahead_iff.1 e).2.1) fun _ h => sane_bnd (sane_selectorTo 8 0 [] (by simp) (by simp)) fun p => sane_opt (sane_bnd sane_gaps fun _ => sane_selectorsTo f (l ++ [p]) (by simp; omega) (by simp; omega)) (sane_ret _)
theorem sane_rule (n : Nat) : Sane (rule n) := sane_bnd (sane_aheadOfPart _ _) fun _ => sane_bnd (sane_selectorsTo 10 [] (by simp) (by simp)) fun _ => sane_bnd sane_tok fun _ => sane_bnd sane_decls fun _ => sane_bnd sane_tok fun _ => sane_ret _
theorem sane_mediaHead : Sane mediaHead := sane_bnd sane_gaps fun _ => sane_ite (fun _ => sane_bnd sane_sname fun _ => sane_bnd sane_gaps fun _ => sane_bnd sane_tok fun _ => sane_ret _) (fun _ => sane_bad (by decide))

theorem rulesTo_fault {S : List UInt8} (hS : S.length ≤ 4000) : ∀ (f k : Nat) (md : Option (List UInt8)) (L : List Rl) (x : Nat × Nat), S.length - k < f → k ≤ S.length → rulesTo f S k md L = .error x → x.1 ≠ 0 ∧ x.2 ≤ S.length
  | 0, _, _, _, _, h, _, _ => absurd h (Nat.not_lt_zero _)
  | f + 1, k, md, L, x, h, hk, e => by
    rw [rulesTo] at e
    have hg := sane_gaps S k hS hk
    cases eg : gaps S k with
    | error y =>
      rw [eg] at e hg
      injection e with e
      subst e
      exact hg
    | ok q =>
      obtain ⟨g, k1⟩ := q
      rw [eg] at e hg
      have hg1 : k ≤ k1 := hg.1
      have hg2 : k1 ≤ S.length := hg.2
      have rl : ∀ (md' : Option (List UInt8)) (F : List (List Prt) × List Dcl → Nat → List Rl), (match rule L.length S k1 with | .error x => (.error x : Res (List Rl)) | .ok (p, k2) => rulesTo f S k2 md' (F p k2)) = .error x → x.1 ≠ 0 ∧ x.2 ≤ S.length := by
        intro md' F e
        have hr := sane_rule L.length S k1 hS hg2
        cases er : rule L.length S k1 with
        | error y =>
          rw [er] at e hr
          injection e with e
          subst e
          exact hr
        | ok q =>
          obtain ⟨p, k2⟩ := q
          rw [er] at e hr
          obtain ⟨d, hd, _, hb⟩ := rule_iff.1 er
          have := (List.getElem?_eq_some_iff.1 hb).1
          exact rulesTo_fault hS f k2 md' _ x (by omega) hr.2 e
      cases md with
      | none =>
        simp only at e
        split at e
        · cases e
        rename_i he
        split at e
        · rename_i hm
          have h6 : k1 + 6 ≤ S.length := has_le hm hg2
          have hh := sane_mediaHead S (k1 + 6) hS h6
          cases em : mediaHead S (k1 + 6) with
          | error y =>
            rw [em] at e hh
            injection e with e
            subst e
            exact hh
          | ok q =>
            obtain ⟨n, k2⟩ := q
            rw [em] at e hh
            have h1 : k1 + 6 ≤ k2 := hh.1
            exact rulesTo_fault hS f k2 _ _ x (by omega) hh.2 e
        · exact rl none _ e
      | some n =>
        simp only at e
        split at e
        · rename_i hc
          have := (has_lt (x := 0) hc (by simp)).2
          exact rulesTo_fault hS f (k1 + 1) _ _ x (by omega) (by omega) e
        · exact rl (some n) _ e

theorem sheet_fault {S : List UInt8} {x : Nat × Nat} (h : sheetParse S = .error x) : x.1 ≠ 0 ∧ x.2 ≤ S.length := by
  unfold sheetParse at h
  split at h
  · injection h with h
    subst h
    exact ⟨by decide, Nat.zero_le _⟩
  · exact rulesTo_fault (by omega) _ _ _ _ _ (by omega) (Nat.zero_le _) h
theorem decls_fault {S : List UInt8} {x : Nat × Nat} (h : declsParse S = .error x) : x.1 ≠ 0 := by
  unfold declsParse at h
  split at h
  · injection h with h
    subst h
    decide
  · unfold declsAll at h
    have := sane_bnd sane_decls (fun l => sane_ended (sane_ret l) (sane_bad (e := 2) (by decide))) S 0 (by omega) (Nat.zero_le _)
    cases e : onlyDecls S 0 with
    | error y =>
      have e' : bnd decls (fun l => ended (ret l) (bad 2)) S 0 = .error y := e
      rw [e'] at this
      rw [e] at h
      injection h with h
      subst h
      exact this.1
    | ok q =>
      rw [e] at h
      cases h
end Go.Proofs.YtfobkiglmphgjabGreatDoor.Sh

namespace Go.Proofs.YtfobkiglmphgjabGreatDoor.Sh
open Go

theorem declsTo_len {S : List UInt8} : ∀ (f : Nat) (l : List Dcl) (k m : Nat) (l' : List Dcl), declsTo f l S k = .ok (l', m) → l'.length ≤ l.length + f
  | 0, _, _, _, _, h => by cases h
  | f + 1, l, k, m, l', h => by
    have here : ∀ {k m : Nat}, ret l S k = .ok (l', m) → l'.length ≤ l.length + (f + 1) := by
      intro k m h
      injection h with h; injection h with h _; rw [← h]; omega
    unfold declsTo ended at h
    split at h
    · exact here h
    unfold look at h
    split at h
    · exact here h
    rw [bnd_ok] at h
    obtain ⟨_, k1, _, h⟩ := h
    rw [bnd_ok] at h
    obtain ⟨d, k2, _, h⟩ := h
    unfold opt at h
    split at h
    · rw [bnd_ok] at h
      obtain ⟨_, k3, _, h⟩ := h
      have := declsTo_len f _ _ _ _ h
      simp at this
      omega
    · injection h with h; injection h with h _; rw [← h]; simp
theorem testsTo_len {S : List UInt8} : ∀ (f : Nat) (l : List Tst) (k m : Nat) (l' : List Tst), testsTo f l S k = .ok (l', m) → l'.length ≤ l.length + f
  | 0, _, _, _, _, h => by cases h
  | f + 1, l, k, m, l', h => by
    unfold testsTo at h
    rw [bnd_ok] at h
    obtain ⟨t, k1, _, h⟩ := h
    split at h
    · injection h with h; injection h with h _; rw [← h]; omega
    split at h
    · cases h
    have := testsTo_len f _ _ _ _ h
    simp at this
    omega
theorem part_few {S : List UInt8} {j k m : Nat} {p : Prt} (h : part j S k = .ok (p, m)) : p.tests.length ≤ 100 := by
  unfold part at h
  rw [bnd_ok] at h
  obtain ⟨l, k1, h1, h⟩ := h
  rw [bnd_ok] at h
  obtain ⟨l2, k2, h2, h⟩ := h
  injection h with h; injection h with h _
  have a := partHead_len h1
  have b := testsTo_len _ _ _ _ _ h2
  rw [← h]
  simp only
  omega
theorem selectorTo_few {S : List UInt8} : ∀ (f j : Nat) (l : List Prt) (k m : Nat) (l' : List Prt), (∀ t ∈ l, t.tests.length ≤ 100) → selectorTo f j l S k = .ok (l', m) → l'.length ≤ l.length + f ∧ ∀ t ∈ l', t.tests.length ≤ 100
  | 0, _, _, _, _, _, _, h => by cases h
  | f + 1, j, l, k, m, l', hl, h => by
    unfold selectorTo at h
    rw [bnd_ok] at h
    obtain ⟨_, k1, _, h⟩ := h
    rw [bnd_ok] at h
    obtain ⟨p, k2, hp, h⟩ := h
    rw [bnd_ok] at h
    obtain ⟨q, k3, _, h⟩ := h
    have hl2 : ∀ t ∈ l ++ [p], t.tests.length ≤ 100 := by
      intro t ht
      rcases List.mem_append.1 ht with ht | ht
      · exact hl t ht
      · rw [List.mem_singleton.1 ht]; exact part_few hp
    split at h
    · have := selectorTo_few f _ _ _ _ _ hl2 h
      refine ⟨?_, this.2⟩
      have := this.1
      simp at this
      omega
    · injection h with h; injection h with h _
      rw [← h]
      exact ⟨by simp, hl2⟩
theorem selectorsTo_few {S : List UInt8} : ∀ (f : Nat) (l : List (List Prt)) (k m : Nat) (l' : List (List Prt)), (∀ q ∈ l, q.length ≤ 100 ∧ ∀ t ∈ q, t.tests.length ≤ 100) → selectorsTo f l S k = .ok (l', m) → l'.length ≤ l.length + f ∧ ∀ q ∈ l', q.length ≤ 100 ∧ ∀ t ∈ q, t.tests.length ≤ 100
  | 0, _, _, _, _, _, h => by cases h
  | f + 1, l, k, m, l', hl, h => by
    unfold selectorsTo at h
    rw [bnd_ok] at h
    obtain ⟨_, k1, _, h⟩ := h
    rw [bnd_ok] at h
    obtain ⟨p, k2, hp, h⟩ := h
    have pf := selectorTo_few 8 0 [] _ _ _ (by simp) hp
    have hl2 : ∀ q ∈ l ++ [p], q.length ≤ 100 ∧ ∀ t ∈ q, t.tests.length ≤ 100 := by
      intro t ht
      rcases List.mem_append.1 ht with ht | ht
      · exact hl t ht
      · rw [List.mem_singleton.1 ht]; exact ⟨by have := pf.1; simp at this; omega, pf.2⟩
    unfold opt at h
    split at h
    · rw [bnd_ok] at h
      obtain ⟨_, k3, _, h⟩ := h
      have := selectorsTo_few f _ _ _ _ hl2 h
      refine ⟨?_, this.2⟩
      have := this.1
      simp at this
      omega
    · injection h with h; injection h with h _
      rw [← h]
      exact ⟨by simp, hl2⟩
theorem rule_few {n : Nat} {S : List UInt8} {k m : Nat} {p : List (List Prt) × List Dcl} (h : rule n S k = .ok (p, m)) : p.1.length ≤ 100 ∧ p.2.length ≤ 100 ∧ ∀ q ∈ p.1, q.length ≤ 100 ∧ ∀ t ∈ q, t.tests.length ≤ 100 := by
  unfold rule at h
  rw [bnd_ok] at h
  obtain ⟨_, k1, _, h⟩ := h
  rw [bnd_ok] at h
  obtain ⟨l, k2, hs, h⟩ := h
  rw [bnd_ok] at h
  obtain ⟨_, k3, _, h⟩ := h
  rw [bnd_ok] at h
  obtain ⟨d, k4, hd, h⟩ := h
  rw [bnd_ok] at h
  obtain ⟨_, k5, _, h⟩ := h
  injection h with h; injection h with h _
  have a := selectorsTo_few 10 [] _ _ _ (by simp) hs
  unfold decls at hd
  rw [bnd_ok] at hd
  obtain ⟨_, k6, _, hd⟩ := hd
  have b := declsTo_len _ _ _ _ _ hd
  rw [← h]
  refine ⟨?_, ?_, a.2⟩
  · have := a.1; simp at this; simp only; omega
  · simp at b; simp only; omega
theorem sheet_few {S : List UInt8} {A : List Rl} (h : sheetParse S = .ok A) : A.length ≤ 60 ∧ Chain S 0 A ∧ ∀ r ∈ A, r.sels.length ≤ 100 ∧ r.decls.length ≤ 100 ∧ ∀ q ∈ r.sels, q.length ≤ 100 ∧ ∀ t ∈ q, t.tests.length ≤ 100 := by
  have := (Ps.iff (sheetParse_le h)).1 h
  obtain ⟨M, h1, h2, h3⟩ := this.chain
  simp only [List.nil_append] at h1
  subst h1
  refine ⟨h3 (by simp), h2, fun r hr => ?_⟩
  obtain ⟨_, _, _, n, hn⟩ := h2.mem r hr
  exact rule_few hn
end Go.Proofs.YtfobkiglmphgjabGreatDoor.Sh

namespace Go.Proofs.YtfobkiglmphgjabGreatDoor.Sh
open Go

theorem at_byte {S : List UInt8} {k : Nat} {c : UInt8} {Z : List UInt8} (h : S.drop k = c :: Z) : S[k]? = some c := by
  have := congrArg (fun l => l[0]?) h
  simpa [List.getElem?_drop] using this
theorem at_add {S : List UInt8} {k : Nat} {u Z : List UInt8} (h : S.drop k = u ++ Z) : S.drop (k + u.length) = Z := by
  rw [← List.drop_drop, h, List.drop_left]
theorem at_one {S : List UInt8} {k : Nat} {c : UInt8} {Z : List UInt8} (h : S.drop k = c :: Z) : S.drop (k + 1) = Z := at_add (u := [c]) h
theorem at_fits {S : List UInt8} {k : Nat} {c : UInt8} {Z : List UInt8} (h : S.drop k = c :: Z) (p : UInt8 → Bool) : fitsAt S k p = p c := by
  unfold fitsAt; rw [at_byte h]
theorem at_tok {S : List UInt8} {k : Nat} {t Z : List UInt8} (h : S.drop k = t ++ Z) : has S k t = true := by
  unfold has; rw [h, List.isPrefixOf_iff_prefix]; exact List.prefix_append _ _
theorem at_end {S : List UInt8} {k : Nat} (h : S.drop k = []) : S.length ≤ k := List.drop_eq_nil_iff.1 h
theorem at_lt {S : List UInt8} {k : Nat} {c : UInt8} {Z : List UInt8} (h : S.drop k = c :: Z) : k < S.length := (List.getElem?_eq_some_iff.1 (at_byte h)).1

theorem sub_while {S : List UInt8} {k : Nat} (p : UInt8 → Bool) : sub S k (whileEnd S k p) = (S.drop k).takeWhile p := by
  unfold sub whileEnd
  rw [Nat.add_sub_cancel_left]
  exact (List.prefix_iff_eq_take.1 (List.takeWhile_prefix p)).symm
/-- What stands there does not go on with such a byte. -/
def Stops (p : UInt8 → Bool) (Z : List UInt8) : Prop := Z = [] ∨ ∃ c Z', Z = c :: Z' ∧ p c = false
theorem at_while {S : List UInt8} {k : Nat} {u Z : List UInt8} {p : UInt8 → Bool} (h : S.drop k = u ++ Z) (hu : ∀ c ∈ u, p c = true) (hz : Stops p Z) : whileEnd S k p = k + u.length ∧ sub S k (whileEnd S k p) = u := by
  have e : (S.drop k).takeWhile p = u := by
    rw [h, List.takeWhile_append_of_pos hu]
    rcases hz with rfl | ⟨c, Z', rfl, hc⟩
    · simp
    · rw [List.takeWhile_cons, if_neg (by rw [hc]; decide), List.append_nil]
  refine ⟨?_, by rw [sub_while, e]⟩
  unfold whileEnd
  rw [e]

def NameOK (n : List UInt8) : Prop := ∃ c t, n = c :: t ∧ letterB c = true ∧ (∀ x ∈ t, nameB x = true) ∧ n.length ≤ 20
def AllW (u : List UInt8) : Prop := u ≠ [] ∧ ∀ c ∈ u, wordB c = true
def joinW : List (List UInt8) → List UInt8
  | [] => []
  | [u] => u
  | u :: v :: ws => u ++ 32 :: joinW (v :: ws)
def ValOK (v : List UInt8) : Prop := ∃ ws : List (List UInt8), ws ≠ [] ∧ (∀ u ∈ ws, AllW u) ∧ v = joinW ws ∧ v.length ≤ 60
def DclOK (d : Dcl) : Prop := NameOK d.name ∧ ValOK d.val

theorem joinW_snoc : ∀ (ws : List (List UInt8)) (u : List UInt8), ws ≠ [] → joinW (ws ++ [u]) = joinW ws ++ [32] ++ u
  | [], _, h => absurd rfl h
  | [v], u, _ => by simp [joinW]
  | v :: x :: ws, u, _ => by
    have := joinW_snoc (x :: ws) u (by simp)
    simp only [List.cons_append, joinW] at this ⊢
    rw [this]
    simp
theorem joinW_len : ∀ (ws : List (List UInt8)), (∀ u ∈ ws, AllW u) → ws.length ≤ (joinW ws).length
  | [], _ => by simp [joinW]
  | [v], h => by
    have := List.length_pos_iff.2 (h v (by simp)).1
    simp [joinW]; omega
  | v :: x :: ws, h => by
    have := joinW_len (x :: ws) (fun u hu => h u (List.mem_cons_of_mem _ hu))
    simp [joinW] at this ⊢
    omega

theorem sname_ok {S : List UInt8} {k k' : Nat} {n : List UInt8} (h : sname S k = .ok (n, k')) : NameOK n := by
  unfold sname nameTo at h
  split at h
  · cases h
  rename_i e he
  split at he
  · rename_i hf
    injection he with he
    split at h
    · cases h
    rename_i h20
    injection h with h
    injection h with h1 h2
    have hk : k < S.length := by
      by_cases hk : k < S.length
      · exact hk
      · rw [fitsAt_ge _ (by omega)] at hf; cases hf
    have hd := List.drop_eq_getElem_cons hk
    have e1 : sub S k e = S[k] :: (S.drop (k + 1)).takeWhile nameB := by
      rw [← sub_while, ← he]
      unfold sub
      rw [hd]
      have : k + 1 ≤ whileEnd S (k + 1) nameB := by unfold whileEnd; omega
      rw [show whileEnd S (k + 1) nameB - k = (whileEnd S (k + 1) nameB - (k + 1)) + 1 by omega, List.take_succ_cons]
    refine ⟨S[k], (S.drop (k + 1)).takeWhile nameB, by rw [← h1, e1], ?_, fun x hx => (List.all_eq_true.1 List.all_takeWhile) x hx, by rw [← h1]; omega⟩
    rw [fitsAt_lt _ hk] at hf
    exact hf
  · cases he
theorem word_ok {ahead S : List UInt8} {k k' : Nat} {v : List UInt8} (h : word ahead S k = .ok (v, k')) : ∃ u, v = ahead ++ u ∧ AllW u ∧ v.length ≤ 60 := by
  have hl := (word_grows h).1
  simp only [word, chars] at h
  split at h
  · cases h
  rename_i hne
  split at h
  · cases h
  rw [bnd_ok] at h
  obtain ⟨_, m1, _, h2⟩ := h
  injection h2 with h2
  injection h2 with h2 _
  exact ⟨_, h2.symm, ⟨hne, fun c hc => by rw [sub_while] at hc; exact (List.all_eq_true.1 List.all_takeWhile) c hc⟩, hl⟩
theorem valueTo_ok {S : List UInt8} : ∀ (f : Nat) (v : List UInt8) (k m : Nat) (v' : List UInt8), ValOK v → valueTo f v S k = .ok (v', m) → ValOK v'
  | 0, _, _, _, _, _, h => by cases h
  | f + 1, v, k, m, v', hv, h => by
    unfold valueTo fits at h
    split at h
    · rw [bnd_ok] at h
      obtain ⟨a, m1, h1, h2⟩ := h
      obtain ⟨u, hu, au, hl⟩ := word_ok h1
      obtain ⟨ws, w0, w1, w2, w3⟩ := hv
      refine valueTo_ok f a m1 m v' ⟨ws ++ [u], by simp, ?_, ?_, hl⟩ h2
      · intro x hx
        rcases List.mem_append.1 hx with hx | hx
        · exact w1 x hx
        · rw [List.mem_singleton.1 hx]; exact au
      · rw [joinW_snoc ws u w0, hu, w2]
    · injection h with h
      injection h with h _
      rw [← h]; exact hv
theorem decl_ok {S : List UInt8} {k k' : Nat} {d : Dcl} (h : decl S k = .ok (d, k')) : DclOK d := by
  unfold decl at h
  rw [bnd_ok] at h
  obtain ⟨n, k1, h1, h⟩ := h
  rw [bnd_ok] at h
  obtain ⟨_, k2, _, h⟩ := h
  rw [bnd_ok] at h
  obtain ⟨_, k3, _, h⟩ := h
  rw [bnd_ok] at h
  obtain ⟨_, k4, _, h⟩ := h
  rw [bnd_ok] at h
  obtain ⟨v, k5, h5, h⟩ := h
  have hn := sname_ok h1
  have hv : ValOK v := by
    unfold value at h5
    rw [bnd_ok] at h5
    obtain ⟨a, m1, e1, e2⟩ := h5
    obtain ⟨u, hu, au, hl⟩ := word_ok e1
    refine valueTo_ok 62 a m1 k5 v ⟨[u], by simp, by simpa using au, by simpa [joinW] using hu, hl⟩ e2
  unfold opt at h
  split at h
  · rw [bnd_ok] at h
    obtain ⟨_, k6, _, h⟩ := h
    rw [bnd_ok] at h
    obtain ⟨_, k7, _, h⟩ := h
    injection h with h
    injection h with h _
    rw [← h]; exact ⟨hn, hv⟩
  · injection h with h
    injection h with h _
    rw [← h]; exact ⟨hn, hv⟩
theorem declsTo_ok {S : List UInt8} : ∀ (f : Nat) (l : List Dcl) (k m : Nat) (l' : List Dcl), l.length ≤ 20 → (∀ d ∈ l, DclOK d) → declsTo f l S k = .ok (l', m) → l'.length ≤ 20 ∧ ∀ d ∈ l', DclOK d
  | 0, _, _, _, _, _, _, h => by cases h
  | f + 1, l, k, m, l', h20, hl, h => by
    have here : ∀ {k m : Nat}, ret l S k = .ok (l', m) → l'.length ≤ 20 ∧ ∀ d ∈ l', DclOK d := by
      intro k m h
      injection h with h; injection h with h _; rw [← h]; exact ⟨h20, hl⟩
    unfold declsTo ended at h
    split at h
    · exact here h
    unfold look at h
    split at h
    · exact here h
    rw [bnd_ok] at h
    obtain ⟨_, k1, h0, h⟩ := h
    rw [bnd_ok] at h
    obtain ⟨d, k2, hd, h⟩ := h
    have lt20 : l.length < 20 := by
      by_cases hq : 20 ≤ l.length
      · rw [if_pos hq] at h0
        unfold fits at h0
        split at h0
        · cases h0
        · rename_i hf
          injection h0 with h0
          injection h0 with _ h0
          subst h0
          exact absurd (decl_letter' hd) hf
      · omega
    have hl2 : (l ++ [d]).length ≤ 20 ∧ ∀ x ∈ l ++ [d], DclOK x := by
      refine ⟨by simp; omega, fun x hx => ?_⟩
      rcases List.mem_append.1 hx with hx | hx
      · exact hl x hx
      · rw [List.mem_singleton.1 hx]; exact decl_ok hd
    unfold opt at h
    split at h
    · rw [bnd_ok] at h
      obtain ⟨_, k3, _, h⟩ := h
      exact declsTo_ok f _ _ _ _ hl2.1 hl2.2 h
    · injection h with h; injection h with h _; rw [← h]; exact hl2
theorem declsParse_ok {S : List UInt8} {l : List Dcl} (h : declsParse S = .ok l) : l.length ≤ 20 ∧ ∀ d ∈ l, DclOK d := by
  unfold declsParse at h
  split at h
  · cases h
  unfold declsAll at h
  split at h
  · cases h
  rename_i l' m e
  injection h with h
  subst h
  unfold onlyDecls at e
  rw [bnd_ok] at e
  obtain ⟨l1, m1, h1, h2⟩ := e
  unfold ended at h2
  split at h2
  · injection h2 with h2; injection h2 with h2 _
    subst h2
    unfold decls at h1
    rw [bnd_ok] at h1
    obtain ⟨_, m2, _, h1⟩ := h1
    exact declsTo_ok 22 [] _ _ _ (by simp) (by simp) h1
  · cases h2
end Go.Proofs.YtfobkiglmphgjabGreatDoor.Sh
