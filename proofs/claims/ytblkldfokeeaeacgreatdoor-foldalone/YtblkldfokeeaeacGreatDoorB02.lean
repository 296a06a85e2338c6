/- Texts that the statement's proof stands on: SheetRead, SheetLaws, Gone, Tree. -/
import Derived.Test.YtblkldfokeeaeacGreatDoorB01
namespace Go.Proofs.YtblkldfokeeaeacGreatDoor.Sh
open Go
theorem has_lt {S : List UInt8} {k x : Nat} {t : List UInt8} (h : has S k t = true) (ht : x < t.length) : S[k + x]? = some t[x] ∧ k + x < S.length := by
  have := has_iff.1 h x ht
  exact ⟨this, (List.getElem?_eq_some_iff.1 this).1⟩
theorem no_tok {S : List UInt8} {k : Nat} {c x : UInt8} {t : List UInt8} (h : S[k]? = some c) (hx : c ≠ x) : has S k (x :: t) = false := by
  cases hh : has S k (x :: t) with
  | false => rfl
  | true =>
    have := (has_lt (x := 0) hh (by simp)).1
    rw [Nat.add_zero, h] at this
    injection this with this
    exact absurd this hx
theorem one_tok {S : List UInt8} {k : Nat} {c : UInt8} : has S k [c] = true ↔ S[k]? = some c := by
  rw [has_iff]
  constructor
  · intro h; exact h 0 (by simp)
  · intro h j hj
    have : j = 0 := by simpa using hj
    subst this
    exact h
theorem gapsTo_fuel {S : List UInt8} : ∀ (f f' k : Nat), S.length - k < f → S.length - k < f' → gapsTo f S k = gapsTo f' S k
  | 0, _, _, h, _ => absurd h (Nat.not_lt_zero _)
  | _ + 1, 0, _, _, h => absurd h (Nat.not_lt_zero _)
  | f + 1, f' + 1, k, h1, h2 => by
    rw [gapsTo, gapsTo]
    by_cases a1 : has S k [32] = true
    · have := (has_lt (x := 0) a1 (by simp)).2
      rw [if_pos a1, if_pos a1]
      exact gapsTo_fuel f f' (k + 1) (by omega) (by omega)
    rw [if_neg a1, if_neg a1]
    by_cases a2 : has S k [10] = true
    · have := (has_lt (x := 0) a2 (by simp)).2
      rw [if_pos a2, if_pos a2]
      exact gapsTo_fuel f f' (k + 1) (by omega) (by omega)
    rw [if_neg a2, if_neg a2]
    by_cases a3 : has S k [47, 42] = true
    · have := (has_lt (x := 0) a3 (by simp)).2
      rw [if_pos a3, if_pos a3]
      cases hp : pastAt S (k + 2) [42, 47] with
      | none => rfl
      | some e =>
        have := ((pastAt_iff (by simp)).1 hp).1
        exact gapsTo_fuel f f' (e + 2) (by omega) (by omega)
    · rw [if_neg a3, if_neg a3]
theorem gaps_iff {S : List UInt8} {k m : Nat} {g : Bool} : gaps S k = .ok (g, m) ↔ gapsTo 4001 S k = .ok m ∧ g = decide (k < m) := by
  unfold gaps
  cases gapsTo 4001 S k with
  | error x => simp
  | ok k1 =>
    simp
    constructor
    · rintro ⟨h1, rfl⟩; exact ⟨rfl, h1.symm⟩
    · rintro ⟨rfl, h⟩; exact ⟨h.symm, rfl⟩
theorem gp_blank {S : List UInt8} {k : Nat} (hS : S.length ≤ 4000) (h : has S k [32] = true ∨ has S k [10] = true) : gapsTo 4001 S k = gapsTo 4001 S (k + 1) := by
  have hk : k < S.length := by
    rcases h with h | h
    · exact (has_lt (x := 0) h (by simp)).2
    · exact (has_lt (x := 0) h (by simp)).2
  have e : gapsTo 4001 S k = gapsTo 4000 S (k + 1) := by
    rw [gapsTo]
    by_cases a : has S k [32] = true
    · rw [if_pos a]
    · rw [if_neg a, if_pos (h.resolve_left a)]
  rw [e]
  exact gapsTo_fuel _ _ _ (by omega) (by omega)
theorem gp_note {S : List UInt8} {k e : Nat} (hS : S.length ≤ 4000) (h : has S k [47, 42] = true) (hp : pastAt S (k + 2) [42, 47] = some e) : gapsTo 4001 S k = gapsTo 4001 S (e + 2) := by
  have hk := has_lt (x := 0) h (by simp)
  rw [Nat.add_zero] at hk
  have := ((pastAt_iff (by simp)).1 hp).1
  have e1 : gapsTo 4001 S k = gapsTo 4000 S (e + 2) := by
    rw [gapsTo, if_neg (by rw [no_tok hk.1 (by decide)]; decide), if_neg (by rw [no_tok hk.1 (by decide)]; decide), if_pos h, hp]
  rw [e1]
  exact gapsTo_fuel _ _ _ (by omega) (by omega)
theorem gp_stop {S : List UInt8} {k : Nat} (h1 : has S k [32] = false) (h2 : has S k [10] = false) (h3 : has S k [47, 42] = false) : gapsTo 4001 S k = .ok k := by
  rw [gapsTo, if_neg (by rw [h1]; decide), if_neg (by rw [h2]; decide), if_neg (by rw [h3]; decide)]
theorem gp_stop_at {S : List UInt8} {k : Nat} {c : UInt8} (h : S[k]? = some c) (h1 : c ≠ 32) (h2 : c ≠ 10) (h3 : c ≠ 47) : gapsTo 4001 S k = .ok k := gp_stop (no_tok h h1) (no_tok h h2) (no_tok h h3)
theorem gp_end {S : List UInt8} {k : Nat} (h : S.length ≤ k) : gapsTo 4001 S k = .ok k := gp_stop (has_nil_false h (by simp)) (has_nil_false h (by simp)) (has_nil_false h (by simp))
theorem gapsTo_le {S : List UInt8} : ∀ (f k m : Nat), gapsTo f S k = .ok m → k ≤ S.length → m ≤ S.length
  | 0, _, _, h, _ => by cases h
  | f + 1, k, m, h, hk => by
    rw [gapsTo] at h
    split at h
    · rename_i hh
      have := (has_lt (x := 0) hh (by simp)).2
      exact gapsTo_le f _ _ h (by omega)
    split at h
    · rename_i hh
      have := (has_lt (x := 0) hh (by simp)).2
      exact gapsTo_le f _ _ h (by omega)
    split at h
    · split at h
      · cases h
      · rename_i e he
        have := (has_lt (x := 1) ((pastAt_iff (by simp)).1 he).2.1 (by simp)).2
        exact gapsTo_le f _ _ h (by omega)
    · injection h with h; omega
theorem has_in {S S' : List UInt8} {k k' n : Nat} {t : List UInt8} (h : ∀ i, i < n → S'[k' + i]? = S[k + i]?) (ht : t.length ≤ n) : has S' k' t = has S k t := by
  rw [Bool.eq_iff_iff, has_iff, has_iff]
  constructor
  · intro hh j hj; rw [← h j (by omega)]; exact hh j hj
  · intro hh j hj; rw [h j (by omega)]; exact hh j hj
theorem gaps_run {S S' : List UInt8} (hS' : S'.length ≤ 4000) : ∀ (f k k' d : Nat), gapsTo f S k = .ok (k + d) → (∀ i, i < d → S'[k' + i]? = S[k + i]?) → gapsTo 4001 S' k' = gapsTo 4001 S' (k' + d)
  | 0, _, _, _, h, _ => by cases h
  | f + 1, k, k', d, h, hs => by
    rw [gapsTo] at h
    have one : ∀ d', (∀ i, i < d' + 1 → S'[k' + i]? = S[k + i]?) → (has S k [32] = true ∨ has S k [10] = true) → gapsTo f S (k + 1) = .ok (k + 1 + d') → gapsTo 4001 S' k' = gapsTo 4001 S' (k' + (d' + 1)) := by
      intro d' hs hb h
      have hb' : has S' k' [32] = true ∨ has S' k' [10] = true := by
        rw [has_in hs (t := [32]) (by simp), has_in hs (t := [10]) (by simp)]
        exact hb
      rw [gp_blank hS' hb', gaps_run hS' f (k + 1) (k' + 1) d' h (fun i hi => by
        have := hs (1 + i) (by omega)
        rw [← Nat.add_assoc, ← Nat.add_assoc] at this
        exact this)]
      congr 1; omega
    split at h
    · rename_i hh
      have := gapsTo_adv f _ _ h
      obtain ⟨d', rfl⟩ : ∃ d', d = d' + 1 := ⟨d - 1, by omega⟩
      exact one d' hs (.inl hh) (by rw [h]; congr 1; omega)
    split at h
    · rename_i hh
      have := gapsTo_adv f _ _ h
      obtain ⟨d', rfl⟩ : ∃ d', d = d' + 1 := ⟨d - 1, by omega⟩
      exact one d' hs (.inr hh) (by rw [h]; congr 1; omega)
    split at h
    · rename_i hh
      split at h
      · cases h
      · rename_i e he
        have a1 := gapsTo_adv f _ _ h
        have pe := (pastAt_iff (by simp)).1 he
        obtain ⟨i, rfl⟩ := Nat.exists_eq_add_of_le pe.1
        obtain ⟨d', rfl⟩ : ∃ d', d = 2 + i + 2 + d' := ⟨d - (2 + i + 2), by omega⟩
        have sh : ∀ x, ∀ j, j < 2 + i + 2 + d' - x → x ≤ 2 + i + 2 + d' → S'[k' + x + j]? = S[k + x + j]? := fun x j hj hx => by rw [Nat.add_assoc, Nat.add_assoc]; exact hs (x + j) (by omega)
        have n1 : has S' k' [47, 42] = true := by rw [has_in hs (by simp; omega)]; exact hh
        have n2 : pastAt S' (k' + 2) [42, 47] = some (k' + 2 + i) := by
          rw [pastAt_iff (by simp)]
          refine ⟨by omega, ?_, fun j h1 h2 => ?_⟩
          · have e0 := has_in (k := k + (2 + i)) (k' := k' + (2 + i)) (n := 2 + d') (t := [42, 47]) (fun j hj => sh (2 + i) j (by omega) (by omega)) (by simp)
            rw [show k' + 2 + i = k' + (2 + i) by omega, e0, show k + (2 + i) = k + 2 + i by omega]
            exact pe.2.1
          · obtain ⟨j', rfl⟩ := Nat.exists_eq_add_of_le h1
            have e0 := has_in (k := k + (2 + j')) (k' := k' + (2 + j')) (n := 2 + d') (t := [42, 47]) (fun j hj => sh (2 + j') j (by omega) (by omega)) (by simp)
            rw [show k' + 2 + j' = k' + (2 + j') by omega, e0, show k + (2 + j') = k + 2 + j' by omega]
            exact pe.2.2 _ (by omega) (by omega)
        rw [gp_note hS' n1 n2, gaps_run hS' f (k + 2 + i + 2) (k' + 2 + i + 2) d' (by rw [h]; congr 1; omega) (fun j hj => by
          have := sh (2 + i + 2) j (by omega) (by omega)
          rw [show k' + 2 + i + 2 = k' + (2 + i + 2) by omega, show k + 2 + i + 2 = k + (2 + i + 2) by omega]
          exact this)]
        congr 1; omega
    · injection h with h
      have : d = 0 := by omega
      subst this
      rfl
theorem rule_eq (n : Nat) (S : List UInt8) (k : Nat) : rule n S k = bnd (ruleBody n) (fun p => bnd (tok [125]) fun _ => ret p) S k := by
  unfold rule ruleBody bnd
  cases aheadOfPart n 60 S k with
  | error x => rfl
  | ok a =>
    obtain ⟨_, k1⟩ := a
    simp only
    cases selectors S k1 with
    | error x => rfl
    | ok a =>
      obtain ⟨l, k2⟩ := a
      simp only
      cases tok [123] S k2 with
      | error x => rfl
      | ok a =>
        obtain ⟨_, k3⟩ := a
        simp only
        cases decls S k3 with
        | error x => rfl
        | ok a => rfl
theorem mediaHead_eq (S : List UInt8) (k : Nat) : mediaHead S k = bnd mediaBody (fun n => bnd (tok [123]) fun _ => ret n) S k := by
  unfold mediaHead mediaBody bnd
  cases gaps S k with
  | error x => rfl
  | ok a =>
    obtain ⟨g, k1⟩ := a
    cases g with
    | false => rfl
    | true =>
      simp only [if_true]
      cases sname S k1 with
      | error x => rfl
      | ok a =>
        obtain ⟨n, k2⟩ := a
        simp only
        cases gaps S k2 with
        | error x => rfl
        | ok a => rfl
theorem bnd_ok {α β : Type} {f : Pr α} {g : α → Pr β} {S : List UInt8} {k m : Nat} {b : β} : bnd f g S k = .ok (b, m) ↔ ∃ a m1, f S k = .ok (a, m1) ∧ g a S m1 = .ok (b, m) := by
  unfold bnd
  cases f S k with
  | error x => simp
  | ok a =>
    obtain ⟨a, m1⟩ := a
    constructor
    · intro h; exact ⟨a, m1, rfl, h⟩
    · rintro ⟨a', m1', h1, h2⟩
      injection h1 with h1
      injection h1 with h1 h3
      subst h1 h3
      exact h2
theorem tok_iff {S : List UInt8} {k m : Nat} {c : UInt8} {u : Unit} : tok [c] S k = .ok (u, m) ↔ S[k]? = some c ∧ m = k + 1 := by
  unfold tok opt
  rw [← one_tok (k := k)]
  cases h : has S k [c] with
  | false => simp [bad]
  | true =>
    simp [ret]
    exact eq_comm
theorem rule_iff {n : Nat} {S : List UInt8} {k m : Nat} {p : List (List Prt) × List Dcl} : rule n S k = .ok (p, m) ↔ ∃ d, m = k + d + 1 ∧ ruleBody n S k = .ok (p, k + d) ∧ S[k + d]? = some 125 := by
  rw [rule_eq, bnd_ok]
  constructor
  · rintro ⟨a, m1, h1, h2⟩
    rw [bnd_ok] at h2
    obtain ⟨_, m2, h3, h4⟩ := h2
    obtain ⟨d, rfl⟩ := Nat.exists_eq_add_of_le ((loc_ruleBody n).adv h1)
    rw [tok_iff] at h3
    injection h4 with h4
    injection h4 with h4 h5
    subst h4
    exact ⟨d, by omega, h1, h3.1⟩
  · rintro ⟨d, rfl, h1, h2⟩
    refine ⟨p, k + d, h1, ?_⟩
    rw [bnd_ok]
    exact ⟨(), k + d + 1, tok_iff.2 ⟨h2, rfl⟩, rfl⟩
theorem mediaHead_iff {S : List UInt8} {k m : Nat} {n : List UInt8} : mediaHead S k = .ok (n, m) ↔ ∃ d, m = k + d + 1 ∧ mediaBody S k = .ok (n, k + d) ∧ S[k + d]? = some 123 := by
  rw [mediaHead_eq, bnd_ok]
  constructor
  · rintro ⟨a, m1, h1, h2⟩
    rw [bnd_ok] at h2
    obtain ⟨_, m2, h3, h4⟩ := h2
    obtain ⟨d, rfl⟩ := Nat.exists_eq_add_of_le (loc_mediaBody.adv h1)
    rw [tok_iff] at h3
    injection h4 with h4
    injection h4 with h4 h5
    subst h4
    exact ⟨d, by omega, h1, h3.1⟩
  · rintro ⟨d, rfl, h1, h2⟩
    refine ⟨n, k + d, h1, ?_⟩
    rw [bnd_ok]
    exact ⟨(), k + d + 1, tok_iff.2 ⟨h2, rfl⟩, rfl⟩
theorem ahead_iff {n most : Nat} {S : List UInt8} {k m : Nat} {u : Unit} : aheadOfPart n most S k = .ok (u, m) ↔ hasPart S k = true ∧ n < most ∧ m = k := by
  unfold aheadOfPart
  cases hasPart S k with
  | false => simp
  | true =>
    by_cases h : most ≤ n
    · simp [h]; omega
    · simp [h]
      constructor
      · rintro rfl; exact ⟨by omega, rfl⟩
      · rintro ⟨_, rfl⟩; rfl
theorem ruleBody_part {n : Nat} {S : List UInt8} {k m : Nat} {p : List (List Prt) × List Dcl} (h : ruleBody n S k = .ok (p, m)) : hasPart S k = true ∧ n < 60 := by
  unfold ruleBody at h
  rw [bnd_ok] at h
  obtain ⟨_, m1, h1, _⟩ := h
  rw [ahead_iff] at h1
  exact ⟨h1.1, h1.2.1⟩
theorem ruleBody_n {n n' : Nat} {S : List UInt8} {k m : Nat} {p : List (List Prt) × List Dcl} (h : ruleBody n S k = .ok (p, m)) (hn : n' < 60) : ruleBody n' S k = .ok (p, m) := by
  unfold ruleBody at h ⊢
  rw [bnd_ok] at h ⊢
  obtain ⟨a, m1, h1, h2⟩ := h
  rw [ahead_iff] at h1
  exact ⟨a, m1, ahead_iff.2 ⟨h1.1, hn, h1.2.2⟩, h2⟩
theorem rule_move {n n' : Nat} {S S' : List UInt8} {k k' d : Nat} {p : List (List Prt) × List Dcl} (h : rule n S k = .ok (p, k + d + 1)) (hs : ∀ i, i ≤ d → S'[k' + i]? = S[k + i]?) (hn : n' < 60) : rule n' S' k' = .ok (p, k' + d + 1) := by
  rw [rule_iff] at h
  obtain ⟨d', hd, h1, h2⟩ := h
  have : d' = d := by omega
  subst this
  have ag : Agree 125 S k S' k' d' := ⟨h2, hs⟩
  exact rule_iff.2 ⟨d', rfl, (loc_ruleBody n').loc (ruleBody_n h1 hn) ag (Nat.le_refl _), ag.brace'⟩
theorem hasPart_byte {S : List UInt8} {k : Nat} (h : hasPart S k = true) : ∃ c, S[k]? = some c ∧ (letterB c = true ∨ c = 42 ∨ c = 46 ∨ c = 35 ∨ c = 91 ∨ c = 58) := by
  unfold hasPart at h
  simp only [Bool.or_eq_true] at h
  rcases h with ((((h | h) | h) | h) | h) | h
  · unfold fitsAt at h
    split at h
    · rename_i c hc; exact ⟨c, hc, .inl h⟩
    · cases h
  · exact ⟨_, one_tok.1 h, by simp⟩
  · exact ⟨_, one_tok.1 h, by simp⟩
  · exact ⟨_, one_tok.1 h, by simp⟩
  · exact ⟨_, one_tok.1 h, by simp⟩
  · exact ⟨58, (has_lt (x := 0) h (by decide)).1, by simp⟩
theorem rule_byte {n : Nat} {S : List UInt8} {k m : Nat} {p : List (List Prt) × List Dcl} (h : rule n S k = .ok (p, m)) : ∃ c, S[k]? = some c ∧ c ≠ 32 ∧ c ≠ 10 ∧ c ≠ 47 ∧ c ≠ 64 ∧ c ≠ 125 := by
  rw [rule_iff] at h
  obtain ⟨d, _, h1, _⟩ := h
  obtain ⟨c, hc, hl⟩ := hasPart_byte (ruleBody_part h1).1
  refine ⟨c, hc, ?_⟩
  rcases hl with hl | hl
  · have : 97 ≤ c.toNat := by unfold letterB at hl; simp at hl; exact hl.1
    have hx : c ≠ 125 := by rintro rfl; exact absurd hl (by decide)
    refine ⟨?_, ?_, ?_, ?_, hx⟩ <;> (rintro rfl; exact absurd this (by decide))
  · rcases hl with rfl | rfl | rfl | rfl | rfl <;> decide
theorem rule_n {n : Nat} {S : List UInt8} {k m : Nat} {p : List (List Prt) × List Dcl} (h : rule n S k = .ok (p, m)) : n < 60 := by
  rw [rule_iff] at h
  obtain ⟨d, _, h1, _⟩ := h
  exact (ruleBody_part h1).2
inductive Ps (S : List UInt8) : Nat → Option (List UInt8) → List Rl → List Rl → Prop where
  | fin {k k1 : Nat} {L : List Rl} (g : gapsTo 4001 S k = .ok k1) (e : S.length ≤ k1) : Ps S k none L L
  | media {k k1 k2 : Nat} {n : List UInt8} {L A : List Rl} (g : gapsTo 4001 S k = .ok k1) (e : k1 < S.length) (h : has S k1 mediaL = true) (m : mediaHead S (k1 + 6) = .ok (n, k2)) (next : Ps S k2 (some n) L A) : Ps S k none L A
  | rule0 {k k1 k2 : Nat} {p : List (List Prt) × List Dcl} {L A : List Rl} (g : gapsTo 4001 S k = .ok k1) (e : k1 < S.length) (h : has S k1 mediaL = false) (m : rule L.length S k1 = .ok (p, k2)) (next : Ps S k2 none (L ++ [⟨[], p.1, p.2, k1, k2⟩]) A) : Ps S k none L A
  | close {k k1 : Nat} {n : List UInt8} {L A : List Rl} (g : gapsTo 4001 S k = .ok k1) (h : has S k1 [125] = true) (next : Ps S (k1 + 1) none L A) : Ps S k (some n) L A
  | rule1 {k k1 k2 : Nat} {n : List UInt8} {p : List (List Prt) × List Dcl} {L A : List Rl} (g : gapsTo 4001 S k = .ok k1) (h : has S k1 [125] = false) (m : rule L.length S k1 = .ok (p, k2)) (next : Ps S k2 (some n) (L ++ [⟨n, p.1, p.2, k1, k2⟩]) A) : Ps S k (some n) L A
theorem Ps.of_rulesTo {S : List UInt8} : ∀ (f k : Nat) (md : Option (List UInt8)) (L A : List Rl), rulesTo f S k md L = .ok A → Ps S k md L A
  | 0, _, _, _, _, h => by simp [rulesTo] at h
  | f + 1, k, md, L, A, h => by
    rw [rulesTo] at h
    split at h
    · cases h
    rename_i g k1 e
    have e1 := (gaps_iff.1 e).1
    cases md with
    | none =>
      simp only at h
      split at h
      · rename_i he
        injection h with h
        subst h
        exact .fin e1 he
      rename_i he
      split at h
      · rename_i hm
        split at h
        · cases h
        rename_i n k2 em
        exact .media e1 (by omega) hm em (Ps.of_rulesTo f _ _ _ _ h)
      · rename_i hm
        split at h
        · cases h
        rename_i p k2 er
        exact .rule0 e1 (by omega) (by simpa using hm) er (Ps.of_rulesTo f _ _ _ _ h)
    | some n =>
      simp only at h
      split at h
      · rename_i hc
        exact .close e1 hc (Ps.of_rulesTo f _ _ _ _ h)
      · rename_i hc
        split at h
        · cases h
        rename_i p k2 er
        exact .rule1 e1 (by simpa using hc) er (Ps.of_rulesTo f _ _ _ _ h)
theorem Ps.to_rulesTo {S : List UInt8} {k : Nat} {md : Option (List UInt8)} {L A : List Rl} (h : Ps S k md L A) : ∀ f, S.length - k < f → rulesTo f S k md L = .ok A := by
  have adv : ∀ {k k1 : Nat}, gapsTo 4001 S k = .ok k1 → k ≤ k1 := fun h => gapsTo_adv _ _ _ h
  induction h with
  | fin g e =>
    intro f hf
    obtain ⟨f, rfl⟩ : ∃ f', f = f' + 1 := ⟨f - 1, by omega⟩
    rw [rulesTo, gaps_iff.2 ⟨g, rfl⟩]
    simp only
    rw [if_pos e]
  | media g e hm m next ih =>
    intro f hf
    obtain ⟨f, rfl⟩ : ∃ f', f = f' + 1 := ⟨f - 1, by omega⟩
    have a1 := adv g
    obtain ⟨d, rfl, _, _⟩ := mediaHead_iff.1 m
    rw [rulesTo, gaps_iff.2 ⟨g, rfl⟩]
    simp only
    rw [if_neg (by omega), if_pos hm, m]
    exact ih f (by omega)
  | rule0 g e hm m next ih =>
    intro f hf
    obtain ⟨f, rfl⟩ : ∃ f', f = f' + 1 := ⟨f - 1, by omega⟩
    have a1 := adv g
    obtain ⟨d, rfl, _, _⟩ := rule_iff.1 m
    rw [rulesTo, gaps_iff.2 ⟨g, rfl⟩]
    simp only
    rw [if_neg (by omega), if_neg (by rw [hm]; decide), m]
    exact ih f (by omega)
  | close g hc next ih =>
    intro f hf
    obtain ⟨f, rfl⟩ : ∃ f', f = f' + 1 := ⟨f - 1, by omega⟩
    have a1 := adv g
    have a2 := (has_lt (x := 0) hc (by simp)).2
    rw [rulesTo, gaps_iff.2 ⟨g, rfl⟩]
    simp only
    rw [if_pos hc]
    exact ih f (by omega)
  | rule1 g hc m next ih =>
    intro f hf
    obtain ⟨f, rfl⟩ : ∃ f', f = f' + 1 := ⟨f - 1, by omega⟩
    have a1 := adv g
    obtain ⟨d, rfl, _, hb⟩ := rule_iff.1 m
    have a2 := (List.getElem?_eq_some_iff.1 hb).1
    rw [rulesTo, gaps_iff.2 ⟨g, rfl⟩]
    simp only
    rw [if_neg (by rw [hc]; decide), m]
    exact ih f (by omega)
theorem Ps.iff {S : List UInt8} (hS : S.length ≤ 4000) {A : List Rl} : sheetParse S = .ok A ↔ Ps S 0 none [] A := by
  unfold sheetParse
  rw [if_neg (by omega)]
  exact ⟨fun h => Ps.of_rulesTo _ _ _ _ _ h, fun h => h.to_rulesTo 4001 (by omega)⟩
theorem sheetParse_le {S : List UInt8} {A : List Rl} (h : sheetParse S = .ok A) : S.length ≤ 4000 := by
  unfold sheetParse at h
  split at h
  · cases h
  · omega
theorem Ps.congr {S : List UInt8} {k k' : Nat} {md : Option (List UInt8)} {L A : List Rl} (h : Ps S k' md L A) (e : gapsTo 4001 S k = gapsTo 4001 S k') : Ps S k md L A := by
  cases h with
  | fin g h => exact .fin (e.trans g) h
  | media g h1 h2 h3 h4 => exact .media (e.trans g) h1 h2 h3 h4
  | rule0 g h1 h2 h3 h4 => exact .rule0 (e.trans g) h1 h2 h3 h4
  | close g h1 h2 => exact .close (e.trans g) h1 h2
  | rule1 g h1 h2 h3 => exact .rule1 (e.trans g) h1 h2 h3
end Go.Proofs.YtblkldfokeeaeacGreatDoor.Sh
namespace Go.Proofs.YtblkldfokeeaeacGreatDoor.Sh
open Go
def sh (o : Nat) (r : Rl) : Rl := { r with from_ := r.from_ + o, to_ := r.to_ + o }
def Chain (S : List UInt8) : Nat → List Rl → Prop
  | _, [] => True
  | k, r :: M => k ≤ r.from_ ∧ r.from_ < r.to_ ∧ r.to_ ≤ S.length ∧ (∃ n, rule n S r.from_ = .ok ((r.sels, r.decls), r.to_)) ∧ Chain S r.to_ M
theorem Chain.weaken {S : List UInt8} {k k' : Nat} {M : List Rl} (h : Chain S k' M) (hk : k ≤ k') : Chain S k M := by
  cases M with
  | nil => trivial
  | cons r M => exact ⟨Nat.le_trans hk h.1, h.2⟩
theorem Chain.mem {S : List UInt8} : ∀ {M : List Rl} {k : Nat}, Chain S k M → ∀ r ∈ M, k ≤ r.from_ ∧ r.from_ < r.to_ ∧ r.to_ ≤ S.length ∧ ∃ n, rule n S r.from_ = .ok ((r.sels, r.decls), r.to_)
  | [], _, _, _, h => by cases h
  | r :: M, k, h, x, hx => by
    rcases List.mem_cons.1 hx with rfl | hx
    · exact ⟨h.1, h.2.1, h.2.2.1, h.2.2.2.1⟩
    · have := Chain.mem h.2.2.2.2 x hx
      exact ⟨by have := h.1; have := h.2.1; omega, this.2⟩
theorem Ps.chain {S : List UInt8} {k : Nat} {md : Option (List UInt8)} {L A : List Rl} (h : Ps S k md L A) : ∃ M, A = L ++ M ∧ Chain S k M ∧ (L.length ≤ 60 → A.length ≤ 60) := by
  have adv : ∀ {k k1 : Nat}, gapsTo 4001 S k = .ok k1 → k ≤ k1 := fun h => gapsTo_adv _ _ _ h
  induction h with
  | fin g e => exact ⟨[], by simp, trivial, fun h => h⟩
  | media g e hm m next ih =>
    obtain ⟨M, h1, h2, h3⟩ := ih
    obtain ⟨d, rfl, _, _⟩ := mediaHead_iff.1 m
    have := adv g
    exact ⟨M, h1, h2.weaken (by omega), h3⟩
  | @rule0 k k1 k2 p L A g e hm m next ih =>
    obtain ⟨M, h1, h2, h3⟩ := ih
    have a1 := adv g
    have hn := rule_n m
    have m' := m
    obtain ⟨d, rfl, _, hb⟩ := rule_iff.1 m
    have a2 := (List.getElem?_eq_some_iff.1 hb).1
    exact ⟨⟨[], p.1, p.2, k1, k1 + d + 1⟩ :: M, by rw [h1]; simp, ⟨a1, by show k1 < k1 + d + 1; omega, by show k1 + d + 1 ≤ S.length; omega, ⟨_, m'⟩, h2⟩, fun _ => h3 (by simp; omega)⟩
  | close g hc next ih =>
    obtain ⟨M, h1, h2, h3⟩ := ih
    have := adv g
    exact ⟨M, h1, h2.weaken (by omega), h3⟩
  | @rule1 k k1 k2 n p L A g hc m next ih =>
    obtain ⟨M, h1, h2, h3⟩ := ih
    have a1 := adv g
    have hn := rule_n m
    have m' := m
    obtain ⟨d, rfl, _, hb⟩ := rule_iff.1 m
    have a2 := (List.getElem?_eq_some_iff.1 hb).1
    exact ⟨⟨n, p.1, p.2, k1, k1 + d + 1⟩ :: M, by rw [h1]; simp, ⟨a1, by show k1 < k1 + d + 1; omega, by show k1 + d + 1 ≤ S.length; omega, ⟨_, m'⟩, h2⟩, fun _ => h3 (by simp; omega)⟩
theorem Ps.ahead {s S : List UInt8} {k : Nat} {md : Option (List UInt8)} {L A : List Rl} (h : Ps s k md L A) (hS : S.length ≤ 4000) (hp : ∀ i, i < s.length → S[i]? = s[i]?) (hl : s.length ≤ S.length) :
    k ≤ s.length → ∀ B, Ps S s.length none A B → Ps S k md L B := by
  have adv : ∀ {k k1 : Nat}, gapsTo 4001 s k = .ok k1 → k ≤ k1 := fun h => gapsTo_adv _ _ _ h
  have byBrace : ∀ {k k1 n : Nat} {c : UInt8}, (c = 123 ∨ c = 125) → gapsTo 4001 s k = .ok k1 → k1 ≤ k + n → s[k + n]? = some c → gapsTo 4001 S k = .ok k1 := by
    intro k k1 n c hc g hn hb
    have a := adv g
    obtain ⟨d, rfl⟩ := Nat.exists_eq_add_of_le a
    have hlt := (List.getElem?_eq_some_iff.1 hb).1
    exact gapsTo_loc hc 4001 k k n d g ⟨hb, fun i hi => hp _ (by omega)⟩ (by omega)
  induction h with
  | @fin k k1 L g e =>
    intro hk B hB
    have a := adv g
    have b := gapsTo_le _ _ _ g hk
    obtain ⟨d, rfl⟩ := Nat.exists_eq_add_of_le a
    refine hB.congr ?_
    rw [gaps_run hS 4001 k k d g (fun i hi => hp _ (by omega))]
    congr 1; omega
  | @media k k1 k2 n L A g e hm m next ih =>
    intro hk B hB
    obtain ⟨d, rfl, mb, hb⟩ := mediaHead_iff.1 m
    have a := adv g
    have hlt := (List.getElem?_eq_some_iff.1 hb).1
    obtain ⟨x, rfl⟩ := Nat.exists_eq_add_of_le a
    have g' := byBrace (n := x + 6 + d) (.inl rfl) g (by omega) (by rw [← hb]; congr 1; omega)
    refine .media (n := n) g' (by omega) ?_ (mediaHead_iff.2 ⟨d, rfl, ?_, ?_⟩) (ih (by omega) B hB)
    · rw [has_in (S := s) (k := k + x) (n := 6) (fun i hi => hp _ (by omega)) (by decide)]; exact hm
    · exact loc_mediaBody.loc mb (n := d) ⟨hb, fun i hi => hp _ (by omega)⟩ (Nat.le_refl _)
    · rw [hp _ hlt]; exact hb
  | @rule0 k k1 k2 p L A g e hm m next ih =>
    intro hk B hB
    obtain ⟨c, hc, _, _, _, c4, _⟩ := rule_byte m
    have m' := m
    have hn := rule_n m
    obtain ⟨d, rfl, _, hb⟩ := rule_iff.1 m
    have a := adv g
    have hlt := (List.getElem?_eq_some_iff.1 hb).1
    obtain ⟨x, rfl⟩ := Nat.exists_eq_add_of_le a
    have g' := byBrace (n := x + d) (.inr rfl) g (by omega) (by rw [← hb]; congr 1; omega)
    exact .rule0 g' (by omega) (no_tok (by rw [hp _ e]; exact hc) c4) (rule_move m' (fun i hi => hp _ (by omega)) hn) (ih (by omega) B hB)
  | @close k k1 n L A g hc next ih =>
    intro hk B hB
    have hb := one_tok.1 hc
    have a := adv g
    have hlt := (List.getElem?_eq_some_iff.1 hb).1
    obtain ⟨x, rfl⟩ := Nat.exists_eq_add_of_le a
    have g' := byBrace (n := x) (.inr rfl) g (by omega) hb
    exact .close g' (one_tok.2 (by rw [hp _ hlt]; exact hb)) (ih (by omega) B hB)
  | @rule1 k k1 k2 n p L A g hcl m next ih =>
    intro hk B hB
    obtain ⟨c, hc, _, _, _, _, c5⟩ := rule_byte m
    have m' := m
    have hn := rule_n m
    obtain ⟨d, rfl, _, hb⟩ := rule_iff.1 m
    have a := adv g
    have hlt := (List.getElem?_eq_some_iff.1 hb).1
    have hlt2 := (List.getElem?_eq_some_iff.1 hc).1
    obtain ⟨x, rfl⟩ := Nat.exists_eq_add_of_le a
    have g' := byBrace (n := x + d) (.inr rfl) g (by omega) (by rw [← hb]; congr 1; omega)
    exact .rule1 g' (no_tok (by rw [hp _ hlt2]; exact hc) c5) (rule_move m' (fun i hi => hp _ (by omega)) hn) (ih (by omega) B hB)
end Go.Proofs.YtblkldfokeeaeacGreatDoor.Sh
namespace Go.Proofs.YtblkldfokeeaeacGreatDoor.Sh
def bare (r : Rl) : Rl := { r with from_ := 0, to_ := 0 }
def goneTo (S : List UInt8) : Nat → List (Rl × Bool) → List UInt8
  | k, [] => S.drop k
  | k, (r, b) :: M => if b then goneTo S k M else sub S k r.from_ ++ [32] ++ goneTo S r.to_ M
theorem sub_join (S : List UInt8) {a b c : Nat} (h1 : a ≤ b) (h2 : b ≤ c) : sub S a c = sub S a b ++ sub S b c := by
  unfold sub
  have : S.drop b = (S.drop a).drop (b - a) := by rw [List.drop_drop]; congr 1; omega
  rw [this, show c - a = (b - a) + (c - b) by omega, List.take_add]
theorem sub_drop (S : List UInt8) {a b : Nat} (h1 : a ≤ b) : S.drop a = sub S a b ++ S.drop b := by
  unfold sub
  have : S.drop b = (S.drop a).drop (b - a) := by rw [List.drop_drop]; congr 1; omega
  rw [this, List.take_append_drop]
theorem goneTo_ahead {S : List UInt8} : ∀ {M : List (Rl × Bool)} {k m : Nat}, k ≤ m → (∀ x ∈ M, m ≤ x.1.from_) → goneTo S k M = sub S k m ++ goneTo S m M
  | [], k, m, h, _ => sub_drop S h
  | (r, b) :: M, k, m, h, hm => by
    have hr := hm (r, b) (List.mem_cons_self ..)
    simp only at hr
    unfold goneTo
    cases b
    · simp only [Bool.false_eq_true, if_false]
      rw [sub_join S h hr]; simp
    · simp only [if_true]
      exact goneTo_ahead h fun x hx => hm x (List.mem_cons_of_mem _ hx)
theorem zip_from {S : List UInt8} {M : List Rl} {k : Nat} (h : Chain S k M) (fl : List Bool) : ∀ x ∈ M.zip fl, k ≤ x.1.from_ := fun x hx => (Chain.mem h x.1 (List.of_mem_zip hx).1).1
theorem agree_of {S T : List UInt8} {k k' m : Nat} {X : List UInt8} (h : T.drop k' = sub S k (k + m) ++ X) (hm : k + m ≤ S.length) : ∀ i, i < m → T[k' + i]? = S[k + i]? := fun i hi => by
  have h1 : (T.drop k')[i]? = T[k' + i]? := by rw [List.getElem?_drop]
  rw [← h1, h, List.getElem?_append_left (by unfold sub; simp; omega)]
  unfold sub
  rw [List.getElem?_take, if_pos (by omega), List.getElem?_drop]
theorem drop_on' {S T : List UInt8} {k k' m : Nat} {X : List UInt8} (h : T.drop k' = sub S k (k + m) ++ X) (hm : k + m ≤ S.length) : T.drop (k' + m) = X := by
  rw [← List.drop_drop, h]
  have : (sub S k (k + m)).length = m := by unfold sub; simp; omega
  exact List.drop_left' this
theorem Ps.gone {S T : List UInt8} {k : Nat} {md : Option (List UInt8)} {L A : List Rl} (h : Ps S k md L A) (hT : T.length ≤ 4000) : k ≤ S.length →
    ∃ M, A = L ++ M ∧ Chain S k M ∧ ∀ (fl : List Bool) (k' : Nat) (L2 : List Rl), fl.length = M.length → L2.length + M.length ≤ 60 → T.drop k' = goneTo S k (M.zip fl) →
      ∃ M', Ps T k' md L2 (L2 ++ M') ∧ M'.map bare = (((M.zip fl).filter (·.2)).map (·.1)).map bare := by
  have adv : ∀ {k k1 : Nat}, gapsTo 4001 S k = .ok k1 → k ≤ k1 := fun h => gapsTo_adv _ _ _ h
  have byBrace : ∀ {k k1 k' n : Nat} {c : UInt8}, (c = 123 ∨ c = 125) → gapsTo 4001 S k = .ok k1 → (∀ i, i ≤ n → T[k' + i]? = S[k + i]?) → k1 ≤ k + n → S[k + n]? = some c → gapsTo 4001 T k' = .ok (k' + (k1 - k)) := by
    intro k k1 k' n c hc g hs hn hb
    have a := adv g
    obtain ⟨d, rfl⟩ := Nat.exists_eq_add_of_le a
    have := gapsTo_loc hc 4001 k k' n d g ⟨hb, hs⟩ (by omega)
    rw [this]; congr 1; omega
  induction h with
  | @fin k k1 L g e =>
    intro hk
    refine ⟨[], by simp, trivial, fun fl k' L2 _ _ hd => ⟨[], ?_, by simp⟩⟩
    have hd' : T.drop k' = S.drop k := by simpa [goneTo] using hd
    have hs : ∀ i, T[k' + i]? = S[k + i]? := fun i => by
      have h1 : (T.drop k')[i]? = T[k' + i]? := by rw [List.getElem?_drop]
      rw [← h1, hd', List.getElem?_drop]
    have a := adv g
    obtain ⟨d, rfl⟩ := Nat.exists_eq_add_of_le a
    have r := gaps_run hT 4001 k k' d g (fun i _ => hs i)
    have hend : T.length ≤ k' + d := by
      have : T[k' + d]? = none := (hs d).trans (List.getElem?_eq_none (by omega))
      exact List.getElem?_eq_none_iff.1 this
    rw [gp_end hend] at r
    simpa using Ps.fin (L := L2) r hend
  | @media k k1 k2 n L A g e hm m next ih =>
    intro hk
    obtain ⟨d, rfl, mb, hb⟩ := mediaHead_iff.1 m
    have a := adv g
    obtain ⟨x, rfl⟩ := Nat.exists_eq_add_of_le a
    have hlt := (List.getElem?_eq_some_iff.1 hb).1
    obtain ⟨M, h1, hch, h2⟩ := ih (by omega)
    refine ⟨M, h1, hch.weaken (by omega), fun fl k' L2 hf h60 hd => ?_⟩
    rw [goneTo_ahead (k := k) (m := k + x + 6 + d + 1) (by omega) (zip_from hch fl), show k + x + 6 + d + 1 = k + (x + 6 + d + 1) by omega] at hd
    have hs := agree_of hd (by omega)
    have hd2 := drop_on' hd (by omega)
    obtain ⟨M', p1, p2⟩ := h2 fl (k' + (x + 6 + d + 1)) L2 hf h60 (by rw [hd2]; congr 1; omega)
    refine ⟨M', ?_, p2⟩
    have g' := byBrace (k' := k') (n := x + 6 + d) (.inl rfl) g (fun i hi => hs i (by omega)) (by omega) (by rw [← hb]; congr 1; omega)
    rw [show k' + (k + x - k) = k' + x by omega] at g'
    have hx : T[k' + (x + 6 + d)]? = some 123 := by rw [hs _ (by omega), ← hb]; congr 1; omega
    have e' := (List.getElem?_eq_some_iff.1 hx).1
    refine .media (n := n) g' (by omega) ?_ (mediaHead_iff.2 ⟨d, rfl, ?_, ?_⟩) ?_
    · have := has_in (S := S) (S' := T) (k := k + x) (k' := k' + x) (n := 6) (t := mediaL) (fun i hi => by have := hs (x + i) (by omega); rw [Nat.add_assoc, this, Nat.add_assoc]) (by decide)
      rw [this]; exact hm
    · exact loc_mediaBody.loc mb (S' := T) (k' := k' + x + 6) (n := d) ⟨hb, fun i hi => by
        have := hs (x + 6 + i) (by omega)
        rw [show k' + x + 6 + i = k' + (x + 6 + i) by omega, this]; congr 1; omega⟩ (Nat.le_refl _)
    · rw [← hx]; congr 1; omega
    · rw [show k' + x + 6 + d + 1 = k' + (x + 6 + d + 1) by omega]; exact p1
  | @rule0 k k1 k2 p L A g e hm m next ih =>
    intro hk
    obtain ⟨c, hc, _, _, _, c4, _⟩ := rule_byte m
    have m' := m
    obtain ⟨d, rfl, _, hb⟩ := rule_iff.1 m
    have a := adv g
    obtain ⟨x, rfl⟩ := Nat.exists_eq_add_of_le a
    have hlt := (List.getElem?_eq_some_iff.1 hb).1
    obtain ⟨M, h1, hch, h2⟩ := ih (by omega)
    refine ⟨⟨[], p.1, p.2, k + x, k + x + d + 1⟩ :: M, by rw [h1]; simp, ⟨by simp, by simp; omega, by simp; omega, ⟨_, m'⟩, hch⟩, fun fl k' L2 hf h60 hd => ?_⟩
    simp only [List.length_cons] at h60 hf
    cases fl with
    | nil => simp at hf
    | cons b fl =>
      simp only [List.length_cons, Nat.add_right_cancel_iff] at hf
      rw [List.zip_cons_cons] at hd ⊢
      cases b
      · -- it goes
        have hd0 : T.drop k' = sub S k (k + x) ++ ([32] ++ goneTo S (k + x + d + 1) (M.zip fl)) := by rw [hd]; simp [goneTo]
        have hs := agree_of hd0 (by omega)
        have hd1 := drop_on' hd0 (by omega)
        have hd2 : T.drop (k' + x + 1) = goneTo S (k + x + d + 1) (M.zip fl) := by
          have : T.drop (k' + x + 1) = (T.drop (k' + x)).drop 1 := by rw [List.drop_drop]
          rw [this, hd1]; rfl
        obtain ⟨M', p1, p2⟩ := h2 fl (k' + x + 1) L2 hf (by omega) hd2
        refine ⟨M', p1.congr ?_, ?_⟩
        · rw [gaps_run hT 4001 k k' x g (fun i hi => hs i hi)]
          exact gp_blank hT (.inl (by unfold has; rw [hd1]; rfl))
        · rw [p2]; simp
      · -- it stays
        have hd0 : T.drop k' = goneTo S k (M.zip fl) := by rw [hd]; simp [goneTo]
        rw [goneTo_ahead (k := k) (m := k + x + d + 1) (by omega) (zip_from hch fl), show k + x + d + 1 = k + (x + d + 1) by omega] at hd0
        have hs := agree_of hd0 (by omega)
        have hd2 := drop_on' hd0 (by omega)
        obtain ⟨M', p1, p2⟩ := h2 fl (k' + (x + d + 1)) (L2 ++ [⟨[], p.1, p.2, k' + x, k' + x + d + 1⟩]) hf (by simp; omega) (by rw [hd2]; congr 1; omega)
        refine ⟨⟨[], p.1, p.2, k' + x, k' + x + d + 1⟩ :: M', ?_, ?_⟩
        · have g' := byBrace (k' := k') (n := x + d) (.inr rfl) g (fun i hi => hs i (by omega)) (by omega) (by rw [← hb]; congr 1; omega)
          rw [show k' + (k + x - k) = k' + x by omega] at g'
          have hx : T[k' + x]? = some c := by rw [hs x (by omega)]; exact hc
          have e' := (List.getElem?_eq_some_iff.1 hx).1
          refine .rule0 g' e' (no_tok hx c4) (rule_move m' (fun i hi => by have := hs (x + i) (by omega); rw [Nat.add_assoc, this, Nat.add_assoc]) (by omega)) ?_
          rw [show k' + x + d + 1 = k' + (x + d + 1) by omega] at p1 ⊢
          simpa using p1
        · simp [p2, bare]
  | @close k k1 n L A g hc next ih =>
    intro hk
    have a := adv g
    obtain ⟨x, rfl⟩ := Nat.exists_eq_add_of_le a
    have hb := one_tok.1 hc
    have hlt := (List.getElem?_eq_some_iff.1 hb).1
    obtain ⟨M, h1, hch, h2⟩ := ih (by omega)
    refine ⟨M, h1, hch.weaken (by omega), fun fl k' L2 hf h60 hd => ?_⟩
    rw [goneTo_ahead (k := k) (m := k + x + 1) (by omega) (zip_from hch fl), show k + x + 1 = k + (x + 1) by omega] at hd
    have hs := agree_of hd (by omega)
    have hd2 := drop_on' hd (by omega)
    obtain ⟨M', p1, p2⟩ := h2 fl (k' + (x + 1)) L2 hf h60 (by rw [hd2]; congr 1)
    refine ⟨M', ?_, p2⟩
    have g' := byBrace (k' := k') (n := x) (.inr rfl) g (fun i hi => hs i (by omega)) (by omega) hb
    rw [show k' + (k + x - k) = k' + x by omega] at g'
    exact .close g' (one_tok.2 (by rw [hs x (by omega)]; exact hb)) p1
  | @rule1 k k1 k2 n p L A g hcl m next ih =>
    intro hk
    obtain ⟨c, hc, _, _, _, _, c5⟩ := rule_byte m
    have m' := m
    obtain ⟨d, rfl, _, hb⟩ := rule_iff.1 m
    have a := adv g
    obtain ⟨x, rfl⟩ := Nat.exists_eq_add_of_le a
    have hlt := (List.getElem?_eq_some_iff.1 hb).1
    obtain ⟨M, h1, hch, h2⟩ := ih (by omega)
    refine ⟨⟨n, p.1, p.2, k + x, k + x + d + 1⟩ :: M, by rw [h1]; simp, ⟨by simp, by simp; omega, by simp; omega, ⟨_, m'⟩, hch⟩, fun fl k' L2 hf h60 hd => ?_⟩
    simp only [List.length_cons] at h60 hf
    cases fl with
    | nil => simp at hf
    | cons b fl =>
      simp only [List.length_cons, Nat.add_right_cancel_iff] at hf
      rw [List.zip_cons_cons] at hd ⊢
      cases b
      · have hd0 : T.drop k' = sub S k (k + x) ++ ([32] ++ goneTo S (k + x + d + 1) (M.zip fl)) := by rw [hd]; simp [goneTo]
        have hs := agree_of hd0 (by omega)
        have hd1 := drop_on' hd0 (by omega)
        have hd2 : T.drop (k' + x + 1) = goneTo S (k + x + d + 1) (M.zip fl) := by
          have : T.drop (k' + x + 1) = (T.drop (k' + x)).drop 1 := by rw [List.drop_drop]
          rw [this, hd1]; rfl
        obtain ⟨M', p1, p2⟩ := h2 fl (k' + x + 1) L2 hf (by omega) hd2
        refine ⟨M', p1.congr ?_, ?_⟩
        · rw [gaps_run hT 4001 k k' x g (fun i hi => hs i hi)]
          exact gp_blank hT (.inl (by unfold has; rw [hd1]; rfl))
        · rw [p2]; simp
      · have hd0 : T.drop k' = goneTo S k (M.zip fl) := by rw [hd]; simp [goneTo]
        rw [goneTo_ahead (k := k) (m := k + x + d + 1) (by omega) (zip_from hch fl), show k + x + d + 1 = k + (x + d + 1) by omega] at hd0
        have hs := agree_of hd0 (by omega)
        have hd2 := drop_on' hd0 (by omega)
        obtain ⟨M', p1, p2⟩ := h2 fl (k' + (x + d + 1)) (L2 ++ [⟨n, p.1, p.2, k' + x, k' + x + d + 1⟩]) hf (by simp; omega) (by rw [hd2]; congr 1; omega)
        refine ⟨⟨n, p.1, p.2, k' + x, k' + x + d + 1⟩ :: M', ?_, ?_⟩
        · have g' := byBrace (k' := k') (n := x + d) (.inr rfl) g (fun i hi => hs i (by omega)) (by omega) (by rw [← hb]; congr 1; omega)
          rw [show k' + (k + x - k) = k' + x by omega] at g'
          have hx : T[k' + x]? = some c := by rw [hs x (by omega)]; exact hc
          refine .rule1 g' (no_tok hx c5) (rule_move m' (fun i hi => by have := hs (x + i) (by omega); rw [Nat.add_assoc, this, Nat.add_assoc]) (by omega)) ?_
          rw [show k' + x + d + 1 = k' + (x + d + 1) by omega] at p1 ⊢
          simpa using p1
        · simp [p2, bare]
theorem goneTo_len {S : List UInt8} : ∀ {M : List Rl} {k : Nat} (fl : List Bool), Chain S k M → k ≤ S.length → (goneTo S k (M.zip fl)).length ≤ S.length - k
  | [], k, fl, _, _ => by simp [goneTo]
  | r :: M, k, [], _, _ => by simp [goneTo]
  | r :: M, k, b :: fl, h, hk => by
    obtain ⟨h1, h2, h3, _, h5⟩ := h
    rw [List.zip_cons_cons]
    unfold goneTo
    cases b
    · simp only [Bool.false_eq_true, if_false]
      have := goneTo_len fl h5 h3
      have hs : (sub S k r.from_).length = r.from_ - k := by unfold sub; simp; omega
      simp [hs]
      omega
    · simp only [if_true]
      exact goneTo_len fl (h5.weaken (by omega)) hk
theorem sheet_gone {S : List UInt8} {A : List Rl} (h : sheetParse S = .ok A) (fl : List Bool) (hf : fl.length = A.length) :
    ∃ M', sheetParse (goneTo S 0 (A.zip fl)) = .ok M' ∧ M'.map bare = (((A.zip fl).filter (·.2)).map (·.1)).map bare ∧ (goneTo S 0 (A.zip fl)).length ≤ S.length := by
  have hS := sheetParse_le h
  have hp := (Ps.iff hS).1 h
  obtain ⟨M, e, hch, h60⟩ := hp.chain
  obtain rfl : A = M := by simpa using e
  have hl : (goneTo S 0 (A.zip fl)).length ≤ S.length := by simpa using goneTo_len fl hch (Nat.zero_le _)
  obtain ⟨M0, e0, _, h2⟩ := hp.gone (T := goneTo S 0 (A.zip fl)) (by omega) (Nat.zero_le _)
  obtain rfl : A = M0 := by simpa using e0
  obtain ⟨M', p1, p2⟩ := h2 fl 0 [] hf (by simpa using h60 (by simp)) (by simp)
  exact ⟨M', (Ps.iff (by omega)).2 (by simpa using p1), p2, hl⟩
end Go.Proofs.YtblkldfokeeaeacGreatDoor.Sh
namespace Go.Proofs.YtblkldfokeeaeacGreatDoor.Sh
abbrev Bs := List UInt8
abbrev At2 := Bs × Bs
inductive Tr where
  | nil
  | txt (b : UInt8) (rest : Tr)
  | note (c : Bs) (rest : Tr)
  | sty (ats : List At2) (inner : Bs) (rest : Tr)
  | el (nm : Bs) (ats : List At2) (kids rest : Tr)
def at2 (a : At2) : Bs := [32] ++ a.1 ++ [61, 34] ++ a.2 ++ [34]
def ats2 (l : List At2) : Bs := l.flatMap at2
def first2 (nm : Bs) (l : List At2) : Bs := [60] ++ nm ++ ats2 l ++ [62]
def text : Tr → Bs
  | .nil => []
  | .txt b r => b :: text r
  | .note c r => [60, 33, 45, 45] ++ c ++ [45, 45, 62] ++ text r
  | .sty l i r => first2 styleL l ++ i ++ lastTag styleL ++ text r
  | .el n l k r => first2 n l ++ text k ++ lastTag n ++ text r
def count : Tr → Nat
  | .nil => 0
  | .txt _ r => count r
  | .note _ r => count r
  | .sty _ _ r => count r + 1
  | .el _ _ k r => count k + count r + 1
def atrs : Nat → List At2 → List Atr
  | _, [] => []
  | k, a :: l => ⟨a.1, a.2, k, k + (at2 a).length⟩ :: atrs (k + (at2 a).length) l
def nodes : Nat → Int → Nat → Tr → List Nd
  | _, _, _, .nil => []
  | k, p, i, .txt _ r => nodes (k + 1) p i r
  | k, p, i, .note c r => nodes (k + 7 + c.length) p i r
  | k, p, i, .sty l s r => ⟨styleL, p, atrs (k + 6) l, k + 6, k + (first2 styleL l).length, k + (first2 styleL l).length + s.length⟩ :: nodes (k + (first2 styleL l).length + s.length + 8) p (i + 1) r
  | k, p, i, .el n l t r => ⟨n, p, atrs (k + 1 + n.length) l, k + 1 + n.length, 0, 0⟩ :: (nodes (k + (first2 n l).length) i (i + 1) t ++ nodes (k + (first2 n l).length + (text t).length + (lastTag n).length) p (i + 1 + count t) r)
theorem nodes_len : ∀ (t : Tr) (k : Nat) (p : Int) (i : Nat), (nodes k p i t).length = count t
  | .nil, _, _, _ => rfl
  | .txt _ r, k, p, i => nodes_len r _ _ _
  | .note _ r, k, p, i => nodes_len r _ _ _
  | .sty l s r, k, p, i => by
    show (nodes _ _ _ r).length + 1 = count r + 1
    rw [nodes_len r]
  | .el n l t r, k, p, i => by
    show (_ :: (nodes _ _ _ t ++ nodes _ _ _ r)).length = count t + count r + 1
    rw [List.length_cons, List.length_append, nodes_len t, nodes_len r]
structure NmOk (n : Bs) : Prop where
  head : ∃ c r, n = c :: r ∧ letterB c = true ∧ ∀ b ∈ r, nameB b = true
  len : n.length ≤ 20
structure AtsOk (l : List At2) : Prop where
  len : l.length ≤ 8
  nms : ∀ a ∈ l, NmOk a.1
  vals : ∀ a ∈ l, ∀ b ∈ a.2, valueB b = true
  apart : l.Pairwise fun a b => a.1 ≠ b.1
def FirstAt (c t : Bs) : Prop := Lib.index (c ++ t) t = c.length
def Ok : Nat → Tr → Prop
  | _, .nil => True
  | d, .txt b r => textB b = true ∧ Ok d r
  | d, .note c r => FirstAt c [45, 45, 62] ∧ Ok d r
  | d, .sty l i r => d ≤ 20 ∧ AtsOk l ∧ FirstAt i (lastTag styleL) ∧ Ok d r
  | d, .el n l t r => d ≤ 20 ∧ NmOk n ∧ n ≠ styleL ∧ AtsOk l ∧ Ok (d + 1) t ∧ Ok d r
section
variable {T : Bs} {k : Nat}
theorem drop_on {a X : Bs} (h : T.drop k = a ++ X) : T.drop (k + a.length) = X := by
  rw [← List.drop_drop, h, List.drop_left]
theorem has_of {a X : Bs} (h : T.drop k = a ++ X) : has T k a = true := by
  unfold has; rw [h]; exact List.isPrefixOf_iff_prefix.2 (List.prefix_append a X)
theorem need_of {a X : Bs} (h : T.drop k = a ++ X) : need T k a = .ok (k + a.length) := by
  unfold need; rw [if_pos (has_of h)]
theorem has_not {a : UInt8} {t X : Bs} {b : UInt8} (h : T.drop k = b :: X) (hb : b ≠ a) : has T k (a :: t) = false := by
  unfold has; rw [h]; simp [List.isPrefixOf]; intro e; exact absurd e.symm hb
theorem has_not2 {a a' b b' : UInt8} {t X : Bs} (h : T.drop k = b :: b' :: X) (hb : b' ≠ a') : has T k (a :: a' :: t) = false := by
  unfold has; rw [h]; simp [List.isPrefixOf]; intro _ e; exact absurd e.symm hb
theorem get_of {b : UInt8} {X : Bs} (h : T.drop k = b :: X) : T[k]? = some b := by
  have : (T.drop k)[0]? = some b := by rw [h]; rfl
  simpa using this
theorem fits_of {b : UInt8} {X : Bs} {p : UInt8 → Bool} (h : T.drop k = b :: X) : fitsAt T k p = p b := by
  unfold fitsAt; rw [get_of h]
theorem sub_of {a X : Bs} (h : T.drop k = a ++ X) : sub T k (k + a.length) = a := by
  unfold sub; rw [h, Nat.add_sub_cancel_left, List.take_left]
theorem takeWhile_stop {p : UInt8 → Bool} : ∀ {a : Bs} {X : Bs}, (∀ b ∈ a, p b = true) → (X = [] ∨ ∃ c Y, X = c :: Y ∧ p c = false) → (a ++ X).takeWhile p = a
  | [], X, _, hx => by
    rcases hx with rfl | ⟨c, Y, rfl, hc⟩
    · rfl
    · simp [hc]
  | b :: a, X, h, hx => by
    rw [List.cons_append, List.takeWhile_cons_of_pos (h b (List.mem_cons_self ..)), takeWhile_stop (fun c hc => h c (List.mem_cons_of_mem _ hc)) hx]
theorem while_of {a X : Bs} {p : UInt8 → Bool} (h : T.drop k = a ++ X) (ha : ∀ b ∈ a, p b = true) (hx : X = [] ∨ ∃ c Y, X = c :: Y ∧ p c = false) : whileEnd T k p = k + a.length := by
  unfold whileEnd; rw [h, takeWhile_stop ha hx]
theorem name_of {n X : Bs} (h : T.drop k = n ++ X) (hn : NmOk n) (hx : ∃ c Y, X = c :: Y ∧ nameB c = false) : nameTo T k = .ok (k + n.length) := by
  obtain ⟨c, r, rfl, h1, h2⟩ := hn.head
  unfold nameTo
  rw [fits_of (show T.drop k = c :: (r ++ X) from h), if_pos h1]
  have hd : T.drop (k + 1) = r ++ X := drop_on (a := [c]) (X := r ++ X) h
  rw [while_of hd h2 (.inr hx), List.length_cons]
  congr 1
  omega
end
theorem index_ext : ∀ (l m t : Bs) (i : Nat), Lib.index l t = i → i + t.length ≤ l.length → Lib.index (l ++ m) t = i
  | [], m, t, i, h, hi => by
    have ht : t = [] := List.length_eq_zero_iff.1 (by rw [List.length_nil] at hi; omega)
    subst ht
    have h0 : (0 : Int) = i := h
    rw [List.nil_append, ← h0]
    cases m <;> rfl
  | a :: l, m, t, i, h, hi => by
    rw [List.cons_append]
    by_cases hp : t.isPrefixOf (a :: l) = true
    · have e : Lib.index (a :: l) t = 0 := by rw [Lib.index, if_pos hp]
      have e2 : Lib.index (a :: (l ++ m)) t = 0 := by
        rw [Lib.index, if_pos (by
          rw [List.isPrefixOf_iff_prefix] at hp ⊢
          exact hp.trans (List.prefix_append (a :: l) m))]
      rw [e2, ← e, h]
    · have e : Lib.index (a :: l) t = if Lib.index l t == -1 then -1 else Lib.index l t + 1 := by rw [Lib.index, if_neg hp]
      have hp' : ¬ t.isPrefixOf (a :: (l ++ m)) = true := by
        intro c
        apply hp
        rw [List.isPrefixOf_iff_prefix] at c ⊢
        exact List.prefix_of_prefix_length_le c (List.prefix_append (a :: l) m) (by omega)
      have e2 : Lib.index (a :: (l ++ m)) t = if Lib.index (l ++ m) t == -1 then -1 else Lib.index (l ++ m) t + 1 := by rw [Lib.index, if_neg hp']
      rw [e] at h
      rw [e2]
      have hge := Lib.index_ge l t
      by_cases hq : Lib.index l t = -1
      · rw [if_pos (by simp [hq])] at h; omega
      · rw [if_neg (by simp [hq])] at h
        obtain ⟨j, hj⟩ : ∃ j : Nat, Lib.index l t = j := ⟨(Lib.index l t).toNat, by omega⟩
        have hl := index_ext l m t j hj (by simp at hi; omega)
        rw [hl]
        rw [hj] at h
        rw [if_neg (by simp)]
        exact h
theorem past_of {T : Bs} {k : Nat} {c t X : Bs} (h : T.drop k = c ++ t ++ X) (hc : FirstAt c t) : pastAt T k t = some (k + c.length) := by
  unfold pastAt
  rw [h, index_ext (c ++ t) X t c.length hc (by simp)]
  rw [if_neg (by omega)]
  simp
end Go.Proofs.YtblkldfokeeaeacGreatDoor.Sh
