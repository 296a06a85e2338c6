/-
  How a sheet is read, step by step, without a bound on the steps: the plain rulesTo of the SheetSpec text as a relation. No program is named here. Condition where it is run: the text has at most 4000 bytes.
-/
import Derived.Test.YtanedepdhbdcgaaSheetLoc
namespace Go.Proofs.Ytanedepdhbdcgaa
open Go

theorem has_lt {S : List UInt8} {k x : Nat} {t : List UInt8} (h : has S k t = true) (ht : x < t.length) : S[k + x]? = some t[x] ∧ k + x < S.length := by
  have := has_iff.1 h x ht
  exact ⟨this, (List.getElem?_eq_some_iff.1 this).1⟩
theorem no_tok {S : List UInt8} {k : Nat} {c x : UInt8} {t : List UInt8} (h : S[k]? = some c) (hx : c ≠ x) : has S k (x :: t) = false := by
  cases hh : has S k (x :: t) with
  | false => rfl
  | true =>
    have := (has_lt (x := 0) hh (by simp)).1
    rw [Nat.add_zero, h] at this
    injection this with this
    exact absurd this hx
theorem one_tok {S : List UInt8} {k : Nat} {c : UInt8} : has S k [c] = true ↔ S[k]? = some c := by
  rw [has_iff]
  constructor
  · intro h; exact h 0 (by simp)
  · intro h j hj
    have : j = 0 := by simpa using hj
    subst this
    exact h

theorem gapsTo_fuel {S : List UInt8} : ∀ (f f' k : Nat), S.length - k < f → S.length - k < f' → gapsTo f S k = gapsTo f' S k
  | 0, _, _, h, _ => absurd h (Nat.not_lt_zero _)
  | _ + 1, 0, _, _, h => absurd h (Nat.not_lt_zero _)
  | f + 1, f' + 1, k, h1, h2 => by
    rw [gapsTo, gapsTo]
    by_cases a1 : has S k [32] = true
    · have := (has_lt (x := 0) a1 (by simp)).2
      rw [if_pos a1, if_pos a1]
      exact gapsTo_fuel f f' (k + 1) (by omega) (by omega)
    rw [if_neg a1, if_neg a1]
    by_cases a2 : has S k [10] = true
    · have := (has_lt (x := 0) a2 (by simp)).2
      rw [if_pos a2, if_pos a2]
      exact gapsTo_fuel f f' (k + 1) (by omega) (by omega)
    rw [if_neg a2, if_neg a2]
    by_cases a3 : has S k [47, 42] = true
    · have := (has_lt (x := 0) a3 (by simp)).2
      rw [if_pos a3, if_pos a3]
      cases hp : pastAt S (k + 2) [42, 47] with
      | none => rfl
      | some e =>
        have := ((pastAt_iff (by simp)).1 hp).1
        exact gapsTo_fuel f f' (e + 2) (by omega) (by omega)
    · rw [if_neg a3, if_neg a3]

theorem gaps_iff {S : List UInt8} {k m : Nat} {g : Bool} : gaps S k = .ok (g, m) ↔ gapsTo 4001 S k = .ok m ∧ g = decide (k < m) := by
  unfold gaps
  cases gapsTo 4001 S k with
  | error x => simp
  | ok k1 =>
    simp
    constructor
    · rintro ⟨h1, rfl⟩; exact ⟨rfl, h1.symm⟩
    · rintro ⟨rfl, h⟩; exact ⟨h.symm, rfl⟩

theorem gp_blank {S : List UInt8} {k : Nat} (hS : S.length ≤ 4000) (h : has S k [32] = true ∨ has S k [10] = true) : gapsTo 4001 S k = gapsTo 4001 S (k + 1) := by
  have hk : k < S.length := by
    rcases h with h | h
    · exact (has_lt (x := 0) h (by simp)).2
    · exact (has_lt (x := 0) h (by simp)).2
  have e : gapsTo 4001 S k = gapsTo 4000 S (k + 1) := by
    rw [gapsTo]
    by_cases a : has S k [32] = true
    · rw [if_pos a]
    · rw [if_neg a, if_pos (h.resolve_left a)]
  rw [e]
  exact gapsTo_fuel _ _ _ (by omega) (by omega)
theorem gp_note {S : List UInt8} {k e : Nat} (hS : S.length ≤ 4000) (h : has S k [47, 42] = true) (hp : pastAt S (k + 2) [42, 47] = some e) : gapsTo 4001 S k = gapsTo 4001 S (e + 2) := by
  have hk := has_lt (x := 0) h (by simp)
  rw [Nat.add_zero] at hk
  have := ((pastAt_iff (by simp)).1 hp).1
  have e1 : gapsTo 4001 S k = gapsTo 4000 S (e + 2) := by
    rw [gapsTo, if_neg (by rw [no_tok hk.1 (by decide)]; decide), if_neg (by rw [no_tok hk.1 (by decide)]; decide), if_pos h, hp]
  rw [e1]
  exact gapsTo_fuel _ _ _ (by omega) (by omega)
theorem gp_stop {S : List UInt8} {k : Nat} (h1 : has S k [32] = false) (h2 : has S k [10] = false) (h3 : has S k [47, 42] = false) : gapsTo 4001 S k = .ok k := by
  rw [gapsTo, if_neg (by rw [h1]; decide), if_neg (by rw [h2]; decide), if_neg (by rw [h3]; decide)]
theorem gp_stop_at {S : List UInt8} {k : Nat} {c : UInt8} (h : S[k]? = some c) (h1 : c ≠ 32) (h2 : c ≠ 10) (h3 : c ≠ 47) : gapsTo 4001 S k = .ok k := gp_stop (no_tok h h1) (no_tok h h2) (no_tok h h3)
theorem gp_end {S : List UInt8} {k : Nat} (h : S.length ≤ k) : gapsTo 4001 S k = .ok k := gp_stop (has_nil_false h (by simp)) (has_nil_false h (by simp)) (has_nil_false h (by simp))

theorem gapsTo_le {S : List UInt8} : ∀ (f k m : Nat), gapsTo f S k = .ok m → k ≤ S.length → m ≤ S.length
  | 0, _, _, h, _ => by cases h
  | f + 1, k, m, h, hk => by
    rw [gapsTo] at h
    split at h
    · rename_i hh
      have := (has_lt (x := 0) hh (by simp)).2
      exact gapsTo_le f _ _ h (by omega)
    split at h
    · rename_i hh
      have := (has_lt (x := 0) hh (by simp)).2
      exact gapsTo_le f _ _ h (by omega)
    split at h
    · split at h
      · cases h
      · rename_i e he
        have := (has_lt (x := 1) ((pastAt_iff (by simp)).1 he).2.1 (by simp)).2
        exact gapsTo_le f _ _ h (by omega)
    · injection h with h; omega

theorem has_in {S S' : List UInt8} {k k' n : Nat} {t : List UInt8} (h : ∀ i, i < n → S'[k' + i]? = S[k + i]?) (ht : t.length ≤ n) : has S' k' t = has S k t := by
  rw [Bool.eq_iff_iff, has_iff, has_iff]
  constructor
  · intro hh j hj; rw [← h j (by omega)]; exact hh j hj
  · intro hh j hj; rw [h j (by omega)]; exact hh j hj

/-- Gaps that were run through are run through wherever these bytes stand. -/
theorem gaps_run {S S' : List UInt8} (hS' : S'.length ≤ 4000) : ∀ (f k k' d : Nat), gapsTo f S k = .ok (k + d) → (∀ i, i < d → S'[k' + i]? = S[k + i]?) → gapsTo 4001 S' k' = gapsTo 4001 S' (k' + d)
  | 0, _, _, _, h, _ => by cases h
  | f + 1, k, k', d, h, hs => by
    rw [gapsTo] at h
    have one : ∀ d', (∀ i, i < d' + 1 → S'[k' + i]? = S[k + i]?) → (has S k [32] = true ∨ has S k [10] = true) → gapsTo f S (k + 1) = .ok (k + 1 + d') → gapsTo 4001 S' k' = gapsTo 4001 S' (k' + (d' + 1)) := by
      intro d' hs hb h
      have hb' : has S' k' [32] = true ∨ has S' k' [10] = true := by
        rw [has_in hs (t := [32]) (by simp), has_in hs (t := [10]) (by simp)]
        exact hb
      rw [gp_blank hS' hb', gaps_run hS' f (k + 1) (k' + 1) d' h (fun i hi => by
        have := hs (1 + i) (by omega)
        rw [← Nat.add_assoc, ← Nat.add_assoc] at this
        exact this)]
      congr 1; omega
    split at h
    · rename_i hh
      have := gapsTo_adv f _ _ h
      obtain ⟨d', rfl⟩ : ∃ d', d = d' + 1 := ⟨d - 1, by omega⟩
      exact one d' hs (.inl hh) (by rw [h]; congr 1; omega)
    split at h
    · rename_i hh
      have := gapsTo_adv f _ _ h
      obtain ⟨d', rfl⟩ : ∃ d', d = d' + 1 := ⟨d - 1, by omega⟩
      exact one d' hs (.inr hh) (by rw [h]; congr 1; omega)
    split at h
    · rename_i hh
      split at h
      · cases h
      · rename_i e he
        have a1 := gapsTo_adv f _ _ h
        have pe := (pastAt_iff (by simp)).1 he
        obtain ⟨i, rfl⟩ := Nat.exists_eq_add_of_le pe.1
        obtain ⟨d', rfl⟩ : ∃ d', d = 2 + i + 2 + d' := ⟨d - (2 + i + 2), by omega⟩
        have sh : ∀ x, ∀ j, j < 2 + i + 2 + d' - x → x ≤ 2 + i + 2 + d' → S'[k' + x + j]? = S[k + x + j]? := fun x j hj hx => by rw [Nat.add_assoc, Nat.add_assoc]; exact hs (x + j) (by omega)
        have n1 : has S' k' [47, 42] = true := by rw [has_in hs (by simp; omega)]; exact hh
        have n2 : pastAt S' (k' + 2) [42, 47] = some (k' + 2 + i) := by
          rw [pastAt_iff (by simp)]
          refine ⟨by omega, ?_, fun j h1 h2 => ?_⟩
          · have e0 := has_in (k := k + (2 + i)) (k' := k' + (2 + i)) (n := 2 + d') (t := [42, 47]) (fun j hj => sh (2 + i) j (by omega) (by omega)) (by simp)
            rw [show k' + 2 + i = k' + (2 + i) by omega, e0, show k + (2 + i) = k + 2 + i by omega]
            exact pe.2.1
          · obtain ⟨j', rfl⟩ := Nat.exists_eq_add_of_le h1
            have e0 := has_in (k := k + (2 + j')) (k' := k' + (2 + j')) (n := 2 + d') (t := [42, 47]) (fun j hj => sh (2 + j') j (by omega) (by omega)) (by simp)
            rw [show k' + 2 + j' = k' + (2 + j') by omega, e0, show k + (2 + j') = k + 2 + j' by omega]
            exact pe.2.2 _ (by omega) (by omega)
        rw [gp_note hS' n1 n2, gaps_run hS' f (k + 2 + i + 2) (k' + 2 + i + 2) d' (by rw [h]; congr 1; omega) (fun j hj => by
          have := sh (2 + i + 2) j (by omega) (by omega)
          rw [show k' + 2 + i + 2 = k' + (2 + i + 2) by omega, show k + 2 + i + 2 = k + (2 + i + 2) by omega]
          exact this)]
        congr 1; omega
    · injection h with h
      have : d = 0 := by omega
      subst this
      rfl

theorem rule_eq (n : Nat) (S : List UInt8) (k : Nat) : rule n S k = bnd (ruleBody n) (fun p => bnd (tok [125]) fun _ => ret p) S k := by
  unfold rule ruleBody bnd
  cases aheadOfPart n 60 S k with
  | error x => rfl
  | ok a =>
    obtain ⟨_, k1⟩ := a
    simp only
    cases selectors S k1 with
    | error x => rfl
    | ok a =>
      obtain ⟨l, k2⟩ := a
      simp only
      cases tok [123] S k2 with
      | error x => rfl
      | ok a =>
        obtain ⟨_, k3⟩ := a
        simp only
        cases decls S k3 with
        | error x => rfl
        | ok a => rfl
theorem mediaHead_eq (S : List UInt8) (k : Nat) : mediaHead S k = bnd mediaBody (fun n => bnd (tok [123]) fun _ => ret n) S k := by
  unfold mediaHead mediaBody bnd
  cases gaps S k with
  | error x => rfl
  | ok a =>
    obtain ⟨g, k1⟩ := a
    cases g with
    | false => rfl
    | true =>
      simp only [if_true]
      cases sname S k1 with
      | error x => rfl
      | ok a =>
        obtain ⟨n, k2⟩ := a
        simp only
        cases gaps S k2 with
        | error x => rfl
        | ok a => rfl
theorem bnd_ok {α β : Type} {f : Pr α} {g : α → Pr β} {S : List UInt8} {k m : Nat} {b : β} : bnd f g S k = .ok (b, m) ↔ ∃ a m1, f S k = .ok (a, m1) ∧ g a S m1 = .ok (b, m) := by
  unfold bnd
  cases f S k with
  | error x => simp
  | ok a =>
    obtain ⟨a, m1⟩ := a
    constructor
    · intro h; exact ⟨a, m1, rfl, h⟩
    · rintro ⟨a', m1', h1, h2⟩
      injection h1 with h1
      injection h1 with h1 h3
      subst h1 h3
      exact h2
theorem tok_iff {S : List UInt8} {k m : Nat} {c : UInt8} {u : Unit} : tok [c] S k = .ok (u, m) ↔ S[k]? = some c ∧ m = k + 1 := by
  unfold tok opt
  rw [← one_tok (k := k)]
  cases h : has S k [c] with
  | false => simp [bad]
  | true =>
    simp [ret]
    exact eq_comm
theorem rule_iff {n : Nat} {S : List UInt8} {k m : Nat} {p : List (List Prt) × List Dcl} : rule n S k = .ok (p, m) ↔ ∃ d, m = k + d + 1 ∧ ruleBody n S k = .ok (p, k + d) ∧ S[k + d]? = some 125 := by
  rw [rule_eq, bnd_ok]
  constructor
  · rintro ⟨a, m1, h1, h2⟩
    rw [bnd_ok] at h2
    obtain ⟨_, m2, h3, h4⟩ := h2
    obtain ⟨d, rfl⟩ := Nat.exists_eq_add_of_le ((loc_ruleBody n).adv h1)
    rw [tok_iff] at h3
    injection h4 with h4
    injection h4 with h4 h5
    subst h4
    exact ⟨d, by omega, h1, h3.1⟩
  · rintro ⟨d, rfl, h1, h2⟩
    refine ⟨p, k + d, h1, ?_⟩
    rw [bnd_ok]
    exact ⟨(), k + d + 1, tok_iff.2 ⟨h2, rfl⟩, rfl⟩
theorem mediaHead_iff {S : List UInt8} {k m : Nat} {n : List UInt8} : mediaHead S k = .ok (n, m) ↔ ∃ d, m = k + d + 1 ∧ mediaBody S k = .ok (n, k + d) ∧ S[k + d]? = some 123 := by
  rw [mediaHead_eq, bnd_ok]
  constructor
  · rintro ⟨a, m1, h1, h2⟩
    rw [bnd_ok] at h2
    obtain ⟨_, m2, h3, h4⟩ := h2
    obtain ⟨d, rfl⟩ := Nat.exists_eq_add_of_le (loc_mediaBody.adv h1)
    rw [tok_iff] at h3
    injection h4 with h4
    injection h4 with h4 h5
    subst h4
    exact ⟨d, by omega, h1, h3.1⟩
  · rintro ⟨d, rfl, h1, h2⟩
    refine ⟨n, k + d, h1, ?_⟩
    rw [bnd_ok]
    exact ⟨(), k + d + 1, tok_iff.2 ⟨h2, rfl⟩, rfl⟩

theorem ahead_iff {n most : Nat} {S : List UInt8} {k m : Nat} {u : Unit} : aheadOfPart n most S k = .ok (u, m) ↔ hasPart S k = true ∧ n < most ∧ m = k := by
  unfold aheadOfPart
  cases hasPart S k with
  | false => simp
  | true =>
    by_cases h : most ≤ n
    · simp [h]; omega
    · simp [h]
      constructor
      · rintro rfl; exact ⟨by omega, rfl⟩
      · rintro ⟨_, rfl⟩; rfl
theorem ruleBody_part {n : Nat} {S : List UInt8} {k m : Nat} {p : List (List Prt) × List Dcl} (h : ruleBody n S k = .ok (p, m)) : hasPart S k = true ∧ n < 60 := by
  unfold ruleBody at h
  rw [bnd_ok] at h
  obtain ⟨_, m1, h1, _⟩ := h
  rw [ahead_iff] at h1
  exact ⟨h1.1, h1.2.1⟩
theorem ruleBody_n {n n' : Nat} {S : List UInt8} {k m : Nat} {p : List (List Prt) × List Dcl} (h : ruleBody n S k = .ok (p, m)) (hn : n' < 60) : ruleBody n' S k = .ok (p, m) := by
  unfold ruleBody at h ⊢
  rw [bnd_ok] at h ⊢
  obtain ⟨a, m1, h1, h2⟩ := h
  rw [ahead_iff] at h1
  exact ⟨a, m1, ahead_iff.2 ⟨h1.1, hn, h1.2.2⟩, h2⟩
/-- A rule is that rule wherever its bytes stand. -/
theorem rule_move {n n' : Nat} {S S' : List UInt8} {k k' d : Nat} {p : List (List Prt) × List Dcl} (h : rule n S k = .ok (p, k + d + 1)) (hs : ∀ i, i ≤ d → S'[k' + i]? = S[k + i]?) (hn : n' < 60) : rule n' S' k' = .ok (p, k' + d + 1) := by
  rw [rule_iff] at h
  obtain ⟨d', hd, h1, h2⟩ := h
  have : d' = d := by omega
  subst this
  have ag : Agree 125 S k S' k' d' := ⟨h2, hs⟩
  exact rule_iff.2 ⟨d', rfl, (loc_ruleBody n').loc (ruleBody_n h1 hn) ag (Nat.le_refl _), ag.brace'⟩
theorem hasPart_byte {S : List UInt8} {k : Nat} (h : hasPart S k = true) : ∃ c, S[k]? = some c ∧ (letterB c = true ∨ c = 42 ∨ c = 46 ∨ c = 35 ∨ c = 91 ∨ c = 58) := by
  unfold hasPart at h
  simp only [Bool.or_eq_true] at h
  rcases h with ((((h | h) | h) | h) | h) | h
  · unfold fitsAt at h
    split at h
    · rename_i c hc; exact ⟨c, hc, .inl h⟩
    · cases h
  · exact ⟨_, one_tok.1 h, by simp⟩
  · exact ⟨_, one_tok.1 h, by simp⟩
  · exact ⟨_, one_tok.1 h, by simp⟩
  · exact ⟨_, one_tok.1 h, by simp⟩
  · exact ⟨58, (has_lt (x := 0) h (by decide)).1, by simp⟩
/-- No rule begins with one of these. -/
theorem rule_byte {n : Nat} {S : List UInt8} {k m : Nat} {p : List (List Prt) × List Dcl} (h : rule n S k = .ok (p, m)) : ∃ c, S[k]? = some c ∧ c ≠ 32 ∧ c ≠ 10 ∧ c ≠ 47 ∧ c ≠ 64 ∧ c ≠ 125 := by
  rw [rule_iff] at h
  obtain ⟨d, _, h1, _⟩ := h
  obtain ⟨c, hc, hl⟩ := hasPart_byte (ruleBody_part h1).1
  refine ⟨c, hc, ?_⟩
  rcases hl with hl | hl
  · have : 97 ≤ c.toNat := by unfold letterB at hl; simp at hl; exact hl.1
    have hx : c ≠ 125 := by rintro rfl; exact absurd hl (by decide)
    refine ⟨?_, ?_, ?_, ?_, hx⟩ <;> (rintro rfl; exact absurd this (by decide))
  · rcases hl with rfl | rfl | rfl | rfl | rfl <;> decide
theorem rule_n {n : Nat} {S : List UInt8} {k m : Nat} {p : List (List Prt) × List Dcl} (h : rule n S k = .ok (p, m)) : n < 60 := by
  rw [rule_iff] at h
  obtain ⟨d, _, h1, _⟩ := h
  exact (ruleBody_part h1).2

/-- The sheet S, read from k on, within md, where the rules L stand already, has the rules A. -/
inductive Ps (S : List UInt8) : Nat → Option (List UInt8) → List Rl → List Rl → Prop where
  | fin {k k1 : Nat} {L : List Rl} (g : gapsTo 4001 S k = .ok k1) (e : S.length ≤ k1) : Ps S k none L L
  | media {k k1 k2 : Nat} {n : List UInt8} {L A : List Rl} (g : gapsTo 4001 S k = .ok k1) (e : k1 < S.length) (h : has S k1 mediaL = true) (m : mediaHead S (k1 + 6) = .ok (n, k2)) (next : Ps S k2 (some n) L A) : Ps S k none L A
  | rule0 {k k1 k2 : Nat} {p : List (List Prt) × List Dcl} {L A : List Rl} (g : gapsTo 4001 S k = .ok k1) (e : k1 < S.length) (h : has S k1 mediaL = false) (m : rule L.length S k1 = .ok (p, k2)) (next : Ps S k2 none (L ++ [⟨[], p.1, p.2, k1, k2⟩]) A) : Ps S k none L A
  | close {k k1 : Nat} {n : List UInt8} {L A : List Rl} (g : gapsTo 4001 S k = .ok k1) (h : has S k1 [125] = true) (next : Ps S (k1 + 1) none L A) : Ps S k (some n) L A
  | rule1 {k k1 k2 : Nat} {n : List UInt8} {p : List (List Prt) × List Dcl} {L A : List Rl} (g : gapsTo 4001 S k = .ok k1) (h : has S k1 [125] = false) (m : rule L.length S k1 = .ok (p, k2)) (next : Ps S k2 (some n) (L ++ [⟨n, p.1, p.2, k1, k2⟩]) A) : Ps S k (some n) L A

theorem Ps.of_rulesTo {S : List UInt8} : ∀ (f k : Nat) (md : Option (List UInt8)) (L A : List Rl), rulesTo f S k md L = .ok A → Ps S k md L A
  | 0, _, _, _, _, h => by simp [rulesTo] at h
  | f + 1, k, md, L, A, h => by
    rw [rulesTo] at h
    split at h
    · cases h
    rename_i g k1 e
    have e1 := (gaps_iff.1 e).1
    cases md with
    | none =>
      simp only at h
      split at h
      · rename_i he
        injection h with h
        subst h
        exact .fin e1 he
      rename_i he
      split at h
      · rename_i hm
        split at h
        · cases h
        rename_i n k2 em
        exact .media e1 (by omega) hm em (Ps.of_rulesTo f _ _ _ _ h)
      · rename_i hm
        split at h
        · cases h
        rename_i p k2 er
        exact .rule0 e1 (by omega) (by simpa using hm) er (Ps.of_rulesTo f _ _ _ _ h)
    | some n =>
      simp only at h
      split at h
      · rename_i hc
        exact .close e1 hc (Ps.of_rulesTo f _ _ _ _ h)
      · rename_i hc
        split at h
        · cases h
        rename_i p k2 er
        exact .rule1 e1 (by simpa using hc) er (Ps.of_rulesTo f _ _ _ _ h)

/-- Enough steps are enough. -/
theorem Ps.to_rulesTo {S : List UInt8} {k : Nat} {md : Option (List UInt8)} {L A : List Rl} (h : Ps S k md L A) : ∀ f, S.length - k < f → rulesTo f S k md L = .ok A := by
  have adv : ∀ {k k1 : Nat}, gapsTo 4001 S k = .ok k1 → k ≤ k1 := fun h => gapsTo_adv _ _ _ h
  induction h with
  | fin g e =>
    intro f hf
    obtain ⟨f, rfl⟩ : ∃ f', f = f' + 1 := ⟨f - 1, by omega⟩
    rw [rulesTo, gaps_iff.2 ⟨g, rfl⟩]
    simp only
    rw [if_pos e]
  | media g e hm m next ih =>
    intro f hf
    obtain ⟨f, rfl⟩ : ∃ f', f = f' + 1 := ⟨f - 1, by omega⟩
    have a1 := adv g
    obtain ⟨d, rfl, _, _⟩ := mediaHead_iff.1 m
    rw [rulesTo, gaps_iff.2 ⟨g, rfl⟩]
    simp only
    rw [if_neg (by omega), if_pos hm, m]
    exact ih f (by omega)
  | rule0 g e hm m next ih =>
    intro f hf
    obtain ⟨f, rfl⟩ : ∃ f', f = f' + 1 := ⟨f - 1, by omega⟩
    have a1 := adv g
    obtain ⟨d, rfl, _, _⟩ := rule_iff.1 m
    rw [rulesTo, gaps_iff.2 ⟨g, rfl⟩]
    simp only
    rw [if_neg (by omega), if_neg (by rw [hm]; decide), m]
    exact ih f (by omega)
  | close g hc next ih =>
    intro f hf
    obtain ⟨f, rfl⟩ : ∃ f', f = f' + 1 := ⟨f - 1, by omega⟩
    have a1 := adv g
    have a2 := (has_lt (x := 0) hc (by simp)).2
    rw [rulesTo, gaps_iff.2 ⟨g, rfl⟩]
    simp only
    rw [if_pos hc]
    exact ih f (by omega)
  | rule1 g hc m next ih =>
    intro f hf
    obtain ⟨f, rfl⟩ : ∃ f', f = f' + 1 := ⟨f - 1, by omega⟩
    have a1 := adv g
    obtain ⟨d, rfl, _, hb⟩ := rule_iff.1 m
    have a2 := (List.getElem?_eq_some_iff.1 hb).1
    rw [rulesTo, gaps_iff.2 ⟨g, rfl⟩]
    simp only
    rw [if_neg (by rw [hc]; decide), m]
    exact ih f (by omega)

theorem Ps.iff {S : List UInt8} (hS : S.length ≤ 4000) {A : List Rl} : sheetParse S = .ok A ↔ Ps S 0 none [] A := by
  unfold sheetParse
  rw [if_neg (by omega)]
  exact ⟨fun h => Ps.of_rulesTo _ _ _ _ _ h, fun h => h.to_rulesTo 4001 (by omega)⟩
theorem sheetParse_le {S : List UInt8} {A : List Rl} (h : sheetParse S = .ok A) : S.length ≤ 4000 := by
  unfold sheetParse at h
  split at h
  · cases h
  · omega
theorem Ps.congr {S : List UInt8} {k k' : Nat} {md : Option (List UInt8)} {L A : List Rl} (h : Ps S k' md L A) (e : gapsTo 4001 S k = gapsTo 4001 S k') : Ps S k md L A := by
  cases h with
  | fin g h => exact .fin (e.trans g) h
  | media g h1 h2 h3 h4 => exact .media (e.trans g) h1 h2 h3 h4
  | rule0 g h1 h2 h3 h4 => exact .rule0 (e.trans g) h1 h2 h3 h4
  | close g h1 h2 => exact .close (e.trans g) h1 h2
  | rule1 g h1 h2 h3 => exact .rule1 (e.trans g) h1 h2 h3
end Go.Proofs.Ytanedepdhbdcgaa
