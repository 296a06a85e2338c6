/- Texts that the statement's proof stands on: SheetRead, SheetLaws. -/
import Derived.Test.YtblkldfokeeaeacGreatDoorA01
namespace Go.Proofs.YtblkldfokeeaeacGreatDoor.Sh
open Go
theorem has_lt {S : List UInt8} {k x : Nat} {t : List UInt8} (h : has S k t = true) (ht : x < t.length) : S[k + x]? = some t[x] ∧ k + x < S.length := by
  have := has_iff.1 h x ht
  exact ⟨this, (List.getElem?_eq_some_iff.1 this).1⟩
theorem no_tok {S : List UInt8} {k : Nat} {c x : UInt8} {t : List UInt8} (h : S[k]? = some c) (hx : c ≠ x) : has S k (x :: t) = false := by
  cases hh : has S k (x :: t) with
  | false => rfl
  | true =>
    have := (has_lt (x := 0) hh (by simp)).1
    rw [Nat.add_zero, h] at this
    injection this with this
    exact absurd this hx
theorem one_tok {S : List UInt8} {k : Nat} {c : UInt8} : has S k [c] = true ↔ S[k]? = some c := by
  rw [has_iff]
  constructor
  · intro h; exact h 0 (by simp)
  · intro h j hj
    have : j = 0 := by simpa using hj
    subst this
    exact h
theorem gapsTo_fuel {S : List UInt8} : ∀ (f f' k : Nat), S.length - k < f → S.length - k < f' → gapsTo f S k = gapsTo f' S k
  | 0, _, _, h, _ => absurd h (Nat.not_lt_zero _)
  | _ + 1, 0, _, _, h => absurd h (Nat.not_lt_zero _)
  | f + 1, f' + 1, k, h1, h2 => by
    rw [gapsTo, gapsTo]
    by_cases a1 : has S k [32] = true
    · have := (has_lt (x := 0) a1 (by simp)).2
      rw [if_pos a1, if_pos a1]
      exact gapsTo_fuel f f' (k + 1) (by omega) (by omega)
    rw [if_neg a1, if_neg a1]
    by_cases a2 : has S k [10] = true
    · have := (has_lt (x := 0) a2 (by simp)).2
      rw [if_pos a2, if_pos a2]
      exact gapsTo_fuel f f' (k + 1) (by omega) (by omega)
    rw [if_neg a2, if_neg a2]
    by_cases a3 : has S k [47, 42] = true
    · have := (has_lt (x := 0) a3 (by simp)).2
      rw [if_pos a3, if_pos a3]
      cases hp : pastAt S (k + 2) [42, 47] with
      | none => rfl
      | some e =>
        have := ((pastAt_iff (by simp)).1 hp).1
        exact gapsTo_fuel f f' (e + 2) (by omega) (by omega)
    · rw [if_neg a3, if_neg a3]
theorem gaps_iff {S : List UInt8} {k m : Nat} {g : Bool} : gaps S k = .ok (g, m) ↔ gapsTo 4001 S k = .ok m ∧ g = decide (k < m) := by
  unfold gaps
  cases gapsTo 4001 S k with
  | error x => simp
  | ok k1 =>
    simp
    constructor
    · rintro ⟨h1, rfl⟩; exact ⟨rfl, h1.symm⟩
    · rintro ⟨rfl, h⟩; exact ⟨h.symm, rfl⟩
theorem gp_blank {S : List UInt8} {k : Nat} (hS : S.length ≤ 4000) (h : has S k [32] = true ∨ has S k [10] = true) : gapsTo 4001 S k = gapsTo 4001 S (k + 1) := by
  have hk : k < S.length := by
    rcases h with h | h
    · exact (has_lt (x := 0) h (by simp)).2
    · exact (has_lt (x := 0) h (by simp)).2
  have e : gapsTo 4001 S k = gapsTo 4000 S (k + 1) := by
    rw [gapsTo]
    by_cases a : has S k [32] = true
    · rw [if_pos a]
    · rw [if_neg a, if_pos (h.resolve_left a)]
  rw [e]
  exact gapsTo_fuel _ _ _ (by omega) (by omega)
theorem gp_note {S : List UInt8} {k e : Nat} (hS : S.length ≤ 4000) (h : has S k [47, 42] = true) (hp : pastAt S (k + 2) [42, 47] = some e) : gapsTo 4001 S k = gapsTo 4001 S (e + 2) := by
  have hk := has_lt (x := 0) h (by simp)
  rw [Nat.add_zero] at hk
  have := ((pastAt_iff (by simp)).1 hp).1
  have e1 : gapsTo 4001 S k = gapsTo 4000 S (e + 2) := by
    rw [gapsTo, if_neg (by rw [no_tok hk.1 (by decide)]; decide), if_neg (by rw [no_tok hk.1 (by decide)]; decide), if_pos h, hp]
  rw [e1]
  exact gapsTo_fuel _ _ _ (by omega) (by omega)
theorem gp_stop {S : List UInt8} {k : Nat} (h1 : has S k [32] = false) (h2 : has S k [10] = false) (h3 : has S k [47, 42] = false) : gapsTo 4001 S k = .ok k := by
  rw [gapsTo, if_neg (by rw [h1]; decide), if_neg (by rw [h2]; decide), if_neg (by rw [h3]; decide)]
theorem gp_stop_at {S : List UInt8} {k : Nat} {c : UInt8} (h : S[k]? = some c) (h1 : c ≠ 32) (h2 : c ≠ 10) (h3 : c ≠ 47) : gapsTo 4001 S k = .ok k := gp_stop (no_tok h h1) (no_tok h h2) (no_tok h h3)
theorem gp_end {S : List UInt8} {k : Nat} (h : S.length ≤ k) : gapsTo 4001 S k = .ok k := gp_stop (has_nil_false h (by simp)) (has_nil_false h (by simp)) (has_nil_false h (by simp))
theorem gapsTo_le {S : List UInt8} : ∀ (f k m : Nat), gapsTo f S k = .ok m → k ≤ S.length → m ≤ S.length
  | 0, _, _, h, _ => by cases h
  | f + 1, k, m, h, hk => by
    rw [gapsTo] at h
    split at h
    · rename_i hh
      have := (has_lt (x := 0) hh (by simp)).2
      exact gapsTo_le f _ _ h (by omega)
    split at h
    · rename_i hh
      have := (has_lt (x := 0) hh (by simp)).2
      exact gapsTo_le f _ _ h (by omega)
    split at h
    · split at h
      · cases h
      · rename_i e he
        have := (has_lt (x := 1) ((pastAt_iff (by simp)).1 he).2.1 (by simp)).2
        exact gapsTo_le f _ _ h (by omega)
    · injection h with h; omega
theorem has_in {S S' : List UInt8} {k k' n : Nat} {t : List UInt8} (h : ∀ i, i < n → S'[k' + i]? = S[k + i]?) (ht : t.length ≤ n) : has S' k' t = has S k t := by
  rw [Bool.eq_iff_iff, has_iff, has_iff]
  constructor
  · intro hh j hj; rw [← h j (by omega)]; exact hh j hj
  · intro hh j hj; rw [h j (by omega)]; exact hh j hj
theorem gaps_run {S S' : List UInt8} (hS' : S'.length ≤ 4000) : ∀ (f k k' d : Nat), gapsTo f S k = .ok (k + d) → (∀ i, i < d → S'[k' + i]? = S[k + i]?) → gapsTo 4001 S' k' = gapsTo 4001 S' (k' + d)
  | 0, _, _, _, h, _ => by cases h
  | f + 1, k, k', d, h, hs => by
    rw [gapsTo] at h
    have one : ∀ d', (∀ i, i < d' + 1 → S'[k' + i]? = S[k + i]?) → (has S k [32] = true ∨ has S k [10] = true) → gapsTo f S (k + 1) = .ok (k + 1 + d') → gapsTo 4001 S' k' = gapsTo 4001 S' (k' + (d' + 1)) := by
      intro d' hs hb h
      have hb' : has S' k' [32] = true ∨ has S' k' [10] = true := by
        rw [has_in hs (t := [32]) (by simp), has_in hs (t := [10]) (by simp)]
        exact hb
      rw [gp_blank hS' hb', gaps_run hS' f (k + 1) (k' + 1) d' h (fun i hi => by
        have := hs (1 + i) (by omega)
        rw [← Nat.add_assoc, ← Nat.add_assoc] at this
        exact this)]
      congr 1; omega
    split at h
    · rename_i hh
      have := gapsTo_adv f _ _ h
      obtain ⟨d', rfl⟩ : ∃ d', d = d' + 1 := ⟨d - 1, by omega⟩
      exact one d' hs (.inl hh) (by rw [h]; congr 1; omega)
    split at h
    · rename_i hh
      have := gapsTo_adv f _ _ h
      obtain ⟨d', rfl⟩ : ∃ d', d = d' + 1 := ⟨d - 1, by omega⟩
      exact one d' hs (.inr hh) (by rw [h]; congr 1; omega)
    split at h
    · rename_i hh
      split at h
      · cases h
      · rename_i e he
        have a1 := gapsTo_adv f _ _ h
        have pe := (pastAt_iff (by simp)).1 he
        obtain ⟨i, rfl⟩ := Nat.exists_eq_add_of_le pe.1
        obtain ⟨d', rfl⟩ : ∃ d', d = 2 + i + 2 + d' := ⟨d - (2 + i + 2), by omega⟩
        have sh : ∀ x, ∀ j, j < 2 + i + 2 + d' - x → x ≤ 2 + i + 2 + d' → S'[k' + x + j]? = S[k + x + j]? := fun x j hj hx => by rw [Nat.add_assoc, Nat.add_assoc]; exact hs (x + j) (by omega)
        have n1 : has S' k' [47, 42] = true := by rw [has_in hs (by simp; omega)]; exact hh
        have n2 : pastAt S' (k' + 2) [42, 47] = some (k' + 2 + i) := by
          rw [pastAt_iff (by simp)]
          refine ⟨by omega, ?_, fun j h1 h2 => ?_⟩
          · have e0 := has_in (k := k + (2 + i)) (k' := k' + (2 + i)) (n := 2 + d') (t := [42, 47]) (fun j hj => sh (2 + i) j (by omega) (by omega)) (by simp)
            rw [show k' + 2 + i = k' + (2 + i) by omega, e0, show k + (2 + i) = k + 2 + i by omega]
            exact pe.2.1
          · obtain ⟨j', rfl⟩ := Nat.exists_eq_add_of_le h1
            have e0 := has_in (k := k + (2 + j')) (k' := k' + (2 + j')) (n := 2 + d') (t := [42, 47]) (fun j hj => sh (2 + j') j (by omega) (by omega)) (by simp)
            rw [show k' + 2 + j' = k' + (2 + j') by omega, e0, show k + (2 + j') = k + 2 + j' by omega]
            exact pe.2.2 _ (by omega) (by omega)
        rw [gp_note hS' n1 n2, gaps_run hS' f (k + 2 + i + 2) (k' + 2 + i + 2) d' (by rw [h]; congr 1; omega) (fun j hj => by
          have := sh (2 + i + 2) j (by omega) (by omega)
          rw [show k' + 2 + i + 2 = k' + (2 + i + 2) by omega, show k + 2 + i + 2 = k + (2 + i + 2) by omega]
          exact this)]
        congr 1; omega
    · injection h with h
      have : d = 0 := by omega
      subst this
      rfl
theorem rule_eq (n : Nat) (S : List UInt8) (k : Nat) : rule n S k = bnd (ruleBody n) (fun p => bnd (tok [125]) fun _ => ret p) S k := by
  unfold rule ruleBody bnd
  cases aheadOfPart n 60 S k with
  | error x => rfl
  | ok a =>
    obtain ⟨_, k1⟩ := a
    simp only
    cases selectors S k1 with
    | error x => rfl
    | ok a =>
      obtain ⟨l, k2⟩ := a
      simp only
      cases tok [123] S k2 with
      | error x => rfl
      | ok a =>
        obtain ⟨_, k3⟩ := a
        simp only
        cases decls S k3 with
        | error x => rfl
        | ok a => rfl
theorem mediaHead_eq (S : List UInt8) (k : Nat) : mediaHead S k = bnd mediaBody (fun n => bnd (tok [123]) fun _ => ret n) S k := by
  unfold mediaHead mediaBody bnd
  cases gaps S k with
  | error x => rfl
  | ok a =>
    obtain ⟨g, k1⟩ := a
    cases g with
    | false => rfl
    | true =>
      simp only [if_true]
      cases sname S k1 with
      | error x => rfl
      | ok a =>
        obtain ⟨n, k2⟩ := a
        simp only
        cases gaps S k2 with
        | error x => rfl
        | ok a => rfl
theorem bnd_ok {α β : Type} {f : Pr α} {g : α → Pr β} {S : List UInt8} {k m : Nat} {b : β} : bnd f g S k = .ok (b, m) ↔ ∃ a m1, f S k = .ok (a, m1) ∧ g a S m1 = .ok (b, m) := by
  unfold bnd
  cases f S k with
  | error x => simp
  | ok a =>
    obtain ⟨a, m1⟩ := a
    constructor
    · intro h; exact ⟨a, m1, rfl, h⟩
    · rintro ⟨a', m1', h1, h2⟩
      injection h1 with h1
      injection h1 with h1 h3
      subst h1 h3
      exact h2
theorem tok_iff {S : List UInt8} {k m : Nat} {c : UInt8} {u : Unit} : tok [c] S k = .ok (u, m) ↔ S[k]? = some c ∧ m = k + 1 := by
  unfold tok opt
  rw [← one_tok (k := k)]
  cases h : has S k [c] with
  | false => simp [bad]
  | true =>
    simp [ret]
    exact eq_comm
theorem rule_iff {n : Nat} {S : List UInt8} {k m : Nat} {p : List (List Prt) × List Dcl} : rule n S k = .ok (p, m) ↔ ∃ d, m = k + d + 1 ∧ ruleBody n S k = .ok (p, k + d) ∧ S[k + d]? = some 125 := by
  rw [rule_eq, bnd_ok]
  constructor
  · rintro ⟨a, m1, h1, h2⟩
    rw [bnd_ok] at h2
    obtain ⟨_, m2, h3, h4⟩ := h2
    obtain ⟨d, rfl⟩ := Nat.exists_eq_add_of_le ((loc_ruleBody n).adv h1)
    rw [tok_iff] at h3
    injection h4 with h4
    injection h4 with h4 h5
    subst h4
    exact ⟨d, by omega, h1, h3.1⟩
  · rintro ⟨d, rfl, h1, h2⟩
    refine ⟨p, k + d, h1, ?_⟩
    rw [bnd_ok]
    exact ⟨(), k + d + 1, tok_iff.2 ⟨h2, rfl⟩, rfl⟩
theorem mediaHead_iff {S : List UInt8} {k m : Nat} {n : List UInt8} : mediaHead S k = .ok (n, m) ↔ ∃ d, m = k + d + 1 ∧ mediaBody S k = .ok (n, k + d) ∧ S[k + d]? = some 123 := by
  rw [mediaHead_eq, bnd_ok]
  constructor
  · rintro ⟨a, m1, h1, h2⟩
    rw [bnd_ok] at h2
    obtain ⟨_, m2, h3, h4⟩ := h2
    obtain ⟨d, rfl⟩ := Nat.exists_eq_add_of_le (loc_mediaBody.adv h1)
    rw [tok_iff] at h3
    injection h4 with h4
    injection h4 with h4 h5
    subst h4
    exact ⟨d, by omega, h1, h3.1⟩
  · rintro ⟨d, rfl, h1, h2⟩
    refine ⟨n, k + d, h1, ?_⟩
    rw [bnd_ok]
    exact ⟨(), k + d + 1, tok_iff.2 ⟨h2, rfl⟩, rfl⟩
theorem ahead_iff {n most : Nat} {S : List UInt8} {k m : Nat} {u : Unit} : aheadOfPart n most S k = .ok (u, m) ↔ hasPart S k = true ∧ n < most ∧ m = k := by
  unfold aheadOfPart
  cases hasPart S k with
  | false => simp
  | true =>
    by_cases h : most ≤ n
    · simp [h]; omega
    · simp [h]
      constructor
      · rintro rfl; exact ⟨by omega, rfl⟩
      · rintro ⟨_, rfl⟩; rfl
theorem ruleBody_part {n : Nat} {S : List UInt8} {k m : Nat} {p : List (List Prt) × List Dcl} (h : ruleBody n S k = .ok (p, m)) : hasPart S k = true ∧ n < 60 := by
  unfold ruleBody at h
  rw [bnd_ok] at h
  obtain ⟨_, m1, h1, _⟩ := h
  rw [ahead_iff] at h1
  exact ⟨h1.1, h1.2.1⟩
theorem ruleBody_n {n n' : Nat} {S : List UInt8} {k m : Nat} {p : List (List Prt) × List Dcl} (h : ruleBody n S k = .ok (p, m)) (hn : n' < 60) : ruleBody n' S k = .ok (p, m) := by
  unfold ruleBody at h ⊢
  rw [bnd_ok] at h ⊢
  obtain ⟨a, m1, h1, h2⟩ := h
  rw [ahead_iff] at h1
  exact ⟨a, m1, ahead_iff.2 ⟨h1.1, hn, h1.2.2⟩, h2⟩
theorem rule_move {n n' : Nat} {S S' : List UInt8} {k k' d : Nat} {p : List (List Prt) × List Dcl} (h : rule n S k = .ok (p, k + d + 1)) (hs : ∀ i, i ≤ d → S'[k' + i]? = S[k + i]?) (hn : n' < 60) : rule n' S' k' = .ok (p, k' + d + 1) := by
  rw [rule_iff] at h
  obtain ⟨d', hd, h1, h2⟩ := h
  have : d' = d := by omega
  subst this
  have ag : Agree 125 S k S' k' d' := ⟨h2, hs⟩
  exact rule_iff.2 ⟨d', rfl, (loc_ruleBody n').loc (ruleBody_n h1 hn) ag (Nat.le_refl _), ag.brace'⟩
theorem hasPart_byte {S : List UInt8} {k : Nat} (h : hasPart S k = true) : ∃ c, S[k]? = some c ∧ (letterB c = true ∨ c = 42 ∨ c = 46 ∨ c = 35 ∨ c = 91 ∨ c = 58) := by
  unfold hasPart at h
  simp only [Bool.or_eq_true] at h
  rcases h with ((((h | h) | h) | h) | h) | h
  · unfold fitsAt at h
    split at h
    · rename_i c hc; exact ⟨c, hc, .inl h⟩
    · cases h
  · exact ⟨_, one_tok.1 h, by simp⟩
  · exact ⟨_, one_tok.1 h, by simp⟩
  · exact ⟨_, one_tok.1 h, by simp⟩
  · exact ⟨_, one_tok.1 h, by simp⟩
  · exact ⟨58, (has_lt (x := 0) h (by decide)).1, by simp⟩
theorem rule_byte {n : Nat} {S : List UInt8} {k m : Nat} {p : List (List Prt) × List Dcl} (h : rule n S k = .ok (p, m)) : ∃ c, S[k]? = some c ∧ c ≠ 32 ∧ c ≠ 10 ∧ c ≠ 47 ∧ c ≠ 64 ∧ c ≠ 125 := by
  rw [rule_iff] at h
  obtain ⟨d, _, h1, _⟩ := h
  obtain ⟨c, hc, hl⟩ := hasPart_byte (ruleBody_part h1).1
  refine ⟨c, hc, ?_⟩
  rcases hl with hl | hl
  · have : 97 ≤ c.toNat := by unfold letterB at hl; simp at hl; exact hl.1
    have hx : c ≠ 125 := by rintro rfl; exact absurd hl (by decide)
    refine ⟨?_, ?_, ?_, ?_, hx⟩ <;> (rintro rfl; exact absurd this (by decide))
  · rcases hl with rfl | rfl | rfl | rfl | rfl <;> decide
theorem rule_n {n : Nat} {S : List UInt8} {k m : Nat} {p : List (List Prt) × List Dcl} (h : rule n S k = .ok (p, m)) : n < 60 := by
  rw [rule_iff] at h
  obtain ⟨d, _, h1, _⟩ := h
  exact (ruleBody_part h1).2
inductive Ps (S : List UInt8) : Nat → Option (List UInt8) → List Rl → List Rl → Prop where
  | fin {k k1 : Nat} {L : List Rl} (g : gapsTo 4001 S k = .ok k1) (e : S.length ≤ k1) : Ps S k none L L
  | media {k k1 k2 : Nat} {n : List UInt8} {L A : List Rl} (g : gapsTo 4001 S k = .ok k1) (e : k1 < S.length) (h : has S k1 mediaL = true) (m : mediaHead S (k1 + 6) = .ok (n, k2)) (next : Ps S k2 (some n) L A) : Ps S k none L A
  | rule0 {k k1 k2 : Nat} {p : List (List Prt) × List Dcl} {L A : List Rl} (g : gapsTo 4001 S k = .ok k1) (e : k1 < S.length) (h : has S k1 mediaL = false) (m : rule L.length S k1 = .ok (p, k2)) (next : Ps S k2 none (L ++ [⟨[], p.1, p.2, k1, k2⟩]) A) : Ps S k none L A
  | close {k k1 : Nat} {n : List UInt8} {L A : List Rl} (g : gapsTo 4001 S k = .ok k1) (h : has S k1 [125] = true) (next : Ps S (k1 + 1) none L A) : Ps S k (some n) L A
  | rule1 {k k1 k2 : Nat} {n : List UInt8} {p : List (List Prt) × List Dcl} {L A : List Rl} (g : gapsTo 4001 S k = .ok k1) (h : has S k1 [125] = false) (m : rule L.length S k1 = .ok (p, k2)) (next : Ps S k2 (some n) (L ++ [⟨n, p.1, p.2, k1, k2⟩]) A) : Ps S k (some n) L A
theorem Ps.of_rulesTo {S : List UInt8} : ∀ (f k : Nat) (md : Option (List UInt8)) (L A : List Rl), rulesTo f S k md L = .ok A → Ps S k md L A
  | 0, _, _, _, _, h => by simp [rulesTo] at h
  | f + 1, k, md, L, A, h => by
    rw [rulesTo] at h
    split at h
    · cases h
    rename_i g k1 e
    have e1 := (gaps_iff.1 e).1
    cases md with
    | none =>
      simp only at h
      split at h
      · rename_i he
        injection h with h
        subst h
        exact .fin e1 he
      rename_i he
      split at h
      · rename_i hm
        split at h
        · cases h
        rename_i n k2 em
        exact .media e1 (by omega) hm em (Ps.of_rulesTo f _ _ _ _ h)
      · rename_i hm
        split at h
        · cases h
        rename_i p k2 er
        exact .rule0 e1 (by omega) (by simpa using hm) er (Ps.of_rulesTo f _ _ _ _ h)
    | some n =>
      simp only at h
      split at h
      · rename_i hc
        exact .close e1 hc (Ps.of_rulesTo f _ _ _ _ h)
      · rename_i hc
        split at h
        · cases h
        rename_i p k2 er
        exact .rule1 e1 (by simpa using hc) er (Ps.of_rulesTo f _ _ _ _ h)
theorem Ps.to_rulesTo {S : List UInt8} {k : Nat} {md : Option (List UInt8)} {L A : List Rl} (h : Ps S k md L A) : ∀ f, S.length - k < f → rulesTo f S k md L = .ok A := by
  have adv : ∀ {k k1 : Nat}, gapsTo 4001 S k = .ok k1 → k ≤ k1 := fun h => gapsTo_adv _ _ _ h
  induction h with
  | fin g e =>
    intro f hf
    obtain ⟨f, rfl⟩ : ∃ f', f = f' + 1 := ⟨f - 1, by omega⟩
    rw [rulesTo, gaps_iff.2 ⟨g, rfl⟩]
    simp only
    rw [if_pos e]
  | media g e hm m next ih =>
    intro f hf
    obtain ⟨f, rfl⟩ : ∃ f', f = f' + 1 := ⟨f - 1, by omega⟩
    have a1 := adv g
    obtain ⟨d, rfl, _, _⟩ := mediaHead_iff.1 m
    rw [rulesTo, gaps_iff.2 ⟨g, rfl⟩]
    simp only
    rw [if_neg (by omega), if_pos hm, m]
    exact ih f (by omega)
  | rule0 g e hm m next ih =>
    intro f hf
    obtain ⟨f, rfl⟩ : ∃ f', f = f' + 1 := ⟨f - 1, by omega⟩
    have a1 := adv g
    obtain ⟨d, rfl, _, _⟩ := rule_iff.1 m
    rw [rulesTo, gaps_iff.2 ⟨g, rfl⟩]
    simp only
    rw [if_neg (by omega), if_neg (by rw [hm]; decide), m]
    exact ih f (by omega)
  | close g hc next ih =>
    intro f hf
    obtain ⟨f, rfl⟩ : ∃ f', f = f' + 1 := ⟨f - 1, by omega⟩
    have a1 := adv g
    have a2 := (has_lt (x := 0) hc (by simp)).2
    rw [rulesTo, gaps_iff.2 ⟨g, rfl⟩]
    simp only
    rw [if_pos hc]
    exact ih f (by omega)
  | rule1 g hc m next ih =>
    intro f hf
    obtain ⟨f, rfl⟩ : ∃ f', f = f' + 1 := ⟨f - 1, by omega⟩
    have a1 := adv g
    obtain ⟨d, rfl, _, hb⟩ := rule_iff.1 m
    have a2 := (List.getElem?_eq_some_iff.1 hb).1
    rw [rulesTo, gaps_iff.2 ⟨g, rfl⟩]
    simp only
    rw [if_neg (by rw [hc]; decide), m]
    exact ih f (by omega)
theorem Ps.iff {S : List UInt8} (hS : S.length ≤ 4000) {A : List Rl} : sheetParse S = .ok A ↔ Ps S 0 none [] A := by
  unfold sheetParse
  rw [if_neg (by omega)]
  exact ⟨fun h => Ps.of_rulesTo _ _ _ _ _ h, fun h => h.to_rulesTo 4001 (by omega)⟩
theorem sheetParse_le {S : List UInt8} {A : List Rl} (h : sheetParse S = .ok A) : S.length ≤ 4000 := by
  unfold sheetParse at h
  split at h
  · cases h
  · omega
theorem Ps.congr {S : List UInt8} {k k' : Nat} {md : Option (List UInt8)} {L A : List Rl} (h : Ps S k' md L A) (e : gapsTo 4001 S k = gapsTo 4001 S k') : Ps S k md L A := by
  cases h with
  | fin g h => exact .fin (e.trans g) h
  | media g h1 h2 h3 h4 => exact .media (e.trans g) h1 h2 h3 h4
  | rule0 g h1 h2 h3 h4 => exact .rule0 (e.trans g) h1 h2 h3 h4
  | close g h1 h2 => exact .close (e.trans g) h1 h2
  | rule1 g h1 h2 h3 => exact .rule1 (e.trans g) h1 h2 h3
end Go.Proofs.YtblkldfokeeaeacGreatDoor.Sh
namespace Go.Proofs.YtblkldfokeeaeacGreatDoor.Sh
open Go
def sh (o : Nat) (r : Rl) : Rl := { r with from_ := r.from_ + o, to_ := r.to_ + o }
def Chain (S : List UInt8) : Nat → List Rl → Prop
  | _, [] => True
  | k, r :: M => k ≤ r.from_ ∧ r.from_ < r.to_ ∧ r.to_ ≤ S.length ∧ (∃ n, rule n S r.from_ = .ok ((r.sels, r.decls), r.to_)) ∧ Chain S r.to_ M
theorem Chain.weaken {S : List UInt8} {k k' : Nat} {M : List Rl} (h : Chain S k' M) (hk : k ≤ k') : Chain S k M := by
  cases M with
  | nil => trivial
  | cons r M => exact ⟨Nat.le_trans hk h.1, h.2⟩
theorem Chain.mem {S : List UInt8} : ∀ {M : List Rl} {k : Nat}, Chain S k M → ∀ r ∈ M, k ≤ r.from_ ∧ r.from_ < r.to_ ∧ r.to_ ≤ S.length ∧ ∃ n, rule n S r.from_ = .ok ((r.sels, r.decls), r.to_)
  | [], _, _, _, h => by cases h
  | r :: M, k, h, x, hx => by
    rcases List.mem_cons.1 hx with rfl | hx
    · exact ⟨h.1, h.2.1, h.2.2.1, h.2.2.2.1⟩
    · have := Chain.mem h.2.2.2.2 x hx
      exact ⟨by have := h.1; have := h.2.1; omega, this.2⟩
theorem Ps.chain {S : List UInt8} {k : Nat} {md : Option (List UInt8)} {L A : List Rl} (h : Ps S k md L A) : ∃ M, A = L ++ M ∧ Chain S k M ∧ (L.length ≤ 60 → A.length ≤ 60) := by
  have adv : ∀ {k k1 : Nat}, gapsTo 4001 S k = .ok k1 → k ≤ k1 := fun h => gapsTo_adv _ _ _ h
  induction h with
  | fin g e => exact ⟨[], by simp, trivial, fun h => h⟩
  | media g e hm m next ih =>
    obtain ⟨M, h1, h2, h3⟩ := ih
    obtain ⟨d, rfl, _, _⟩ := mediaHead_iff.1 m
    have := adv g
    exact ⟨M, h1, h2.weaken (by omega), h3⟩
  | @rule0 k k1 k2 p L A g e hm m next ih =>
    obtain ⟨M, h1, h2, h3⟩ := ih
    have a1 := adv g
    have hn := rule_n m
    have m' := m
    obtain ⟨d, rfl, _, hb⟩ := rule_iff.1 m
    have a2 := (List.getElem?_eq_some_iff.1 hb).1
    exact ⟨⟨[], p.1, p.2, k1, k1 + d + 1⟩ :: M, by rw [h1]; simp, ⟨a1, by show k1 < k1 + d + 1; omega, by show k1 + d + 1 ≤ S.length; omega, ⟨_, m'⟩, h2⟩, fun _ => h3 (by simp; omega)⟩
  | close g hc next ih =>
    obtain ⟨M, h1, h2, h3⟩ := ih
    have := adv g
    exact ⟨M, h1, h2.weaken (by omega), h3⟩
  | @rule1 k k1 k2 n p L A g hc m next ih =>
    obtain ⟨M, h1, h2, h3⟩ := ih
    have a1 := adv g
    have hn := rule_n m
    have m' := m
    obtain ⟨d, rfl, _, hb⟩ := rule_iff.1 m
    have a2 := (List.getElem?_eq_some_iff.1 hb).1
    exact ⟨⟨n, p.1, p.2, k1, k1 + d + 1⟩ :: M, by rw [h1]; simp, ⟨a1, by show k1 < k1 + d + 1; omega, by show k1 + d + 1 ≤ S.length; omega, ⟨_, m'⟩, h2⟩, fun _ => h3 (by simp; omega)⟩
theorem sub_get {S : List UInt8} {a b : Nat} (i : Nat) (hi : i < b - a) : (sub S a b)[i]? = S[a + i]? := by
  unfold sub
  rw [List.getElem?_take, if_pos hi, List.getElem?_drop]
theorem sub_len {S : List UInt8} {a b : Nat} (hb : b ≤ S.length) : (sub S a b).length = b - a := by
  unfold sub
  rw [List.length_take, List.length_drop]; omega
theorem rule_alone {n : Nat} {S : List UInt8} {a b : Nat} {p : List (List Prt) × List Dcl} (hS : S.length ≤ 4000) (h : rule n S a = .ok (p, b)) (hb : b ≤ S.length) : sheetParse (sub S a b) = .ok [⟨[], p.1, p.2, 0, b - a⟩] := by
  obtain ⟨d, rfl, _, _⟩ := rule_iff.1 h
  have hl := sub_len (a := a) hb
  have hl' : (sub S a (a + d + 1)).length = d + 1 := by rw [hl]; omega
  obtain ⟨c, hc, c1, c2, c3, c4, c5⟩ := rule_byte h
  have hc' : (sub S a (a + d + 1))[0]? = some c := by rw [sub_get 0 (by omega)]; exact hc
  have hr : rule 0 (sub S a (a + d + 1)) 0 = .ok (p, 0 + d + 1) := rule_move h (fun i hi => by rw [Nat.zero_add, sub_get i (by omega)]) (by omega)
  rw [Ps.iff (by omega)]
  have e : a + d + 1 - a = 0 + d + 1 := by omega
  rw [e]
  refine .rule0 (gp_stop_at hc' c1 c2 c3) (by omega) (no_tok hc' c4) hr ?_
  exact .fin (gp_end (by omega)) (by omega)
theorem Ps.shift {S S' : List UInt8} {k : Nat} {md : Option (List UInt8)} {L A : List Rl} (h : Ps S k md L A) (hS' : S'.length ≤ 4000) (o : Nat) :
    (∀ i, S'[k + o + i]? = S[k + i]?) → ∃ M, A = L ++ M ∧ ∀ L2 : List Rl, L2.length + M.length ≤ 60 → Ps S' (k + o) md L2 (L2 ++ M.map (sh o)) := by
  have adv : ∀ {k k1 : Nat}, gapsTo 4001 S k = .ok k1 → k ≤ k1 := fun h => gapsTo_adv _ _ _ h
  have fwd : ∀ {k : Nat} (x : Nat), (∀ i, S'[k + o + i]? = S[k + i]?) → ∀ i, S'[k + x + o + i]? = S[k + x + i]? := fun {k} x hs i => by
    have := hs (x + i)
    rw [show k + x + o + i = k + o + (x + i) by omega, this, Nat.add_assoc]
  have byBrace : ∀ {k k1 n : Nat} {c : UInt8}, (c = 123 ∨ c = 125) → gapsTo 4001 S k = .ok k1 → (∀ i, S'[k + o + i]? = S[k + i]?) → k1 ≤ k + n → S[k + n]? = some c → gapsTo 4001 S' (k + o) = .ok (k1 + o) := by
    intro k k1 n c hc g hs hn hb
    have a := adv g
    obtain ⟨d, rfl⟩ := Nat.exists_eq_add_of_le a
    have := gapsTo_loc hc 4001 k (k + o) n d g ⟨hb, fun i _ => hs i⟩ (by omega)
    rw [this]; congr 1; omega
  induction h with
  | @fin k k1 L g e =>
    intro hs
    refine ⟨[], by simp, fun L2 _ => ?_⟩
    have a := adv g
    obtain ⟨d, rfl⟩ := Nat.exists_eq_add_of_le a
    have r := gaps_run hS' 4001 k (k + o) d g (fun i _ => hs i)
    have hend : S'.length ≤ k + o + d := by
      have : S'[k + o + d]? = none := (hs d).trans (List.getElem?_eq_none (by omega))
      exact List.getElem?_eq_none_iff.1 this
    rw [gp_end hend] at r
    simpa using Ps.fin (L := L2) r hend
  | @media k k1 k2 n L A g e hm m next ih =>
    intro hs
    obtain ⟨d, rfl, mb, hb⟩ := mediaHead_iff.1 m
    have a := adv g
    obtain ⟨x, rfl⟩ := Nat.exists_eq_add_of_le a
    have hs2 := fwd (x + 6 + d + 1) hs
    obtain ⟨M, h1, h2⟩ := ih (by rw [show k + x + 6 + d + 1 = k + (x + 6 + d + 1) by omega]; exact hs2)
    refine ⟨M, h1, fun L2 hl => ?_⟩
    have g' := byBrace (n := x + 6 + d) (.inl rfl) g hs (by omega) (by rw [← hb]; congr 1; omega)
    have hx : S'[k + o + (x + 6 + d)]? = some 123 := by rw [hs]; rw [← hb]; congr 1; omega
    have e' := (List.getElem?_eq_some_iff.1 hx).1
    refine .media (n := n) g' (by omega) ?_ (mediaHead_iff.2 ⟨d, rfl, ?_, ?_⟩) ?_
    · have := has_in (S := S) (S' := S') (k := k + x) (k' := k + x + o) (n := 6) (t := mediaL) (fun i _ => fwd x hs i) (by decide)
      rw [this]; exact hm
    · have := loc_mediaBody.loc mb (S' := S') (k' := k + x + o + 6) (n := d) ⟨hb, fun i _ => by
        have := fwd (x + 6) hs i
        rw [show k + x + o + 6 + i = k + (x + 6) + o + i by omega, this]; congr 1⟩ (Nat.le_refl _)
      exact this
    · rw [← hx]; congr 1; omega
    · have := h2 L2 hl
      rw [show k + x + o + 6 + d + 1 = k + x + 6 + d + 1 + o by omega]
      exact this
  | @rule0 k k1 k2 p L A g e hm m next ih =>
    intro hs
    obtain ⟨c, hc, _, _, _, c4, _⟩ := rule_byte m
    have m' := m
    obtain ⟨d, rfl, _, hb⟩ := rule_iff.1 m
    have a := adv g
    obtain ⟨x, rfl⟩ := Nat.exists_eq_add_of_le a
    have hs2 := fwd (x + d + 1) hs
    obtain ⟨M, h1, h2⟩ := ih (by rw [show k + x + d + 1 = k + (x + d + 1) by omega]; exact hs2)
    refine ⟨⟨[], p.1, p.2, k + x, k + x + d + 1⟩ :: M, by rw [h1]; simp, fun L2 hl => ?_⟩
    simp only [List.length_cons] at hl
    have g' := byBrace (n := x + d) (.inr rfl) g hs (by omega) (by rw [← hb]; congr 1; omega)
    have hx : S'[k + x + o]? = some c := by have := fwd x hs 0; simp only [Nat.add_zero] at this; rw [this]; exact hc
    have e' := (List.getElem?_eq_some_iff.1 hx).1
    refine .rule0 g' e' (no_tok hx c4) (rule_move m' (fun i _ => fwd x hs i) (by omega)) ?_
    have := h2 (L2 ++ [sh o ⟨[], p.1, p.2, k + x, k + x + d + 1⟩]) (by simp; omega)
    rw [show k + x + o + d + 1 = k + x + d + 1 + o by omega]
    simpa [sh] using this
  | @close k k1 n L A g hc next ih =>
    intro hs
    have a := adv g
    obtain ⟨x, rfl⟩ := Nat.exists_eq_add_of_le a
    have hs2 := fwd (x + 1) hs
    obtain ⟨M, h1, h2⟩ := ih hs2
    refine ⟨M, h1, fun L2 hl => ?_⟩
    have hb := one_tok.1 hc
    have g' := byBrace (n := x) (.inr rfl) g hs (by omega) hb
    refine .close g' (one_tok.2 (by have := fwd x hs 0; simp only [Nat.add_zero] at this; rw [this]; exact hb)) ?_
    have := h2 L2 hl
    rw [show k + x + o + 1 = k + x + 1 + o by omega]
    exact this
  | @rule1 k k1 k2 n p L A g hcl m next ih =>
    intro hs
    obtain ⟨c, hc, _, _, _, _, c5⟩ := rule_byte m
    have m' := m
    obtain ⟨d, rfl, _, hb⟩ := rule_iff.1 m
    have a := adv g
    obtain ⟨x, rfl⟩ := Nat.exists_eq_add_of_le a
    have hs2 := fwd (x + d + 1) hs
    obtain ⟨M, h1, h2⟩ := ih (by rw [show k + x + d + 1 = k + (x + d + 1) by omega]; exact hs2)
    refine ⟨⟨n, p.1, p.2, k + x, k + x + d + 1⟩ :: M, by rw [h1]; simp, fun L2 hl => ?_⟩
    simp only [List.length_cons] at hl
    have g' := byBrace (n := x + d) (.inr rfl) g hs (by omega) (by rw [← hb]; congr 1; omega)
    have hx : S'[k + x + o]? = some c := by have := fwd x hs 0; simp only [Nat.add_zero] at this; rw [this]; exact hc
    refine .rule1 g' (no_tok hx c5) (rule_move m' (fun i _ => fwd x hs i) (by omega)) ?_
    have := h2 (L2 ++ [sh o ⟨n, p.1, p.2, k + x, k + x + d + 1⟩]) (by simp; omega)
    rw [show k + x + o + d + 1 = k + x + d + 1 + o by omega]
    simpa [sh] using this
theorem Ps.ahead {s S : List UInt8} {k : Nat} {md : Option (List UInt8)} {L A : List Rl} (h : Ps s k md L A) (hS : S.length ≤ 4000) (hp : ∀ i, i < s.length → S[i]? = s[i]?) (hl : s.length ≤ S.length) :
    k ≤ s.length → ∀ B, Ps S s.length none A B → Ps S k md L B := by
  have adv : ∀ {k k1 : Nat}, gapsTo 4001 s k = .ok k1 → k ≤ k1 := fun h => gapsTo_adv _ _ _ h
  have byBrace : ∀ {k k1 n : Nat} {c : UInt8}, (c = 123 ∨ c = 125) → gapsTo 4001 s k = .ok k1 → k1 ≤ k + n → s[k + n]? = some c → gapsTo 4001 S k = .ok k1 := by
    intro k k1 n c hc g hn hb
    have a := adv g
    obtain ⟨d, rfl⟩ := Nat.exists_eq_add_of_le a
    have hlt := (List.getElem?_eq_some_iff.1 hb).1
    exact gapsTo_loc hc 4001 k k n d g ⟨hb, fun i hi => hp _ (by omega)⟩ (by omega)
  induction h with
  | @fin k k1 L g e =>
    intro hk B hB
    have a := adv g
    have b := gapsTo_le _ _ _ g hk
    obtain ⟨d, rfl⟩ := Nat.exists_eq_add_of_le a
    refine hB.congr ?_
    rw [gaps_run hS 4001 k k d g (fun i hi => hp _ (by omega))]
    congr 1; omega
  | @media k k1 k2 n L A g e hm m next ih =>
    intro hk B hB
    obtain ⟨d, rfl, mb, hb⟩ := mediaHead_iff.1 m
    have a := adv g
    have hlt := (List.getElem?_eq_some_iff.1 hb).1
    obtain ⟨x, rfl⟩ := Nat.exists_eq_add_of_le a
    have g' := byBrace (n := x + 6 + d) (.inl rfl) g (by omega) (by rw [← hb]; congr 1; omega)
    refine .media (n := n) g' (by omega) ?_ (mediaHead_iff.2 ⟨d, rfl, ?_, ?_⟩) (ih (by omega) B hB)
    · rw [has_in (S := s) (k := k + x) (n := 6) (fun i hi => hp _ (by omega)) (by decide)]; exact hm
    · exact loc_mediaBody.loc mb (n := d) ⟨hb, fun i hi => hp _ (by omega)⟩ (Nat.le_refl _)
    · rw [hp _ hlt]; exact hb
  | @rule0 k k1 k2 p L A g e hm m next ih =>
    intro hk B hB
    obtain ⟨c, hc, _, _, _, c4, _⟩ := rule_byte m
    have m' := m
    have hn := rule_n m
    obtain ⟨d, rfl, _, hb⟩ := rule_iff.1 m
    have a := adv g
    have hlt := (List.getElem?_eq_some_iff.1 hb).1
    obtain ⟨x, rfl⟩ := Nat.exists_eq_add_of_le a
    have g' := byBrace (n := x + d) (.inr rfl) g (by omega) (by rw [← hb]; congr 1; omega)
    exact .rule0 g' (by omega) (no_tok (by rw [hp _ e]; exact hc) c4) (rule_move m' (fun i hi => hp _ (by omega)) hn) (ih (by omega) B hB)
  | @close k k1 n L A g hc next ih =>
    intro hk B hB
    have hb := one_tok.1 hc
    have a := adv g
    have hlt := (List.getElem?_eq_some_iff.1 hb).1
    obtain ⟨x, rfl⟩ := Nat.exists_eq_add_of_le a
    have g' := byBrace (n := x) (.inr rfl) g (by omega) hb
    exact .close g' (one_tok.2 (by rw [hp _ hlt]; exact hb)) (ih (by omega) B hB)
  | @rule1 k k1 k2 n p L A g hcl m next ih =>
    intro hk B hB
    obtain ⟨c, hc, _, _, _, _, c5⟩ := rule_byte m
    have m' := m
    have hn := rule_n m
    obtain ⟨d, rfl, _, hb⟩ := rule_iff.1 m
    have a := adv g
    have hlt := (List.getElem?_eq_some_iff.1 hb).1
    have hlt2 := (List.getElem?_eq_some_iff.1 hc).1
    obtain ⟨x, rfl⟩ := Nat.exists_eq_add_of_le a
    have g' := byBrace (n := x + d) (.inr rfl) g (by omega) (by rw [← hb]; congr 1; omega)
    exact .rule1 g' (no_tok (by rw [hp _ hlt2]; exact hc) c5) (rule_move m' (fun i hi => hp _ (by omega)) hn) (ih (by omega) B hB)
theorem sheet_joined {s t : List UInt8} {A B : List Rl} (hA : sheetParse s = .ok A) (hB : sheetParse t = .ok B) (hl : s.length + t.length + 1 ≤ 4000) (h60 : A.length + B.length ≤ 60) :
    sheetParse (s ++ [10] ++ t) = .ok (A ++ B.map (sh (s.length + 1))) := by
  have hlen : (s ++ [10] ++ t).length = s.length + 1 + t.length := by simp; omega
  rw [Ps.iff (by omega)] at hA hB ⊢
  refine hA.ahead (by omega) (fun i hi => ?_) (by omega) (Nat.zero_le _) _ ?_
  · rw [List.append_assoc, List.getElem?_append_left hi]
  obtain ⟨M, h1, h2⟩ := hB.shift (S' := s ++ [10] ++ t) (by omega) (s.length + 1) (fun i => by
    rw [List.getElem?_append_right (by simp)]
    congr 1
    simp)
  simp only [List.nil_append] at h1
  subst h1
  have := h2 A h60
  rw [Nat.zero_add] at this
  refine this.congr ?_
  refine gp_blank (by omega) (.inr (one_tok.2 ?_))
  rw [List.append_assoc, List.getElem?_append_right (Nat.le_refl _)]
  simp
theorem blanks_run {S : List UInt8} (hS : S.length ≤ 4000) : ∀ (d k : Nat), (∀ i, i < d → S[k + i]? = some 32) → gapsTo 4001 S k = gapsTo 4001 S (k + d)
  | 0, _, _ => rfl
  | d + 1, k, h => by
    rw [gp_blank hS (.inl (one_tok.2 (by simpa using h 0 (by omega)))), blanks_run hS d (k + 1) (fun i hi => by
      have := h (1 + i) (by omega)
      rw [← Nat.add_assoc] at this
      exact this)]
    congr 1; omega
theorem Ps.blank {S S' : List UInt8} {k : Nat} {md : Option (List UInt8)} {L A : List Rl} (h : Ps S k md L A) (hS : S.length ≤ 4000) (hl : S'.length = S.length) (a b : Nat)
    (out : ∀ i, i < a ∨ b ≤ i → S'[i]? = S[i]?) (within : ∀ i, a ≤ i → i < b → S'[i]? = some 32) (hA : A.length ≤ 60) :
    ∀ (M : List Rl) (x : Nat) (hx : x < M.length), A = L ++ M → M[x].from_ = a → M[x].to_ = b → Ps S' k md L (L ++ M.eraseIdx x) := by
  have adv : ∀ {k k1 : Nat}, gapsTo 4001 S k = .ok k1 → k ≤ k1 := fun h => gapsTo_adv _ _ _ h
  have byBrace : ∀ {k k1 n : Nat} {c : UInt8}, (c = 123 ∨ c = 125) → gapsTo 4001 S k = .ok k1 → k1 ≤ k + n → S[k + n]? = some c → k + n < a → gapsTo 4001 S' k = .ok k1 := by
    intro k k1 n c hc g hn hb ha
    have a1 := adv g
    obtain ⟨d, rfl⟩ := Nat.exists_eq_add_of_le a1
    exact gapsTo_loc hc 4001 k k n d g ⟨hb, fun i hi => out _ (.inl (by omega))⟩ (by omega)
  have here : ∀ {k k1 d : Nat} {md : Option (List UInt8)} {r : Rl} {L A M : List Rl}, gapsTo 4001 S k = .ok k1 → k1 = a → k1 + d + 1 = b → Ps S (k1 + d + 1) md (L ++ [r]) A → A = L ++ (r :: M) → A.length ≤ 60 → Ps S' k md L (L ++ M) := by
    intro k k1 d md r L A M g e1 e2 next hM hA
    obtain ⟨M2, h1, h2⟩ := next.shift (S' := S') (by omega) 0 (fun i => by rw [Nat.add_zero]; exact out _ (.inr (by omega)))
    have : M2 = M := by
      rw [hM] at h1
      simp at h1
      exact h1.symm
    subst this
    have h3 := h2 L (by rw [hM] at hA; simp at hA; omega)
    have e0 : M2.map (sh 0) = M2 := by
      have : ∀ r : Rl, sh 0 r = r := fun r => by simp [sh]
      simp [List.map_congr_left (fun r _ => this r)]
    rw [e0, Nat.add_zero] at h3
    refine h3.congr ?_
    have a1 := adv g
    obtain ⟨y, rfl⟩ := Nat.exists_eq_add_of_le a1
    rw [gaps_run (S := S) (by omega) 4001 k k y g (fun i hi => out _ (.inl (by omega))), blanks_run (by omega) (d + 1) (k + y) (fun i hi => within _ (by omega) (by omega))]
    rfl
  induction h with
  | fin g e =>
    intro M x hx hM _ _
    have : M = [] := by simpa using hM
    subst this
    exact absurd hx (by simp)
  | @media k k1 k2 n L A g e hm m next ih =>
    intro M x hx hM ha hb'
    obtain ⟨M2, c1, c2, _⟩ := next.chain
    have : M2 = M := by rw [hM] at c1; simpa using c1.symm
    subst this
    have hfrom := (c2.mem _ (List.getElem_mem hx)).1
    obtain ⟨d, rfl, mb, hb⟩ := mediaHead_iff.1 m
    have a1 := adv g
    have hlt := (List.getElem?_eq_some_iff.1 hb).1
    obtain ⟨y, rfl⟩ := Nat.exists_eq_add_of_le a1
    have g' := byBrace (n := y + 6 + d) (.inl rfl) g (by omega) (by rw [← hb]; congr 1; omega) (by omega)
    refine .media (n := n) g' (by omega) ?_ (mediaHead_iff.2 ⟨d, rfl, ?_, ?_⟩) (ih hA M2 x hx hM ha hb')
    · rw [has_in (S := S) (k := k + y) (n := 6) (fun i hi => out _ (.inl (by omega))) (by decide)]; exact hm
    · exact loc_mediaBody.loc mb (n := d) ⟨hb, fun i hi => out _ (.inl (by omega))⟩ (Nat.le_refl _)
    · rw [out _ (.inl (by omega))]; exact hb
  | @rule0 k k1 k2 p L A g e hm m next ih =>
    intro M x hx hM ha hb'
    obtain ⟨M2, c1, c2, _⟩ := next.chain
    have hMM : M = ⟨[], p.1, p.2, k1, k2⟩ :: M2 := by rw [hM] at c1; simpa using c1
    subst hMM
    obtain ⟨c, hc, _, _, _, c4, _⟩ := rule_byte m
    have m' := m
    have hn := rule_n m
    obtain ⟨d, rfl, _, hb⟩ := rule_iff.1 m
    cases x with
    | zero => exact here g ha hb' next hM hA
    | succ x =>
      have hx' : x < M2.length := by simpa using hx
      simp only [List.getElem_cons_succ] at ha hb'
      have hfrom := (c2.mem _ (List.getElem_mem hx')).1
      have a1 := adv g
      have hlt := (List.getElem?_eq_some_iff.1 hb).1
      obtain ⟨y, rfl⟩ := Nat.exists_eq_add_of_le a1
      have g' := byBrace (n := y + d) (.inr rfl) g (by omega) (by rw [← hb]; congr 1; omega) (by omega)
      have := ih hA M2 x hx' (by rw [hM]; simp) ha hb'
      refine .rule0 g' (by omega) (no_tok (by rw [out _ (.inl (by omega))]; exact hc) c4) (rule_move m' (fun i hi => out _ (.inl (by omega))) hn) ?_
      simpa using this
  | @close k k1 n L A g hcl next ih =>
    intro M x hx hM ha hb'
    obtain ⟨M2, c1, c2, _⟩ := next.chain
    have : M2 = M := by rw [hM] at c1; simpa using c1.symm
    subst this
    have hfrom := (c2.mem _ (List.getElem_mem hx)).1
    have hb := one_tok.1 hcl
    have a1 := adv g
    obtain ⟨y, rfl⟩ := Nat.exists_eq_add_of_le a1
    have g' := byBrace (n := y) (.inr rfl) g (by omega) hb (by omega)
    exact .close g' (one_tok.2 (by rw [out _ (.inl (by omega))]; exact hb)) (ih hA M2 x hx hM ha hb')
  | @rule1 k k1 k2 n p L A g hcl m next ih =>
    intro M x hx hM ha hb'
    obtain ⟨M2, c1, c2, _⟩ := next.chain
    have hMM : M = ⟨n, p.1, p.2, k1, k2⟩ :: M2 := by rw [hM] at c1; simpa using c1
    subst hMM
    obtain ⟨c, hc, _, _, _, _, c5⟩ := rule_byte m
    have m' := m
    have hn := rule_n m
    obtain ⟨d, rfl, _, hb⟩ := rule_iff.1 m
    cases x with
    | zero => exact here g ha hb' next hM hA
    | succ x =>
      have hx' : x < M2.length := by simpa using hx
      simp only [List.getElem_cons_succ] at ha hb'
      have hfrom := (c2.mem _ (List.getElem_mem hx')).1
      have a1 := adv g
      obtain ⟨y, rfl⟩ := Nat.exists_eq_add_of_le a1
      have g' := byBrace (n := y + d) (.inr rfl) g (by omega) (by rw [← hb]; congr 1; omega) (by omega)
      have := ih hA M2 x hx' (by rw [hM]; simp) ha hb'
      refine .rule1 g' (no_tok (by rw [out _ (.inl (by omega))]; exact hc) c5) (rule_move m' (fun i hi => out _ (.inl (by omega))) hn) ?_
      simpa using this
def mwideL : List UInt8 := [64, 109, 101, 100, 105, 97, 32, 119, 105, 100, 101, 123]
def wideN : List UInt8 := [119, 105, 100, 101]
def mw (r : Rl) : Rl := { sh 12 r with media := wideN }
theorem media_in {s : List UInt8} {k : Nat} {md : Option (List UInt8)} {L A : List Rl} (h : Ps s k md L A) (hl : s.length + 13 ≤ 4000) : md = none → k ≤ s.length →
    ∀ L' : List Rl, L'.length = L.length → ∀ f, s.length + 13 - (12 + k) < f →
      (∃ M, A = L ++ M ∧ rulesTo f (mwideL ++ s ++ [125]) (12 + k) (some wideN) L' = .ok (L' ++ M.map mw)) ∨
      ((∃ r ∈ A, r.media ≠ []) ∨ ∃ x, rulesTo f (mwideL ++ s ++ [125]) (12 + k) (some wideN) L' = .error (2, x) ∧ 64 ∈ s) := by
  have len : (mwideL ++ s ++ [125]).length = s.length + 13 := by simp [mwideL]
  have inn : ∀ i, i < s.length → (mwideL ++ s ++ [125])[12 + i]? = s[i]? := fun i hi => by
    rw [List.append_assoc, List.getElem?_append_right (by simp [mwideL]), List.getElem?_append_left (by simp [mwideL]; exact hi)]
    congr 1
    simp [mwideL]
  have lst : (mwideL ++ s ++ [125])[12 + s.length]? = some 125 := by
    rw [List.append_assoc, List.getElem?_append_right (by simp [mwideL]), List.getElem?_append_right (by simp [mwideL])]
    simp [mwideL]
  have adv : ∀ {k k1 : Nat}, gapsTo 4001 s k = .ok k1 → k ≤ k1 := fun h => gapsTo_adv _ _ _ h
  generalize mwideL ++ s ++ [125] = S' at *
  have byBrace : ∀ {k k1 n : Nat} {c : UInt8}, (c = 123 ∨ c = 125) → gapsTo 4001 s k = .ok k1 → k1 ≤ k + n → s[k + n]? = some c → gapsTo 4001 S' (12 + k) = .ok (12 + k1) := by
    intro k k1 n c hc g hn hb
    have a := adv g
    obtain ⟨d, rfl⟩ := Nat.exists_eq_add_of_le a
    have hlt := (List.getElem?_eq_some_iff.1 hb).1
    have := gapsTo_loc hc 4001 k (12 + k) n d g ⟨hb, fun i hi => by rw [Nat.add_assoc]; exact inn _ (by omega)⟩ (by omega)
    rw [this]; congr 1; omega
  induction h with
  | @fin k k1 L g e =>
    intro _ hk L' hL f hf
    left
    refine ⟨[], by simp, ?_⟩
    have a := adv g
    have b := gapsTo_le _ _ _ g hk
    obtain ⟨d, rfl⟩ := Nat.exists_eq_add_of_le a
    have r := gaps_run (S' := S') (by omega) 4001 k (12 + k) d g (fun i hi => by rw [Nat.add_assoc]; exact inn _ (by omega))
    rw [show 12 + k + d = 12 + s.length by omega, gp_stop_at lst (by decide) (by decide) (by decide)] at r
    have q : Ps S' (12 + k) (some wideN) L' L' := .close r (one_tok.2 lst) (.fin (gp_end (by omega)) (by omega))
    rw [q.to_rulesTo f (by omega)]
    simp
  | @media k k1 k2 n L A g e hm m next ih =>
    intro _ hk L' hL f hf
    right
    right
    obtain ⟨d, rfl, mb, hb⟩ := mediaHead_iff.1 m
    have a := adv g
    have hlt := (List.getElem?_eq_some_iff.1 hb).1
    obtain ⟨x, rfl⟩ := Nat.exists_eq_add_of_le a
    have g' := byBrace (n := x + 6 + d) (.inl rfl) g (by omega) (by rw [← hb]; congr 1; omega)
    have h64 := (has_lt (x := 0) hm (by decide)).1
    rw [Nat.add_zero] at h64
    have h64' : S'[12 + (k + x)]? = some 64 := by rw [inn _ e]; exact h64
    obtain ⟨f, rfl⟩ : ∃ f', f = f' + 1 := ⟨f - 1, by omega⟩
    refine ⟨12 + (k + x), ?_, ?_⟩
    · have hp : hasPart S' (12 + (k + x)) = false := by
        cases hh : hasPart S' (12 + (k + x)) with
        | false => rfl
        | true =>
          obtain ⟨c, hc, hx⟩ := hasPart_byte hh
          rw [h64'] at hc
          injection hc with hc
          subst hc
          exact absurd hx (by decide)
      have hr : rule L'.length S' (12 + (k + x)) = .error (2, 12 + (k + x)) := by
        unfold rule bnd aheadOfPart
        rw [if_pos hp]
      rw [rulesTo, gaps_iff.2 ⟨g', rfl⟩]
      simp only
      rw [if_neg (by rw [no_tok h64' (by decide)]; decide), hr]
    · exact List.mem_of_getElem? h64
  | @rule0 k k1 k2 p L A g e hm m next ih =>
    intro _ hk L' hL f hf
    obtain ⟨c, hc, _, _, _, c4, c5⟩ := rule_byte m
    have m' := m
    have hn := rule_n m
    obtain ⟨d, rfl, _, hb⟩ := rule_iff.1 m
    have a := adv g
    have hlt := (List.getElem?_eq_some_iff.1 hb).1
    obtain ⟨x, rfl⟩ := Nat.exists_eq_add_of_le a
    have g' := byBrace (n := x + d) (.inr rfl) g (by omega) (by rw [← hb]; congr 1; omega)
    have hc' : S'[12 + (k + x)]? = some c := by rw [inn _ e]; exact hc
    have r' : rule L'.length S' (12 + (k + x)) = .ok (p, 12 + (k + x) + d + 1) := rule_move m' (fun i hi => by rw [Nat.add_assoc]; exact inn _ (by omega)) (by omega)
    obtain ⟨f, rfl⟩ : ∃ f', f = f' + 1 := ⟨f - 1, by omega⟩
    have step : rulesTo (f + 1) S' (12 + k) (some wideN) L' = rulesTo f S' (12 + (k + x + d + 1)) (some wideN) (L' ++ [mw ⟨[], p.1, p.2, k + x, k + x + d + 1⟩]) := by
      rw [rulesTo, gaps_iff.2 ⟨g', rfl⟩]
      simp only
      rw [if_neg (by rw [no_tok hc' c5]; decide), r']
      simp only [mw, sh]
      rw [show 12 + (k + x) + d + 1 = 12 + (k + x + d + 1) by omega, show 12 + (k + x) = k + x + 12 by omega, show 12 + (k + x + d + 1) = k + x + d + 1 + 12 by omega]
    rcases ih rfl (by omega) (L' ++ [mw ⟨[], p.1, p.2, k + x, k + x + d + 1⟩]) (by simp [hL]) f (by omega) with ⟨M, h1, h2⟩ | h2 | ⟨y, h2, h3⟩
    · left
      refine ⟨⟨[], p.1, p.2, k + x, k + x + d + 1⟩ :: M, by rw [h1]; simp, ?_⟩
      rw [step, h2]
      simp
    · exact .inr (.inl h2)
    · exact .inr (.inr ⟨y, by rw [step]; exact h2, h3⟩)
  | close g hc next ih => intro h; cases h
  | rule1 g hc m next ih => intro h; cases h
theorem sheet_media {s : List UInt8} {A : List Rl} (hA : sheetParse s = .ok A) (hl : s.length + 20 ≤ 4000) (hm : ∀ r ∈ A, r.media = []) :
    sheetParse (mwideL ++ s ++ [125]) = .ok (A.map mw) ∨ ∃ x, sheetParse (mwideL ++ s ++ [125]) = .error (2, x) ∧ 64 ∈ s := by
  have len : (mwideL ++ s ++ [125]).length = s.length + 13 := by simp [mwideL]
  rw [Ps.iff (by omega)] at hA
  have head : rulesTo 4001 (mwideL ++ s ++ [125]) 0 none [] = rulesTo 4000 (mwideL ++ s ++ [125]) 12 (some wideN) [] := by
    have e0 : ∀ i (hi : i < 12), (mwideL ++ s ++ [125])[i]? = some (mwideL[i]'(by simpa [mwideL] using hi)) := fun i hi => by
      rw [List.append_assoc, List.getElem?_append_left (by simpa [mwideL] using hi)]
      exact List.getElem?_eq_getElem _
    generalize mwideL ++ s ++ [125] = S' at *
    have b0 : S'[0]? = some 64 := e0 0 (by omega)
    have b6 : S'[6]? = some 32 := e0 6 (by omega)
    have b7 : S'[7]? = some 119 := e0 7 (by omega)
    have b11 : S'[11]? = some 123 := e0 11 (by omega)
    have g0 : gapsTo 4001 S' 0 = .ok 0 := gp_stop_at b0 (by decide) (by decide) (by decide)
    have hm : has S' 0 mediaL = true := by
      rw [has_iff]
      intro j hj
      have hj' : j < 6 := hj
      rw [Nat.zero_add, e0 j (by omega)]
      congr 1
      match j, hj' with
      | 0, _ => rfl
      | 1, _ => rfl
      | 2, _ => rfl
      | 3, _ => rfl
      | 4, _ => rfl
      | 5, _ => rfl
    have mh : mediaHead S' 6 = .ok (wideN, 12) := by
      have g1 : gaps S' 6 = .ok (true, 7) := gaps_iff.2 ⟨by rw [gp_blank (by omega) (.inl (one_tok.2 b6)), gp_stop_at b7 (by decide) (by decide) (by decide)], rfl⟩
      have g2 : gaps S' 11 = .ok (false, 11) := gaps_iff.2 ⟨gp_stop_at b11 (by decide) (by decide) (by decide), rfl⟩
      have ft : ∀ j (hj : j < 12) (q : UInt8 → Bool), fitsAt S' j q = q (mwideL[j]'(by simpa [mwideL] using hj)) := fun j hj q => by unfold fitsAt; rw [e0 j hj]
      have w : whileEnd S' 8 nameB = 11 := by
        rw [whileEnd_iff (by omega)]
        refine ⟨fun j h1 h2 => ?_, by rw [ft 11 (by omega)]; rfl⟩
        match j, h1, h2 with
        | 8, _, _ => rw [ft 8 (by omega)]; rfl
        | 9, _, _ => rw [ft 9 (by omega)]; rfl
        | 10, _, _ => rw [ft 10 (by omega)]; rfl
      have sb : sub S' 7 11 = wideN := by
        apply List.ext_getElem?
        intro i
        by_cases hi : i < 4
        · rw [sub_get i (by omega), e0 (7 + i) (by omega)]
          match i, hi with
          | 0, _ => rfl
          | 1, _ => rfl
          | 2, _ => rfl
          | 3, _ => rfl
        · rw [List.getElem?_eq_none (by rw [sub_len (by omega)]; omega), List.getElem?_eq_none (by show 4 ≤ i; omega)]
      have sn : sname S' 7 = .ok (wideN, 11) := by
        unfold sname nameTo
        rw [ft 7 (by omega), if_pos (by rfl), w]
        simp only
        rw [sb, if_neg (by decide)]
      have tk : tok [123] S' 11 = .ok ((), 12) := tok_iff.2 ⟨b11, rfl⟩
      simp only [mediaHead, bnd, g1, sn, g2, tk, ret, if_true]
    rw [rulesTo, gaps_iff.2 ⟨g0, rfl⟩]
    simp only
    rw [if_neg (by omega), if_pos hm, show 0 + 6 = 6 from rfl, mh]
  have sp : sheetParse (mwideL ++ s ++ [125]) = rulesTo 4000 (mwideL ++ s ++ [125]) 12 (some wideN) [] := by
    unfold sheetParse sheetAll
    rw [if_neg (by omega), head]
  rw [sp]
  rcases media_in hA (by omega) rfl (Nat.zero_le _) [] rfl 4000 (by omega) with ⟨M, h1, h2⟩ | ⟨r, hr, hne⟩ | ⟨x, h1, h2⟩
  · left
    simp only [List.nil_append] at h1 h2
    rw [h1]
    exact h2
  · exact absurd (hm r hr) hne
  · exact .inr ⟨x, h1, h2⟩
end Go.Proofs.YtblkldfokeeaeacGreatDoor.Sh
