/-
  What the plain answer of the SheetSpec text never does: no fault is 0, none lies outside of the text, and of everything there is little. No program is named here. Condition: the text has at most 4000 bytes.
-/
import Derived.Test.YtanedepdhbdcgaaSheetLaws
namespace Go.Proofs.Ytanedepdhbdcgaa
open Go

/-- A fault is one, and lies within the text; an answer goes on, within the text. -/
def Fine {α : Type} (S : List UInt8) (k : Nat) : Res (α × Nat) → Prop
  | .error x => x.1 ≠ 0 ∧ x.2 ≤ S.length
  | .ok (_, m) => k ≤ m ∧ m ≤ S.length

def Sane {α : Type} (f : Pr α) : Prop := ∀ (S : List UInt8) (k : Nat), S.length ≤ 4000 → k ≤ S.length → Fine S k (f S k)

theorem sane_ret {α : Type} (a : α) : Sane (ret a) := fun _ _ _ hk => ⟨Nat.le_refl _, hk⟩
theorem sane_bad {α : Type} {e : Nat} (he : e ≠ 0) : Sane (bad (α := α) e) := fun _ _ _ hk => ⟨he, hk⟩
theorem sane_if {α : Type} {P : α → Prop} {β : Type} {f : Pr α} {g : α → Pr β} (hf : Sane f) (hP : ∀ S k a m, f S k = .ok (a, m) → P a) (hg : ∀ a, P a → Sane (g a)) : Sane (bnd f g) := by
  intro S k hS hk
  have h := hf S k hS hk
  unfold bnd
  cases e : f S k with
  | error x => rw [e] at h; exact h
  | ok q =>
    obtain ⟨a, m⟩ := q
    rw [e] at h
    have h2 := hg a (hP S k a m e) S m hS h.2
    show Fine S k (g a S m)
    cases e2 : g a S m with
    | error x => rw [e2] at h2; exact h2
    | ok q => rw [e2] at h2; exact ⟨Nat.le_trans h.1 h2.1, h2.2⟩
theorem sane_bnd {α β : Type} {f : Pr α} {g : α → Pr β} (hf : Sane f) (hg : ∀ a, Sane (g a)) : Sane (bnd f g) := sane_if (P := fun _ => True) hf (fun _ _ _ _ _ => trivial) (fun a _ => hg a)
theorem sane_opt {α : Type} {t : List UInt8} {f g : Pr α} (hf : Sane f) (hg : Sane g) : Sane (opt t f g) := by
  intro S k hS hk
  unfold opt
  split
  · rename_i hh
    have := has_le hh hk
    have h := hf S (k + t.length) hS this
    cases e : f S (k + t.length) with
    | error x => rw [e] at h; exact h
    | ok q => rw [e] at h; exact ⟨by have := h.1; omega, h.2⟩
  · exact hg S k hS hk
theorem sane_look {α : Type} {t : List UInt8} {f g : Pr α} (hf : Sane f) (hg : Sane g) : Sane (look t f g) := by
  intro S k hS hk
  unfold look
  split
  · exact hf S k hS hk
  · exact hg S k hS hk
theorem sane_fits {α : Type} {p : UInt8 → Bool} {f g : Pr α} (hf : Sane f) (hg : Sane g) : Sane (fits p f g) := by
  intro S k hS hk
  unfold fits
  split
  · exact hf S k hS hk
  · exact hg S k hS hk
theorem sane_ended {α : Type} {f g : Pr α} (hf : Sane f) (hg : Sane g) : Sane (ended f g) := by
  intro S k hS hk
  unfold ended
  split
  · exact hf S k hS hk
  · exact hg S k hS hk
theorem sane_ite {α : Type} {q : Prop} [Decidable q] {f g : Pr α} (hf : q → Sane f) (hg : ¬ q → Sane g) : Sane (if q then f else g) := by
  split
  · rename_i h; exact hf h
  · rename_i h; exact hg h
theorem sane_tok {t : List UInt8} : Sane (tok t) := sane_opt (sane_ret _) (sane_bad (by decide))

theorem gapsTo_fine {S : List UInt8} : ∀ (f k : Nat), S.length - k < f → k ≤ S.length → match gapsTo f S k with | .error x => x.1 ≠ 0 ∧ x.2 ≤ S.length | .ok m => k ≤ m ∧ m ≤ S.length
  | 0, _, h, _ => absurd h (Nat.not_lt_zero _)
  | f + 1, k, h, hk => by
    have more : ∀ k', k < k' → k' ≤ S.length → (match gapsTo f S k' with | .error x => x.1 ≠ 0 ∧ x.2 ≤ S.length | .ok m => k ≤ m ∧ m ≤ S.length) := by
      intro k' h1 h2
      have := gapsTo_fine f k' (by omega) h2
      cases e : gapsTo f S k' with
      | error x => rw [e] at this; exact this
      | ok m => rw [e] at this; exact ⟨by have := this.1; omega, this.2⟩
    rw [gapsTo]
    by_cases a1 : has S k [32] = true
    · rw [if_pos a1]
      have := (has_lt (x := 0) a1 (by simp)).2
      exact more (k + 1) (by omega) (by omega)
    rw [if_neg a1]
    by_cases a2 : has S k [10] = true
    · rw [if_pos a2]
      have := (has_lt (x := 0) a2 (by simp)).2
      exact more (k + 1) (by omega) (by omega)
    rw [if_neg a2]
    by_cases a3 : has S k [47, 42] = true
    · rw [if_pos a3]
      cases hp : pastAt S (k + 2) [42, 47] with
      | none => exact ⟨by simp, hk⟩
      | some e =>
        have p := (pastAt_iff (by simp)).1 hp
        have := (has_lt (x := 1) p.2.1 (by simp)).2
        exact more (e + 2) (by omega) (by omega)
    · rw [if_neg a3]
      exact ⟨Nat.le_refl _, hk⟩
theorem sane_gaps : Sane gaps := by
  intro S k hS hk
  have := gapsTo_fine 4001 k (by omega) hk
  unfold gaps
  cases e : gapsTo 4001 S k with
  | error x => rw [e] at this; exact this
  | ok m => rw [e] at this; exact this
theorem sane_sname : Sane sname := by
  intro S k hS hk
  unfold sname
  cases e : nameTo S k with
  | error x =>
    unfold nameTo at e
    split at e
    · cases e
    · injection e with e
      subst e
      exact ⟨by simp, hk⟩
  | ok m =>
    have := nameTo_le e
    simp only
    split
    · exact ⟨by simp, hk⟩
    · exact ⟨by omega, this.2⟩
theorem sane_word (ahead : List UInt8) : Sane (word ahead) := by
  intro S k hS hk
  have hw := whileEnd_le wordB hk
  simp only [word, chars]
  split
  · exact ⟨by simp, hk⟩
  split
  · exact ⟨by simp, hk⟩
  have h := sane_bnd sane_gaps (fun _ => sane_ret (ahead ++ sub S k (whileEnd S k wordB))) S (whileEnd S k wordB) hS hw.2
  generalize bnd gaps (fun _ => ret (ahead ++ sub S k (whileEnd S k wordB))) S (whileEnd S k wordB) = q at h ⊢
  cases q with
  | error x => exact h
  | ok q => exact ⟨Nat.le_trans hw.1 h.1, h.2⟩
theorem word_grows {ahead : List UInt8} {S : List UInt8} {k k' : Nat} {v : List UInt8} (h : word ahead S k = .ok (v, k')) : v.length ≤ 60 ∧ ahead.length < v.length := by
  simp only [word, chars] at h
  split at h
  · cases h
  rename_i hne
  split at h
  · cases h
  rename_i h60
  rw [bnd_ok] at h
  obtain ⟨_, m1, _, h2⟩ := h
  injection h2 with h2
  injection h2 with h2 _
  have : 0 < (sub S k (whileEnd S k wordB)).length := List.length_pos_iff.2 hne
  rw [← h2, List.length_append]
  omega
theorem sane_valueTo : ∀ (f : Nat) (v : List UInt8), v.length ≤ 60 → 60 < v.length + f → Sane (valueTo f v)
  | 0, v, h1, h2 => by omega
  | f + 1, v, h1, h2 => sane_fits (sane_if (P := fun u => u.length ≤ 60 ∧ v.length + 1 < u.length) (sane_word _) (fun S k a m e => by
      have := word_grows e
      simp at this
      exact this) (fun u hu => sane_valueTo f u hu.1 (by omega))) (sane_ret v)
theorem sane_value : Sane value := sane_if (P := fun u => u.length ≤ 60) (sane_word _) (fun S k a m e => (word_grows e).1) (fun u hu => sane_valueTo 62 u hu (by omega))
theorem sane_decl : Sane decl :=
  sane_bnd sane_sname fun _ => sane_bnd sane_gaps fun _ => sane_bnd sane_tok fun _ => sane_bnd sane_gaps fun _ => sane_bnd sane_value fun _ =>
    sane_opt (sane_bnd sane_tok fun _ => sane_bnd sane_gaps fun _ => sane_ret _) (sane_ret _)
theorem decl_letter' {S : List UInt8} {k k' : Nat} {d : Dcl} (h : decl S k = .ok (d, k')) : fitsAt S k letterB = true := by
  unfold decl at h
  rw [bnd_ok] at h
  obtain ⟨n, m, h1, _⟩ := h
  unfold sname nameTo at h1
  cases hf : fitsAt S k letterB with
  | true => rfl
  | false => rw [hf] at h1; cases h1
theorem sane_declsTo : ∀ (f : Nat) (l : List Dcl), f + l.length = 22 → l.length ≤ 20 → Sane (declsTo f l)
  | 0, l, h1, h2 => by omega
  | f + 1, l, h1, h2 => by
    refine sane_ended (sane_ret l) (sane_look (sane_ret l) ?_)
    by_cases h20 : 20 ≤ l.length
    · rw [if_pos h20]
      intro S k hS hk
      cases hf : fitsAt S k letterB with
      | true =>
        unfold bnd fits
        rw [if_pos hf]
        exact ⟨by simp, hk⟩
      | false =>
        have e : fits letterB (bad 5) (ret ()) S k = .ok ((), k) := by unfold fits; rw [if_neg (by rw [hf]; decide)]; rfl
        have hd := sane_decl S k hS hk
        cases ed : decl S k with
        | error x =>
          rw [ed] at hd
          simp only [bnd, e, ed]
          exact hd
        | ok q =>
          obtain ⟨d, m⟩ := q
          have := decl_letter' ed
          rw [hf] at this
          cases this
    · rw [if_neg h20]
      exact sane_bnd (sane_ret ()) fun _ => sane_bnd sane_decl fun d => sane_opt (sane_bnd sane_gaps fun _ => sane_declsTo f (l ++ [d]) (by simp; omega) (by simp; omega)) (sane_ret _)
theorem sane_decls : Sane decls := sane_bnd sane_gaps fun _ => sane_declsTo 22 [] (by simp) (by simp)
theorem sane_aheadOfPart (n most : Nat) : Sane (aheadOfPart n most) := by
  intro S k hS hk
  unfold aheadOfPart
  split
  · exact ⟨by simp, hk⟩
  split
  · exact ⟨by simp, hk⟩
  · exact ⟨Nat.le_refl _, hk⟩
theorem sane_attrTest : Sane attrTest := sane_bnd sane_sname fun _ => sane_ite (fun _ => sane_bad (by decide)) (fun _ => sane_bnd (sane_opt (sane_bnd sane_sname fun _ => sane_ret _) (sane_ret _)) fun _ => sane_bnd sane_tok fun _ => sane_ret _)
theorem sane_test : Sane test := sane_opt (sane_bnd sane_sname fun _ => sane_ret _) (sane_opt (sane_bnd sane_sname fun _ => sane_ret _) (sane_opt (sane_ret _) (sane_opt sane_attrTest (sane_ret _))))
theorem sane_testsTo : ∀ (f : Nat) (l : List Tst), 8 ≤ f + l.length → l.length ≤ 6 → Sane (testsTo f l)
  | 0, l, h1, h2 => by omega
  | f + 1, l, h1, h2 => sane_bnd sane_test fun t => sane_ite (fun _ => sane_ret l) (fun _ => sane_ite (fun _ => sane_bad (by decide)) (fun h => sane_testsTo f (l ++ [t]) (by simp; omega) (by simp; omega)))
theorem partHead_len {S : List UInt8} {k m : Nat} {l : List Tst} (h : partHead S k = .ok (l, m)) : l.length ≤ 1 := by
  unfold partHead opt at h
  split at h
  · injection h with h; injection h with h _; rw [← h]; simp
  unfold fits at h
  split at h
  · rw [bnd_ok] at h
    obtain ⟨n, m1, _, h2⟩ := h
    injection h2 with h2; injection h2 with h2 _; rw [← h2]; simp
  · injection h with h; injection h with h _; rw [← h]; simp
theorem sane_part (j : Nat) : Sane (part j) := sane_if (P := fun l => l.length ≤ 1) (sane_opt (sane_ret _) (sane_fits (sane_bnd sane_sname fun _ => sane_ret _) (sane_ret _))) (fun S k a m e => partHead_len e) (fun l hl => sane_bnd (sane_testsTo 8 l (by omega) (by omega)) fun _ => sane_ret _)
theorem sane_join : Sane join := sane_bnd sane_gaps fun _ => sane_opt (sane_bnd sane_gaps fun _ => sane_ret _) (sane_opt (sane_bnd sane_gaps fun _ => sane_ret _) (sane_ite (fun _ => sane_look (sane_ret _) (sane_look (sane_ret _) (sane_ended (sane_ret _) (sane_ret _)))) (fun _ => sane_ret _)))
theorem sane_selectorTo : ∀ (f j : Nat) (l : List Prt), f + l.length = 8 → l.length ≤ 6 → Sane (selectorTo f j l)
  | 0, _, l, h1, h2 => by omega
  | f + 1, j, l, h1, h2 => sane_if (P := fun _ => l.length < 6) (sane_aheadOfPart _ _) (fun S k a m e => (ahead_iff.1 e).2.1) fun _ h => sane_bnd (sane_part j) fun p => sane_bnd sane_join fun q => sane_ite (fun _ => sane_selectorTo f q.1 (l ++ [p]) (by simp; omega) (by simp; omega)) (fun _ => sane_ret _)
theorem sane_selectorsTo : ∀ (f : Nat) (l : List (List Prt)), f + l.length = 10 → l.length ≤ 8 → Sane (selectorsTo f l)
  | 0, l, h1, h2 => by omega
  | f + 1, l, h1, h2 => sane_if (P := fun _ => l.length < 8) (sane_aheadOfPart _ _) (fun S k a m e => (ahead_iff.1 e).2.1) fun _ h => sane_bnd (sane_selectorTo 8 0 [] (by simp) (by simp)) fun p => sane_opt (sane_bnd sane_gaps fun _ => sane_selectorsTo f (l ++ [p]) (by simp; omega) (by simp; omega)) (sane_ret _)
theorem sane_rule (n : Nat) : Sane (rule n) := sane_bnd (sane_aheadOfPart _ _) fun _ => sane_bnd (sane_selectorsTo 10 [] (by simp) (by simp)) fun _ => sane_bnd sane_tok fun _ => sane_bnd sane_decls fun _ => sane_bnd sane_tok fun _ => sane_ret _
theorem sane_mediaHead : Sane mediaHead := sane_bnd sane_gaps fun _ => sane_ite (fun _ => sane_bnd sane_sname fun _ => sane_bnd sane_gaps fun _ => sane_bnd sane_tok fun _ => sane_ret _) (fun _ => sane_bad (by decide))

theorem rulesTo_fault {S : List UInt8} (hS : S.length ≤ 4000) : ∀ (f k : Nat) (md : Option (List UInt8)) (L : List Rl) (x : Nat × Nat), S.length - k < f → k ≤ S.length → rulesTo f S k md L = .error x → x.1 ≠ 0 ∧ x.2 ≤ S.length
  | 0, _, _, _, _, h, _, _ => absurd h (Nat.not_lt_zero _)
  | f + 1, k, md, L, x, h, hk, e => by
    rw [rulesTo] at e
    have hg := sane_gaps S k hS hk
    cases eg : gaps S k with
    | error y =>
      rw [eg] at e hg
      injection e with e
      subst e
      exact hg
    | ok q =>
      obtain ⟨g, k1⟩ := q
      rw [eg] at e hg
      have hg1 : k ≤ k1 := hg.1
      have hg2 : k1 ≤ S.length := hg.2
      have rl : ∀ (md' : Option (List UInt8)) (F : List (List Prt) × List Dcl → Nat → List Rl), (match rule L.length S k1 with | .error x => (.error x : Res (List Rl)) | .ok (p, k2) => rulesTo f S k2 md' (F p k2)) = .error x → x.1 ≠ 0 ∧ x.2 ≤ S.length := by
        intro md' F e
        have hr := sane_rule L.length S k1 hS hg2
        cases er : rule L.length S k1 with
        | error y =>
          rw [er] at e hr
          injection e with e
          subst e
          exact hr
        | ok q =>
          obtain ⟨p, k2⟩ := q
          rw [er] at e hr
          obtain ⟨d, hd, _, hb⟩ := rule_iff.1 er
          have := (List.getElem?_eq_some_iff.1 hb).1
          exact rulesTo_fault hS f k2 md' _ x (by omega) hr.2 e
      cases md with
      | none =>
        simp only at e
        split at e
        · cases e
        rename_i he
        split at e
        · rename_i hm
          have h6 : k1 + 6 ≤ S.length := has_le hm hg2
          have hh := sane_mediaHead S (k1 + 6) hS h6
          cases em : mediaHead S (k1 + 6) with
          | error y =>
            rw [em] at e hh
            injection e with e
            subst e
            exact hh
          | ok q =>
            obtain ⟨n, k2⟩ := q
            rw [em] at e hh
            have h1 : k1 + 6 ≤ k2 := hh.1
            exact rulesTo_fault hS f k2 _ _ x (by omega) hh.2 e
        · exact rl none _ e
      | some n =>
        simp only at e
        split at e
        · rename_i hc
          have := (has_lt (x := 0) hc (by simp)).2
          exact rulesTo_fault hS f (k1 + 1) _ _ x (by omega) (by omega) e
        · exact rl (some n) _ e

theorem sheet_fault {S : List UInt8} {x : Nat × Nat} (h : sheetParse S = .error x) : x.1 ≠ 0 ∧ x.2 ≤ S.length := by
  unfold sheetParse at h
  split at h
  · injection h with h
    subst h
    exact ⟨by decide, Nat.zero_le _⟩
  · exact rulesTo_fault (by omega) _ _ _ _ _ (by omega) (Nat.zero_le _) h
theorem decls_fault {S : List UInt8} {x : Nat × Nat} (h : declsParse S = .error x) : x.1 ≠ 0 := by
  unfold declsParse at h
  split at h
  · injection h with h
    subst h
    decide
  · unfold declsAll at h
    have := sane_bnd sane_decls (fun l => sane_ended (sane_ret l) (sane_bad (e := 2) (by decide))) S 0 (by omega) (Nat.zero_le _)
    cases e : onlyDecls S 0 with
    | error y =>
      have e' : bnd decls (fun l => ended (ret l) (bad 2)) S 0 = .error y := e
      rw [e'] at this
      rw [e] at h
      injection h with h
      subst h
      exact this.1
    | ok q =>
      rw [e] at h
      cases h
end Go.Proofs.Ytanedepdhbdcgaa
