/-
  No fault that a page is told with is nothing: by the plain answer of the Spec text. No condition.
-/
import Derived.Test.YtanedepdhbdcgaaShift
namespace Go.Proofs.Ytanedepdhbdcgaa

theorem need_nz {S : List UInt8} {k : Nat} {x : Nat × Nat} {t : List UInt8} (h : need S k t = .error x) : x.1 ≠ 0 := by
  obtain ⟨_, rfl⟩ := need_err h
  simp
theorem nameTo_nz {S : List UInt8} {k : Nat} {x : Nat × Nat} (h : nameTo S k = .error x) : x.1 ≠ 0 := by
  rw [← nameTo_err h]; simp
theorem attrName_nz {S : List UInt8} {k : Nat} {l : List Atr} {x : Nat × Nat} (h : attrName S k l = .error x) : x.1 ≠ 0 := by
  unfold attrName at h
  split at h
  · rename_i hn
    injection h with h
    subst h
    exact nameTo_nz hn
  · split at h
    · injection h with h; rw [← h]; simp
    split at h
    · injection h with h; rw [← h]; simp
    split at h
    · injection h with h; rw [← h]; simp
    cases h
theorem attr_nz {S : List UInt8} {k : Nat} {l : List Atr} {x : Nat × Nat} (h : attr S k l = .error x) : x.1 ≠ 0 := by
  unfold attr at h
  split at h
  · rename_i e1
    injection h with h; subst h; exact need_nz e1
  split at h
  · rename_i e2
    injection h with h; subst h; exact attrName_nz e2
  split at h
  · rename_i e3
    injection h with h; subst h; exact need_nz e3
  split at h
  · rename_i e5
    injection h with h; subst h; exact need_nz e5
  cases h
theorem attrsTo_nz {S : List UInt8} : ∀ (f k : Nat) (l : List Atr) (x : Nat × Nat), f + l.length = 10 → l.length ≤ 8 → k ≤ S.length → attrsTo f S k l = .error x → x.1 ≠ 0
  | 0, _, _, _, h1, h2, _, _ => by omega
  | f + 1, k, l, x, h1, h2, hk, h => by
    rw [attrsTo] at h
    split at h
    · split at h
      · rename_i e
        injection h with h; subst h; exact attr_nz e
      · rename_i a k1 ea
        have la := attr_le ea hk
        exact attrsTo_nz f k1 _ x (by simp; omega) (by simp; omega) la.2.1 h
    · cases h
theorem firstTag_nz {S : List UInt8} {k : Nat} {x : Nat × Nat} (h : firstTag S k = .error x) : x.1 ≠ 0 := by
  unfold firstTag at h
  split at h
  · rename_i e1
    injection h with h; subst h; exact need_nz e1
  split at h
  · rename_i e2
    injection h with h; subst h; exact nameTo_nz e2
  rename_i k2 e2
  have l2 := nameTo_le e2
  split at h
  · injection h with h; rw [← h]; simp
  split at h
  · rename_i e3
    injection h with h; subst h; exact attrsTo_nz 10 _ _ _ rfl (by simp) l2.2 e3
  split at h
  · rename_i e4
    injection h with h; subst h; exact need_nz e4
  cases h
theorem element_nz {S : List UInt8} {f k : Nat} (IH : ∀ (k : Nat) (parent : Int) (deep : Nat) (L : List Nd) (x : Nat × Nat), k ≤ S.length → S.length - k < f → items f S k parent deep L = .error x → x.1 ≠ 0)
    {parent : Int} {deep : Nat} {L : List Nd} {x : Nat × Nat} (hk : k ≤ S.length) (hf : S.length - k < f + 1) (h : element (items f S) S k parent deep L = .error x) : x.1 ≠ 0 := by
  unfold element at h
  split at h
  · injection h with h; rw [← h]; simp
  split at h
  · rename_i e1
    injection h with h; subst h; exact firstTag_nz e1
  rename_i n k1 e1
  have lf := firstTag_le e1 hk
  split at h
  · split at h
    · injection h with h; rw [← h]; simp
    · cases h
  · split at h
    · rename_i e2
      injection h with h; subst h; exact IH _ _ _ _ _ lf.2.1 (by omega) e2
    · split at h
      · rename_i e3
        injection h with h; subst h; exact need_nz e3
      · cases h
theorem items_nz {S : List UInt8} : ∀ (f k : Nat) (parent : Int) (deep : Nat) (L : List Nd) (x : Nat × Nat), k ≤ S.length → S.length - k < f → items f S k parent deep L = .error x → x.1 ≠ 0
  | 0, _, _, _, _, _, _, h, _ => by omega
  | f + 1, k, parent, deep, L, x, hk, hf, h => by
    rw [items] at h
    by_cases h1 : S.length ≤ k ∨ has S k [60, 47] = true
    · rw [if_pos h1] at h; cases h
    rw [if_neg h1] at h
    by_cases h2 : has S k [60, 33, 45, 45] = true
    · rw [if_pos h2] at h
      have l2 := has_le h2 hk
      split at h
      · injection h with h; rw [← h]; simp
      · rename_i m e
        have lm := pastAt_le e l2
        simp only [List.length_cons, List.length_nil] at lm
        exact items_nz f _ _ _ _ _ (by omega) (by omega) h
    rw [if_neg h2] at h
    by_cases h3 : has S k [60] = true
    · rw [if_pos h3] at h
      split at h
      · rename_i e
        injection h with h; subst h
        exact element_nz (fun k p d L x a b c => items_nz f k p d L x a b c) hk hf e
      · rename_i k1 L1 e
        have := element_go e hk
        exact items_nz f _ _ _ _ _ this.2 (by omega) h
    rw [if_neg h3] at h
    by_cases h4 : fitsAt S k textB = true
    · rw [if_pos h4] at h
      have := fitsAt_lt' h4
      exact items_nz f _ _ _ _ _ (by omega) (by omega) h
    rw [if_neg h4] at h
    injection h with h; rw [← h]; simp
theorem parse_nz {S : List UInt8} {x : Nat × Nat} (h : parse S = .error x) : x.1 ≠ 0 := by
  unfold parse at h
  split at h
  · injection h with h; rw [← h]; simp
  rename_i hl
  unfold readAll at h
  split at h
  · rename_i e
    injection h with h; subst h
    exact items_nz 6001 _ _ _ _ _ (Nat.zero_le _) (by omega) e
  · split at h
    · injection h with h; rw [← h]; simp
    · cases h
end Go.Proofs.Ytanedepdhbdcgaa
