/-
  Of everything that a sheet is read as there is little. No program is named here; no condition.
-/
import Derived.Test.YtanedepdhbdcgaaSheetSane
namespace Go.Proofs.Ytanedepdhbdcgaa
open Go

theorem declsTo_len {S : List UInt8} : ∀ (f : Nat) (l : List Dcl) (k m : Nat) (l' : List Dcl), declsTo f l S k = .ok (l', m) → l'.length ≤ l.length + f
  | 0, _, _, _, _, h => by cases h
  | f + 1, l, k, m, l', h => by
    have here : ∀ {k m : Nat}, ret l S k = .ok (l', m) → l'.length ≤ l.length + (f + 1) := by
      intro k m h
      injection h with h; injection h with h _; rw [← h]; omega
    unfold declsTo ended at h
    split at h
    · exact here h
    unfold look at h
    split at h
    · exact here h
    rw [bnd_ok] at h
    obtain ⟨_, k1, _, h⟩ := h
    rw [bnd_ok] at h
    obtain ⟨d, k2, _, h⟩ := h
    unfold opt at h
    split at h
    · rw [bnd_ok] at h
      obtain ⟨_, k3, _, h⟩ := h
      have := declsTo_len f _ _ _ _ h
      simp at this
      omega
    · injection h with h; injection h with h _; rw [← h]; simp
theorem testsTo_len {S : List UInt8} : ∀ (f : Nat) (l : List Tst) (k m : Nat) (l' : List Tst), testsTo f l S k = .ok (l', m) → l'.length ≤ l.length + f
  | 0, _, _, _, _, h => by cases h
  | f + 1, l, k, m, l', h => by
    unfold testsTo at h
    rw [bnd_ok] at h
    obtain ⟨t, k1, _, h⟩ := h
    split at h
    · injection h with h; injection h with h _; rw [← h]; omega
    split at h
    · cases h
    have := testsTo_len f _ _ _ _ h
    simp at this
    omega
theorem part_few {S : List UInt8} {j k m : Nat} {p : Prt} (h : part j S k = .ok (p, m)) : p.tests.length ≤ 100 := by
  unfold part at h
  rw [bnd_ok] at h
  obtain ⟨l, k1, h1, h⟩ := h
  rw [bnd_ok] at h
  obtain ⟨l2, k2, h2, h⟩ := h
  injection h with h; injection h with h _
  have a := partHead_len h1
  have b := testsTo_len _ _ _ _ _ h2
  rw [← h]
  simp only
  omega
theorem selectorTo_few {S : List UInt8} : ∀ (f j : Nat) (l : List Prt) (k m : Nat) (l' : List Prt), (∀ t ∈ l, t.tests.length ≤ 100) → selectorTo f j l S k = .ok (l', m) → l'.length ≤ l.length + f ∧ ∀ t ∈ l', t.tests.length ≤ 100
  | 0, _, _, _, _, _, _, h => by cases h
  | f + 1, j, l, k, m, l', hl, h => by
    unfold selectorTo at h
    rw [bnd_ok] at h
    obtain ⟨_, k1, _, h⟩ := h
    rw [bnd_ok] at h
    obtain ⟨p, k2, hp, h⟩ := h
    rw [bnd_ok] at h
    obtain ⟨q, k3, _, h⟩ := h
    have hl2 : ∀ t ∈ l ++ [p], t.tests.length ≤ 100 := by
      intro t ht
      rcases List.mem_append.1 ht with ht | ht
      · exact hl t ht
      · rw [List.mem_singleton.1 ht]; exact part_few hp
    split at h
    · have := selectorTo_few f _ _ _ _ _ hl2 h
      refine ⟨?_, this.2⟩
      have := this.1
      simp at this
      omega
    · injection h with h; injection h with h _
      rw [← h]
      exact ⟨by simp, hl2⟩
theorem selectorsTo_few {S : List UInt8} : ∀ (f : Nat) (l : List (List Prt)) (k m : Nat) (l' : List (List Prt)), (∀ q ∈ l, q.length ≤ 100 ∧ ∀ t ∈ q, t.tests.length ≤ 100) → selectorsTo f l S k = .ok (l', m) → l'.length ≤ l.length + f ∧ ∀ q ∈ l', q.length ≤ 100 ∧ ∀ t ∈ q, t.tests.length ≤ 100
  | 0, _, _, _, _, _, h => by cases h
  | f + 1, l, k, m, l', hl, h => by
    unfold selectorsTo at h
    rw [bnd_ok] at h
    obtain ⟨_, k1, _, h⟩ := h
    rw [bnd_ok] at h
    obtain ⟨p, k2, hp, h⟩ := h
    have pf := selectorTo_few 8 0 [] _ _ _ (by simp) hp
    have hl2 : ∀ q ∈ l ++ [p], q.length ≤ 100 ∧ ∀ t ∈ q, t.tests.length ≤ 100 := by
      intro t ht
      rcases List.mem_append.1 ht with ht | ht
      · exact hl t ht
      · rw [List.mem_singleton.1 ht]; exact ⟨by have := pf.1; simp at this; omega, pf.2⟩
    unfold opt at h
    split at h
    · rw [bnd_ok] at h
      obtain ⟨_, k3, _, h⟩ := h
      have := selectorsTo_few f _ _ _ _ hl2 h
      refine ⟨?_, this.2⟩
      have := this.1
      simp at this
      omega
    · injection h with h; injection h with h _
      rw [← h]
      exact ⟨by simp, hl2⟩
theorem rule_few {n : Nat} {S : List UInt8} {k m : Nat} {p : List (List Prt) × List Dcl} (h : rule n S k = .ok (p, m)) : p.1.length ≤ 100 ∧ p.2.length ≤ 100 ∧ ∀ q ∈ p.1, q.length ≤ 100 ∧ ∀ t ∈ q, t.tests.length ≤ 100 := by
  unfold rule at h
  rw [bnd_ok] at h
  obtain ⟨_, k1, _, h⟩ := h
  rw [bnd_ok] at h
  obtain ⟨l, k2, hs, h⟩ := h
  rw [bnd_ok] at h
  obtain ⟨_, k3, _, h⟩ := h
  rw [bnd_ok] at h
  obtain ⟨d, k4, hd, h⟩ := h
  rw [bnd_ok] at h
  obtain ⟨_, k5, _, h⟩ := h
  injection h with h; injection h with h _
  have a := selectorsTo_few 10 [] _ _ _ (by simp) hs
  unfold decls at hd
  rw [bnd_ok] at hd
  obtain ⟨_, k6, _, hd⟩ := hd
  have b := declsTo_len _ _ _ _ _ hd
  rw [← h]
  refine ⟨?_, ?_, a.2⟩
  · have := a.1; simp at this; simp only; omega
  · simp at b; simp only; omega
theorem sheet_few {S : List UInt8} {A : List Rl} (h : sheetParse S = .ok A) : A.length ≤ 60 ∧ Chain S 0 A ∧ ∀ r ∈ A, r.sels.length ≤ 100 ∧ r.decls.length ≤ 100 ∧ ∀ q ∈ r.sels, q.length ≤ 100 ∧ ∀ t ∈ q, t.tests.length ≤ 100 := by
  have := (Ps.iff (sheetParse_le h)).1 h
  obtain ⟨M, h1, h2, h3⟩ := this.chain
  simp only [List.nil_append] at h1
  subst h1
  refine ⟨h3 (by simp), h2, fun r hr => ?_⟩
  obtain ⟨_, _, _, n, hn⟩ := h2.mem r hr
  exact rule_few hn
end Go.Proofs.Ytanedepdhbdcgaa
