/-
  How the elements above some are gathered, each once: the plain steps of allAbove. No program's function is named here; no condition.
-/
import Derived.Test.YtlodblcmpebfkaaDoorMSpec
namespace Go.Proofs.YtlodblcmpebfkaaDoor

theorem nodup_le : ∀ (n : Nat) (l : List Nat), l.Nodup → (∀ x ∈ l, x < n) → l.length ≤ n
  | 0, l, _, h => by
    cases l with
    | nil => simp
    | cons a l => exact absurd (h a (List.mem_cons_self ..)) (Nat.not_lt_zero _)
  | n + 1, l, hd, h => by
    by_cases hm : n ∈ l
    · have := nodup_le n (l.erase n) (hd.erase n) (fun x hx => by
        have := (hd.mem_erase_iff).1 hx
        have := h x this.2
        omega)
      rw [List.length_erase_of_mem hm] at this
      omega
    · have := nodup_le n l hd (fun x hx => by
        have := h x hx
        have : x ≠ n := fun e => hm (e ▸ hx)
        omega)
      omega

theorem aboves_trans {l : List Nd} : ∀ {k x y : Nat}, x ∈ aboves l k → y ∈ aboves l x → y ∈ aboves l k := by
  intro k
  induction k using Nat.strongRecOn with
  | _ k ih =>
    intro x y hx hy
    by_cases h : 0 ≤ par l k ∧ par l k < k
    · rw [aboves_pos h.1 h.2] at hx ⊢
      rcases List.mem_cons.1 hx with rfl | hx
      · exact List.mem_cons_of_mem _ hy
      · exact List.mem_cons_of_mem _ (ih _ (by omega) hx hy)
    · rw [aboves_neg h] at hx; cases hx

/-- What is gathered of the first i. -/
structure Gat (l : List Nd) (ks : List Nat) (i : Nat) (os : List Nat) : Prop where
  nd : os.Nodup
  lt : ∀ x ∈ os, x < l.length
  eq : ∀ x, x ∈ os ↔ ∃ k ∈ ks.take i, x ∈ aboves l k
/-- On the way up from k0, at k. -/
structure Way (l : List Nd) (oi : List Nat) (k0 : Nat) (os : List Nat) (k : Nat) : Prop where
  nd : os.Nodup
  lt : ∀ x ∈ os, x < l.length
  kl : k < l.length
  sub : ∀ x ∈ oi, x ∈ os
  new : ∀ x ∈ os, x ∈ oi ∨ k ≤ x
  eq : ∀ x, (x ∈ os ∨ x ∈ aboves l k) ↔ (x ∈ oi ∨ x ∈ aboves l k0)

theorem Gat.zero (l : List Nd) (ks : List Nat) : Gat l ks 0 [] := ⟨List.nodup_nil, by simp, by simp⟩
theorem Gat.up {l : List Nd} {ks : List Nat} {i : Nat} {os : List Nat} (h : Gat l ks i os) {x y : Nat} (hx : x ∈ os) (hy : y ∈ aboves l x) : y ∈ os := by
  obtain ⟨k, hk, hxk⟩ := (h.eq x).1 hx
  exact (h.eq y).2 ⟨k, hk, aboves_trans hxk hy⟩
theorem Way.start {l : List Nd} {ks : List Nat} {i : Nat} {os : List Nat} (h : Gat l ks i os) {k : Nat} (hk : k < l.length) : Way l os k os k :=
  ⟨h.nd, h.lt, hk, fun _ h => h, fun _ h => .inl h, fun _ => Iff.rfl⟩
theorem Way.step {l : List Nd} {oi os : List Nat} {k0 k u : Nat} (h : Way l oi k0 os k) (hu : par l k = u) (hlt : u < k) (hn : u ∉ os) : Way l oi k0 (os ++ [u]) u := by
  have ha : aboves l k = u :: aboves l u := by
    rw [aboves_pos (by omega) (by omega), hu]; rfl
  refine ⟨?_, ?_, by have := h.kl; omega, fun x hx => List.mem_append_left _ (h.sub x hx), ?_, fun x => ?_⟩
  · rw [List.nodup_append]
    exact ⟨h.nd, by simp, fun a hc b hb => by simp at hb; subst hb; exact fun e => hn (e ▸ hc)⟩
  · intro x hx
    rcases List.mem_append.1 hx with hx | hx
    · exact h.lt x hx
    · simp at hx; subst hx; have := h.kl; omega
  · intro x hx
    rcases List.mem_append.1 hx with hx | hx
    · rcases h.new x hx with h1 | h1
      · exact .inl h1
      · exact .inr (by omega)
    · simp at hx; subst hx; exact .inr (Nat.le_refl _)
  · rw [← h.eq x, ha]
    simp only [List.mem_append, List.mem_cons, List.mem_nil_iff, or_false]
    constructor
    · rintro ((h | h) | h)
      · exact .inl h
      · exact .inr (.inl h)
      · exact .inr (.inr h)
    · rintro (h | h | h)
      · exact .inl (.inl h)
      · exact .inl (.inr h)
      · exact .inr h
theorem Way.done {l : List Nd} {ks : List Nat} {i : Nat} {oi os : List Nat} {k0 k : Nat} (g : Gat l ks i oi) (h : Way l oi k0 os k) (hi : i < ks.length) (e : ks[i] = k0) (hx : ∀ x ∈ aboves l k, x ∈ os) : Gat l ks (i + 1) os := by
  refine ⟨h.nd, h.lt, fun x => ?_⟩
  rw [List.take_succ_eq_append_getElem hi, e]
  constructor
  · intro hxo
    rcases (h.eq x).1 (.inl hxo) with h1 | h1
    · obtain ⟨k, hk, hxk⟩ := (g.eq x).1 h1
      exact ⟨k, List.mem_append_left _ hk, hxk⟩
    · exact ⟨k0, List.mem_append_right _ (by simp), h1⟩
  · rintro ⟨k', hk', hxk⟩
    rcases List.mem_append.1 hk' with hk' | hk'
    · exact h.sub x ((g.eq x).2 ⟨k', hk', hxk⟩)
    · simp at hk'
      subst hk'
      rcases (h.eq x).2 (.inr hxk) with h1 | h1
      · exact h1
      · exact hx x h1
theorem Way.end1 {l : List Nd} {oi os : List Nat} {k0 k : Nat} (_h : Way l oi k0 os k) (hn : ¬ (0 ≤ par l k ∧ par l k < k)) : ∀ x ∈ aboves l k, x ∈ os := by
  rw [aboves_neg hn]; simp
theorem Way.end2 {l : List Nd} {ks : List Nat} {i : Nat} {oi os : List Nat} {k0 k u : Nat} (g : Gat l ks i oi) (h : Way l oi k0 os k) (hu : par l k = u) (hlt : u < k) (hm : u ∈ os) : ∀ x ∈ aboves l k, x ∈ os := by
  have ha : aboves l k = u :: aboves l u := by
    rw [aboves_pos (by omega) (by omega), hu]; rfl
  rw [ha]
  intro x hx
  rcases List.mem_cons.1 hx with rfl | hx
  · exact hm
  · rcases h.new u hm with h1 | h1
    · exact h.sub x (g.up h1 hx)
    · omega
theorem Way.len {l : List Nd} {oi os : List Nat} {k0 k : Nat} (h : Way l oi k0 os k) : os.length ≤ l.length := nodup_le _ _ h.nd h.lt
theorem Gat.len {l : List Nd} {ks : List Nat} {i : Nat} {os : List Nat} (h : Gat l ks i os) : os.length ≤ l.length := nodup_le _ _ h.nd h.lt

end Go.Proofs.YtlodblcmpebfkaaDoor
