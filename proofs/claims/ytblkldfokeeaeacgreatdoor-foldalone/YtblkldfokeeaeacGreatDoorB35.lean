/- Texts that the statement's proof stands on: FV. -/
import Derived.Test.YtblkldfokeeaeacGreatDoorB34
namespace Go.Proofs.YtblkldfokeeaeacGreatDoor
open Go.RowKit Go.Maps
def TstW (t : Sh.Tst) : Prop := t.kind ≤ 6 ∧ t.name.length ≤ 20
theorem sname_w {S : Bs} {k m : Nat} {n : Bs} (h : Sh.sname S k = .ok (n, m)) : n.length ≤ 20 := (Sh.sname_le h).2.2
theorem test_w {S : Bs} {k m : Nat} {t : Sh.Tst} (h : Sh.test S k = .ok (t, m)) : TstW t := by
  unfold Sh.test at h
  rcases opt_cases h with h | h
  · obtain ⟨n, k1, h1, h⟩ := bnd_cases h
    rw [← ret_cases h]; exact ⟨by dsimp only; decide, sname_w h1⟩
  rcases opt_cases h with h | h
  · obtain ⟨n, k1, h1, h⟩ := bnd_cases h
    rw [← ret_cases h]; exact ⟨by dsimp only; decide, sname_w h1⟩
  rcases opt_cases h with h | h
  · rw [← ret_cases h]; exact ⟨by decide, by decide⟩
  rcases opt_cases h with h | h
  · unfold Sh.attrTest at h
    obtain ⟨n, k1, hn, h⟩ := bnd_cases h
    split at h
    · simp [Sh.bad] at h
    · obtain ⟨q, k2, h1, h⟩ := bnd_cases h
      obtain ⟨_, k3, _, h⟩ := bnd_cases h
      rw [← ret_cases h]
      rcases opt_cases h1 with h1 | h1
      · obtain ⟨v, k4, _, h1⟩ := bnd_cases h1
        rw [← ret_cases h1]; exact ⟨by dsimp only; decide, sname_w hn⟩
      · rw [← ret_cases h1]; exact ⟨by dsimp only; decide, sname_w hn⟩
  · rw [← ret_cases h]; exact ⟨by decide, by decide⟩
theorem testsTo_w {S : Bs} : ∀ (f : Nat) (l : List Sh.Tst) (k m : Nat) (l' : List Sh.Tst), (∀ t ∈ l, TstW t) → Sh.testsTo f l S k = .ok (l', m) → ∀ t ∈ l', TstW t
  | 0, l, k, m, l', _, h => by simp [Sh.testsTo, Sh.bad] at h
  | f + 1, l, k, m, l', hl, h => by
    unfold Sh.testsTo at h
    obtain ⟨t, k1, h1, h⟩ := bnd_cases h
    split at h
    · rw [← ret_cases h]; exact hl
    · split at h
      · simp [Sh.bad] at h
      · refine testsTo_w f _ k1 m l' (fun x hx => ?_) h
        rcases List.mem_append.1 hx with hx | hx
        · exact hl x hx
        · rw [List.mem_singleton.1 hx]; exact test_w h1
theorem part_w {S : Bs} {j k m : Nat} {p : Sh.Prt} (h : Sh.part j S k = .ok (p, m)) : ∀ t ∈ p.tests, TstW t := by
  unfold Sh.part at h
  obtain ⟨l, k1, h1, h⟩ := bnd_cases h
  obtain ⟨l2, k2, h2, h⟩ := bnd_cases h
  rw [← ret_cases h]
  refine testsTo_w 8 l k1 k2 l2 (fun t ht => ?_) h2
  unfold Sh.partHead at h1
  rcases opt_cases h1 with h1 | h1
  · rw [← ret_cases h1] at ht; cases ht
  · unfold Sh.fits at h1
    split at h1
    · obtain ⟨n, k3, h0, h1⟩ := bnd_cases h1
      rw [← ret_cases h1] at ht
      rw [List.mem_singleton.1 ht]; exact ⟨by dsimp only; decide, sname_w h0⟩
    · rw [← ret_cases h1] at ht; cases ht
def PrtsW (l : List Sh.Prt) : Prop := ∀ p ∈ l, ∀ t ∈ p.tests, TstW t
theorem selectorTo_w {S : Bs} : ∀ (f j : Nat) (l : List Sh.Prt) (k m : Nat) (l' : List Sh.Prt), PrtsW l → Sh.selectorTo f j l S k = .ok (l', m) → PrtsW l'
  | 0, j, l, k, m, l', _, h => by simp [Sh.selectorTo, Sh.bad] at h
  | f + 1, j, l, k, m, l', hl, h => by
    unfold Sh.selectorTo at h
    obtain ⟨_, k1, _, h⟩ := bnd_cases h
    obtain ⟨p, k2, h2, h⟩ := bnd_cases h
    obtain ⟨q, k3, _, h⟩ := bnd_cases h
    have hn : PrtsW (l ++ [p]) := fun x hx => by
      rcases List.mem_append.1 hx with hx | hx
      · exact hl x hx
      · rw [List.mem_singleton.1 hx]; exact part_w h2
    split at h
    · exact selectorTo_w f _ _ k3 m l' hn h
    · rw [← ret_cases h]; exact hn
theorem selectorsTo_w {S : Bs} : ∀ (f : Nat) (l : List (List Sh.Prt)) (k m : Nat) (l' : List (List Sh.Prt)), (∀ s ∈ l, PrtsW s) → Sh.selectorsTo f l S k = .ok (l', m) → ∀ s ∈ l', PrtsW s
  | 0, l, k, m, l', _, h => by simp [Sh.selectorsTo, Sh.bad] at h
  | f + 1, l, k, m, l', hl, h => by
    unfold Sh.selectorsTo at h
    obtain ⟨_, k1, _, h⟩ := bnd_cases h
    obtain ⟨p, k2, h2, h⟩ := bnd_cases h
    have hn : ∀ s ∈ l ++ [p], PrtsW s := fun x hx => by
      rcases List.mem_append.1 hx with hx | hx
      · exact hl x hx
      · rw [List.mem_singleton.1 hx]; exact selectorTo_w 8 0 [] k1 k2 p (fun _ h => by cases h) h2
    rcases opt_cases h with h | h
    · obtain ⟨_, k3, _, h⟩ := bnd_cases h
      exact selectorsTo_w f _ k3 m l' hn h
    · rw [← ret_cases h]; exact hn
theorem rule_w {n : Nat} {S : Bs} {k m : Nat} {p : List (List Sh.Prt) × List Sh.Dcl} (h : Sh.rule n S k = .ok (p, m)) : ∀ s ∈ p.1, PrtsW s := by
  unfold Sh.rule at h
  obtain ⟨_, k1, _, h⟩ := bnd_cases h
  obtain ⟨l, k2, h2, h⟩ := bnd_cases h
  obtain ⟨_, k3, _, h⟩ := bnd_cases h
  obtain ⟨d, k4, _, h⟩ := bnd_cases h
  obtain ⟨_, k5, _, h⟩ := bnd_cases h
  rw [← ret_cases h]
  exact selectorsTo_w 10 [] k1 k2 l (fun _ h => by cases h) h2
theorem Rd.tstW {S : Bs} {L : List Sh.Nd} {R : List Sh.Rl} (h : Rd S L R) : ∀ r ∈ R, ∀ s ∈ r.sels, PrtsW s := fun r hr => by
  rw [h.flat] at hr
  obtain ⟨n, hn, hr⟩ := List.mem_flatMap.1 hr
  obtain ⟨q, hq, rfl⟩ := List.mem_map.1 hr
  by_cases hs : n.name = Sh.styleL
  · obtain ⟨_, _, _, m, hm⟩ := (Sh.sheet_few (h.sheet n hn hs)).2.1.mem q hq
    exact rule_w hm
  · rw [rulesAt_not hs] at hq; cases hq
theorem wfS_of {s : List Sh.Prt} (h : PrtsW s) : Rf.WfS (s.map ofP) := fun p hp u hu => by
  obtain ⟨q, hq, rfl⟩ := List.mem_map.1 hp
  obtain ⟨x, hx, rfl⟩ := List.mem_map.1 hu
  obtain ⟨h1, h2⟩ := h q hq x hx
  refine ⟨?_, ?_⟩
  · have : x.kind = 0 ∨ x.kind = 1 ∨ x.kind = 2 ∨ x.kind = 3 ∨ x.kind = 4 ∨ x.kind = 5 ∨ x.kind = 6 := by omega
    show (Lit.int .i64 (x.kind : Int)).wf = true
    rcases this with e | e | e | e | e | e | e <;> (rw [e]; decide)
  · show (bsL x.name).size ≤ _
    rw [bsL_size]
    unfold maxLen
    omega
end Go.Proofs.YtblkldfokeeaeacGreatDoor
