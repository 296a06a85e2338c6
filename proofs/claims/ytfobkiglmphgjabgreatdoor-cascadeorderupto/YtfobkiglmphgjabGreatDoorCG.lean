/-
  For the law CascadeOrder: rows of rules as they are read, cut and appended to one another; the rules told twice and left out, how many. Conditions: the sizes that FewR names.
-/
import Derived.Test.YtfobkiglmphgjabGreatDoorCF
namespace Go.Proofs.YtfobkiglmphgjabGreatDoor
open Go.RowKit Go.Maps

def encQ (x : Ru × Value × Value) : List Value := [.string x.1.media, x.2.1, x.2.2, .int .i64 x.1.rf, .int .i64 x.1.rt]
def InQ (w : World) (LV : List (Ru × Value × Value)) : Prop := ∀ p ∈ LV, SsAt w p.2.1 p.1.sels ∧ DsAt w p.2.2 p.1.decls
theorem InQ.ext {w w' : World} {LV : List (Ru × Value × Value)} (h : InQ w LV) (e : Ext w w') : InQ w' LV := fun p hp => ⟨(h p hp).1.ext e, (h p hp).2.ext e⟩
theorem one_Q {w : World} {LV : List (Ru × Value × Value)} (h : InQ w LV) : ∀ u ∈ LV.flatMap encQ, u.oneCell' = true := by
  intro u hu
  obtain ⟨p, hp, hu⟩ := List.mem_flatMap.1 hu
  obtain ⟨sa, sc, hs⟩ := Sl.form (h p hp).1
  obtain ⟨da, dc, hd⟩ := Sl.form (h p hp).2
  simp only [encQ, List.mem_cons, List.not_mem_nil, or_false] at hu
  rcases hu with rfl | rfl | rfl | rfl | rfl
  · rfl
  · rw [hs]; rfl
  · rw [hd]; rfl
  · rfl
  · rfl
/-- The rules of a slice, each with its two slices, at their cells. -/
theorem RusAt.cells {w : World} {b off n cap : Nat} {rules : List Ru} (h : RusAt w (.slice (some ⟨b, off, none⟩) n cap) rules) :
    ∃ LV : List (Ru × Value × Value), LV.map (·.1) = rules ∧ InQ w LV ∧ ∀ i (hi : i < LV.length) j, j < 5 → w.cell? ⟨b, off + i * 5 + j, none⟩ = (encQ LV[i])[j]? := by
  obtain ⟨a', cap', e, _, h⟩ := h
  injection e with e1 e2 e3
  subst e1
  have each : ∀ i, i < rules.length → ∃ p : Ru × Value × Value, some p.1 = rules[i]? ∧ (SsAt w p.2.1 p.1.sels ∧ DsAt w p.2.2 p.1.decls) ∧ ∀ j, j < 5 → w.cell? ⟨b, off + i * 5 + j, none⟩ = (encQ p)[j]? := fun i hi => by
    obtain ⟨b', off', e, h0, ⟨sv, h1, h1'⟩, ⟨dv, h2, h2'⟩, h3, h4⟩ := h i hi
    injection e with e
    injection e with e1 e2
    subst e1 e2
    refine ⟨(rules[i], sv, dv), by simp [hi], ⟨h1', h2'⟩, fun j hj => ?_⟩
    match j, hj with
    | 0, _ => exact h0
    | 1, _ => exact h1
    | 2, _ => exact h2
    | 3, _ => exact h3
    | 4, _ => exact h4
  have : Inhabited (Ru × Value × Value) := ⟨(⟨⟨#[]⟩, [], [], 0, 0⟩, .slice none 0 0, .slice none 0 0)⟩
  obtain ⟨f, hf⟩ : ∃ f : Nat → Ru × Value × Value, ∀ i, i < rules.length → some (f i).1 = rules[i]? ∧ (SsAt w (f i).2.1 (f i).1.sels ∧ DsAt w (f i).2.2 (f i).1.decls) ∧ ∀ j, j < 5 → w.cell? ⟨b, off + i * 5 + j, none⟩ = (encQ (f i))[j]? :=
    Deep.choose_lt (p := fun i p => some p.1 = rules[i]? ∧ (SsAt w p.2.1 p.1.sels ∧ DsAt w p.2.2 p.1.decls) ∧ ∀ j, j < 5 → w.cell? ⟨b, off + i * 5 + j, none⟩ = (encQ p)[j]?) each
  refine ⟨(List.range rules.length).map f, ?_, fun p hp => ?_, fun i hi j hj => ?_⟩
  · apply List.ext_getElem?
    intro i
    by_cases hi : i < rules.length
    · rw [← (hf i hi).1]
      simp [hi]
    · rw [List.getElem?_eq_none (by simp; omega), List.getElem?_eq_none (by omega)]
  · obtain ⟨i, hi, rfl⟩ := List.mem_map.1 hp
    exact (hf i (List.mem_range.1 hi)).2.1
  · have hi' : i < rules.length := by simpa using hi
    rw [(hf i hi').2.2 j hj]
    simp
theorem src_take {w : World} {b off : Nat} {LV : List (Ru × Value × Value)} (h : ∀ i (hi : i < LV.length) j, j < 5 → w.cell? ⟨b, off + i * 5 + j, none⟩ = (encQ LV[i])[j]?) (n c : Nat) (hn : n ≤ LV.length) : Src w (.slice (some ⟨b, off, none⟩) n c) n ((LV.take n).flatMap encQ) := by
  have hl : (LV.take n).length = n := by rw [List.length_take]; omega
  have := src_of (w := w) (a := some ⟨b, off, none⟩) (cap := c) (l := LV.take n) (sz := 5) (by decide) encQ (fun _ => rfl) nofun (fun i hi => by
    have hi' : i < LV.length := by rw [List.length_take] at hi; omega
    refine ⟨b, off, rfl, fun j hj => ?_⟩
    rw [h i hi' j hj, List.getElem_take])
  rw [hl] at this
  exact this
theorem src_drop {w : World} {b off : Nat} {LV : List (Ru × Value × Value)} (h : ∀ i (hi : i < LV.length) j, j < 5 → w.cell? ⟨b, off + i * 5 + j, none⟩ = (encQ LV[i])[j]?) (n c : Nat) (hn : n ≤ LV.length) : Src w (.slice (some ⟨b, off + n * 5, none⟩) (LV.length - n) c) (LV.length - n) ((LV.drop n).flatMap encQ) := by
  have hl : (LV.drop n).length = LV.length - n := List.length_drop
  have := src_of (w := w) (a := some ⟨b, off + n * 5, none⟩) (cap := c) (l := LV.drop n) (sz := 5) (by decide) encQ (fun _ => rfl) nofun (fun i hi => by
    have hi' : n + i < LV.length := by rw [List.length_drop] at hi; omega
    refine ⟨b, off + n * 5, rfl, fun j hj => ?_⟩
    have := h (n + i) hi' j hj
    rw [List.getElem_drop, ← this]
    congr 2
    omega)
  rw [hl] at this
  exact this
theorem rus_ofQ {w : World} {base : Nat} {v : Value} {LV : List (Ru × Value × Value)} (h : w.ownsRow base 40 5 v LV.length (LV.flatMap encQ)) (hq : InQ w LV) : RusAt w v (LV.map (·.1)) := by
  obtain ⟨a, cap, rfl, hn, hc⟩ := own_at (sz := 5) (f := encQ) (fun _ => rfl) (by decide) h
  refine ⟨a, cap, by rw [List.length_map], hn, fun i hi => ?_⟩
  have hi' : i < LV.length := by rw [List.length_map] at hi; exact hi
  obtain ⟨b, off, rfl, hh⟩ := hc i hi'
  obtain ⟨h1, h2⟩ := hq LV[i] (List.getElem_mem hi')
  refine ⟨b, off, rfl, ?_⟩
  rw [List.getElem_map]
  exact ⟨hh 0 (by decide), ⟨_, hh 1 (by decide), h1⟩, ⟨_, hh 2 (by decide), h2⟩, hh 3 (by decide), hh 4 (by decide)⟩

/-! ### told twice, left out: how many -/
theorem cut_at {rules : List Ru} {i : Nat} (hi : i < rules.length) : rules = rules.take i ++ rules[i] :: rules.drop (i + 1) := by
  rw [← List.drop_eq_getElem_cons hi, List.take_append_drop]
theorem sub_sm {rules m : List Ru} (h : FewR rules) (he : ∀ r ∈ rules, SmR r) (hm : ∀ r ∈ m, r ∈ rules) (hl : m.length ≤ 2 * rules.length) (hd : (m.flatMap (·.decls)).length ≤ 2 * (rules.flatMap (·.decls)).length) : SmRs m := by
  have h1 := h.len
  have h2 := h.decls
  unfold lim at h1 h2
  exact ⟨by omega, by omega, fun r hr => he r (hm r hr)⟩
theorem twice_sm {rules : List Ru} {i : Nat} (hi : i < rules.length) (h : FewR rules) (he : ∀ r ∈ rules, SmR r) : SmRs ((rules.take i ++ [rules[i]]) ++ rules[i] :: rules.drop (i + 1)) := by
  have hc := cut_at hi
  have hr : rules[i] ∈ rules := List.getElem_mem hi
  refine sub_sm h he (fun r hm => ?_) ?_ ?_
  · simp only [List.mem_append, List.mem_cons, List.not_mem_nil, or_false] at hm
    rcases hm with (hm | rfl) | (rfl | hm)
    · exact List.mem_of_mem_take hm
    · exact hr
    · exact hr
    · exact List.mem_of_mem_drop hm
  · have := congrArg List.length hc
    simp only [List.length_append, List.length_cons, List.length_nil] at this ⊢
    omega
  · have := congrArg (fun l => (l.flatMap (·.decls)).length) hc
    simp only [List.flatMap_append, List.flatMap_cons, List.flatMap_nil, List.length_append, List.length_nil] at this ⊢
    omega
theorem less_sm {rules : List Ru} {i : Nat} (hi : i < rules.length) (h : FewR rules) (he : ∀ r ∈ rules, SmR r) : SmRs (rules.take i ++ rules.drop (i + 1)) := by
  have hc := cut_at hi
  refine sub_sm h he (fun r hm => ?_) ?_ ?_
  · rcases List.mem_append.1 hm with hm | hm
    · exact List.mem_of_mem_take hm
    · exact List.mem_of_mem_drop hm
  · have := congrArg List.length hc
    simp only [List.length_append, List.length_cons] at this ⊢
    omega
  · have := congrArg (fun l => (l.flatMap (·.decls)).length) hc
    simp only [List.flatMap_append, List.flatMap_cons, List.length_append] at this ⊢
    omega
/-- Told twice is told once. -/
theorem twice_alike {l : List Nd} {k : Int} {media : List ByteArray} {rules : List Ru} {i : Nat} (hi : i < rules.length) : Alike (claimsB styB l k rules media) (claimsB styB l k ((rules.take i ++ [rules[i]]) ++ rules[i] :: rules.drop (i + 1)) media) := by
  refine claims_alike styB ?_
  have := rules_twice l k media (rules.take i) (rules.drop (i + 1)) rules[i]
  rw [← cut_at hi] at this
  exact this
/-- One that means another element is nothing. -/
theorem less_same {l : List Nd} {k : Int} {media : List ByteArray} {rules : List Ru} {i : Nat} (hi : i < rules.length) (h : (bestB l k rules[i].sels).2 = false) : claimsB styB l k (rules.take i ++ rules.drop (i + 1)) media = claimsB styB l k rules media := by
  refine claims_same ?_
  have := rules_drop (l := l) (k := k) (media := media) (rules.take i) (rules.drop (i + 1)) h
  rw [← cut_at hi] at this
  exact this.symm
end Go.Proofs.YtfobkiglmphgjabGreatDoor
