/- Texts that the statement's proof stands on: Tree2, Tree3, First, Edit. -/
import Derived.Test.YtblkldfokeeaeacGreatDoorB02
namespace Go.Proofs.YtblkldfokeeaeacGreatDoor.Sh
theorem at2_len (a : At2) : (at2 a).length = a.1.length + a.2.length + 4 := by
  simp [at2]; omega
theorem nm_not (c : UInt8) (h : c = 32 ∨ c = 61 ∨ c = 62) : nameB c = false := by
  rcases h with rfl | rfl | rfl <;> decide
theorem val_not : valueB 34 = false := by decide
theorem atrs_map (k : Nat) : ∀ (l : List At2) , (atrs k l).map (·.name) = l.map (·.1) := by
  intro l
  induction l generalizing k with
  | nil => rfl
  | cons a l ih => show a.1 :: (atrs _ l).map (·.name) = _; rw [ih]; rfl
theorem atrs_len (k : Nat) (l : List At2) : (atrs k l).length = l.length := by
  have := congrArg List.length (atrs_map k l)
  simpa using this
theorem attr_of {T : Bs} {k : Nat} {a : At2} {X : Bs} {as : List Atr} (h : T.drop k = at2 a ++ X) (hn : NmOk a.1) (hv : ∀ b ∈ a.2, valueB b = true) (h8 : as.length < 8) (hd : as.any (fun x => x.name == a.1) = false) :
    attr T k as = .ok (⟨a.1, a.2, k, k + (at2 a).length⟩, k + (at2 a).length) := by
  obtain ⟨n, v⟩ := a
  simp only at hn hv hd
  have d0 : T.drop k = [32] ++ (n ++ ([61, 34] ++ (v ++ ([34] ++ X)))) := by rw [h]; simp [at2]
  have d1 := drop_on d0
  have d2 := drop_on d1
  have d3 := drop_on d2
  have d4 := drop_on d3
  unfold attr
  rw [need_of d0]
  simp only
  have e1 : attrName T (k + [(32 : UInt8)].length) as = .ok (n, k + [(32 : UInt8)].length + n.length) := by
    unfold attrName
    rw [name_of d1 hn ⟨61, _, rfl, nm_not _ (.inr (.inl rfl))⟩]
    simp only
    rw [sub_of d1, if_neg (by omega), if_neg (by have := hn.len; omega), hd]
    rfl
  rw [e1]
  simp only
  rw [need_of d2]
  simp only
  rw [while_of d3 hv (.inr ⟨34, _, rfl, val_not⟩), need_of d4, sub_of d3]
  simp only [at2_len]
  congr 2
  · congr 1
    simp; omega
  · simp; omega
theorem attrs_of {T : Bs} {X : Bs} (hX : ∃ c Y, X = c :: Y ∧ c ≠ 32) : ∀ (l : List At2) (f k : Nat) (as : List Atr), T.drop k = ats2 l ++ X → l.length < f → as.length + l.length ≤ 8 → (∀ a ∈ l, NmOk a.1) → (∀ a ∈ l, ∀ b ∈ a.2, valueB b = true) →
      l.Pairwise (fun a b => a.1 ≠ b.1) → (∀ a ∈ l, as.any (fun x => x.name == a.1) = false) → attrsTo f T k as = .ok (as ++ atrs k l, k + (ats2 l).length)
  | [], f, k, as, h, hf, _, _, _, _, _ => by
    obtain ⟨c, Y, rfl, hc⟩ := hX
    obtain ⟨g, rfl⟩ : ∃ g, f = g + 1 := ⟨f - 1, by simp at hf; omega⟩
    unfold attrsTo
    rw [has_not (show T.drop k = c :: Y from h) hc]
    simp [atrs, ats2]
  | a :: l, f, k, as, h, hf, h8, hn, hv, hp, hd => by
    obtain ⟨g, rfl⟩ : ∃ g, f = g + 1 := ⟨f - 1, by simp at hf; omega⟩
    obtain ⟨hp1, hp2⟩ := List.pairwise_cons.1 hp
    have h' : T.drop k = at2 a ++ (ats2 l ++ X) := by rw [h]; simp [ats2]
    have hb : has T k [32] = true := has_of (X := a.1 ++ ([61, 34] ++ (a.2 ++ ([34] ++ (ats2 l ++ X))))) (by rw [h']; simp [at2])
    unfold attrsTo
    rw [if_pos hb, attr_of h' (hn a (List.mem_cons_self ..)) (hv a (List.mem_cons_self ..)) (by simp at h8; omega) (hd a (List.mem_cons_self ..))]
    simp only
    rw [attrs_of hX l g _ _ (drop_on h') (by simp at hf; omega) (by simp at h8 ⊢; omega) (fun x hx => hn x (List.mem_cons_of_mem _ hx)) (fun x hx => hv x (List.mem_cons_of_mem _ hx)) hp2 (fun x hx => by
      rw [List.any_append, hd x (List.mem_cons_of_mem _ hx)]
      simp
      exact hp1 x hx)]
    congr 2
    · simp [atrs]
    · simp [ats2]; omega
theorem first_of {T : Bs} {k : Nat} {n : Bs} {l : List At2} {X : Bs} (h : T.drop k = first2 n l ++ X) (hn : NmOk n) (hl : AtsOk l) :
    firstTag T k = .ok (⟨n, 0, atrs (k + 1 + n.length) l, k + 1 + n.length, 0, 0⟩, k + (first2 n l).length) := by
  have d0 : T.drop k = [60] ++ (n ++ (ats2 l ++ ([62] ++ X))) := by rw [h]; simp [first2]
  have d1 : T.drop (k + 1) = n ++ (ats2 l ++ ([62] ++ X)) := drop_on d0
  have d2 := drop_on d1
  have d3 := drop_on d2
  have hx : ∃ c Y, ats2 l ++ ([62] ++ X) = c :: Y ∧ nameB c = false := by
    cases l with
    | nil => exact ⟨62, X, rfl, nm_not _ (.inr (.inr rfl))⟩
    | cons a l => exact ⟨32, a.1 ++ [61, 34] ++ a.2 ++ [34] ++ ats2 l ++ ([62] ++ X), by simp [ats2, at2], nm_not _ (.inl rfl)⟩
  unfold firstTag
  rw [need_of d0]
  simp only [List.length_cons, List.length_nil, Nat.zero_add]
  rw [name_of d1 hn hx]
  simp only
  rw [sub_of d1, if_neg (by have := hn.len; omega)]
  rw [attrs_of ⟨62, X, rfl, by decide⟩ l 10 _ [] d2 (by have := hl.len; omega) (by simpa using hl.len) hl.nms hl.vals hl.apart (fun _ _ => rfl)]
  simp only
  rw [need_of d3]
  simp only [List.nil_append]
  congr 2
  simp [first2]
  omega
theorem nmSty : NmOk styleL := ⟨⟨115, [116, 121, 108, 101], rfl, by decide, by decide⟩, by decide⟩
theorem first_head (n : Bs) (l : List At2) (X : Bs) (hn : NmOk n) : ∃ c Y, first2 n l ++ X = 60 :: c :: Y ∧ letterB c = true := by
  obtain ⟨c, r, rfl, h1, _⟩ := hn.head
  exact ⟨c, r ++ ats2 l ++ [62] ++ X, by simp [first2], h1⟩
theorem letter_not {c : UInt8} (h : letterB c = true) : c ≠ 47 ∧ c ≠ 33 := by
  constructor
  · rintro rfl; exact absurd h (by decide)
  · rintro rfl; exact absurd h (by decide)
theorem text_not {b : UInt8} (h : textB b = true) : b ≠ 60 := by
  rintro rfl; exact absurd h (by decide)
theorem items_of {T : Bs} : ∀ (t : Tr) (f k : Nat) (p : Int) (d : Nat) (L : List Nd) (Q : Bs), T.drop k = text t ++ Q → (Q = [] ∨ ∃ Y, Q = [60, 47] ++ Y) → k ≤ T.length → (text t).length < f → Ok d t → L.length + count t ≤ 120 →
      items f T k p d L = .ok (k + (text t).length, L ++ nodes k p L.length t)
  | .nil, f, k, p, d, L, Q, h, hQ, hk, hf, _, _ => by
    obtain ⟨g, rfl⟩ : ∃ g, f = g + 1 := ⟨f - 1, by omega⟩
    unfold items
    rw [if_pos (by
      rcases hQ with rfl | ⟨Y, rfl⟩
      · left
        have := congrArg List.length h
        simp [text] at this
        omega
      · right; exact has_of h)]
    simp [text, nodes]
  | .txt b r, f, k, p, d, L, Q, h, hQ, hk, hf, ho, hc => by
    obtain ⟨g, rfl⟩ : ∃ g, f = g + 1 := ⟨f - 1, by omega⟩
    obtain ⟨hb, ho⟩ := ho
    have h' : T.drop k = b :: (text r ++ Q) := h
    have hlt : k < T.length := by
      have := congrArg List.length h'
      simp at this
      omega
    have hn := text_not hb
    have ih := items_of r g (k + 1) p d L Q (drop_on (a := [b]) h') hQ (by omega) (by simp [text] at hf; omega) ho hc
    unfold items
    rw [if_neg (by rw [has_not h' hn]; simp; omega), has_not h' hn, has_not h' hn, fits_of h', if_pos hb, ih]
    simp [text, nodes]
    omega
  | .note c r, f, k, p, d, L, Q, h, hQ, hk, hf, ho, hc => by
    obtain ⟨g, rfl⟩ : ∃ g, f = g + 1 := ⟨f - 1, by omega⟩
    obtain ⟨hb, ho⟩ := ho
    have h0 : T.drop k = [60, 33, 45, 45] ++ (c ++ [45, 45, 62] ++ (text r ++ Q)) := by rw [h]; simp [text]
    have h1 : T.drop (k + 4) = c ++ [45, 45, 62] ++ (text r ++ Q) := drop_on h0
    have h2 : T.drop (k + 4 + (c ++ [45, 45, 62]).length) = text r ++ Q := drop_on h1
    have hlt : k + 4 + (c ++ [45, 45, 62]).length + (text r).length + Q.length = T.length := by
      have := congrArg List.length h0
      simp at this ⊢
      omega
    have hh : has T k [60, 47] = false := has_not2 (b := 60) (b' := 33) (X := [45, 45] ++ (c ++ [45, 45, 62] ++ (text r ++ Q))) (by rw [h0]; rfl) (by decide)
    have ih := items_of r g (k + 4 + c.length + 3) p d L Q (by rw [← h2]; congr 1; simp; omega) hQ (by simp at hlt; omega) (by simp [text] at hf; omega) ho hc
    unfold items
    rw [if_neg (by rw [hh]; simp at hlt ⊢; omega), if_pos (has_of h0), past_of h1 hb]
    simp only
    rw [ih]
    simp only [text, nodes]
    congr 2
    · simp; omega
    · congr 2; omega
  | .sty l i r, f, k, p, d, L, Q, h, hQ, hk, hf, ho, hc => by
    obtain ⟨g, rfl⟩ : ∃ g, f = g + 1 := ⟨f - 1, by omega⟩
    obtain ⟨hd, hl, hi, ho⟩ := ho
    have h0 : T.drop k = first2 styleL l ++ (i ++ lastTag styleL ++ (text r ++ Q)) := by rw [h]; simp [text]
    have h1 := drop_on h0
    have h2 := drop_on h1
    have hlen : (lastTag styleL).length = 8 := by decide
    have hlt : k + (first2 styleL l).length + i.length + 8 + (text r).length + Q.length = T.length := by
      have := congrArg List.length h0
      simp [hlen] at this
      omega
    obtain ⟨c, Y, hY, hcl⟩ := first_head styleL l (i ++ lastTag styleL ++ (text r ++ Q)) nmSty
    have h00 : T.drop k = 60 :: c :: Y := by rw [h0, hY]
    obtain ⟨n1, n2⟩ := letter_not hcl
    have hfl : 0 < (first2 styleL l).length := by simp [first2]
    have ih := items_of r g (k + (first2 styleL l).length + i.length + 8) p d (L ++ [⟨styleL, p, atrs (k + 6) l, k + 6, k + (first2 styleL l).length, k + (first2 styleL l).length + i.length⟩]) Q
      (by rw [← h2]; congr 1; simp [hlen]; omega) hQ (by omega) (by simp [text, hlen] at hf; omega) ho (by simp [count] at hc ⊢; omega)
    have hel : element (items g T) T k p d L = .ok (k + (first2 styleL l).length + i.length + 8, L ++ [⟨styleL, p, atrs (k + 6) l, k + 6, k + (first2 styleL l).length, k + (first2 styleL l).length + i.length⟩]) := by
      unfold element
      rw [if_neg (by simp [count] at hc; omega), first_of h0 nmSty hl]
      simp only
      rw [if_pos trivial, past_of h1 hi]
      rfl
    unfold items
    rw [if_neg (by rw [has_not2 h00 n1]; simp; omega), has_not2 h00 n2, if_pos (has_of (a := [60]) h00), hel]
    simp only [Bool.false_eq_true, if_false]
    rw [ih]
    simp only [text, nodes]
    congr 2
    · simp [hlen]; omega
    · simp
  | .el n l t r, f, k, p, d, L, Q, h, hQ, hk, hf, ho, hc => by
    obtain ⟨g, rfl⟩ : ∃ g, f = g + 1 := ⟨f - 1, by omega⟩
    obtain ⟨hd, hn, hns, hl, hot, ho⟩ := ho
    have h0 : T.drop k = first2 n l ++ (text t ++ (lastTag n ++ (text r ++ Q))) := by rw [h]; simp [text]
    have h1 := drop_on h0
    have h2 := drop_on h1
    have h3 := drop_on h2
    have hlt : k + (first2 n l).length + (text t).length + (lastTag n).length + (text r).length + Q.length = T.length := by
      have := congrArg List.length h0
      simp at this
      omega
    obtain ⟨c, Y, hY, hcl⟩ := first_head n l (text t ++ (lastTag n ++ (text r ++ Q))) hn
    have h00 : T.drop k = 60 :: c :: Y := by rw [h0, hY]
    obtain ⟨n1, n2⟩ := letter_not hcl
    have hfl : 0 < (first2 n l).length := by simp [first2]
    have htl : (text (.el n l t r)).length = (first2 n l).length + (text t).length + (lastTag n).length + (text r).length := by simp [text]; omega
    rw [htl] at hf
    have ih1 := items_of t g (k + (first2 n l).length) L.length (d + 1) (L ++ [⟨n, p, atrs (k + 1 + n.length) l, k + 1 + n.length, 0, 0⟩]) (lastTag n ++ (text r ++ Q)) h1 (.inr ⟨n ++ [62] ++ (text r ++ Q), by simp [lastTag]⟩) (by omega) (by omega) hot (by simp [count] at hc ⊢; omega)
    have hel : element (items g T) T k p d L = .ok (k + (first2 n l).length + (text t).length + (lastTag n).length, L ++ [⟨n, p, atrs (k + 1 + n.length) l, k + 1 + n.length, 0, 0⟩] ++ nodes (k + (first2 n l).length) L.length (L.length + 1) t) := by
      unfold element
      rw [if_neg (by simp [count] at hc; omega), first_of h0 hn hl]
      simp only
      rw [if_neg hns, ih1]
      simp only
      rw [need_of h2]
      simp
    have ih2 := items_of r g (k + (first2 n l).length + (text t).length + (lastTag n).length) p d (L ++ [⟨n, p, atrs (k + 1 + n.length) l, k + 1 + n.length, 0, 0⟩] ++ nodes (k + (first2 n l).length) L.length (L.length + 1) t) Q h3 hQ (by omega) (by omega) ho (by
      simp [count, nodes_len] at hc ⊢; omega)
    unfold items
    rw [if_neg (by rw [has_not2 h00 n1]; simp; omega), has_not2 h00 n2, if_pos (has_of (a := [60]) h00), hel]
    simp only [Bool.false_eq_true, if_false]
    rw [ih2, htl]
    simp only [nodes]
    congr 2
    · omega
    · simp [nodes_len]
      congr 1
      omega
end Go.Proofs.YtblkldfokeeaeacGreatDoor.Sh
namespace Go.Proofs.YtblkldfokeeaeacGreatDoor.Sh
section
variable {S : Bs}
theorem need_inv {k m : Nat} {t : Bs} (h : need S k t = .ok m) : m = k + t.length ∧ S.drop k = t ++ S.drop m := by
  unfold need at h
  split at h
  · rename_i hh
    injection h with h
    unfold has at hh
    obtain ⟨r, hr⟩ := List.isPrefixOf_iff_prefix.1 hh
    subst h
    refine ⟨rfl, ?_⟩
    rw [drop_on hr.symm, hr]
  · cases h
theorem tw_drop (p : UInt8 → Bool) : ∀ l : Bs, l.drop (l.takeWhile p).length = l.dropWhile p
  | [] => rfl
  | b :: l => by by_cases h : p b = true <;> simp [h, tw_drop p l]
theorem while_inv (k : Nat) (p : UInt8 → Bool) : ∃ a, S.drop k = a ++ S.drop (whileEnd S k p) ∧ whileEnd S k p = k + a.length ∧ (∀ b ∈ a, p b = true) := by
  refine ⟨(S.drop k).takeWhile p, ?_, rfl, fun b hb => List.all_eq_true.1 List.all_takeWhile b hb⟩
  unfold whileEnd
  rw [← List.drop_drop, tw_drop, List.takeWhile_append_dropWhile]
theorem name_inv {k m : Nat} (h : nameTo S k = .ok m) : ∃ n, S.drop k = n ++ S.drop m ∧ m = k + n.length ∧ sub S k m = n ∧ ∃ c r, n = c :: r ∧ letterB c = true ∧ ∀ b ∈ r, nameB b = true := by
  unfold nameTo at h
  split at h
  · rename_i hf
    injection h with h
    obtain ⟨a, h1, h2, h3⟩ := while_inv (S := S) (k + 1) nameB
    rw [h] at h1 h2
    unfold fitsAt at hf
    cases hg : S[k]? with
    | none => rw [hg] at hf; cases hf
    | some c =>
      rw [hg] at hf
      obtain ⟨hk, hc⟩ := List.getElem?_eq_some_iff.1 hg
      have hd : S.drop k = (c :: a) ++ S.drop m := by
        rw [List.drop_eq_getElem_cons hk, hc, h1]; rfl
      have hm : m = k + (c :: a).length := by rw [h2]; simp; omega
      exact ⟨c :: a, hd, hm, by rw [hm]; exact sub_of hd, c, a, rfl, hf, h3⟩
  · cases h
theorem index_cut : ∀ (l t : Bs) (i : Nat), Lib.index l t = i → ∃ c X, l = c ++ t ++ X ∧ c.length = i ∧ FirstAt c t
  | [], t, i, h => by
    unfold Lib.index at h
    split at h
    · rename_i he
      have ht : t = [] := by simpa using he
      subst ht
      have : i = 0 := by omega
      subst this
      exact ⟨[], [], rfl, rfl, rfl⟩
    · omega
  | b :: l, t, i, h => by
    by_cases hp : t.isPrefixOf (b :: l) = true
    · have e : Lib.index (b :: l) t = 0 := by rw [Lib.index, if_pos hp]
      have hi : i = 0 := by omega
      subst hi
      obtain ⟨r, hr⟩ := List.isPrefixOf_iff_prefix.1 hp
      refine ⟨[], r, hr.symm, rfl, ?_⟩
      show Lib.index ([] ++ t) t = 0
      cases t with
      | nil => rfl
      | cons a t => rw [List.nil_append, Lib.index, if_pos (List.isPrefixOf_iff_prefix.2 (List.prefix_refl _))]
    · have e : Lib.index (b :: l) t = if Lib.index l t == -1 then -1 else Lib.index l t + 1 := by rw [Lib.index, if_neg hp]
      rw [e] at h
      have hge := Lib.index_ge l t
      by_cases hq : Lib.index l t = -1
      · rw [if_pos (by simp [hq])] at h; omega
      · rw [if_neg (by simp [hq])] at h
        obtain ⟨j, hj⟩ : ∃ j : Nat, Lib.index l t = j := ⟨(Lib.index l t).toNat, by omega⟩
        obtain ⟨c, X, h1, h2, h3⟩ := index_cut l t j hj
        refine ⟨b :: c, X, by rw [h1]; simp, by simp; omega, ?_⟩
        unfold FirstAt at h3 ⊢
        rw [List.cons_append, Lib.index, if_neg (fun hc => hp (by
          rw [List.isPrefixOf_iff_prefix] at hc ⊢
          rw [h1]
          exact hc.trans ⟨X, by simp⟩)), h3, if_neg (by simp)]
        simp
theorem past_inv {k e : Nat} {t : Bs} (h : pastAt S k t = some e) : ∃ c, S.drop k = c ++ t ++ S.drop (e + t.length) ∧ e = k + c.length ∧ FirstAt c t := by
  unfold pastAt at h
  split at h
  · cases h
  · rename_i hn
    injection h with h
    obtain ⟨j, hj⟩ : ∃ j : Nat, Lib.index (S.drop k) t = j := ⟨(Lib.index (S.drop k) t).toNat, by omega⟩
    obtain ⟨c, X, h1, h2, h3⟩ := index_cut _ _ _ hj
    have he : e = k + c.length := by rw [← h, hj, h2]; simp
    refine ⟨c, ?_, he, h3⟩
    have := drop_on h1
    rw [show e + t.length = k + (c ++ t).length by rw [he]; simp; omega, this, h1]
theorem attr_inv {k m : Nat} {as : List Atr} {a : Atr} (h : attr S k as = .ok (a, m)) : ∃ x : At2, S.drop k = at2 x ++ S.drop m ∧ m = k + (at2 x).length ∧ a = ⟨x.1, x.2, k, m⟩ ∧ NmOk x.1 ∧ (∀ b ∈ x.2, valueB b = true) ∧ as.length < 8 ∧ as.any (fun y => y.name == x.1) = false := by
  unfold attr at h
  split at h
  · cases h
  rename_i k1 e1
  split at h
  · cases h
  rename_i n k2 e2
  split at h
  · cases h
  rename_i k3 e3
  split at h
  · cases h
  rename_i k5 e5
  injection h with h
  injection h with ha hm
  obtain ⟨m1, d1⟩ := need_inv e1
  obtain ⟨m3, d3⟩ := need_inv e3
  obtain ⟨v, d4, m4, hv⟩ := while_inv (S := S) k3 valueB
  obtain ⟨m5, d5⟩ := need_inv e5
  unfold attrName at e2
  split at e2
  · cases e2
  rename_i e e2'
  split at e2
  · cases e2
  rename_i h8
  split at e2
  · cases e2
  rename_i h20
  split at e2
  · cases e2
  rename_i hd
  injection e2 with e2
  injection e2 with e21 e22
  subst e22
  obtain ⟨n', d2, m2, hs, hc⟩ := name_inv e2'
  rw [hs] at e21 h20 hd
  subst e21
  have hsv : sub S k3 (whileEnd S k3 valueB) = v := by rw [m4]; exact sub_of d4
  have hall : S.drop k = at2 (n', v) ++ S.drop k5 := by rw [d1, d2, d3, d4, d5]; simp [at2]
  have hlen : k5 = k + (at2 (n', v)).length := by rw [m5, m4, m3, m2, m1, at2_len]; simp; omega
  refine ⟨(n', v), by rw [← hm]; exact hall, by rw [← hm]; exact hlen, ?_, ⟨hc, Nat.not_lt.1 h20⟩, hv, by omega, by simpa using hd⟩
  rw [← ha, ← hm, hsv]
theorem attrs_inv : ∀ (f k m : Nat) (as as' : List Atr), attrsTo f S k as = .ok (as', m) → ∃ l, S.drop k = ats2 l ++ S.drop m ∧ m = k + (ats2 l).length ∧ as' = as ++ atrs k l ∧ (∀ a ∈ l, NmOk a.1) ∧ (∀ a ∈ l, ∀ b ∈ a.2, valueB b = true) ∧
      l.Pairwise (fun a b => a.1 ≠ b.1) ∧ (∀ a ∈ l, as.any (fun x => x.name == a.1) = false) ∧ (as.length ≤ 8 → as.length + l.length ≤ 8)
  | 0, k, m, as, as', h => by simp [attrsTo] at h
  | f + 1, k, m, as, as', h => by
    unfold attrsTo at h
    split at h
    · split at h
      · cases h
      rename_i a k1 e1
      obtain ⟨x, d1, m1, ha, hn, hv, h8, hd⟩ := attr_inv e1
      obtain ⟨l, d2, m2, hl, hns, hvs, hp, hds, h8s⟩ := attrs_inv f k1 m _ _ h
      refine ⟨x :: l, by rw [d1, d2]; simp [ats2], by rw [m2, m1]; simp [ats2]; omega, ?_, ?_, ?_, List.pairwise_cons.2 ⟨fun y hy e => ?_, hp⟩, ?_, ?_⟩
      · rw [hl, ha, m1]; simp [atrs]
      · intro y hy
        rcases List.mem_cons.1 hy with rfl | hy
        · exact hn
        · exact hns y hy
      · intro y hy
        rcases List.mem_cons.1 hy with rfl | hy
        · exact hv
        · exact hvs y hy
      · have := hds y hy
        rw [List.any_append, ha] at this
        simp [e] at this
      · intro y hy
        rcases List.mem_cons.1 hy with rfl | hy
        · exact hd
        · have := hds y hy
          rw [List.any_append] at this
          simp only [Bool.or_eq_false_iff] at this
          exact this.1
      · intro h
        have := h8s (by simp; omega)
        simp at this ⊢
        omega
    · injection h with h
      injection h with h1 h2
      subst h1 h2
      exact ⟨[], by simp [ats2], by simp [ats2], by simp [atrs], by simp, by simp, List.Pairwise.nil, by simp, fun h => by simpa using h⟩
theorem first_inv {k m : Nat} {n : Nd} (h : firstTag S k = .ok (n, m)) : ∃ nm l, S.drop k = first2 nm l ++ S.drop m ∧ m = k + (first2 nm l).length ∧ n = ⟨nm, 0, atrs (k + 1 + nm.length) l, k + 1 + nm.length, 0, 0⟩ ∧ NmOk nm ∧ AtsOk l := by
  unfold firstTag at h
  split at h
  · cases h
  rename_i k1 e1
  split at h
  · cases h
  rename_i k2 e2
  split at h
  · cases h
  rename_i h20
  split at h
  · cases h
  rename_i as k3 e3
  split at h
  · cases h
  rename_i k4 e4
  injection h with h
  injection h with hn hm
  obtain ⟨m1, d1⟩ := need_inv e1
  obtain ⟨nm, d2, m2, hs, hc⟩ := name_inv e2
  obtain ⟨l, d3, m3, hl, hns, hvs, hp, _, h8⟩ := attrs_inv _ _ _ _ _ e3
  obtain ⟨m4, d4⟩ := need_inv e4
  subst hm
  have hm1 : k1 = k + 1 := m1
  rw [hm1] at hs d2 m2 h20
  refine ⟨nm, l, by rw [d1, hm1, d2, d3, d4]; simp [first2], by rw [m4, m3, m2]; simp [first2]; omega, ?_, ⟨hc, by rw [hs] at h20; omega⟩, ⟨by simpa using h8 (by simp), hns, hvs, hp⟩⟩
  rw [← hn, hm1, hs, hl, m2]
  simp
end
theorem items_inv {S : Bs} : ∀ (f k : Nat) (p : Int) (d : Nat) (L : List Nd) (k' : Nat) (L' : List Nd), items f S k p d L = .ok (k', L') → ∃ t, Ok d t ∧ S.drop k = text t ++ S.drop k' ∧ k' = k + (text t).length ∧ L' = L ++ nodes k p L.length t ∧ (L.length ≤ 120 → L'.length ≤ 120)
  | 0, k, p, d, L, k', L', h => by simp [items] at h
  | f + 1, k, p, d, L, k', L', h => by
    unfold items at h
    split at h
    · injection h with h
      injection h with h1 h2
      subst h1 h2
      exact ⟨.nil, trivial, rfl, rfl, by simp [nodes], id⟩
    split at h
    · rename_i hh
      split at h
      · cases h
      rename_i e e1
      obtain ⟨c, d1, m1, hc⟩ := past_inv e1
      obtain ⟨t, ho, d2, m2, hL, h120⟩ := items_inv f _ _ _ _ _ _ h
      have hd0 : S.drop k = [60, 33, 45, 45] ++ S.drop (k + 4) := by
        unfold has at hh
        obtain ⟨r, hr⟩ := List.isPrefixOf_iff_prefix.1 hh
        rw [show S.drop (k + 4) = r from drop_on hr.symm, hr]
      refine ⟨.note c t, ⟨hc, ho⟩, ?_, ?_, ?_, h120⟩
      · rw [hd0, d1]
        show _ ++ (c ++ [45, 45, 62] ++ S.drop (e + 3)) = _
        rw [d2]; simp [text]
      · rw [m2, m1]; simp [text]; omega
      · rw [hL, m1]
        show _ = L ++ nodes (k + 7 + c.length) p L.length t
        rw [show k + 4 + c.length + 3 = k + 7 + c.length by omega]
    split at h
    · split at h
      · cases h
      rename_i k1 L1 e1
      obtain ⟨r, hor, dr, mr, hLr, h120r⟩ := items_inv f _ _ _ _ _ _ h
      unfold element at e1
      split at e1
      · cases e1
      rename_i hlim
      split at e1
      · cases e1
      rename_i n k2 e2
      obtain ⟨nm, l, d2, m2, hn, hnm, hat⟩ := first_inv e2
      subst hn
      simp only at e1
      split at e1
      · rename_i hs
        subst hs
        split at e1
        · cases e1
        rename_i e e3
        injection e1 with e1
        injection e1 with e11 e12
        obtain ⟨c, d3, m3, hc⟩ := past_inv e3
        have h8 : (lastTag styleL).length = 8 := by decide
        rw [h8] at d3
        rw [e11] at d3
        refine ⟨.sty l c r, ⟨by omega, hat, hc, hor⟩, ?_, ?_, ?_, ?_⟩
        · rw [d2, d3, dr]; simp [text]
        · rw [mr, ← e11, m3, m2]; simp [text, h8]; omega
        · rw [hLr, ← e12, ← e11, m3, m2]
          simp [nodes]
          exact ⟨rfl, rfl⟩
        · intro h
          exact h120r (by rw [← e12]; simp; omega)
      · rename_i hs
        split at e1
        · cases e1
        rename_i k3 L2 e3
        split at e1
        · cases e1
        rename_i k4 e4
        injection e1 with e1
        injection e1 with e11 e12
        subst e11 e12
        obtain ⟨t, hot, dt, mt, hLt, h120t⟩ := items_inv f _ _ _ _ _ _ e3
        obtain ⟨m4, d4⟩ := need_inv e4
        refine ⟨.el nm l t r, ⟨by omega, hnm, hs, hat, hot, hor⟩, ?_, ?_, ?_, ?_⟩
        · rw [d2, dt, d4, dr]; simp [text]
        · rw [mr, m4, mt, m2]; simp [text]; omega
        · rw [hLr, hLt, m4, mt, m2]
          simp [nodes, nodes_len]
          congr 1
          omega
        · intro h
          exact h120r (h120t (by simp; omega))
    split at h
    · rename_i hf
      unfold fitsAt at hf
      cases hg : S[k]? with
      | none => rw [hg] at hf; cases hf
      | some b =>
        rw [hg] at hf
        obtain ⟨hk, hb⟩ := List.getElem?_eq_some_iff.1 hg
        obtain ⟨t, ho, d2, m2, hL, h120⟩ := items_inv f _ _ _ _ _ _ h
        refine ⟨.txt b t, ⟨hf, ho⟩, ?_, ?_, hL, h120⟩
        · rw [List.drop_eq_getElem_cons hk, hb, d2]; rfl
        · rw [m2]; simp [text]; omega
    · cases h
theorem parse_tree {S : Bs} {L : List Nd} (h : parse S = .ok L) : ∃ t, Ok 1 t ∧ S = text t ∧ L = nodes 0 (-1) 0 t ∧ count t ≤ 120 ∧ S.length ≤ 6000 := by
  unfold parse at h
  split at h
  · cases h
  rename_i hl
  unfold readAll at h
  split at h
  · cases h
  rename_i k M e
  split at h
  · cases h
  rename_i hk
  injection h with h
  subst h
  obtain ⟨t, ho, hd, hm, hL, h120⟩ := items_inv _ _ _ _ _ _ _ e
  have hz : S.drop k = [] := List.drop_of_length_le (by omega)
  rw [hz] at hd
  refine ⟨t, ho, by simpa using hd, by simpa using hL, ?_, by omega⟩
  have := h120 (by simp)
  rw [hL] at this
  simpa [nodes_len] using this
theorem tree_parse {t : Tr} (ho : Ok 1 t) (hc : count t ≤ 120) (hl : (text t).length ≤ 6000) : parse (text t) = .ok (nodes 0 (-1) 0 t) := by
  unfold parse
  rw [if_neg (by omega)]
  unfold readAll
  rw [items_of t 6001 0 (-1) 1 [] [] (by simp) (.inl rfl) (Nat.zero_le _) (by omega) ho (by simpa using hc)]
  simp
end Go.Proofs.YtblkldfokeeaeacGreatDoor.Sh
namespace Go.Proofs.YtblkldfokeeaeacGreatDoor.Sh
theorem first_none {c t : Bs} (h : FirstAt c t) : ∀ j, j < c.length → ¬ t <+: (c ++ t).drop j := fun j hj hp => by
  obtain ⟨_, _, h3⟩ := index_spec _ _ _ h
  have := h3 j hj
  rw [List.isPrefixOf_iff_prefix.2 hp] at this
  cases this
theorem none_first {t : Bs} : ∀ {c : Bs}, (∀ j, j < c.length → ¬ t <+: (c ++ t).drop j) → FirstAt c t
  | [], _ => by
    show Lib.index ([] ++ t) t = 0
    cases t with
    | nil => rfl
    | cons a t => rw [List.nil_append, Lib.index, if_pos (List.isPrefixOf_iff_prefix.2 (List.prefix_refl _))]
  | b :: c, h => by
    have ih := none_first (t := t) (c := c) (fun j hj hp => h (j + 1) (by simpa using hj) (by simpa using hp))
    unfold FirstAt at ih ⊢
    have h0 := h 0 (by simp)
    rw [List.cons_append, Lib.index, if_neg (fun hc => h0 (by simpa using List.isPrefixOf_iff_prefix.1 hc)), ih, if_neg (by simp)]
    simp
theorem prefix_blank {t a X : Bs} (ht : (32 : UInt8) ∉ t) (h : t <+: a ++ 32 :: X) : t <+: a := by
  by_cases hl : t.length ≤ a.length
  · exact List.prefix_of_prefix_length_le h (List.prefix_append a _) hl
  · exfalso
    obtain ⟨r, hr⟩ := h
    have : t[a.length]? = some 32 := by
      have e : (t ++ r)[a.length]? = (a ++ 32 :: X)[a.length]? := by rw [hr]
      rw [List.getElem?_append_left (by omega)] at e
      rw [e, List.getElem?_append_right (Nat.le_refl _)]
      simp
    exact ht (List.mem_of_getElem? this)
theorem gone_none {S t : Bs} (ht : (32 : UInt8) ∉ t) (hne : t ≠ []) : ∀ {M : List Rl} {k : Nat} (fl : List Bool), Chain S k M → k ≤ S.length → (∀ j, k ≤ j → j < S.length → ¬ t <+: (S ++ t).drop j) →
      ∀ j, j < (goneTo S k (M.zip fl)).length → ¬ t <+: (goneTo S k (M.zip fl) ++ t).drop j
  | [], k, fl, _, hk, h => fun j hj hp => by
    simp only [List.zip_nil_left, goneTo] at hj hp
    refine h (k + j) (by omega) (by simp at hj; omega) ?_
    rw [← List.drop_drop, List.drop_append_of_le_length hk]
    exact hp
  | r :: M, k, [], _, hk, h => fun j hj hp => by
    simp only [List.zip_nil_right, goneTo] at hj hp
    refine h (k + j) (by omega) (by simp at hj; omega) ?_
    rw [← List.drop_drop, List.drop_append_of_le_length hk]
    exact hp
  | r :: M, k, b :: fl, hc, hk, h => fun j hj hp => by
    obtain ⟨h1, h2, h3, _, h5⟩ := hc
    rw [List.zip_cons_cons] at hj hp
    unfold goneTo at hj hp
    cases b
    · simp only [Bool.false_eq_true, if_false] at hj hp
      have hs : (sub S k r.from_).length = r.from_ - k := by unfold sub; simp; omega
      have e : (sub S k r.from_ ++ [32] ++ goneTo S r.to_ (M.zip fl) ++ t) = sub S k r.from_ ++ (32 :: (goneTo S r.to_ (M.zip fl) ++ t)) := by simp
      rw [e] at hp
      by_cases hj1 : j < r.from_ - k
      · rw [List.drop_append_of_le_length (by omega)] at hp
        have hp2 := prefix_blank ht hp
        refine h (k + j) (by omega) (by omega) ?_
        rw [← List.drop_drop, List.drop_append_of_le_length hk, sub_drop S h1, List.append_assoc, List.drop_append_of_le_length (by omega)]
        exact hp2.trans (List.prefix_append _ _)
      · have hd : (sub S k r.from_ ++ (32 :: (goneTo S r.to_ (M.zip fl) ++ t))).drop j = (32 :: (goneTo S r.to_ (M.zip fl) ++ t)).drop (j - (r.from_ - k)) := by
          rw [List.drop_append, hs, List.drop_of_length_le (by omega), List.nil_append]
        rw [hd] at hp
        cases hq : j - (r.from_ - k) with
        | zero =>
          rw [hq] at hp
          cases t with
          | nil => exact hne rfl
          | cons a t =>
            obtain ⟨x, hx⟩ := hp
            simp at hx
            exact ht (by rw [hx.1]; exact List.mem_cons_self ..)
        | succ q =>
          rw [hq, List.drop_succ_cons] at hp
          refine gone_none ht hne fl h5 h3 (fun i hi hi2 => h i (by omega) hi2) q ?_ hp
          simp [hs] at hj
          omega
    · simp only [if_true] at hj hp
      exact gone_none ht hne fl (h5.weaken (by omega)) hk h j hj hp
theorem gone_first {S : Bs} {A : List Rl} {t : Bs} (h : sheetParse S = .ok A) (ht : (32 : UInt8) ∉ t) (hne : t ≠ []) (hf : FirstAt S t) (fl : List Bool) : FirstAt (goneTo S 0 (A.zip fl)) t := by
  have hS := sheetParse_le h
  obtain ⟨M, e, hch, _⟩ := ((Ps.iff hS).1 h).chain
  obtain rfl : A = M := by simpa using e
  exact none_first (gone_none ht hne fl hch (Nat.zero_le _) (fun j _ hj => first_none hf j hj))
end Go.Proofs.YtblkldfokeeaeacGreatDoor.Sh
namespace Go.Proofs.YtblkldfokeeaeacGreatDoor.Sh
def isSty (a : At2) : Bool := a.1 == styleL
def one2 (v : Bs) (a : At2) : List At2 := if isSty a && !(a.2 == v) then (if v = [] then [] else [(styleL, v)]) else [a]
def editAts (v : Bs) (l : List At2) : List At2 := if l.any isSty then l.flatMap (one2 v) else if v = [] then l else (styleL, v) :: l
theorem one2_len (v : Bs) (a : At2) : (one2 v a).length ≤ 1 := by
  unfold one2; repeat' split
  all_goals simp
theorem one2_mem {v : Bs} {a b : At2} (h : b ∈ one2 v a) : b.1 = a.1 ∧ (b = a ∨ b = (styleL, v)) := by
  unfold one2 at h
  split at h
  · rename_i hc
    split at h
    · cases h
    · have hb : b = (styleL, v) := by simpa using h
      have ha : a.1 = styleL := by
        have := (Bool.and_eq_true_iff.1 hc).1
        simpa [isSty] using this
      exact ⟨by rw [hb, ha], .inr hb⟩
  · have hb : b = a := by simpa using h
    exact ⟨by rw [hb], .inl hb⟩
theorem flat_le {v : Bs} : ∀ l : List At2, (l.flatMap (one2 v)).length ≤ l.length
  | [] => by simp
  | a :: l => by
    have := flat_le (v := v) l
    have := one2_len v a
    rw [List.flatMap_cons, List.length_append, List.length_cons]
    omega
theorem flat_apart {v : Bs} : ∀ {l : List At2}, l.Pairwise (fun a b => a.1 ≠ b.1) → (l.flatMap (one2 v)).Pairwise (fun a b => a.1 ≠ b.1)
  | [], _ => List.Pairwise.nil
  | a :: l, h => by
    obtain ⟨h1, h2⟩ := List.pairwise_cons.1 h
    rw [List.flatMap_cons, List.pairwise_append]
    refine ⟨?_, flat_apart h2, fun x hx y hy => ?_⟩
    · have hl := one2_len v a
      match hm : one2 v a, hl with
      | [], _ => exact List.Pairwise.nil
      | [z], _ => exact List.pairwise_singleton _ _
    · obtain ⟨z, hz, hyz⟩ := List.mem_flatMap.1 hy
      rw [(one2_mem hx).1, (one2_mem hyz).1]
      exact h1 z hz
theorem editAts_ok {v : Bs} {l : List At2} (h : AtsOk l) (hv : ∀ b ∈ v, valueB b = true) (h8 : v = [] ∨ l.any isSty = true ∨ l.length < 8) : AtsOk (editAts v l) := by
  unfold editAts
  split
  · refine ⟨Nat.le_trans (flat_le l) h.len, fun a ha => ?_, fun a ha => ?_, flat_apart h.apart⟩
    · obtain ⟨z, hz, haz⟩ := List.mem_flatMap.1 ha
      rw [(one2_mem haz).1]; exact h.nms z hz
    · obtain ⟨z, hz, haz⟩ := List.mem_flatMap.1 ha
      rcases (one2_mem haz).2 with rfl | rfl
      · exact h.vals _ hz
      · exact hv
  · rename_i hn
    split
    · exact h
    · rename_i hne
      have hl : l.length < 8 := by
        rcases h8 with h8 | h8 | h8
        · exact absurd h8 hne
        · exact absurd h8 hn
        · exact h8
      refine ⟨by simp; omega, fun a ha => ?_, fun a ha => ?_, List.pairwise_cons.2 ⟨fun z hz e => hn ?_, h.apart⟩⟩
      · rcases List.mem_cons.1 ha with rfl | ha
        · exact nmSty
        · exact h.nms a ha
      · rcases List.mem_cons.1 ha with rfl | ha
        · exact hv
        · exact h.vals a ha
      · exact List.any_eq_true.2 ⟨z, hz, by simp only at e; simp [isSty, ← e]⟩
theorem editAts_rest (v : Bs) (l : List At2) : (editAts v l).filter (fun a => !isSty a) = l.filter (fun a => !isSty a) := by
  have hs : isSty (styleL, v) = true := by simp [isSty]
  unfold editAts
  split
  · rw [List.filter_flatMap]
    induction l with
    | nil => rfl
    | cons a l ih =>
      have ha : (one2 v a).filter (fun a => !isSty a) = [a].filter (fun a => !isSty a) := by
        unfold one2
        by_cases h : isSty a = true
        · rw [h]
          repeat' split
          all_goals simp [h, hs]
        · simp [h]
      by_cases hl : l.any isSty = true
      · have := ih hl
        rw [List.flatMap_cons, ha, this]
        simp [List.filter_cons]
        split <;> rfl
      · have h0 : ∀ l : List At2, ¬ l.any isSty = true → l.flatMap (fun a => (one2 v a).filter fun a => !isSty a) = l.filter fun a => !isSty a := fun l hl => by
          induction l with
          | nil => rfl
          | cons b l ih2 =>
            simp only [List.any_cons, Bool.or_eq_true, not_or] at hl
            rw [List.flatMap_cons, ih2 hl.2]
            have : one2 v b = [b] := by unfold one2; simp [hl.1]
            rw [this]
            simp [List.filter_cons]
            split <;> rfl
        rw [List.flatMap_cons, ha, h0 l hl]
        simp [List.filter_cons]
        split <;> rfl
  · split
    · rfl
    · simp [hs]
def styOf (l : List At2) : Bs := match l.find? isSty with
  | some a => a.2
  | none => []
theorem editAts_style (v : Bs) (l : List At2) (hp : l.Pairwise (fun a b => a.1 ≠ b.1)) : styOf (editAts v l) = v := by
  have hs : isSty (styleL, v) = true := by simp [isSty]
  unfold editAts
  split
  · rename_i h
    induction l with
    | nil => cases h
    | cons a l ih =>
      obtain ⟨h1, h2⟩ := List.pairwise_cons.1 hp
      by_cases ha : isSty a = true
      · have hno : ∀ b ∈ l, isSty b = false := fun b hb => by
          cases hq : isSty b
          · rfl
          · exact absurd (show a.1 = b.1 by simp [isSty] at ha hq; rw [ha, hq]) (h1 b hb)
        have hfl : l.flatMap (one2 v) = l := by
          clear ih h hp h1 h2
          induction l with
          | nil => rfl
          | cons b l ih2 =>
            rw [List.flatMap_cons, ih2 (fun c hc => hno c (List.mem_cons_of_mem _ hc))]
            have : one2 v b = [b] := by unfold one2; simp [hno b (List.mem_cons_self ..)]
            rw [this]; rfl
        have hnl : l.find? isSty = none := List.find?_eq_none.2 fun b hb => by simp [hno b hb]
        rw [List.flatMap_cons, hfl]
        unfold one2 styOf
        by_cases hv : a.2 = v
        · simp [ha, hv]
        · by_cases hve : v = []
          · subst hve
            simp [ha, hv, hnl]
          · simp [ha, hv, hve, hs]
      · have h' : l.any isSty = true := by simpa [ha] using h
        have hone : one2 v a = [a] := by unfold one2; simp [ha]
        rw [List.flatMap_cons, hone]
        have := ih h2 h'
        unfold styOf at this ⊢
        simpa [List.find?_cons, ha] using this
  · rename_i h
    split
    · rename_i hv
      subst hv
      unfold styOf
      have : l.find? isSty = none := List.find?_eq_none.2 fun b hb hc => h (List.any_eq_true.2 ⟨b, hb, hc⟩)
      rw [this]
    · unfold styOf; simp [hs]
def edit (v : Nat → Bs) (g : Nat → Bs → Bs) : Nat → Tr → Tr
  | _, .nil => .nil
  | i, .txt b r => .txt b (edit v g i r)
  | i, .note c r => .note c (edit v g i r)
  | i, .sty l s r => .sty (editAts (v i) l) (g i s) (edit v g (i + 1) r)
  | i, .el n l t r => .el n (editAts (v i) l) (edit v g (i + 1) t) (edit v g (i + 1 + count t) r)
theorem edit_count (v : Nat → Bs) (g : Nat → Bs → Bs) : ∀ (t : Tr) (i : Nat), count (edit v g i t) = count t
  | .nil, _ => rfl
  | .txt _ r, i => edit_count v g r i
  | .note _ r, i => edit_count v g r i
  | .sty _ _ r, i => by show count (edit v g _ r) + 1 = count r + 1; rw [edit_count v g r]
  | .el _ _ t r, i => by show count (edit v g _ t) + count (edit v g _ r) + 1 = _; rw [edit_count v g t, edit_count v g r]; rfl
def Fits (v : Nat → Bs) (g : Nat → Bs → Bs) : Nat → Tr → Prop
  | _, .nil => True
  | i, .txt _ r => Fits v g i r
  | i, .note _ r => Fits v g i r
  | i, .sty l s r => (v i = [] ∨ l.any isSty = true ∨ l.length < 8) ∧ FirstAt (g i s) (lastTag styleL) ∧ Fits v g (i + 1) r
  | i, .el _ l t r => (v i = [] ∨ l.any isSty = true ∨ l.length < 8) ∧ Fits v g (i + 1) t ∧ Fits v g (i + 1 + count t) r
theorem edit_ok {v : Nat → Bs} {g : Nat → Bs → Bs} (hv : ∀ i, ∀ b ∈ v i, valueB b = true) : ∀ (t : Tr) (i d : Nat), Ok d t → Fits v g i t → Ok d (edit v g i t)
  | .nil, _, _, _, _ => trivial
  | .txt _ r, i, d, h, hf => ⟨h.1, edit_ok hv r i d h.2 hf⟩
  | .note _ r, i, d, h, hf => ⟨h.1, edit_ok hv r i d h.2 hf⟩
  | .sty _ _ r, i, d, h, hf => ⟨h.1, editAts_ok h.2.1 (hv i) hf.1, hf.2.1, edit_ok hv r (i + 1) d h.2.2.2 hf.2.2⟩
  | .el _ _ t r, i, d, h, hf => ⟨h.1, h.2.1, h.2.2.1, editAts_ok h.2.2.2.1 (hv i) hf.1, edit_ok hv t (i + 1) (d + 1) h.2.2.2.2.1 hf.2.1, edit_ok hv r _ d h.2.2.2.2.2 hf.2.2⟩
structure Vw where
  name : Bs
  parent : Int
  ats : List At2
def vw (n : Nd) : Vw := ⟨n.name, n.parent, n.attrs.map fun a => (a.name, a.val)⟩
theorem atrs_vals (k : Nat) (l : List At2) : (atrs k l).map (fun a => (a.name, a.val)) = l := by
  induction l generalizing k with
  | nil => rfl
  | cons a l ih => show (a.1, a.2) :: (atrs _ l).map _ = _; rw [ih]
def views : Int → Nat → Tr → List Vw
  | _, _, .nil => []
  | p, i, .txt _ r => views p i r
  | p, i, .note _ r => views p i r
  | p, i, .sty l _ r => ⟨styleL, p, l⟩ :: views p (i + 1) r
  | p, i, .el n l t r => ⟨n, p, l⟩ :: (views i (i + 1) t ++ views p (i + 1 + count t) r)
theorem nodes_views : ∀ (t : Tr) (k : Nat) (p : Int) (i : Nat), (nodes k p i t).map vw = views p i t
  | .nil, _, _, _ => rfl
  | .txt _ r, _, p, i => nodes_views r _ p i
  | .note _ r, _, p, i => nodes_views r _ p i
  | .sty l s r, k, p, i => by
    show vw _ :: (nodes _ _ _ r).map vw = _
    rw [nodes_views r]
    simp [vw, views, atrs_vals]
  | .el n l t r, k, p, i => by
    show vw _ :: (nodes _ _ _ t ++ nodes _ _ _ r).map vw = _
    rw [List.map_append, nodes_views t, nodes_views r]
    simp [vw, views, atrs_vals]
theorem views_len (t : Tr) (p : Int) (i : Nat) : (views p i t).length = count t := by
  rw [← nodes_views t 0 p i, List.length_map, nodes_len]
def reAts (v : Nat → Bs) (x : Vw × Nat) : Vw := { x.1 with ats := editAts (v x.2) x.1.ats }
theorem views_edit (v : Nat → Bs) (g : Nat → Bs → Bs) : ∀ (t : Tr) (p : Int) (i : Nat), views p i (edit v g i t) = ((views p i t).zipIdx i).map (reAts v)
  | .nil, _, _ => rfl
  | .txt _ r, p, i => views_edit v g r p i
  | .note _ r, p, i => views_edit v g r p i
  | .sty l s r, p, i => by
    show _ :: views p (i + 1) (edit v g (i + 1) r) = _
    rw [views_edit v g r]
    rfl
  | .el n l t r, p, i => by
    show _ :: (views i (i + 1) (edit v g (i + 1) t) ++ views p (i + 1 + count (edit v g (i + 1) t)) (edit v g (i + 1 + count t) r)) = _
    rw [edit_count, views_edit v g t, views_edit v g r]
    show _ = reAts v (⟨n, p, l⟩, i) :: (((views i (i + 1) t ++ views p (i + 1 + count t) r).zipIdx (i + 1)).map (reAts v))
    rw [List.zipIdx_append, List.map_append, views_len]
    rfl
def inn : Nat → Tr → List (Nat × Bs)
  | _, .nil => []
  | i, .txt _ r => inn i r
  | i, .note _ r => inn i r
  | i, .sty _ s r => (i, s) :: inn (i + 1) r
  | i, .el _ _ t r => inn (i + 1) t ++ inn (i + 1 + count t) r
theorem inn_edit (v : Nat → Bs) (g : Nat → Bs → Bs) : ∀ (t : Tr) (i : Nat), inn i (edit v g i t) = (inn i t).map fun x => (x.1, g x.1 x.2)
  | .nil, _ => rfl
  | .txt _ r, i => inn_edit v g r i
  | .note _ r, i => inn_edit v g r i
  | .sty _ s r, i => by show _ :: inn (i + 1) (edit v g (i + 1) r) = _; rw [inn_edit v g r]; rfl
  | .el _ _ t r, i => by
    show inn (i + 1) (edit v g (i + 1) t) ++ inn (i + 1 + count (edit v g (i + 1) t)) (edit v g (i + 1 + count t) r) = _
    rw [edit_count, inn_edit v g t, inn_edit v g r, ← List.map_append]
    rfl
def atSty (S : Bs) (x : Nd × Nat) : Option (Nat × Bs) := if x.1.name = styleL then some (x.2, sub S x.1.inFrom x.1.inTo) else none
theorem nodes_inn {S : Bs} : ∀ (t : Tr) (k : Nat) (p : Int) (i d : Nat) (Q : Bs), Ok d t → S.drop k = text t ++ Q → ((nodes k p i t).zipIdx i).filterMap (atSty S) = inn i t
  | .nil, _, _, _, _, _, _, _ => rfl
  | .txt b r, k, p, i, d, Q, ho, h => nodes_inn r (k + 1) p i d Q ho.2 (drop_on (a := [b]) h)
  | .note c r, k, p, i, d, Q, ho, h => by
    refine nodes_inn r (k + 7 + c.length) p i d Q ho.2 ?_
    have h0 : S.drop k = ([60, 33, 45, 45] ++ c ++ [45, 45, 62]) ++ (text r ++ Q) := by rw [h]; simp [text]
    rw [← drop_on h0]; congr 1; simp; omega
  | .sty l s r, k, p, i, d, Q, ho, h => by
    have h0 : S.drop k = first2 styleL l ++ (s ++ (lastTag styleL ++ (text r ++ Q))) := by rw [h]; simp [text]
    have h1 := drop_on h0
    have h2 := drop_on h1
    have h3 := drop_on h2
    have ih := nodes_inn r (k + (first2 styleL l).length + s.length + 8) p (i + 1) d Q ho.2.2.2 (by rw [← h3]; congr 1)
    show List.filterMap (atSty S) ((_, i) :: (nodes _ p (i + 1) r).zipIdx (i + 1)) = _
    rw [List.filterMap_cons]
    simp only [atSty, if_true]
    rw [sub_of h1]
    show (i, s) :: List.filterMap (atSty S) _ = _
    rw [ih]
    rfl
  | .el n l t r, k, p, i, d, Q, ho, h => by
    have h0 : S.drop k = first2 n l ++ (text t ++ (lastTag n ++ (text r ++ Q))) := by rw [h]; simp [text]
    have h1 := drop_on h0
    have h2 := drop_on h1
    have h3 := drop_on h2
    have ih1 := nodes_inn t (k + (first2 n l).length) i (i + 1) (d + 1) _ ho.2.2.2.2.1 h1
    have ih2 := nodes_inn r (k + (first2 n l).length + (text t).length + (lastTag n).length) p (i + 1 + count t) d Q ho.2.2.2.2.2 h3
    show List.filterMap (atSty S) ((_, i) :: (nodes _ i (i + 1) t ++ nodes _ p _ r).zipIdx (i + 1)) = _
    rw [List.filterMap_cons]
    have hn : ¬ n = styleL := ho.2.2.1
    simp only [atSty, if_neg hn]
    show List.filterMap (atSty S) _ = _
    rw [List.zipIdx_append, List.filterMap_append, ih1, nodes_len, ih2]
    rfl
end Go.Proofs.YtblkldfokeeaeacGreatDoor.Sh
