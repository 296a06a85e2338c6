/- Texts that the statement's proof stands on: First, Edit, App, SheetSane. -/
import Derived.Test.YtblkldfokeeaeacGreatDoorA03
import Derived.Test.YtblkldfokeeaeacGreatDoorA02
namespace Go.Proofs.YtblkldfokeeaeacGreatDoor.Sh
theorem first_none {c t : Bs} (h : FirstAt c t) : ∀ j, j < c.length → ¬ t <+: (c ++ t).drop j := fun j hj hp => by
  obtain ⟨_, _, h3⟩ := index_spec _ _ _ h
  have := h3 j hj
  rw [List.isPrefixOf_iff_prefix.2 hp] at this
  cases this
theorem none_first {t : Bs} : ∀ {c : Bs}, (∀ j, j < c.length → ¬ t <+: (c ++ t).drop j) → FirstAt c t
  | [], _ => by
    show Lib.index ([] ++ t) t = 0
    cases t with
    | nil => rfl
    | cons a t => rw [List.nil_append, Lib.index, if_pos (List.isPrefixOf_iff_prefix.2 (List.prefix_refl _))]
  | b :: c, h => by
    have ih := none_first (t := t) (c := c) (fun j hj hp => h (j + 1) (by simpa using hj) (by simpa using hp))
    unfold FirstAt at ih ⊢
    have h0 := h 0 (by simp)
    rw [List.cons_append, Lib.index, if_neg (fun hc => h0 (by simpa using List.isPrefixOf_iff_prefix.1 hc)), ih, if_neg (by simp)]
    simp
theorem prefix_blank {t a X : Bs} (ht : (32 : UInt8) ∉ t) (h : t <+: a ++ 32 :: X) : t <+: a := by
  by_cases hl : t.length ≤ a.length
  · exact List.prefix_of_prefix_length_le h (List.prefix_append a _) hl
  · exfalso
    obtain ⟨r, hr⟩ := h
    have : t[a.length]? = some 32 := by
      have e : (t ++ r)[a.length]? = (a ++ 32 :: X)[a.length]? := by rw [hr]
      rw [List.getElem?_append_left (by omega)] at e
      rw [e, List.getElem?_append_right (Nat.le_refl _)]
      simp
    exact ht (List.mem_of_getElem? this)
theorem gone_none {S t : Bs} (ht : (32 : UInt8) ∉ t) (hne : t ≠ []) : ∀ {M : List Rl} {k : Nat} (fl : List Bool), Chain S k M → k ≤ S.length → (∀ j, k ≤ j → j < S.length → ¬ t <+: (S ++ t).drop j) →
      ∀ j, j < (goneTo S k (M.zip fl)).length → ¬ t <+: (goneTo S k (M.zip fl) ++ t).drop j
  | [], k, fl, _, hk, h => fun j hj hp => by
    simp only [List.zip_nil_left, goneTo] at hj hp
    refine h (k + j) (by omega) (by simp at hj; omega) ?_
    rw [← List.drop_drop, List.drop_append_of_le_length hk]
    exact hp
  | r :: M, k, [], _, hk, h => fun j hj hp => by
    simp only [List.zip_nil_right, goneTo] at hj hp
    refine h (k + j) (by omega) (by simp at hj; omega) ?_
    rw [← List.drop_drop, List.drop_append_of_le_length hk]
    exact hp
  | r :: M, k, b :: fl, hc, hk, h => fun j hj hp => by
    obtain ⟨h1, h2, h3, _, h5⟩ := hc
    rw [List.zip_cons_cons] at hj hp
    unfold goneTo at hj hp
    cases b
    · simp only [Bool.false_eq_true, if_false] at hj hp
      have hs : (sub S k r.from_).length = r.from_ - k := by unfold sub; simp; omega
      have e : (sub S k r.from_ ++ [32] ++ goneTo S r.to_ (M.zip fl) ++ t) = sub S k r.from_ ++ (32 :: (goneTo S r.to_ (M.zip fl) ++ t)) := by simp
      rw [e] at hp
      by_cases hj1 : j < r.from_ - k
      · rw [List.drop_append_of_le_length (by omega)] at hp
        have hp2 := prefix_blank ht hp
        refine h (k + j) (by omega) (by omega) ?_
        rw [← List.drop_drop, List.drop_append_of_le_length hk, sub_drop S h1, List.append_assoc, List.drop_append_of_le_length (by omega)]
        exact hp2.trans (List.prefix_append _ _)
      · have hd : (sub S k r.from_ ++ (32 :: (goneTo S r.to_ (M.zip fl) ++ t))).drop j = (32 :: (goneTo S r.to_ (M.zip fl) ++ t)).drop (j - (r.from_ - k)) := by
          rw [List.drop_append, hs, List.drop_of_length_le (by omega), List.nil_append]
        rw [hd] at hp
        cases hq : j - (r.from_ - k) with
        | zero =>
          rw [hq] at hp
          cases t with
          | nil => exact hne rfl
          | cons a t =>
            obtain ⟨x, hx⟩ := hp
            simp at hx
            exact ht (by rw [hx.1]; exact List.mem_cons_self ..)
        | succ q =>
          rw [hq, List.drop_succ_cons] at hp
          refine gone_none ht hne fl h5 h3 (fun i hi hi2 => h i (by omega) hi2) q ?_ hp
          simp [hs] at hj
          omega
    · simp only [if_true] at hj hp
      exact gone_none ht hne fl (h5.weaken (by omega)) hk h j hj hp
theorem gone_first {S : Bs} {A : List Rl} {t : Bs} (h : sheetParse S = .ok A) (ht : (32 : UInt8) ∉ t) (hne : t ≠ []) (hf : FirstAt S t) (fl : List Bool) : FirstAt (goneTo S 0 (A.zip fl)) t := by
  have hS := sheetParse_le h
  obtain ⟨M, e, hch, _⟩ := ((Ps.iff hS).1 h).chain
  obtain rfl : A = M := by simpa using e
  exact none_first (gone_none ht hne fl hch (Nat.zero_le _) (fun j _ hj => first_none hf j hj))
end Go.Proofs.YtblkldfokeeaeacGreatDoor.Sh
namespace Go.Proofs.YtblkldfokeeaeacGreatDoor.Sh
def isSty (a : At2) : Bool := a.1 == styleL
def one2 (v : Bs) (a : At2) : List At2 := if isSty a && !(a.2 == v) then (if v = [] then [] else [(styleL, v)]) else [a]
def editAts (v : Bs) (l : List At2) : List At2 := if l.any isSty then l.flatMap (one2 v) else if v = [] then l else (styleL, v) :: l
theorem one2_len (v : Bs) (a : At2) : (one2 v a).length ≤ 1 := by
  unfold one2; repeat' split
  all_goals simp
theorem one2_mem {v : Bs} {a b : At2} (h : b ∈ one2 v a) : b.1 = a.1 ∧ (b = a ∨ b = (styleL, v)) := by
  unfold one2 at h
  split at h
  · rename_i hc
    split at h
    · cases h
    · have hb : b = (styleL, v) := by simpa using h
      have ha : a.1 = styleL := by
        have := (Bool.and_eq_true_iff.1 hc).1
        simpa [isSty] using this
      exact ⟨by rw [hb, ha], .inr hb⟩
  · have hb : b = a := by simpa using h
    exact ⟨by rw [hb], .inl hb⟩
theorem flat_le {v : Bs} : ∀ l : List At2, (l.flatMap (one2 v)).length ≤ l.length
  | [] => by simp
  | a :: l => by
    have := flat_le (v := v) l
    have := one2_len v a
    rw [List.flatMap_cons, List.length_append, List.length_cons]
    omega
theorem flat_apart {v : Bs} : ∀ {l : List At2}, l.Pairwise (fun a b => a.1 ≠ b.1) → (l.flatMap (one2 v)).Pairwise (fun a b => a.1 ≠ b.1)
  | [], _ => List.Pairwise.nil
  | a :: l, h => by
    obtain ⟨h1, h2⟩ := List.pairwise_cons.1 h
    rw [List.flatMap_cons, List.pairwise_append]
    refine ⟨?_, flat_apart h2, fun x hx y hy => ?_⟩
    · have hl := one2_len v a
      match hm : one2 v a, hl with
      | [], _ => exact List.Pairwise.nil
      | [z], _ => exact List.pairwise_singleton _ _
    · obtain ⟨z, hz, hyz⟩ := List.mem_flatMap.1 hy
      rw [(one2_mem hx).1, (one2_mem hyz).1]
      exact h1 z hz
theorem editAts_ok {v : Bs} {l : List At2} (h : AtsOk l) (hv : ∀ b ∈ v, valueB b = true) (h8 : v = [] ∨ l.any isSty = true ∨ l.length < 8) : AtsOk (editAts v l) := by
  unfold editAts
  split
  · refine ⟨Nat.le_trans (flat_le l) h.len, fun a ha => ?_, fun a ha => ?_, flat_apart h.apart⟩
    · obtain ⟨z, hz, haz⟩ := List.mem_flatMap.1 ha
      rw [(one2_mem haz).1]; exact h.nms z hz
    · obtain ⟨z, hz, haz⟩ := List.mem_flatMap.1 ha
      rcases (one2_mem haz).2 with rfl | rfl
      · exact h.vals _ hz
      · exact hv
  · rename_i hn
    split
    · exact h
    · rename_i hne
      have hl : l.length < 8 := by
        rcases h8 with h8 | h8 | h8
        · exact absurd h8 hne
        · exact absurd h8 hn
        · exact h8
      refine ⟨by simp; omega, fun a ha => ?_, fun a ha => ?_, List.pairwise_cons.2 ⟨fun z hz e => hn ?_, h.apart⟩⟩
      · rcases List.mem_cons.1 ha with rfl | ha
        · exact nmSty
        · exact h.nms a ha
      · rcases List.mem_cons.1 ha with rfl | ha
        · exact hv
        · exact h.vals a ha
      · exact List.any_eq_true.2 ⟨z, hz, by simp only at e; simp [isSty, ← e]⟩
theorem editAts_rest (v : Bs) (l : List At2) : (editAts v l).filter (fun a => !isSty a) = l.filter (fun a => !isSty a) := by
  have hs : isSty (styleL, v) = true := by simp [isSty]
  unfold editAts
  split
  · rw [List.filter_flatMap]
    induction l with
    | nil => rfl
    | cons a l ih =>
      have ha : (one2 v a).filter (fun a => !isSty a) = [a].filter (fun a => !isSty a) := by
        unfold one2
        by_cases h : isSty a = true
        · rw [h]
          repeat' split
          all_goals simp [h, hs]
        · simp [h]
      by_cases hl : l.any isSty = true
      · have := ih hl
        rw [List.flatMap_cons, ha, this]
        simp [List.filter_cons]
        split <;> rfl
      · have h0 : ∀ l : List At2, ¬ l.any isSty = true → l.flatMap (fun a => (one2 v a).filter fun a => !isSty a) = l.filter fun a => !isSty a := fun l hl => by
          induction l with
          | nil => rfl
          | cons b l ih2 =>
            simp only [List.any_cons, Bool.or_eq_true, not_or] at hl
            rw [List.flatMap_cons, ih2 hl.2]
            have : one2 v b = [b] := by unfold one2; simp [hl.1]
            rw [this]
            simp [List.filter_cons]
            split <;> rfl
        rw [List.flatMap_cons, ha, h0 l hl]
        simp [List.filter_cons]
        split <;> rfl
  · split
    · rfl
    · simp [hs]
def styOf (l : List At2) : Bs := match l.find? isSty with
  | some a => a.2
  | none => []
theorem editAts_style (v : Bs) (l : List At2) (hp : l.Pairwise (fun a b => a.1 ≠ b.1)) : styOf (editAts v l) = v := by
  have hs : isSty (styleL, v) = true := by simp [isSty]
  unfold editAts
  split
  · rename_i h
    induction l with
    | nil => cases h
    | cons a l ih =>
      obtain ⟨h1, h2⟩ := List.pairwise_cons.1 hp
      by_cases ha : isSty a = true
      · have hno : ∀ b ∈ l, isSty b = false := fun b hb => by
          cases hq : isSty b
          · rfl
          · exact absurd (show a.1 = b.1 by simp [isSty] at ha hq; rw [ha, hq]) (h1 b hb)
        have hfl : l.flatMap (one2 v) = l := by
          clear ih h hp h1 h2
          induction l with
          | nil => rfl
          | cons b l ih2 =>
            rw [List.flatMap_cons, ih2 (fun c hc => hno c (List.mem_cons_of_mem _ hc))]
            have : one2 v b = [b] := by unfold one2; simp [hno b (List.mem_cons_self ..)]
            rw [this]; rfl
        have hnl : l.find? isSty = none := List.find?_eq_none.2 fun b hb => by simp [hno b hb]
        rw [List.flatMap_cons, hfl]
        unfold one2 styOf
        by_cases hv : a.2 = v
        · simp [ha, hv]
        · by_cases hve : v = []
          · subst hve
            simp [ha, hv, hnl]
          · simp [ha, hv, hve, hs]
      · have h' : l.any isSty = true := by simpa [ha] using h
        have hone : one2 v a = [a] := by unfold one2; simp [ha]
        rw [List.flatMap_cons, hone]
        have := ih h2 h'
        unfold styOf at this ⊢
        simpa [List.find?_cons, ha] using this
  · rename_i h
    split
    · rename_i hv
      subst hv
      unfold styOf
      have : l.find? isSty = none := List.find?_eq_none.2 fun b hb hc => h (List.any_eq_true.2 ⟨b, hb, hc⟩)
      rw [this]
    · unfold styOf; simp [hs]
def edit (v : Nat → Bs) (g : Nat → Bs → Bs) : Nat → Tr → Tr
  | _, .nil => .nil
  | i, .txt b r => .txt b (edit v g i r)
  | i, .note c r => .note c (edit v g i r)
  | i, .sty l s r => .sty (editAts (v i) l) (g i s) (edit v g (i + 1) r)
  | i, .el n l t r => .el n (editAts (v i) l) (edit v g (i + 1) t) (edit v g (i + 1 + count t) r)
theorem edit_count (v : Nat → Bs) (g : Nat → Bs → Bs) : ∀ (t : Tr) (i : Nat), count (edit v g i t) = count t
  | .nil, _ => rfl
  | .txt _ r, i => edit_count v g r i
  | .note _ r, i => edit_count v g r i
  | .sty _ _ r, i => by show count (edit v g _ r) + 1 = count r + 1; rw [edit_count v g r]
  | .el _ _ t r, i => by show count (edit v g _ t) + count (edit v g _ r) + 1 = _; rw [edit_count v g t, edit_count v g r]; rfl
def Fits (v : Nat → Bs) (g : Nat → Bs → Bs) : Nat → Tr → Prop
  | _, .nil => True
  | i, .txt _ r => Fits v g i r
  | i, .note _ r => Fits v g i r
  | i, .sty l s r => (v i = [] ∨ l.any isSty = true ∨ l.length < 8) ∧ FirstAt (g i s) (lastTag styleL) ∧ Fits v g (i + 1) r
  | i, .el _ l t r => (v i = [] ∨ l.any isSty = true ∨ l.length < 8) ∧ Fits v g (i + 1) t ∧ Fits v g (i + 1 + count t) r
theorem edit_ok {v : Nat → Bs} {g : Nat → Bs → Bs} (hv : ∀ i, ∀ b ∈ v i, valueB b = true) : ∀ (t : Tr) (i d : Nat), Ok d t → Fits v g i t → Ok d (edit v g i t)
  | .nil, _, _, _, _ => trivial
  | .txt _ r, i, d, h, hf => ⟨h.1, edit_ok hv r i d h.2 hf⟩
  | .note _ r, i, d, h, hf => ⟨h.1, edit_ok hv r i d h.2 hf⟩
  | .sty _ _ r, i, d, h, hf => ⟨h.1, editAts_ok h.2.1 (hv i) hf.1, hf.2.1, edit_ok hv r (i + 1) d h.2.2.2 hf.2.2⟩
  | .el _ _ t r, i, d, h, hf => ⟨h.1, h.2.1, h.2.2.1, editAts_ok h.2.2.2.1 (hv i) hf.1, edit_ok hv t (i + 1) (d + 1) h.2.2.2.2.1 hf.2.1, edit_ok hv r _ d h.2.2.2.2.2 hf.2.2⟩
structure Vw where
  name : Bs
  parent : Int
  ats : List At2
def vw (n : Nd) : Vw := ⟨n.name, n.parent, n.attrs.map fun a => (a.name, a.val)⟩
theorem atrs_vals (k : Nat) (l : List At2) : (atrs k l).map (fun a => (a.name, a.val)) = l := by
  induction l generalizing k with
  | nil => rfl
  | cons a l ih => show (a.1, a.2) :: (atrs _ l).map _ = _; rw [ih]
def views : Int → Nat → Tr → List Vw
  | _, _, .nil => []
  | p, i, .txt _ r => views p i r
  | p, i, .note _ r => views p i r
  | p, i, .sty l _ r => ⟨styleL, p, l⟩ :: views p (i + 1) r
  | p, i, .el n l t r => ⟨n, p, l⟩ :: (views i (i + 1) t ++ views p (i + 1 + count t) r)
theorem nodes_views : ∀ (t : Tr) (k : Nat) (p : Int) (i : Nat), (nodes k p i t).map vw = views p i t
  | .nil, _, _, _ => rfl
  | .txt _ r, _, p, i => nodes_views r _ p i
  | .note _ r, _, p, i => nodes_views r _ p i
  | .sty l s r, k, p, i => by
    show vw _ :: (nodes _ _ _ r).map vw = _
    rw [nodes_views r]
    simp [vw, views, atrs_vals]
  | .el n l t r, k, p, i => by
    show vw _ :: (nodes _ _ _ t ++ nodes _ _ _ r).map vw = _
    rw [List.map_append, nodes_views t, nodes_views r]
    simp [vw, views, atrs_vals]
theorem views_len (t : Tr) (p : Int) (i : Nat) : (views p i t).length = count t := by
  rw [← nodes_views t 0 p i, List.length_map, nodes_len]
def reAts (v : Nat → Bs) (x : Vw × Nat) : Vw := { x.1 with ats := editAts (v x.2) x.1.ats }
theorem views_edit (v : Nat → Bs) (g : Nat → Bs → Bs) : ∀ (t : Tr) (p : Int) (i : Nat), views p i (edit v g i t) = ((views p i t).zipIdx i).map (reAts v)
  | .nil, _, _ => rfl
  | .txt _ r, p, i => views_edit v g r p i
  | .note _ r, p, i => views_edit v g r p i
  | .sty l s r, p, i => by
    show _ :: views p (i + 1) (edit v g (i + 1) r) = _
    rw [views_edit v g r]
    rfl
  | .el n l t r, p, i => by
    show _ :: (views i (i + 1) (edit v g (i + 1) t) ++ views p (i + 1 + count (edit v g (i + 1) t)) (edit v g (i + 1 + count t) r)) = _
    rw [edit_count, views_edit v g t, views_edit v g r]
    show _ = reAts v (⟨n, p, l⟩, i) :: (((views i (i + 1) t ++ views p (i + 1 + count t) r).zipIdx (i + 1)).map (reAts v))
    rw [List.zipIdx_append, List.map_append, views_len]
    rfl
def inn : Nat → Tr → List (Nat × Bs)
  | _, .nil => []
  | i, .txt _ r => inn i r
  | i, .note _ r => inn i r
  | i, .sty _ s r => (i, s) :: inn (i + 1) r
  | i, .el _ _ t r => inn (i + 1) t ++ inn (i + 1 + count t) r
theorem inn_edit (v : Nat → Bs) (g : Nat → Bs → Bs) : ∀ (t : Tr) (i : Nat), inn i (edit v g i t) = (inn i t).map fun x => (x.1, g x.1 x.2)
  | .nil, _ => rfl
  | .txt _ r, i => inn_edit v g r i
  | .note _ r, i => inn_edit v g r i
  | .sty _ s r, i => by show _ :: inn (i + 1) (edit v g (i + 1) r) = _; rw [inn_edit v g r]; rfl
  | .el _ _ t r, i => by
    show inn (i + 1) (edit v g (i + 1) t) ++ inn (i + 1 + count (edit v g (i + 1) t)) (edit v g (i + 1 + count t) r) = _
    rw [edit_count, inn_edit v g t, inn_edit v g r, ← List.map_append]
    rfl
def atSty (S : Bs) (x : Nd × Nat) : Option (Nat × Bs) := if x.1.name = styleL then some (x.2, sub S x.1.inFrom x.1.inTo) else none
theorem nodes_inn {S : Bs} : ∀ (t : Tr) (k : Nat) (p : Int) (i d : Nat) (Q : Bs), Ok d t → S.drop k = text t ++ Q → ((nodes k p i t).zipIdx i).filterMap (atSty S) = inn i t
  | .nil, _, _, _, _, _, _, _ => rfl
  | .txt b r, k, p, i, d, Q, ho, h => nodes_inn r (k + 1) p i d Q ho.2 (drop_on (a := [b]) h)
  | .note c r, k, p, i, d, Q, ho, h => by
    refine nodes_inn r (k + 7 + c.length) p i d Q ho.2 ?_
    have h0 : S.drop k = ([60, 33, 45, 45] ++ c ++ [45, 45, 62]) ++ (text r ++ Q) := by rw [h]; simp [text]
    rw [← drop_on h0]; congr 1; simp; omega
  | .sty l s r, k, p, i, d, Q, ho, h => by
    have h0 : S.drop k = first2 styleL l ++ (s ++ (lastTag styleL ++ (text r ++ Q))) := by rw [h]; simp [text]
    have h1 := drop_on h0
    have h2 := drop_on h1
    have h3 := drop_on h2
    have ih := nodes_inn r (k + (first2 styleL l).length + s.length + 8) p (i + 1) d Q ho.2.2.2 (by rw [← h3]; congr 1)
    show List.filterMap (atSty S) ((_, i) :: (nodes _ p (i + 1) r).zipIdx (i + 1)) = _
    rw [List.filterMap_cons]
    simp only [atSty, if_true]
    rw [sub_of h1]
    show (i, s) :: List.filterMap (atSty S) _ = _
    rw [ih]
    rfl
  | .el n l t r, k, p, i, d, Q, ho, h => by
    have h0 : S.drop k = first2 n l ++ (text t ++ (lastTag n ++ (text r ++ Q))) := by rw [h]; simp [text]
    have h1 := drop_on h0
    have h2 := drop_on h1
    have h3 := drop_on h2
    have ih1 := nodes_inn t (k + (first2 n l).length) i (i + 1) (d + 1) _ ho.2.2.2.2.1 h1
    have ih2 := nodes_inn r (k + (first2 n l).length + (text t).length + (lastTag n).length) p (i + 1 + count t) d Q ho.2.2.2.2.2 h3
    show List.filterMap (atSty S) ((_, i) :: (nodes _ i (i + 1) t ++ nodes _ p _ r).zipIdx (i + 1)) = _
    rw [List.filterMap_cons]
    have hn : ¬ n = styleL := ho.2.2.1
    simp only [atSty, if_neg hn]
    show List.filterMap (atSty S) _ = _
    rw [List.zipIdx_append, List.filterMap_append, ih1, nodes_len, ih2]
    rfl
end Go.Proofs.YtblkldfokeeaeacGreatDoor.Sh
namespace Go.Proofs.YtblkldfokeeaeacGreatDoor.Sh
abbrev Ed := Nat × Nat × Bs
def app (S : Bs) : Nat → List Ed → Nat → Bs
  | k, [], m => sub S k m
  | k, e :: E, m => sub S k e.1 ++ e.2.2 ++ app S e.2.1 E m
def Within : Nat → List Ed → Nat → Prop
  | k, [], m => k ≤ m
  | k, e :: E, m => k ≤ e.1 ∧ e.1 ≤ e.2.1 ∧ Within e.2.1 E m
theorem Within.le : ∀ {E : List Ed} {k m : Nat}, Within k E m → k ≤ m
  | [], _, _, h => h
  | _ :: _, _, _, h => Nat.le_trans h.1 (Nat.le_trans h.2.1 h.2.2.le)
theorem Within.app : ∀ {E F : List Ed} {k m m' : Nat}, Within k E m → Within m F m' → Within k (E ++ F) m'
  | [], [], _, _, _, h, g => Nat.le_trans h g
  | [], _ :: _, _, _, _, h, g => ⟨Nat.le_trans h g.1, g.2⟩
  | _ :: _, _, _, _, _, h, g => ⟨h.1, h.2.1, h.2.2.app g⟩
theorem app_split {S : Bs} : ∀ {E F : List Ed} {k m m' : Nat}, Within k E m → Within m F m' → app S k (E ++ F) m' = app S k E m ++ app S m F m'
  | [], [], _, _, _, h, g => sub_join S h g
  | [], e :: F, k, m, m', h, g => by
    show sub S k e.1 ++ e.2.2 ++ app S e.2.1 F m' = sub S k m ++ (sub S m e.1 ++ e.2.2 ++ app S e.2.1 F m')
    rw [sub_join S h g.1]; simp
  | e :: E, F, k, m, m', h, g => by
    show sub S k e.1 ++ e.2.2 ++ app S e.2.1 (E ++ F) m' = sub S k e.1 ++ e.2.2 ++ app S e.2.1 E m ++ app S m F m'
    rw [app_split h.2.2 g]; simp
theorem sub_self (S : Bs) (k : Nat) : sub S k k = [] := by unfold sub; simp
def edA (v : Bs) (a : Atr) : List Ed := if a.name == styleL && !(a.val == v) then [(a.from_, a.to_, if v = [] then [] else at2 (styleL, v))] else []
def styEd (v : Bs) (ne : Nat) (as : List Atr) : List Ed := if as.any (fun a => a.name == styleL) then as.flatMap (edA v) else if v = [] then [] else [(ne, ne, at2 (styleL, v))]
theorem any_sty (k : Nat) (l : List At2) : (atrs k l).any (fun a => a.name == styleL) = l.any isSty := by
  have : (atrs k l).any (fun a => a.name == styleL) = ((atrs k l).map (·.name)).any (· == styleL) := by rw [List.any_map]; rfl
  rw [this, atrs_map, List.any_map]; rfl
theorem ats_app {S : Bs} (v : Bs) : ∀ (l : List At2) (k : Nat) (X : Bs), S.drop k = ats2 l ++ X → Within k ((atrs k l).flatMap (edA v)) (k + (ats2 l).length) ∧ app S k ((atrs k l).flatMap (edA v)) (k + (ats2 l).length) = ats2 (l.flatMap (one2 v))
  | [], k, X, _ => ⟨Nat.le_add_right .., by simp [atrs, app, ats2, sub_self]⟩
  | a :: l, k, X, h => by
    have h0 : S.drop k = at2 a ++ (ats2 l ++ X) := by rw [h]; simp [ats2]
    obtain ⟨w, e⟩ := ats_app v l (k + (at2 a).length) X (drop_on h0)
    have hlen : k + (ats2 (a :: l)).length = k + (at2 a).length + (ats2 l).length := by simp [ats2]; omega
    have one : Within k (edA v ⟨a.1, a.2, k, k + (at2 a).length⟩) (k + (at2 a).length) ∧ app S k (edA v ⟨a.1, a.2, k, k + (at2 a).length⟩) (k + (at2 a).length) = ats2 (one2 v a) := by
      unfold edA one2
      simp only
      have hq : (a.1 == styleL && !(a.2 == v)) = (isSty a && !(a.2 == v)) := rfl
      rw [hq]
      cases hc : (isSty a && !(a.2 == v))
      · simp only [Bool.false_eq_true, if_false]
        refine ⟨Nat.le_add_right .., ?_⟩
        show sub S k _ = _
        rw [sub_of h0]; simp [ats2]
      · simp only [if_true]
        refine ⟨⟨Nat.le_refl _, Nat.le_add_right .., Nat.le_refl _⟩, ?_⟩
        show sub S k k ++ _ ++ sub S _ _ = _
        rw [sub_self, sub_self]
        split <;> simp [ats2]
    show Within k (edA v _ ++ (atrs _ l).flatMap (edA v)) _ ∧ app S k (edA v _ ++ (atrs _ l).flatMap (edA v)) _ = _
    rw [hlen, app_split one.1 w, one.2, e]
    refine ⟨one.1.app w, ?_⟩
    simp [ats2]
theorem sty_app {S : Bs} (v : Bs) {l : List At2} {k : Nat} {X : Bs} (h : S.drop k = ats2 l ++ X) : Within k (styEd v k (atrs k l)) (k + (ats2 l).length) ∧ app S k (styEd v k (atrs k l)) (k + (ats2 l).length) = ats2 (editAts v l) := by
  unfold styEd editAts
  rw [any_sty]
  split
  · exact ats_app v l k X h
  · split
    · refine ⟨Nat.le_add_right .., ?_⟩
      show sub S k _ = _
      rw [sub_of h]
    · refine ⟨⟨Nat.le_refl _, Nat.le_refl _, Nat.le_add_right ..⟩, ?_⟩
      show sub S k k ++ _ ++ sub S k _ = _
      rw [sub_self, sub_of h]
      simp [ats2]
def ndEd (v : Nat → Bs) (hs : Nat → List Ed) (x : Nd × Nat) : List Ed := styEd (v x.2) x.1.nameEnd x.1.attrs ++ (if x.1.name = styleL then hs x.2 else [])
def eds (v : Nat → Bs) (hs : Nat → List Ed) (L : List Nd) (i : Nat) : List Ed := (L.zipIdx i).flatMap (ndEd v hs)
theorem eds_app (v : Nat → Bs) (hs : Nat → List Ed) (L M : List Nd) (i : Nat) : eds v hs (L ++ M) i = eds v hs L i ++ eds v hs M (i + L.length) := by
  unfold eds; rw [List.zipIdx_append, List.flatMap_append]
theorem plain_app {S : Bs} {k : Nat} {a X : Bs} (h : S.drop k = a ++ X) : Within k [] (k + a.length) ∧ app S k [] (k + a.length) = a := ⟨Nat.le_add_right .., sub_of h⟩
theorem first_app {S : Bs} {k : Nat} {n : Bs} {l : List At2} {X : Bs} (v : Bs) (h : S.drop k = first2 n l ++ X) :
    Within k (styEd v (k + 1 + n.length) (atrs (k + 1 + n.length) l)) (k + (first2 n l).length) ∧ app S k (styEd v (k + 1 + n.length) (atrs (k + 1 + n.length) l)) (k + (first2 n l).length) = first2 n (editAts v l) := by
  have h0 : S.drop k = ([60] ++ n) ++ (ats2 l ++ ([62] ++ X)) := by rw [h]; simp [first2]
  have h1 := drop_on h0
  have h2 := drop_on h1
  have hk : k + ([60] ++ n).length = k + 1 + n.length := by simp; omega
  rw [hk] at h1 h2
  have hl : k + (first2 n l).length = k + 1 + n.length + (ats2 l).length + [(62 : UInt8)].length := by simp [first2]; omega
  have p1 := plain_app h0
  rw [hk] at p1
  have p2 := sty_app v h1
  have p3 := plain_app h2
  have w := (p1.1.app p2.1).app p3.1
  have e := app_split (S := S) (p1.1.app p2.1) p3.1
  rw [app_split p1.1 p2.1, p1.2, p2.2, p3.2] at e
  rw [hl]
  simp only [List.nil_append, List.append_nil] at w e
  refine ⟨w, ?_⟩
  rw [e]
  simp [first2]
theorem text_edit {S : Bs} (v : Nat → Bs) (g : Nat → Bs → Bs) (hs : Nat → List Ed) : ∀ (t : Tr) (k : Nat) (p : Int) (i d : Nat) (Q : Bs), Ok d t → S.drop k = text t ++ Q →
      (∀ x ∈ (nodes k p i t).zipIdx i, x.1.name = styleL → Within x.1.inFrom (hs x.2) x.1.inTo ∧ app S x.1.inFrom (hs x.2) x.1.inTo = g x.2 (sub S x.1.inFrom x.1.inTo)) →
      Within k (eds v hs (nodes k p i t) i) (k + (text t).length) ∧ app S k (eds v hs (nodes k p i t) i) (k + (text t).length) = text (edit v g i t)
  | .nil, k, p, i, d, Q, _, h, _ => plain_app h
  | .txt b r, k, p, i, d, Q, ho, h, hh => by
    have h0 : S.drop k = [b] ++ (text r ++ Q) := h
    obtain ⟨w, e⟩ := text_edit v g hs r (k + 1) p i d Q ho.2 (drop_on h0) hh
    have p1 : Within k [] (k + 1) ∧ app S k [] (k + 1) = [b] := plain_app h0
    have hl : k + (text (.txt b r)).length = k + 1 + (text r).length := by simp [text]; omega
    rw [hl]
    have w2 := p1.1.app w
    have e2 := app_split (S := S) p1.1 w
    rw [p1.2] at e2
    exact ⟨w2, e2.trans (by rw [e]; rfl)⟩
  | .note c r, k, p, i, d, Q, ho, h, hh => by
    have h0 : S.drop k = ([60, 33, 45, 45] ++ c ++ [45, 45, 62]) ++ (text r ++ Q) := by rw [h]; simp [text]
    have hk : k + ([60, 33, 45, 45] ++ c ++ [45, 45, 62]).length = k + 7 + c.length := by simp; omega
    have h1 := drop_on h0
    rw [hk] at h1
    obtain ⟨w, e⟩ := text_edit v g hs r (k + 7 + c.length) p i d Q ho.2 h1 hh
    have p1 := plain_app h0
    rw [hk] at p1
    have hl : k + (text (.note c r)).length = k + 7 + c.length + (text r).length := by simp [text]; omega
    rw [hl]
    have w2 := p1.1.app w
    have e2 := app_split (S := S) p1.1 w
    rw [p1.2] at e2
    exact ⟨w2, e2.trans (by rw [e]; simp [edit, text])⟩
  | .sty l s r, k, p, i, d, Q, ho, h, hh => by
    have h0 : S.drop k = first2 styleL l ++ (s ++ (lastTag styleL ++ (text r ++ Q))) := by rw [h]; simp [text]
    have h1 := drop_on h0
    have h2 := drop_on h1
    have h3 := drop_on h2
    have h8 : (lastTag styleL).length = 8 := by decide
    have p1 := first_app (v i) h0
    have hx := hh (⟨styleL, p, atrs (k + 6) l, k + 6, k + (first2 styleL l).length, k + (first2 styleL l).length + s.length⟩, i) (List.mem_cons_self ..) rfl
    simp only at hx
    rw [sub_of h1] at hx
    have p3 := plain_app h2
    rw [h8] at p3 h3
    obtain ⟨w, e⟩ := text_edit v g hs r (k + (first2 styleL l).length + s.length + 8) p (i + 1) d Q ho.2.2.2 h3 (fun x hx' => hh x (List.mem_cons_of_mem _ hx'))
    have hE : eds v hs (nodes k p i (.sty l s r)) i = (styEd (v i) (k + 1 + styleL.length) (atrs (k + 1 + styleL.length) l) ++ hs i) ++ ([] ++ eds v hs (nodes (k + (first2 styleL l).length + s.length + 8) p (i + 1) r) (i + 1)) := by
      show (ndEd v hs (_, i)) ++ eds v hs (nodes _ p (i + 1) r) (i + 1) = _
      rw [List.nil_append]
      congr 1
    have hl : k + (text (.sty l s r)).length = k + (first2 styleL l).length + s.length + 8 + (text r).length := by simp [text, h8]; omega
    rw [hE, hl]
    refine ⟨(p1.1.app hx.1).app (p3.1.app w), ?_⟩
    rw [app_split (p1.1.app hx.1) (p3.1.app w), app_split p1.1 hx.1, app_split p3.1 w, p1.2, hx.2, p3.2, e]
    simp [edit, text]
  | .el n l t r, k, p, i, d, Q, ho, h, hh => by
    have h0 : S.drop k = first2 n l ++ (text t ++ (lastTag n ++ (text r ++ Q))) := by rw [h]; simp [text]
    have h1 := drop_on h0
    have h2 := drop_on h1
    have h3 := drop_on h2
    have p1 := first_app (v i) h0
    have hmem : ∀ x ∈ (nodes (k + (first2 n l).length) i (i + 1) t).zipIdx (i + 1) ++ (nodes (k + (first2 n l).length + (text t).length + (lastTag n).length) p (i + 1 + count t) r).zipIdx (i + 1 + count t), x ∈ (nodes k p i (.el n l t r)).zipIdx i := fun x hx => by
      show x ∈ (_, i) :: ((nodes (k + (first2 n l).length) i (i + 1) t ++ nodes (k + (first2 n l).length + (text t).length + (lastTag n).length) p (i + 1 + count t) r).zipIdx (i + 1))
      rw [List.zipIdx_append, nodes_len]
      exact List.mem_cons_of_mem _ hx
    obtain ⟨w1, e1⟩ := text_edit v g hs t (k + (first2 n l).length) i (i + 1) (d + 1) _ ho.2.2.2.2.1 h1 (fun x hx => hh x (hmem x (List.mem_append_left _ hx)))
    have p3 := plain_app h2
    obtain ⟨w, e⟩ := text_edit v g hs r (k + (first2 n l).length + (text t).length + (lastTag n).length) p (i + 1 + count t) d Q ho.2.2.2.2.2 h3 (fun x hx => hh x (hmem x (List.mem_append_right _ hx)))
    have hE : eds v hs (nodes k p i (.el n l t r)) i = (styEd (v i) (k + 1 + n.length) (atrs (k + 1 + n.length) l) ++ eds v hs (nodes (k + (first2 n l).length) i (i + 1) t) (i + 1)) ++ ([] ++ eds v hs (nodes (k + (first2 n l).length + (text t).length + (lastTag n).length) p (i + 1 + count t) r) (i + 1 + count t)) := by
      show (ndEd v hs (_, i)) ++ eds v hs (nodes _ _ _ t ++ nodes _ _ _ r) (i + 1) = _
      rw [eds_app, nodes_len]
      have hn : ¬ n = styleL := ho.2.2.1
      simp [ndEd, if_neg hn]
    have hl : k + (text (.el n l t r)).length = k + (first2 n l).length + (text t).length + (lastTag n).length + (text r).length := by simp [text]; omega
    rw [hE, hl]
    refine ⟨(p1.1.app w1).app (p3.1.app w), ?_⟩
    rw [app_split (p1.1.app w1) (p3.1.app w), app_split p1.1 w1, app_split p3.1 w, p1.2, e1, p3.2, e]
    simp [edit, text]
def edR (o : Nat) (M : List (Rl × Bool)) : List Ed := M.flatMap fun x => if x.2 then [] else [(o + x.1.from_, o + x.1.to_, [32])]
theorem sub_sub {S s : Bs} {o n : Nat} (hs : s = sub S o (o + n)) {a b : Nat} (hb : b ≤ n) : sub S (o + a) (o + b) = sub s a b := by
  rw [hs]
  unfold sub
  rw [Nat.add_sub_cancel_left, List.drop_take, List.drop_drop, List.take_take]
  congr 1
  omega
theorem gone_app {S s : Bs} {o : Nat} (hs : s = sub S o (o + s.length)) : ∀ {M : List Rl} {k : Nat} (fl : List Bool), Chain s k M → k ≤ s.length → Within (o + k) (edR o (M.zip fl)) (o + s.length) ∧ app S (o + k) (edR o (M.zip fl)) (o + s.length) = goneTo s k (M.zip fl)
  | [], k, fl, _, hk => by
    refine ⟨by simp [edR, Within]; omega, ?_⟩
    show sub S (o + k) (o + s.length) = s.drop k
    rw [sub_sub hs (Nat.le_refl _)]
    unfold sub
    rw [List.take_of_length_le (by simp)]
  | r :: M, k, [], _, hk => by
    refine ⟨by simp [edR, Within]; omega, ?_⟩
    show sub S (o + k) (o + s.length) = s.drop k
    rw [sub_sub hs (Nat.le_refl _)]
    unfold sub
    rw [List.take_of_length_le (by simp)]
  | r :: M, k, b :: fl, h, hk => by
    obtain ⟨h1, h2, h3, _, h5⟩ := h
    rw [List.zip_cons_cons]
    cases b
    · obtain ⟨w, e⟩ := gone_app hs fl h5 h3
      have hE : edR o ((r, false) :: M.zip fl) = (o + r.from_, o + r.to_, [32]) :: edR o (M.zip fl) := rfl
      rw [hE]
      refine ⟨⟨by simp; omega, by simp; omega, w⟩, ?_⟩
      show sub S (o + k) (o + r.from_) ++ [32] ++ app S (o + r.to_) _ _ = _
      rw [e, sub_sub hs (by omega)]
      rfl
    · have hE : edR o ((r, true) :: M.zip fl) = edR o (M.zip fl) := rfl
      rw [hE]
      exact gone_app hs fl (h5.weaken (by omega)) hk
end Go.Proofs.YtblkldfokeeaeacGreatDoor.Sh
namespace Go.Proofs.YtblkldfokeeaeacGreatDoor.Sh
open Go
def Fine {α : Type} (S : List UInt8) (k : Nat) : Res (α × Nat) → Prop
  | .error x => x.1 ≠ 0 ∧ x.2 ≤ S.length
  | .ok (_, m) => k ≤ m ∧ m ≤ S.length
def Sane {α : Type} (f : Pr α) : Prop := ∀ (S : List UInt8) (k : Nat), S.length ≤ 4000 → k ≤ S.length → Fine S k (f S k)
theorem sane_ret {α : Type} (a : α) : Sane (ret a) := fun _ _ _ hk => ⟨Nat.le_refl _, hk⟩
theorem sane_bad {α : Type} {e : Nat} (he : e ≠ 0) : Sane (bad (α := α) e) := fun _ _ _ hk => ⟨he, hk⟩
theorem sane_if {α : Type} {P : α → Prop} {β : Type} {f : Pr α} {g : α → Pr β} (hf : Sane f) (hP : ∀ S k a m, f S k = .ok (a, m) → P a) (hg : ∀ a, P a → Sane (g a)) : Sane (bnd f g) := by
  intro S k hS hk
  have h := hf S k hS hk
  unfold bnd
  cases e : f S k with
  | error x => rw [e] at h; exact h
  | ok q =>
    obtain ⟨a, m⟩ := q
    rw [e] at h
    have h2 := hg a (hP S k a m e) S m hS h.2
    show Fine S k (g a S m)
    cases e2 : g a S m with
    | error x => rw [e2] at h2; exact h2
    | ok q => rw [e2] at h2; exact ⟨Nat.le_trans h.1 h2.1, h2.2⟩
theorem sane_bnd {α β : Type} {f : Pr α} {g : α → Pr β} (hf : Sane f) (hg : ∀ a, Sane (g a)) : Sane (bnd f g) := sane_if (P := fun _ => True) hf (fun _ _ _ _ _ => trivial) (fun a _ => hg a)
theorem sane_opt {α : Type} {t : List UInt8} {f g : Pr α} (hf : Sane f) (hg : Sane g) : Sane (opt t f g) := by
  intro S k hS hk
  unfold opt
  split
  · rename_i hh
    have := has_le hh hk
    have h := hf S (k + t.length) hS this
    cases e : f S (k + t.length) with
    | error x => rw [e] at h; exact h
    | ok q => rw [e] at h; exact ⟨by have := h.1; omega, h.2⟩
  · exact hg S k hS hk
theorem sane_look {α : Type} {t : List UInt8} {f g : Pr α} (hf : Sane f) (hg : Sane g) : Sane (look t f g) := by
  intro S k hS hk
  unfold look
  split
  · exact hf S k hS hk
  · exact hg S k hS hk
theorem sane_fits {α : Type} {p : UInt8 → Bool} {f g : Pr α} (hf : Sane f) (hg : Sane g) : Sane (fits p f g) := by
  intro S k hS hk
  unfold fits
  split
  · exact hf S k hS hk
  · exact hg S k hS hk
theorem sane_ended {α : Type} {f g : Pr α} (hf : Sane f) (hg : Sane g) : Sane (ended f g) := by
  intro S k hS hk
  unfold ended
  split
  · exact hf S k hS hk
  · exact hg S k hS hk
theorem sane_ite {α : Type} {q : Prop} [Decidable q] {f g : Pr α} (hf : q → Sane f) (hg : ¬ q → Sane g) : Sane (if q then f else g) := by
  split
  · rename_i h; exact hf h
  · rename_i h; exact hg h
theorem sane_tok {t : List UInt8} : Sane (tok t) := sane_opt (sane_ret _) (sane_bad (by decide))
theorem gapsTo_fine {S : List UInt8} : ∀ (f k : Nat), S.length - k < f → k ≤ S.length → match gapsTo f S k with | .error x => x.1 ≠ 0 ∧ x.2 ≤ S.length | .ok m => k ≤ m ∧ m ≤ S.length
  | 0, _, h, _ => absurd h (Nat.not_lt_zero _)
  | f + 1, k, h, hk => by
    have more : ∀ k', k < k' → k' ≤ S.length → (match gapsTo f S k' with | .error x => x.1 ≠ 0 ∧ x.2 ≤ S.length | .ok m => k ≤ m ∧ m ≤ S.length) := by
      intro k' h1 h2
      have := gapsTo_fine f k' (by omega) h2
      cases e : gapsTo f S k' with
      | error x => rw [e] at this; exact this
      | ok m => rw [e] at this; exact ⟨by have := this.1; omega, this.2⟩
    rw [gapsTo]
    by_cases a1 : has S k [32] = true
    · rw [if_pos a1]
      have := (has_lt (x := 0) a1 (by simp)).2
      exact more (k + 1) (by omega) (by omega)
    rw [if_neg a1]
    by_cases a2 : has S k [10] = true
    · rw [if_pos a2]
      have := (has_lt (x := 0) a2 (by simp)).2
      exact more (k + 1) (by omega) (by omega)
    rw [if_neg a2]
    by_cases a3 : has S k [47, 42] = true
    · rw [if_pos a3]
      cases hp : pastAt S (k + 2) [42, 47] with
      | none => exact ⟨by simp, hk⟩
      | some e =>
        have p := (pastAt_iff (by simp)).1 hp
        have := (has_lt (x := 1) p.2.1 (by simp)).2
        exact more (e + 2) (by omega) (by omega)
    · rw [if_neg a3]
      exact ⟨Nat.le_refl _, hk⟩
theorem sane_gaps : Sane gaps := by
  intro S k hS hk
  have := gapsTo_fine 4001 k (by omega) hk
  unfold gaps
  cases e : gapsTo 4001 S k with
  | error x => rw [e] at this; exact this
  | ok m => rw [e] at this; exact this
theorem sane_sname : Sane sname := by
  intro S k hS hk
  unfold sname
  cases e : nameTo S k with
  | error x =>
    unfold nameTo at e
    split at e
    · cases e
    · injection e with e
      subst e
      exact ⟨by simp, hk⟩
  | ok m =>
    have := nameTo_le e
    simp only
    split
    · exact ⟨by simp, hk⟩
    · exact ⟨by omega, this.2⟩
theorem sane_word (ahead : List UInt8) : Sane (word ahead) := by
  intro S k hS hk
  have hw := whileEnd_le wordB hk
  simp only [word, chars]
  split
  · exact ⟨by simp, hk⟩
  split
  · exact ⟨by simp, hk⟩
  have h := sane_bnd sane_gaps (fun _ => sane_ret (ahead ++ sub S k (whileEnd S k wordB))) S (whileEnd S k wordB) hS hw.2
  generalize bnd gaps (fun _ => ret (ahead ++ sub S k (whileEnd S k wordB))) S (whileEnd S k wordB) = q at h ⊢
  cases q with
  | error x => exact h
  | ok q => exact ⟨Nat.le_trans hw.1 h.1, h.2⟩
theorem word_grows {ahead : List UInt8} {S : List UInt8} {k k' : Nat} {v : List UInt8} (h : word ahead S k = .ok (v, k')) : v.length ≤ 60 ∧ ahead.length < v.length := by
  simp only [word, chars] at h
  split at h
  · cases h
  rename_i hne
  split at h
  · cases h
  rename_i h60
  rw [bnd_ok] at h
  obtain ⟨_, m1, _, h2⟩ := h
  injection h2 with h2
  injection h2 with h2 _
  have : 0 < (sub S k (whileEnd S k wordB)).length := List.length_pos_iff.2 hne
  rw [← h2, List.length_append]
  omega
theorem sane_valueTo : ∀ (f : Nat) (v : List UInt8), v.length ≤ 60 → 60 < v.length + f → Sane (valueTo f v)
  | 0, v, h1, h2 => by omega
  | f + 1, v, h1, h2 => sane_fits (sane_if (P := fun u => u.length ≤ 60 ∧ v.length + 1 < u.length) (sane_word _) (fun S k a m e => by
      have := word_grows e
      simp at this
      exact this) (fun u hu => sane_valueTo f u hu.1 (by omega))) (sane_ret v)
theorem sane_value : Sane value := sane_if (P := fun u => u.length ≤ 60) (sane_word _) (fun S k a m e => (word_grows e).1) (fun u hu => sane_valueTo 62 u hu (by omega))
theorem sane_decl : Sane decl :=
  sane_bnd sane_sname fun _ => sane_bnd sane_gaps fun _ => sane_bnd sane_tok fun _ => sane_bnd sane_gaps fun _ => sane_bnd sane_value fun _ =>
    sane_opt (sane_bnd sane_tok fun _ => sane_bnd sane_gaps fun _ => sane_ret _) (sane_ret _)
theorem decl_letter' {S : List UInt8} {k k' : Nat} {d : Dcl} (h : decl S k = .ok (d, k')) : fitsAt S k letterB = true := by
  unfold decl at h
  rw [bnd_ok] at h
  obtain ⟨n, m, h1, _⟩ := h
  unfold sname nameTo at h1
  cases hf : fitsAt S k letterB with
  | true => rfl
  | false => rw [hf] at h1; cases h1
theorem sane_declsTo : ∀ (f : Nat) (l : List Dcl), f + l.length = 22 → l.length ≤ 20 → Sane (declsTo f l)
  | 0, l, h1, h2 => by omega
  | f + 1, l, h1, h2 => by
    refine sane_ended (sane_ret l) (sane_look (sane_ret l) ?_)
    by_cases h20 : 20 ≤ l.length
    · rw [if_pos h20]
      intro S k hS hk
      cases hf : fitsAt S k letterB with
      | true =>
        unfold bnd fits
        rw [if_pos hf]
        exact ⟨by simp, hk⟩
      | false =>
        have e : fits letterB (bad 5) (ret ()) S k = .ok ((), k) := by unfold fits; rw [if_neg (by rw [hf]; decide)]; rfl
        have hd := sane_decl S k hS hk
        cases ed : decl S k with
        | error x =>
          rw [ed] at hd
          simp only [bnd, e, ed]
          exact hd
        | ok q =>
          obtain ⟨d, m⟩ := q
          have := decl_letter' ed
          rw [hf] at this
          cases this
    · rw [if_neg h20]
      exact sane_bnd (sane_ret ()) fun _ => sane_bnd sane_decl fun d => sane_opt (sane_bnd sane_gaps fun _ => sane_declsTo f (l ++ [d]) (by simp; omega) (by simp; omega)) (sane_ret _)
theorem sane_decls : Sane decls := sane_bnd sane_gaps fun _ => sane_declsTo 22 [] (by simp) (by simp)
theorem sane_aheadOfPart (n most : Nat) : Sane (aheadOfPart n most) := by
  intro S k hS hk
  unfold aheadOfPart
  split
  · exact ⟨by simp, hk⟩
  split
  · exact ⟨by simp, hk⟩
  · exact ⟨Nat.le_refl _, hk⟩
theorem sane_attrTest : Sane attrTest := sane_bnd sane_sname fun _ => sane_ite (fun _ => sane_bad (by decide)) (fun _ => sane_bnd (sane_opt (sane_bnd sane_sname fun _ => sane_ret _) (sane_ret _)) fun _ => sane_bnd sane_tok fun _ => sane_ret _)
theorem sane_test : Sane test := sane_opt (sane_bnd sane_sname fun _ => sane_ret _) (sane_opt (sane_bnd sane_sname fun _ => sane_ret _) (sane_opt (sane_ret _) (sane_opt sane_attrTest (sane_ret _))))
theorem sane_testsTo : ∀ (f : Nat) (l : List Tst), 8 ≤ f + l.length → l.length ≤ 6 → Sane (testsTo f l)
  | 0, l, h1, h2 => by omega
  | f + 1, l, h1, h2 => sane_bnd sane_test fun t => sane_ite (fun _ => sane_ret l) (fun _ => sane_ite (fun _ => sane_bad (by decide)) (fun h => sane_testsTo f (l ++ [t]) (by simp; omega) (by simp; omega)))
theorem partHead_len {S : List UInt8} {k m : Nat} {l : List Tst} (h : partHead S k = .ok (l, m)) : l.length ≤ 1 := by
  unfold partHead opt at h
  split at h
  · injection h with h; injection h with h _; rw [← h]; simp
  unfold fits at h
  split at h
  · rw [bnd_ok] at h
    obtain ⟨n, m1, _, h2⟩ := h
    injection h2 with h2; injection h2 with h2 _; rw [← h2]; simp
  · injection h with h; injection h with h _; rw [← h]; simp
theorem sane_part (j : Nat) : Sane (part j) := sane_if (P := fun l => l.length ≤ 1) (sane_opt (sane_ret _) (sane_fits (sane_bnd sane_sname fun _ => sane_ret _) (sane_ret _))) (fun S k a m e => partHead_len e) (fun l hl => sane_bnd (sane_testsTo 8 l (by omega) (by omega)) fun _ => sane_ret _)
theorem sane_join : Sane join := sane_bnd sane_gaps fun _ => sane_opt (sane_bnd sane_gaps fun _ => sane_ret _) (sane_opt (sane_bnd sane_gaps fun _ => sane_ret _) (sane_ite (fun _ => sane_look (sane_ret _) (sane_look (sane_ret _) (sane_ended (sane_ret _) (sane_ret _)))) (fun _ => sane_ret _)))
theorem sane_selectorTo : ∀ (f j : Nat) (l : List Prt), f + l.length = 8 → l.length ≤ 6 → Sane (selectorTo f j l)
  | 0, _, l, h1, h2 => by omega
  | f + 1, j, l, h1, h2 => sane_if (P := fun _ => l.length < 6) (sane_aheadOfPart _ _) (fun S k a m e => (ahead_iff.1 e).2.1) fun _ h => sane_bnd (sane_part j) fun p => sane_bnd sane_join fun q => sane_ite (fun _ => sane_selectorTo f q.1 (l ++ [p]) (by simp; omega) (by simp; omega)) (fun _ => sane_ret _)
theorem sane_selectorsTo : ∀ (f : Nat) (l : List (List Prt)), f + l.length = 10 → l.length ≤ 8 → Sane (selectorsTo f l)
  | 0, l, h1, h2 => by omega
  | f + 1, l, h1, h2 => sane_if (P := fun _ => l.length < 8) (sane_aheadOfPart _ _) (fun S k a m e => (ahead_iff.1 e).2.1) fun _ h => sane_bnd (sane_selectorTo 8 0 [] (by simp) (by simp)) fun p => sane_opt (sane_bnd sane_gaps fun _ => sane_selectorsTo f (l ++ [p]) (by simp; omega) (by simp; omega)) (sane_ret _)
theorem sane_rule (n : Nat) : Sane (rule n) := sane_bnd (sane_aheadOfPart _ _) fun _ => sane_bnd (sane_selectorsTo 10 [] (by simp) (by simp)) fun _ => sane_bnd sane_tok fun _ => sane_bnd sane_decls fun _ => sane_bnd sane_tok fun _ => sane_ret _
theorem sane_mediaHead : Sane mediaHead := sane_bnd sane_gaps fun _ => sane_ite (fun _ => sane_bnd sane_sname fun _ => sane_bnd sane_gaps fun _ => sane_bnd sane_tok fun _ => sane_ret _) (fun _ => sane_bad (by decide))
theorem rulesTo_fault {S : List UInt8} (hS : S.length ≤ 4000) : ∀ (f k : Nat) (md : Option (List UInt8)) (L : List Rl) (x : Nat × Nat), S.length - k < f → k ≤ S.length → rulesTo f S k md L = .error x → x.1 ≠ 0 ∧ x.2 ≤ S.length
  | 0, _, _, _, _, h, _, _ => absurd h (Nat.not_lt_zero _)
  | f + 1, k, md, L, x, h, hk, e => by
    rw [rulesTo] at e
    have hg := sane_gaps S k hS hk
    cases eg : gaps S k with
    | error y =>
      rw [eg] at e hg
      injection e with e
      subst e
      exact hg
    | ok q =>
      obtain ⟨g, k1⟩ := q
      rw [eg] at e hg
      have hg1 : k ≤ k1 := hg.1
      have hg2 : k1 ≤ S.length := hg.2
      have rl : ∀ (md' : Option (List UInt8)) (F : List (List Prt) × List Dcl → Nat → List Rl), (match rule L.length S k1 with | .error x => (.error x : Res (List Rl)) | .ok (p, k2) => rulesTo f S k2 md' (F p k2)) = .error x → x.1 ≠ 0 ∧ x.2 ≤ S.length := by
        intro md' F e
        have hr := sane_rule L.length S k1 hS hg2
        cases er : rule L.length S k1 with
        | error y =>
          rw [er] at e hr
          injection e with e
          subst e
          exact hr
        | ok q =>
          obtain ⟨p, k2⟩ := q
          rw [er] at e hr
          obtain ⟨d, hd, _, hb⟩ := rule_iff.1 er
          have := (List.getElem?_eq_some_iff.1 hb).1
          exact rulesTo_fault hS f k2 md' _ x (by omega) hr.2 e
      cases md with
      | none =>
        simp only at e
        split at e
        · cases e
        rename_i he
        split at e
        · rename_i hm
          have h6 : k1 + 6 ≤ S.length := has_le hm hg2
          have hh := sane_mediaHead S (k1 + 6) hS h6
          cases em : mediaHead S (k1 + 6) with
          | error y =>
            rw [em] at e hh
            injection e with e
            subst e
            exact hh
          | ok q =>
            obtain ⟨n, k2⟩ := q
            rw [em] at e hh
            have h1 : k1 + 6 ≤ k2 := hh.1
            exact rulesTo_fault hS f k2 _ _ x (by omega) hh.2 e
        · exact rl none _ e
      | some n =>
        simp only at e
        split at e
        · rename_i hc
          have := (has_lt (x := 0) hc (by simp)).2
          exact rulesTo_fault hS f (k1 + 1) _ _ x (by omega) (by omega) e
        · exact rl (some n) _ e
theorem sheet_fault {S : List UInt8} {x : Nat × Nat} (h : sheetParse S = .error x) : x.1 ≠ 0 ∧ x.2 ≤ S.length := by
  unfold sheetParse at h
  split at h
  · injection h with h
    subst h
    exact ⟨by decide, Nat.zero_le _⟩
  · exact rulesTo_fault (by omega) _ _ _ _ _ (by omega) (Nat.zero_le _) h
theorem decls_fault {S : List UInt8} {x : Nat × Nat} (h : declsParse S = .error x) : x.1 ≠ 0 := by
  unfold declsParse at h
  split at h
  · injection h with h
    subst h
    decide
  · unfold declsAll at h
    have := sane_bnd sane_decls (fun l => sane_ended (sane_ret l) (sane_bad (e := 2) (by decide))) S 0 (by omega) (Nat.zero_le _)
    cases e : onlyDecls S 0 with
    | error y =>
      have e' : bnd decls (fun l => ended (ret l) (bad 2)) S 0 = .error y := e
      rw [e'] at this
      rw [e] at h
      injection h with h
      subst h
      exact this.1
    | ok q =>
      rw [e] at h
      cases h
end Go.Proofs.YtblkldfokeeaeacGreatDoor.Sh
