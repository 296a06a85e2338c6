/- Texts that the statement's proof stands on: Gone, Tree, Tree2, Tree3. -/
import Derived.Test.YtblkldfokeeaeacGreatDoorA02
import Derived.Test.YtblkldfokeeaeacGreatDoorA01
namespace Go.Proofs.YtblkldfokeeaeacGreatDoor.Sh
def bare (r : Rl) : Rl := { r with from_ := 0, to_ := 0 }
def goneTo (S : List UInt8) : Nat → List (Rl × Bool) → List UInt8
  | k, [] => S.drop k
  | k, (r, b) :: M => if b then goneTo S k M else sub S k r.from_ ++ [32] ++ goneTo S r.to_ M
theorem sub_join (S : List UInt8) {a b c : Nat} (h1 : a ≤ b) (h2 : b ≤ c) : sub S a c = sub S a b ++ sub S b c := by
  unfold sub
  have : S.drop b = (S.drop a).drop (b - a) := by rw [List.drop_drop]; congr 1; omega
  rw [this, show c - a = (b - a) + (c - b) by omega, List.take_add]
theorem sub_drop (S : List UInt8) {a b : Nat} (h1 : a ≤ b) : S.drop a = sub S a b ++ S.drop b := by
  unfold sub
  have : S.drop b = (S.drop a).drop (b - a) := by rw [List.drop_drop]; congr 1; omega
  rw [this, List.take_append_drop]
theorem goneTo_ahead {S : List UInt8} : ∀ {M : List (Rl × Bool)} {k m : Nat}, k ≤ m → (∀ x ∈ M, m ≤ x.1.from_) → goneTo S k M = sub S k m ++ goneTo S m M
  | [], k, m, h, _ => sub_drop S h
  | (r, b) :: M, k, m, h, hm => by
    have hr := hm (r, b) (List.mem_cons_self ..)
    simp only at hr
    unfold goneTo
    cases b
    · simp only [Bool.false_eq_true, if_false]
      rw [sub_join S h hr]; simp
    · simp only [if_true]
      exact goneTo_ahead h fun x hx => hm x (List.mem_cons_of_mem _ hx)
theorem zip_from {S : List UInt8} {M : List Rl} {k : Nat} (h : Chain S k M) (fl : List Bool) : ∀ x ∈ M.zip fl, k ≤ x.1.from_ := fun x hx => (Chain.mem h x.1 (List.of_mem_zip hx).1).1
theorem agree_of {S T : List UInt8} {k k' m : Nat} {X : List UInt8} (h : T.drop k' = sub S k (k + m) ++ X) (hm : k + m ≤ S.length) : ∀ i, i < m → T[k' + i]? = S[k + i]? := fun i hi => by
  have h1 : (T.drop k')[i]? = T[k' + i]? := by rw [List.getElem?_drop]
  rw [← h1, h, List.getElem?_append_left (by unfold sub; simp; omega)]
  unfold sub
  rw [List.getElem?_take, if_pos (by omega), List.getElem?_drop]
theorem drop_on' {S T : List UInt8} {k k' m : Nat} {X : List UInt8} (h : T.drop k' = sub S k (k + m) ++ X) (hm : k + m ≤ S.length) : T.drop (k' + m) = X := by
  rw [← List.drop_drop, h]
  have : (sub S k (k + m)).length = m := by unfold sub; simp; omega
  exact List.drop_left' this
theorem Ps.gone {S T : List UInt8} {k : Nat} {md : Option (List UInt8)} {L A : List Rl} (h : Ps S k md L A) (hT : T.length ≤ 4000) : k ≤ S.length →
    ∃ M, A = L ++ M ∧ Chain S k M ∧ ∀ (fl : List Bool) (k' : Nat) (L2 : List Rl), fl.length = M.length → L2.length + M.length ≤ 60 → T.drop k' = goneTo S k (M.zip fl) →
      ∃ M', Ps T k' md L2 (L2 ++ M') ∧ M'.map bare = (((M.zip fl).filter (·.2)).map (·.1)).map bare := by
  have adv : ∀ {k k1 : Nat}, gapsTo 4001 S k = .ok k1 → k ≤ k1 := fun h => gapsTo_adv _ _ _ h
  have byBrace : ∀ {k k1 k' n : Nat} {c : UInt8}, (c = 123 ∨ c = 125) → gapsTo 4001 S k = .ok k1 → (∀ i, i ≤ n → T[k' + i]? = S[k + i]?) → k1 ≤ k + n → S[k + n]? = some c → gapsTo 4001 T k' = .ok (k' + (k1 - k)) := by
    intro k k1 k' n c hc g hs hn hb
    have a := adv g
    obtain ⟨d, rfl⟩ := Nat.exists_eq_add_of_le a
    have := gapsTo_loc hc 4001 k k' n d g ⟨hb, hs⟩ (by omega)
    rw [this]; congr 1; omega
  induction h with
  | @fin k k1 L g e =>
    intro hk
    refine ⟨[], by simp, trivial, fun fl k' L2 _ _ hd => ⟨[], ?_, by simp⟩⟩
    have hd' : T.drop k' = S.drop k := by simpa [goneTo] using hd
    have hs : ∀ i, T[k' + i]? = S[k + i]? := fun i => by
      have h1 : (T.drop k')[i]? = T[k' + i]? := by rw [List.getElem?_drop]
      rw [← h1, hd', List.getElem?_drop]
    have a := adv g
    obtain ⟨d, rfl⟩ := Nat.exists_eq_add_of_le a
    have r := gaps_run hT 4001 k k' d g (fun i _ => hs i)
    have hend : T.length ≤ k' + d := by
      have : T[k' + d]? = none := (hs d).trans (List.getElem?_eq_none (by omega))
      exact List.getElem?_eq_none_iff.1 this
    rw [gp_end hend] at r
    simpa using Ps.fin (L := L2) r hend
  | @media k k1 k2 n L A g e hm m next ih =>
    intro hk
    obtain ⟨d, rfl, mb, hb⟩ := mediaHead_iff.1 m
    have a := adv g
    obtain ⟨x, rfl⟩ := Nat.exists_eq_add_of_le a
    have hlt := (List.getElem?_eq_some_iff.1 hb).1
    obtain ⟨M, h1, hch, h2⟩ := ih (by omega)
    refine ⟨M, h1, hch.weaken (by omega), fun fl k' L2 hf h60 hd => ?_⟩
    rw [goneTo_ahead (k := k) (m := k + x + 6 + d + 1) (by omega) (zip_from hch fl), show k + x + 6 + d + 1 = k + (x + 6 + d + 1) by omega] at hd
    have hs := agree_of hd (by omega)
    have hd2 := drop_on' hd (by omega)
    obtain ⟨M', p1, p2⟩ := h2 fl (k' + (x + 6 + d + 1)) L2 hf h60 (by rw [hd2]; congr 1; omega)
    refine ⟨M', ?_, p2⟩
    have g' := byBrace (k' := k') (n := x + 6 + d) (.inl rfl) g (fun i hi => hs i (by omega)) (by omega) (by rw [← hb]; congr 1; omega)
    rw [show k' + (k + x - k) = k' + x by omega] at g'
    have hx : T[k' + (x + 6 + d)]? = some 123 := by rw [hs _ (by omega), ← hb]; congr 1; omega
    have e' := (List.getElem?_eq_some_iff.1 hx).1
    refine .media (n := n) g' (by omega) ?_ (mediaHead_iff.2 ⟨d, rfl, ?_, ?_⟩) ?_
    · have := has_in (S := S) (S' := T) (k := k + x) (k' := k' + x) (n := 6) (t := mediaL) (fun i hi => by have := hs (x + i) (by omega); rw [Nat.add_assoc, this, Nat.add_assoc]) (by decide)
      rw [this]; exact hm
    · exact loc_mediaBody.loc mb (S' := T) (k' := k' + x + 6) (n := d) ⟨hb, fun i hi => by
        have := hs (x + 6 + i) (by omega)
        rw [show k' + x + 6 + i = k' + (x + 6 + i) by omega, this]; congr 1; omega⟩ (Nat.le_refl _)
    · rw [← hx]; congr 1; omega
    · rw [show k' + x + 6 + d + 1 = k' + (x + 6 + d + 1) by omega]; exact p1
  | @rule0 k k1 k2 p L A g e hm m next ih =>
    intro hk
    obtain ⟨c, hc, _, _, _, c4, _⟩ := rule_byte m
    have m' := m
    obtain ⟨d, rfl, _, hb⟩ := rule_iff.1 m
    have a := adv g
    obtain ⟨x, rfl⟩ := Nat.exists_eq_add_of_le a
    have hlt := (List.getElem?_eq_some_iff.1 hb).1
    obtain ⟨M, h1, hch, h2⟩ := ih (by omega)
    refine ⟨⟨[], p.1, p.2, k + x, k + x + d + 1⟩ :: M, by rw [h1]; simp, ⟨by simp, by simp; omega, by simp; omega, ⟨_, m'⟩, hch⟩, fun fl k' L2 hf h60 hd => ?_⟩
    simp only [List.length_cons] at h60 hf
    cases fl with
    | nil => simp at hf
    | cons b fl =>
      simp only [List.length_cons, Nat.add_right_cancel_iff] at hf
      rw [List.zip_cons_cons] at hd ⊢
      cases b
      · -- it goes
        have hd0 : T.drop k' = sub S k (k + x) ++ ([32] ++ goneTo S (k + x + d + 1) (M.zip fl)) := by rw [hd]; simp [goneTo]
        have hs := agree_of hd0 (by omega)
        have hd1 := drop_on' hd0 (by omega)
        have hd2 : T.drop (k' + x + 1) = goneTo S (k + x + d + 1) (M.zip fl) := by
          have : T.drop (k' + x + 1) = (T.drop (k' + x)).drop 1 := by rw [List.drop_drop]
          rw [this, hd1]; rfl
        obtain ⟨M', p1, p2⟩ := h2 fl (k' + x + 1) L2 hf (by omega) hd2
        refine ⟨M', p1.congr ?_, ?_⟩
        · rw [gaps_run hT 4001 k k' x g (fun i hi => hs i hi)]
          exact gp_blank hT (.inl (by unfold has; rw [hd1]; rfl))
        · rw [p2]; simp
      · -- it stays
        have hd0 : T.drop k' = goneTo S k (M.zip fl) := by rw [hd]; simp [goneTo]
        rw [goneTo_ahead (k := k) (m := k + x + d + 1) (by omega) (zip_from hch fl), show k + x + d + 1 = k + (x + d + 1) by omega] at hd0
        have hs := agree_of hd0 (by omega)
        have hd2 := drop_on' hd0 (by omega)
        obtain ⟨M', p1, p2⟩ := h2 fl (k' + (x + d + 1)) (L2 ++ [⟨[], p.1, p.2, k' + x, k' + x + d + 1⟩]) hf (by simp; omega) (by rw [hd2]; congr 1; omega)
        refine ⟨⟨[], p.1, p.2, k' + x, k' + x + d + 1⟩ :: M', ?_, ?_⟩
        · have g' := byBrace (k' := k') (n := x + d) (.inr rfl) g (fun i hi => hs i (by omega)) (by omega) (by rw [← hb]; congr 1; omega)
          rw [show k' + (k + x - k) = k' + x by omega] at g'
          have hx : T[k' + x]? = some c := by rw [hs x (by omega)]; exact hc
          have e' := (List.getElem?_eq_some_iff.1 hx).1
          refine .rule0 g' e' (no_tok hx c4) (rule_move m' (fun i hi => by have := hs (x + i) (by omega); rw [Nat.add_assoc, this, Nat.add_assoc]) (by omega)) ?_
          rw [show k' + x + d + 1 = k' + (x + d + 1) by omega] at p1 ⊢
          simpa using p1
        · simp [p2, bare]
  | @close k k1 n L A g hc next ih =>
    intro hk
    have a := adv g
    obtain ⟨x, rfl⟩ := Nat.exists_eq_add_of_le a
    have hb := one_tok.1 hc
    have hlt := (List.getElem?_eq_some_iff.1 hb).1
    obtain ⟨M, h1, hch, h2⟩ := ih (by omega)
    refine ⟨M, h1, hch.weaken (by omega), fun fl k' L2 hf h60 hd => ?_⟩
    rw [goneTo_ahead (k := k) (m := k + x + 1) (by omega) (zip_from hch fl), show k + x + 1 = k + (x + 1) by omega] at hd
    have hs := agree_of hd (by omega)
    have hd2 := drop_on' hd (by omega)
    obtain ⟨M', p1, p2⟩ := h2 fl (k' + (x + 1)) L2 hf h60 (by rw [hd2]; congr 1)
    refine ⟨M', ?_, p2⟩
    have g' := byBrace (k' := k') (n := x) (.inr rfl) g (fun i hi => hs i (by omega)) (by omega) hb
    rw [show k' + (k + x - k) = k' + x by omega] at g'
    exact .close g' (one_tok.2 (by rw [hs x (by omega)]; exact hb)) p1
  | @rule1 k k1 k2 n p L A g hcl m next ih =>
    intro hk
    obtain ⟨c, hc, _, _, _, _, c5⟩ := rule_byte m
    have m' := m
    obtain ⟨d, rfl, _, hb⟩ := rule_iff.1 m
    have a := adv g
    obtain ⟨x, rfl⟩ := Nat.exists_eq_add_of_le a
    have hlt := (List.getElem?_eq_some_iff.1 hb).1
    obtain ⟨M, h1, hch, h2⟩ := ih (by omega)
    refine ⟨⟨n, p.1, p.2, k + x, k + x + d + 1⟩ :: M, by rw [h1]; simp, ⟨by simp, by simp; omega, by simp; omega, ⟨_, m'⟩, hch⟩, fun fl k' L2 hf h60 hd => ?_⟩
    simp only [List.length_cons] at h60 hf
    cases fl with
    | nil => simp at hf
    | cons b fl =>
      simp only [List.length_cons, Nat.add_right_cancel_iff] at hf
      rw [List.zip_cons_cons] at hd ⊢
      cases b
      · have hd0 : T.drop k' = sub S k (k + x) ++ ([32] ++ goneTo S (k + x + d + 1) (M.zip fl)) := by rw [hd]; simp [goneTo]
        have hs := agree_of hd0 (by omega)
        have hd1 := drop_on' hd0 (by omega)
        have hd2 : T.drop (k' + x + 1) = goneTo S (k + x + d + 1) (M.zip fl) := by
          have : T.drop (k' + x + 1) = (T.drop (k' + x)).drop 1 := by rw [List.drop_drop]
          rw [this, hd1]; rfl
        obtain ⟨M', p1, p2⟩ := h2 fl (k' + x + 1) L2 hf (by omega) hd2
        refine ⟨M', p1.congr ?_, ?_⟩
        · rw [gaps_run hT 4001 k k' x g (fun i hi => hs i hi)]
          exact gp_blank hT (.inl (by unfold has; rw [hd1]; rfl))
        · rw [p2]; simp
      · have hd0 : T.drop k' = goneTo S k (M.zip fl) := by rw [hd]; simp [goneTo]
        rw [goneTo_ahead (k := k) (m := k + x + d + 1) (by omega) (zip_from hch fl), show k + x + d + 1 = k + (x + d + 1) by omega] at hd0
        have hs := agree_of hd0 (by omega)
        have hd2 := drop_on' hd0 (by omega)
        obtain ⟨M', p1, p2⟩ := h2 fl (k' + (x + d + 1)) (L2 ++ [⟨n, p.1, p.2, k' + x, k' + x + d + 1⟩]) hf (by simp; omega) (by rw [hd2]; congr 1; omega)
        refine ⟨⟨n, p.1, p.2, k' + x, k' + x + d + 1⟩ :: M', ?_, ?_⟩
        · have g' := byBrace (k' := k') (n := x + d) (.inr rfl) g (fun i hi => hs i (by omega)) (by omega) (by rw [← hb]; congr 1; omega)
          rw [show k' + (k + x - k) = k' + x by omega] at g'
          have hx : T[k' + x]? = some c := by rw [hs x (by omega)]; exact hc
          refine .rule1 g' (no_tok hx c5) (rule_move m' (fun i hi => by have := hs (x + i) (by omega); rw [Nat.add_assoc, this, Nat.add_assoc]) (by omega)) ?_
          rw [show k' + x + d + 1 = k' + (x + d + 1) by omega] at p1 ⊢
          simpa using p1
        · simp [p2, bare]
theorem goneTo_len {S : List UInt8} : ∀ {M : List Rl} {k : Nat} (fl : List Bool), Chain S k M → k ≤ S.length → (goneTo S k (M.zip fl)).length ≤ S.length - k
  | [], k, fl, _, _ => by simp [goneTo]
  | r :: M, k, [], _, _ => by simp [goneTo]
  | r :: M, k, b :: fl, h, hk => by
    obtain ⟨h1, h2, h3, _, h5⟩ := h
    rw [List.zip_cons_cons]
    unfold goneTo
    cases b
    · simp only [Bool.false_eq_true, if_false]
      have := goneTo_len fl h5 h3
      have hs : (sub S k r.from_).length = r.from_ - k := by unfold sub; simp; omega
      simp [hs]
      omega
    · simp only [if_true]
      exact goneTo_len fl (h5.weaken (by omega)) hk
theorem sheet_gone {S : List UInt8} {A : List Rl} (h : sheetParse S = .ok A) (fl : List Bool) (hf : fl.length = A.length) :
    ∃ M', sheetParse (goneTo S 0 (A.zip fl)) = .ok M' ∧ M'.map bare = (((A.zip fl).filter (·.2)).map (·.1)).map bare ∧ (goneTo S 0 (A.zip fl)).length ≤ S.length := by
  have hS := sheetParse_le h
  have hp := (Ps.iff hS).1 h
  obtain ⟨M, e, hch, h60⟩ := hp.chain
  obtain rfl : A = M := by simpa using e
  have hl : (goneTo S 0 (A.zip fl)).length ≤ S.length := by simpa using goneTo_len fl hch (Nat.zero_le _)
  obtain ⟨M0, e0, _, h2⟩ := hp.gone (T := goneTo S 0 (A.zip fl)) (by omega) (Nat.zero_le _)
  obtain rfl : A = M0 := by simpa using e0
  obtain ⟨M', p1, p2⟩ := h2 fl 0 [] hf (by simpa using h60 (by simp)) (by simp)
  exact ⟨M', (Ps.iff (by omega)).2 (by simpa using p1), p2, hl⟩
end Go.Proofs.YtblkldfokeeaeacGreatDoor.Sh
namespace Go.Proofs.YtblkldfokeeaeacGreatDoor.Sh
abbrev Bs := List UInt8
abbrev At2 := Bs × Bs
inductive Tr where
  | nil
  | txt (b : UInt8) (rest : Tr)
  | note (c : Bs) (rest : Tr)
  | sty (ats : List At2) (inner : Bs) (rest : Tr)
  | el (nm : Bs) (ats : List At2) (kids rest : Tr)
def at2 (a : At2) : Bs := [32] ++ a.1 ++ [61, 34] ++ a.2 ++ [34]
def ats2 (l : List At2) : Bs := l.flatMap at2
def first2 (nm : Bs) (l : List At2) : Bs := [60] ++ nm ++ ats2 l ++ [62]
def text : Tr → Bs
  | .nil => []
  | .txt b r => b :: text r
  | .note c r => [60, 33, 45, 45] ++ c ++ [45, 45, 62] ++ text r
  | .sty l i r => first2 styleL l ++ i ++ lastTag styleL ++ text r
  | .el n l k r => first2 n l ++ text k ++ lastTag n ++ text r
def count : Tr → Nat
  | .nil => 0
  | .txt _ r => count r
  | .note _ r => count r
  | .sty _ _ r => count r + 1
  | .el _ _ k r => count k + count r + 1
def atrs : Nat → List At2 → List Atr
  | _, [] => []
  | k, a :: l => ⟨a.1, a.2, k, k + (at2 a).length⟩ :: atrs (k + (at2 a).length) l
def nodes : Nat → Int → Nat → Tr → List Nd
  | _, _, _, .nil => []
  | k, p, i, .txt _ r => nodes (k + 1) p i r
  | k, p, i, .note c r => nodes (k + 7 + c.length) p i r
  | k, p, i, .sty l s r => ⟨styleL, p, atrs (k + 6) l, k + 6, k + (first2 styleL l).length, k + (first2 styleL l).length + s.length⟩ :: nodes (k + (first2 styleL l).length + s.length + 8) p (i + 1) r
  | k, p, i, .el n l t r => ⟨n, p, atrs (k + 1 + n.length) l, k + 1 + n.length, 0, 0⟩ :: (nodes (k + (first2 n l).length) i (i + 1) t ++ nodes (k + (first2 n l).length + (text t).length + (lastTag n).length) p (i + 1 + count t) r)
theorem nodes_len : ∀ (t : Tr) (k : Nat) (p : Int) (i : Nat), (nodes k p i t).length = count t
  | .nil, _, _, _ => rfl
  | .txt _ r, k, p, i => nodes_len r _ _ _
  | .note _ r, k, p, i => nodes_len r _ _ _
  | .sty l s r, k, p, i => by
    show (nodes _ _ _ r).length + 1 = count r + 1
    rw [nodes_len r]
  | .el n l t r, k, p, i => by
    show (_ :: (nodes _ _ _ t ++ nodes _ _ _ r)).length = count t + count r + 1
    rw [List.length_cons, List.length_append, nodes_len t, nodes_len r]
structure NmOk (n : Bs) : Prop where
  head : ∃ c r, n = c :: r ∧ letterB c = true ∧ ∀ b ∈ r, nameB b = true
  len : n.length ≤ 20
structure AtsOk (l : List At2) : Prop where
  len : l.length ≤ 8
  nms : ∀ a ∈ l, NmOk a.1
  vals : ∀ a ∈ l, ∀ b ∈ a.2, valueB b = true
  apart : l.Pairwise fun a b => a.1 ≠ b.1
def FirstAt (c t : Bs) : Prop := Lib.index (c ++ t) t = c.length
def Ok : Nat → Tr → Prop
  | _, .nil => True
  | d, .txt b r => textB b = true ∧ Ok d r
  | d, .note c r => FirstAt c [45, 45, 62] ∧ Ok d r
  | d, .sty l i r => d ≤ 20 ∧ AtsOk l ∧ FirstAt i (lastTag styleL) ∧ Ok d r
  | d, .el n l t r => d ≤ 20 ∧ NmOk n ∧ n ≠ styleL ∧ AtsOk l ∧ Ok (d + 1) t ∧ Ok d r
section
variable {T : Bs} {k : Nat}
theorem drop_on {a X : Bs} (h : T.drop k = a ++ X) : T.drop (k + a.length) = X := by
  rw [← List.drop_drop, h, List.drop_left]
theorem has_of {a X : Bs} (h : T.drop k = a ++ X) : has T k a = true := by
  unfold has; rw [h]; exact List.isPrefixOf_iff_prefix.2 (List.prefix_append a X)
theorem need_of {a X : Bs} (h : T.drop k = a ++ X) : need T k a = .ok (k + a.length) := by
  unfold need; rw [if_pos (has_of h)]
theorem has_not {a : UInt8} {t X : Bs} {b : UInt8} (h : T.drop k = b :: X) (hb : b ≠ a) : has T k (a :: t) = false := by
  unfold has; rw [h]; simp [List.isPrefixOf]; intro e; exact absurd e.symm hb
theorem has_not2 {a a' b b' : UInt8} {t X : Bs} (h : T.drop k = b :: b' :: X) (hb : b' ≠ a') : has T k (a :: a' :: t) = false := by
  unfold has; rw [h]; simp [List.isPrefixOf]; intro _ e; exact absurd e.symm hb
theorem get_of {b : UInt8} {X : Bs} (h : T.drop k = b :: X) : T[k]? = some b := by
  have : (T.drop k)[0]? = some b := by rw [h]; rfl
  simpa using this
theorem fits_of {b : UInt8} {X : Bs} {p : UInt8 → Bool} (h : T.drop k = b :: X) : fitsAt T k p = p b := by
  unfold fitsAt; rw [get_of h]
theorem sub_of {a X : Bs} (h : T.drop k = a ++ X) : sub T k (k + a.length) = a := by
  unfold sub; rw [h, Nat.add_sub_cancel_left, List.take_left]
theorem takeWhile_stop {p : UInt8 → Bool} : ∀ {a : Bs} {X : Bs}, (∀ b ∈ a, p b = true) → (X = [] ∨ ∃ c Y, X = c :: Y ∧ p c = false) → (a ++ X).takeWhile p = a
  | [], X, _, hx => by
    rcases hx with rfl | ⟨c, Y, rfl, hc⟩
    · rfl
    · simp [hc]
  | b :: a, X, h, hx => by
    rw [List.cons_append, List.takeWhile_cons_of_pos (h b (List.mem_cons_self ..)), takeWhile_stop (fun c hc => h c (List.mem_cons_of_mem _ hc)) hx]
theorem while_of {a X : Bs} {p : UInt8 → Bool} (h : T.drop k = a ++ X) (ha : ∀ b ∈ a, p b = true) (hx : X = [] ∨ ∃ c Y, X = c :: Y ∧ p c = false) : whileEnd T k p = k + a.length := by
  unfold whileEnd; rw [h, takeWhile_stop ha hx]
theorem name_of {n X : Bs} (h : T.drop k = n ++ X) (hn : NmOk n) (hx : ∃ c Y, X = c :: Y ∧ nameB c = false) : nameTo T k = .ok (k + n.length) := by
  obtain ⟨c, r, rfl, h1, h2⟩ := hn.head
  unfold nameTo
  rw [fits_of (show T.drop k = c :: (r ++ X) from h), if_pos h1]
  have hd : T.drop (k + 1) = r ++ X := drop_on (a := [c]) (X := r ++ X) h
  rw [while_of hd h2 (.inr hx), List.length_cons]
  congr 1
  omega
end
theorem index_ext : ∀ (l m t : Bs) (i : Nat), Lib.index l t = i → i + t.length ≤ l.length → Lib.index (l ++ m) t = i
  | [], m, t, i, h, hi => by
    have ht : t = [] := List.length_eq_zero_iff.1 (by rw [List.length_nil] at hi; omega)
    subst ht
    have h0 : (0 : Int) = i := h
    rw [List.nil_append, ← h0]
    cases m <;> rfl
  | a :: l, m, t, i, h, hi => by
    rw [List.cons_append]
    by_cases hp : t.isPrefixOf (a :: l) = true
    · have e : Lib.index (a :: l) t = 0 := by rw [Lib.index, if_pos hp]
      have e2 : Lib.index (a :: (l ++ m)) t = 0 := by
        rw [Lib.index, if_pos (by
          rw [List.isPrefixOf_iff_prefix] at hp ⊢
          exact hp.trans (List.prefix_append (a :: l) m))]
      rw [e2, ← e, h]
    · have e : Lib.index (a :: l) t = if Lib.index l t == -1 then -1 else Lib.index l t + 1 := by rw [Lib.index, if_neg hp]
      have hp' : ¬ t.isPrefixOf (a :: (l ++ m)) = true := by
        intro c
        apply hp
        rw [List.isPrefixOf_iff_prefix] at c ⊢
        exact List.prefix_of_prefix_length_le c (List.prefix_append (a :: l) m) (by omega)
      have e2 : Lib.index (a :: (l ++ m)) t = if Lib.index (l ++ m) t == -1 then -1 else Lib.index (l ++ m) t + 1 := by rw [Lib.index, if_neg hp']
      rw [e] at h
      rw [e2]
      have hge := Lib.index_ge l t
      by_cases hq : Lib.index l t = -1
      · rw [if_pos (by simp [hq])] at h; omega
      · rw [if_neg (by simp [hq])] at h
        obtain ⟨j, hj⟩ : ∃ j : Nat, Lib.index l t = j := ⟨(Lib.index l t).toNat, by omega⟩
        have hl := index_ext l m t j hj (by simp at hi; omega)
        rw [hl]
        rw [hj] at h
        rw [if_neg (by simp)]
        exact h
theorem past_of {T : Bs} {k : Nat} {c t X : Bs} (h : T.drop k = c ++ t ++ X) (hc : FirstAt c t) : pastAt T k t = some (k + c.length) := by
  unfold pastAt
  rw [h, index_ext (c ++ t) X t c.length hc (by simp)]
  rw [if_neg (by omega)]
  simp
end Go.Proofs.YtblkldfokeeaeacGreatDoor.Sh
namespace Go.Proofs.YtblkldfokeeaeacGreatDoor.Sh
theorem at2_len (a : At2) : (at2 a).length = a.1.length + a.2.length + 4 := by
  simp [at2]; omega
theorem nm_not (c : UInt8) (h : c = 32 ∨ c = 61 ∨ c = 62) : nameB c = false := by
  rcases h with rfl | rfl | rfl <;> decide
theorem val_not : valueB 34 = false := by decide
theorem atrs_map (k : Nat) : ∀ (l : List At2) , (atrs k l).map (·.name) = l.map (·.1) := by
  intro l
  induction l generalizing k with
  | nil => rfl
  | cons a l ih => show a.1 :: (atrs _ l).map (·.name) = _; rw [ih]; rfl
theorem atrs_len (k : Nat) (l : List At2) : (atrs k l).length = l.length := by
  have := congrArg List.length (atrs_map k l)
  simpa using this
theorem atrs_app (k : Nat) : ∀ (a b : List At2), atrs k (a ++ b) = atrs k a ++ atrs (k + (ats2 a).length) b := by
  intro a
  induction a generalizing k with
  | nil => intro b; rfl
  | cons x a ih =>
    intro b
    show _ :: atrs _ (a ++ b) = _ :: (atrs _ a ++ atrs _ b)
    rw [ih]
    congr 3
    simp [ats2]
    omega
theorem attr_of {T : Bs} {k : Nat} {a : At2} {X : Bs} {as : List Atr} (h : T.drop k = at2 a ++ X) (hn : NmOk a.1) (hv : ∀ b ∈ a.2, valueB b = true) (h8 : as.length < 8) (hd : as.any (fun x => x.name == a.1) = false) :
    attr T k as = .ok (⟨a.1, a.2, k, k + (at2 a).length⟩, k + (at2 a).length) := by
  obtain ⟨n, v⟩ := a
  simp only at hn hv hd
  have d0 : T.drop k = [32] ++ (n ++ ([61, 34] ++ (v ++ ([34] ++ X)))) := by rw [h]; simp [at2]
  have d1 := drop_on d0
  have d2 := drop_on d1
  have d3 := drop_on d2
  have d4 := drop_on d3
  unfold attr
  rw [need_of d0]
  simp only
  have e1 : attrName T (k + [(32 : UInt8)].length) as = .ok (n, k + [(32 : UInt8)].length + n.length) := by
    unfold attrName
    rw [name_of d1 hn ⟨61, _, rfl, nm_not _ (.inr (.inl rfl))⟩]
    simp only
    rw [sub_of d1, if_neg (by omega), if_neg (by have := hn.len; omega), hd]
    rfl
  rw [e1]
  simp only
  rw [need_of d2]
  simp only
  rw [while_of d3 hv (.inr ⟨34, _, rfl, val_not⟩), need_of d4, sub_of d3]
  simp only [at2_len]
  congr 2
  · congr 1
    simp; omega
  · simp; omega
theorem attrs_of {T : Bs} {X : Bs} (hX : ∃ c Y, X = c :: Y ∧ c ≠ 32) : ∀ (l : List At2) (f k : Nat) (as : List Atr), T.drop k = ats2 l ++ X → l.length < f → as.length + l.length ≤ 8 → (∀ a ∈ l, NmOk a.1) → (∀ a ∈ l, ∀ b ∈ a.2, valueB b = true) →
      l.Pairwise (fun a b => a.1 ≠ b.1) → (∀ a ∈ l, as.any (fun x => x.name == a.1) = false) → attrsTo f T k as = .ok (as ++ atrs k l, k + (ats2 l).length)
  | [], f, k, as, h, hf, _, _, _, _, _ => by
    obtain ⟨c, Y, rfl, hc⟩ := hX
    obtain ⟨g, rfl⟩ : ∃ g, f = g + 1 := ⟨f - 1, by simp at hf; omega⟩
    unfold attrsTo
    rw [has_not (show T.drop k = c :: Y from h) hc]
    simp [atrs, ats2]
  | a :: l, f, k, as, h, hf, h8, hn, hv, hp, hd => by
    obtain ⟨g, rfl⟩ : ∃ g, f = g + 1 := ⟨f - 1, by simp at hf; omega⟩
    obtain ⟨hp1, hp2⟩ := List.pairwise_cons.1 hp
    have h' : T.drop k = at2 a ++ (ats2 l ++ X) := by rw [h]; simp [ats2]
    have hb : has T k [32] = true := has_of (X := a.1 ++ ([61, 34] ++ (a.2 ++ ([34] ++ (ats2 l ++ X))))) (by rw [h']; simp [at2])
    unfold attrsTo
    rw [if_pos hb, attr_of h' (hn a (List.mem_cons_self ..)) (hv a (List.mem_cons_self ..)) (by simp at h8; omega) (hd a (List.mem_cons_self ..))]
    simp only
    rw [attrs_of hX l g _ _ (drop_on h') (by simp at hf; omega) (by simp at h8 ⊢; omega) (fun x hx => hn x (List.mem_cons_of_mem _ hx)) (fun x hx => hv x (List.mem_cons_of_mem _ hx)) hp2 (fun x hx => by
      rw [List.any_append, hd x (List.mem_cons_of_mem _ hx)]
      simp
      exact hp1 x hx)]
    congr 2
    · simp [atrs]
    · simp [ats2]; omega
theorem first_of {T : Bs} {k : Nat} {n : Bs} {l : List At2} {X : Bs} (h : T.drop k = first2 n l ++ X) (hn : NmOk n) (hl : AtsOk l) :
    firstTag T k = .ok (⟨n, 0, atrs (k + 1 + n.length) l, k + 1 + n.length, 0, 0⟩, k + (first2 n l).length) := by
  have d0 : T.drop k = [60] ++ (n ++ (ats2 l ++ ([62] ++ X))) := by rw [h]; simp [first2]
  have d1 : T.drop (k + 1) = n ++ (ats2 l ++ ([62] ++ X)) := drop_on d0
  have d2 := drop_on d1
  have d3 := drop_on d2
  have hx : ∃ c Y, ats2 l ++ ([62] ++ X) = c :: Y ∧ nameB c = false := by
    cases l with
    | nil => exact ⟨62, X, rfl, nm_not _ (.inr (.inr rfl))⟩
    | cons a l => exact ⟨32, a.1 ++ [61, 34] ++ a.2 ++ [34] ++ ats2 l ++ ([62] ++ X), by simp [ats2, at2], nm_not _ (.inl rfl)⟩
  unfold firstTag
  rw [need_of d0]
  simp only [List.length_cons, List.length_nil, Nat.zero_add]
  rw [name_of d1 hn hx]
  simp only
  rw [sub_of d1, if_neg (by have := hn.len; omega)]
  rw [attrs_of ⟨62, X, rfl, by decide⟩ l 10 _ [] d2 (by have := hl.len; omega) (by simpa using hl.len) hl.nms hl.vals hl.apart (fun _ _ => rfl)]
  simp only
  rw [need_of d3]
  simp only [List.nil_append]
  congr 2
  simp [first2]
  omega
theorem nmSty : NmOk styleL := ⟨⟨115, [116, 121, 108, 101], rfl, by decide, by decide⟩, by decide⟩
theorem first_head (n : Bs) (l : List At2) (X : Bs) (hn : NmOk n) : ∃ c Y, first2 n l ++ X = 60 :: c :: Y ∧ letterB c = true := by
  obtain ⟨c, r, rfl, h1, _⟩ := hn.head
  exact ⟨c, r ++ ats2 l ++ [62] ++ X, by simp [first2], h1⟩
theorem letter_not {c : UInt8} (h : letterB c = true) : c ≠ 47 ∧ c ≠ 33 := by
  constructor
  · rintro rfl; exact absurd h (by decide)
  · rintro rfl; exact absurd h (by decide)
theorem text_not {b : UInt8} (h : textB b = true) : b ≠ 60 := by
  rintro rfl; exact absurd h (by decide)
theorem items_of {T : Bs} : ∀ (t : Tr) (f k : Nat) (p : Int) (d : Nat) (L : List Nd) (Q : Bs), T.drop k = text t ++ Q → (Q = [] ∨ ∃ Y, Q = [60, 47] ++ Y) → k ≤ T.length → (text t).length < f → Ok d t → L.length + count t ≤ 120 →
      items f T k p d L = .ok (k + (text t).length, L ++ nodes k p L.length t)
  | .nil, f, k, p, d, L, Q, h, hQ, hk, hf, _, _ => by
    obtain ⟨g, rfl⟩ : ∃ g, f = g + 1 := ⟨f - 1, by omega⟩
    unfold items
    rw [if_pos (by
      rcases hQ with rfl | ⟨Y, rfl⟩
      · left
        have := congrArg List.length h
        simp [text] at this
        omega
      · right; exact has_of h)]
    simp [text, nodes]
  | .txt b r, f, k, p, d, L, Q, h, hQ, hk, hf, ho, hc => by
    obtain ⟨g, rfl⟩ : ∃ g, f = g + 1 := ⟨f - 1, by omega⟩
    obtain ⟨hb, ho⟩ := ho
    have h' : T.drop k = b :: (text r ++ Q) := h
    have hlt : k < T.length := by
      have := congrArg List.length h'
      simp at this
      omega
    have hn := text_not hb
    have ih := items_of r g (k + 1) p d L Q (drop_on (a := [b]) h') hQ (by omega) (by simp [text] at hf; omega) ho hc
    unfold items
    rw [if_neg (by rw [has_not h' hn]; simp; omega), has_not h' hn, has_not h' hn, fits_of h', if_pos hb, ih]
    simp [text, nodes]
    omega
  | .note c r, f, k, p, d, L, Q, h, hQ, hk, hf, ho, hc => by
    obtain ⟨g, rfl⟩ : ∃ g, f = g + 1 := ⟨f - 1, by omega⟩
    obtain ⟨hb, ho⟩ := ho
    have h0 : T.drop k = [60, 33, 45, 45] ++ (c ++ [45, 45, 62] ++ (text r ++ Q)) := by rw [h]; simp [text]
    have h1 : T.drop (k + 4) = c ++ [45, 45, 62] ++ (text r ++ Q) := drop_on h0
    have h2 : T.drop (k + 4 + (c ++ [45, 45, 62]).length) = text r ++ Q := drop_on h1
    have hlt : k + 4 + (c ++ [45, 45, 62]).length + (text r).length + Q.length = T.length := by
      have := congrArg List.length h0
      simp at this ⊢
      omega
    have hh : has T k [60, 47] = false := has_not2 (b := 60) (b' := 33) (X := [45, 45] ++ (c ++ [45, 45, 62] ++ (text r ++ Q))) (by rw [h0]; rfl) (by decide)
    have ih := items_of r g (k + 4 + c.length + 3) p d L Q (by rw [← h2]; congr 1; simp; omega) hQ (by simp at hlt; omega) (by simp [text] at hf; omega) ho hc
    unfold items
    rw [if_neg (by rw [hh]; simp at hlt ⊢; omega), if_pos (has_of h0), past_of h1 hb]
    simp only
    rw [ih]
    simp only [text, nodes]
    congr 2
    · simp; omega
    · congr 2; omega
  | .sty l i r, f, k, p, d, L, Q, h, hQ, hk, hf, ho, hc => by
    obtain ⟨g, rfl⟩ : ∃ g, f = g + 1 := ⟨f - 1, by omega⟩
    obtain ⟨hd, hl, hi, ho⟩ := ho
    have h0 : T.drop k = first2 styleL l ++ (i ++ lastTag styleL ++ (text r ++ Q)) := by rw [h]; simp [text]
    have h1 := drop_on h0
    have h2 := drop_on h1
    have hlen : (lastTag styleL).length = 8 := by decide
    have hlt : k + (first2 styleL l).length + i.length + 8 + (text r).length + Q.length = T.length := by
      have := congrArg List.length h0
      simp [hlen] at this
      omega
    obtain ⟨c, Y, hY, hcl⟩ := first_head styleL l (i ++ lastTag styleL ++ (text r ++ Q)) nmSty
    have h00 : T.drop k = 60 :: c :: Y := by rw [h0, hY]
    obtain ⟨n1, n2⟩ := letter_not hcl
    have hfl : 0 < (first2 styleL l).length := by simp [first2]
    have ih := items_of r g (k + (first2 styleL l).length + i.length + 8) p d (L ++ [⟨styleL, p, atrs (k + 6) l, k + 6, k + (first2 styleL l).length, k + (first2 styleL l).length + i.length⟩]) Q
      (by rw [← h2]; congr 1; simp [hlen]; omega) hQ (by omega) (by simp [text, hlen] at hf; omega) ho (by simp [count] at hc ⊢; omega)
    have hel : element (items g T) T k p d L = .ok (k + (first2 styleL l).length + i.length + 8, L ++ [⟨styleL, p, atrs (k + 6) l, k + 6, k + (first2 styleL l).length, k + (first2 styleL l).length + i.length⟩]) := by
      unfold element
      rw [if_neg (by simp [count] at hc; omega), first_of h0 nmSty hl]
      simp only
      rw [if_pos trivial, past_of h1 hi]
      rfl
    unfold items
    rw [if_neg (by rw [has_not2 h00 n1]; simp; omega), has_not2 h00 n2, if_pos (has_of (a := [60]) h00), hel]
    simp only [Bool.false_eq_true, if_false]
    rw [ih]
    simp only [text, nodes]
    congr 2
    · simp [hlen]; omega
    · simp
  | .el n l t r, f, k, p, d, L, Q, h, hQ, hk, hf, ho, hc => by
    obtain ⟨g, rfl⟩ : ∃ g, f = g + 1 := ⟨f - 1, by omega⟩
    obtain ⟨hd, hn, hns, hl, hot, ho⟩ := ho
    have h0 : T.drop k = first2 n l ++ (text t ++ (lastTag n ++ (text r ++ Q))) := by rw [h]; simp [text]
    have h1 := drop_on h0
    have h2 := drop_on h1
    have h3 := drop_on h2
    have hlt : k + (first2 n l).length + (text t).length + (lastTag n).length + (text r).length + Q.length = T.length := by
      have := congrArg List.length h0
      simp at this
      omega
    obtain ⟨c, Y, hY, hcl⟩ := first_head n l (text t ++ (lastTag n ++ (text r ++ Q))) hn
    have h00 : T.drop k = 60 :: c :: Y := by rw [h0, hY]
    obtain ⟨n1, n2⟩ := letter_not hcl
    have hfl : 0 < (first2 n l).length := by simp [first2]
    have htl : (text (.el n l t r)).length = (first2 n l).length + (text t).length + (lastTag n).length + (text r).length := by simp [text]; omega
    rw [htl] at hf
    have ih1 := items_of t g (k + (first2 n l).length) L.length (d + 1) (L ++ [⟨n, p, atrs (k + 1 + n.length) l, k + 1 + n.length, 0, 0⟩]) (lastTag n ++ (text r ++ Q)) h1 (.inr ⟨n ++ [62] ++ (text r ++ Q), by simp [lastTag]⟩) (by omega) (by omega) hot (by simp [count] at hc ⊢; omega)
    have hel : element (items g T) T k p d L = .ok (k + (first2 n l).length + (text t).length + (lastTag n).length, L ++ [⟨n, p, atrs (k + 1 + n.length) l, k + 1 + n.length, 0, 0⟩] ++ nodes (k + (first2 n l).length) L.length (L.length + 1) t) := by
      unfold element
      rw [if_neg (by simp [count] at hc; omega), first_of h0 hn hl]
      simp only
      rw [if_neg hns, ih1]
      simp only
      rw [need_of h2]
      simp
    have ih2 := items_of r g (k + (first2 n l).length + (text t).length + (lastTag n).length) p d (L ++ [⟨n, p, atrs (k + 1 + n.length) l, k + 1 + n.length, 0, 0⟩] ++ nodes (k + (first2 n l).length) L.length (L.length + 1) t) Q h3 hQ (by omega) (by omega) ho (by
      simp [count, nodes_len] at hc ⊢; omega)
    unfold items
    rw [if_neg (by rw [has_not2 h00 n1]; simp; omega), has_not2 h00 n2, if_pos (has_of (a := [60]) h00), hel]
    simp only [Bool.false_eq_true, if_false]
    rw [ih2, htl]
    simp only [nodes]
    congr 2
    · omega
    · simp [nodes_len]
      congr 1
      omega
end Go.Proofs.YtblkldfokeeaeacGreatDoor.Sh
namespace Go.Proofs.YtblkldfokeeaeacGreatDoor.Sh
section
variable {S : Bs}
theorem need_inv {k m : Nat} {t : Bs} (h : need S k t = .ok m) : m = k + t.length ∧ S.drop k = t ++ S.drop m := by
  unfold need at h
  split at h
  · rename_i hh
    injection h with h
    unfold has at hh
    obtain ⟨r, hr⟩ := List.isPrefixOf_iff_prefix.1 hh
    subst h
    refine ⟨rfl, ?_⟩
    rw [drop_on hr.symm, hr]
  · cases h
theorem drop_split (k n : Nat) : S.drop k = (S.drop k).take n ++ S.drop (k + n) := by
  rw [← List.drop_drop, List.take_append_drop]
theorem tw_drop (p : UInt8 → Bool) : ∀ l : Bs, l.drop (l.takeWhile p).length = l.dropWhile p
  | [] => rfl
  | b :: l => by by_cases h : p b = true <;> simp [h, tw_drop p l]
theorem while_inv (k : Nat) (p : UInt8 → Bool) : ∃ a, S.drop k = a ++ S.drop (whileEnd S k p) ∧ whileEnd S k p = k + a.length ∧ (∀ b ∈ a, p b = true) := by
  refine ⟨(S.drop k).takeWhile p, ?_, rfl, fun b hb => List.all_eq_true.1 List.all_takeWhile b hb⟩
  unfold whileEnd
  rw [← List.drop_drop, tw_drop, List.takeWhile_append_dropWhile]
theorem name_inv {k m : Nat} (h : nameTo S k = .ok m) : ∃ n, S.drop k = n ++ S.drop m ∧ m = k + n.length ∧ sub S k m = n ∧ ∃ c r, n = c :: r ∧ letterB c = true ∧ ∀ b ∈ r, nameB b = true := by
  unfold nameTo at h
  split at h
  · rename_i hf
    injection h with h
    obtain ⟨a, h1, h2, h3⟩ := while_inv (S := S) (k + 1) nameB
    rw [h] at h1 h2
    unfold fitsAt at hf
    cases hg : S[k]? with
    | none => rw [hg] at hf; cases hf
    | some c =>
      rw [hg] at hf
      obtain ⟨hk, hc⟩ := List.getElem?_eq_some_iff.1 hg
      have hd : S.drop k = (c :: a) ++ S.drop m := by
        rw [List.drop_eq_getElem_cons hk, hc, h1]; rfl
      have hm : m = k + (c :: a).length := by rw [h2]; simp; omega
      exact ⟨c :: a, hd, hm, by rw [hm]; exact sub_of hd, c, a, rfl, hf, h3⟩
  · cases h
theorem index_cut : ∀ (l t : Bs) (i : Nat), Lib.index l t = i → ∃ c X, l = c ++ t ++ X ∧ c.length = i ∧ FirstAt c t
  | [], t, i, h => by
    unfold Lib.index at h
    split at h
    · rename_i he
      have ht : t = [] := by simpa using he
      subst ht
      have : i = 0 := by omega
      subst this
      exact ⟨[], [], rfl, rfl, rfl⟩
    · omega
  | b :: l, t, i, h => by
    by_cases hp : t.isPrefixOf (b :: l) = true
    · have e : Lib.index (b :: l) t = 0 := by rw [Lib.index, if_pos hp]
      have hi : i = 0 := by omega
      subst hi
      obtain ⟨r, hr⟩ := List.isPrefixOf_iff_prefix.1 hp
      refine ⟨[], r, hr.symm, rfl, ?_⟩
      show Lib.index ([] ++ t) t = 0
      cases t with
      | nil => rfl
      | cons a t => rw [List.nil_append, Lib.index, if_pos (List.isPrefixOf_iff_prefix.2 (List.prefix_refl _))]
    · have e : Lib.index (b :: l) t = if Lib.index l t == -1 then -1 else Lib.index l t + 1 := by rw [Lib.index, if_neg hp]
      rw [e] at h
      have hge := Lib.index_ge l t
      by_cases hq : Lib.index l t = -1
      · rw [if_pos (by simp [hq])] at h; omega
      · rw [if_neg (by simp [hq])] at h
        obtain ⟨j, hj⟩ : ∃ j : Nat, Lib.index l t = j := ⟨(Lib.index l t).toNat, by omega⟩
        obtain ⟨c, X, h1, h2, h3⟩ := index_cut l t j hj
        refine ⟨b :: c, X, by rw [h1]; simp, by simp; omega, ?_⟩
        unfold FirstAt at h3 ⊢
        rw [List.cons_append, Lib.index, if_neg (fun hc => hp (by
          rw [List.isPrefixOf_iff_prefix] at hc ⊢
          rw [h1]
          exact hc.trans ⟨X, by simp⟩)), h3, if_neg (by simp)]
        simp
theorem past_inv {k e : Nat} {t : Bs} (h : pastAt S k t = some e) : ∃ c, S.drop k = c ++ t ++ S.drop (e + t.length) ∧ e = k + c.length ∧ FirstAt c t := by
  unfold pastAt at h
  split at h
  · cases h
  · rename_i hn
    injection h with h
    obtain ⟨j, hj⟩ : ∃ j : Nat, Lib.index (S.drop k) t = j := ⟨(Lib.index (S.drop k) t).toNat, by omega⟩
    obtain ⟨c, X, h1, h2, h3⟩ := index_cut _ _ _ hj
    have he : e = k + c.length := by rw [← h, hj, h2]; simp
    refine ⟨c, ?_, he, h3⟩
    have := drop_on h1
    rw [show e + t.length = k + (c ++ t).length by rw [he]; simp; omega, this, h1]
theorem attr_inv {k m : Nat} {as : List Atr} {a : Atr} (h : attr S k as = .ok (a, m)) : ∃ x : At2, S.drop k = at2 x ++ S.drop m ∧ m = k + (at2 x).length ∧ a = ⟨x.1, x.2, k, m⟩ ∧ NmOk x.1 ∧ (∀ b ∈ x.2, valueB b = true) ∧ as.length < 8 ∧ as.any (fun y => y.name == x.1) = false := by
  unfold attr at h
  split at h
  · cases h
  rename_i k1 e1
  split at h
  · cases h
  rename_i n k2 e2
  split at h
  · cases h
  rename_i k3 e3
  split at h
  · cases h
  rename_i k5 e5
  injection h with h
  injection h with ha hm
  obtain ⟨m1, d1⟩ := need_inv e1
  obtain ⟨m3, d3⟩ := need_inv e3
  obtain ⟨v, d4, m4, hv⟩ := while_inv (S := S) k3 valueB
  obtain ⟨m5, d5⟩ := need_inv e5
  unfold attrName at e2
  split at e2
  · cases e2
  rename_i e e2'
  split at e2
  · cases e2
  rename_i h8
  split at e2
  · cases e2
  rename_i h20
  split at e2
  · cases e2
  rename_i hd
  injection e2 with e2
  injection e2 with e21 e22
  subst e22
  obtain ⟨n', d2, m2, hs, hc⟩ := name_inv e2'
  rw [hs] at e21 h20 hd
  subst e21
  have hsv : sub S k3 (whileEnd S k3 valueB) = v := by rw [m4]; exact sub_of d4
  have hall : S.drop k = at2 (n', v) ++ S.drop k5 := by rw [d1, d2, d3, d4, d5]; simp [at2]
  have hlen : k5 = k + (at2 (n', v)).length := by rw [m5, m4, m3, m2, m1, at2_len]; simp; omega
  refine ⟨(n', v), by rw [← hm]; exact hall, by rw [← hm]; exact hlen, ?_, ⟨hc, Nat.not_lt.1 h20⟩, hv, by omega, by simpa using hd⟩
  rw [← ha, ← hm, hsv]
theorem attrs_inv : ∀ (f k m : Nat) (as as' : List Atr), attrsTo f S k as = .ok (as', m) → ∃ l, S.drop k = ats2 l ++ S.drop m ∧ m = k + (ats2 l).length ∧ as' = as ++ atrs k l ∧ (∀ a ∈ l, NmOk a.1) ∧ (∀ a ∈ l, ∀ b ∈ a.2, valueB b = true) ∧
      l.Pairwise (fun a b => a.1 ≠ b.1) ∧ (∀ a ∈ l, as.any (fun x => x.name == a.1) = false) ∧ (as.length ≤ 8 → as.length + l.length ≤ 8)
  | 0, k, m, as, as', h => by simp [attrsTo] at h
  | f + 1, k, m, as, as', h => by
    unfold attrsTo at h
    split at h
    · split at h
      · cases h
      rename_i a k1 e1
      obtain ⟨x, d1, m1, ha, hn, hv, h8, hd⟩ := attr_inv e1
      obtain ⟨l, d2, m2, hl, hns, hvs, hp, hds, h8s⟩ := attrs_inv f k1 m _ _ h
      refine ⟨x :: l, by rw [d1, d2]; simp [ats2], by rw [m2, m1]; simp [ats2]; omega, ?_, ?_, ?_, List.pairwise_cons.2 ⟨fun y hy e => ?_, hp⟩, ?_, ?_⟩
      · rw [hl, ha, m1]; simp [atrs]
      · intro y hy
        rcases List.mem_cons.1 hy with rfl | hy
        · exact hn
        · exact hns y hy
      · intro y hy
        rcases List.mem_cons.1 hy with rfl | hy
        · exact hv
        · exact hvs y hy
      · have := hds y hy
        rw [List.any_append, ha] at this
        simp [e] at this
      · intro y hy
        rcases List.mem_cons.1 hy with rfl | hy
        · exact hd
        · have := hds y hy
          rw [List.any_append] at this
          simp only [Bool.or_eq_false_iff] at this
          exact this.1
      · intro h
        have := h8s (by simp; omega)
        simp at this ⊢
        omega
    · injection h with h
      injection h with h1 h2
      subst h1 h2
      exact ⟨[], by simp [ats2], by simp [ats2], by simp [atrs], by simp, by simp, List.Pairwise.nil, by simp, fun h => by simpa using h⟩
theorem first_inv {k m : Nat} {n : Nd} (h : firstTag S k = .ok (n, m)) : ∃ nm l, S.drop k = first2 nm l ++ S.drop m ∧ m = k + (first2 nm l).length ∧ n = ⟨nm, 0, atrs (k + 1 + nm.length) l, k + 1 + nm.length, 0, 0⟩ ∧ NmOk nm ∧ AtsOk l := by
  unfold firstTag at h
  split at h
  · cases h
  rename_i k1 e1
  split at h
  · cases h
  rename_i k2 e2
  split at h
  · cases h
  rename_i h20
  split at h
  · cases h
  rename_i as k3 e3
  split at h
  · cases h
  rename_i k4 e4
  injection h with h
  injection h with hn hm
  obtain ⟨m1, d1⟩ := need_inv e1
  obtain ⟨nm, d2, m2, hs, hc⟩ := name_inv e2
  obtain ⟨l, d3, m3, hl, hns, hvs, hp, _, h8⟩ := attrs_inv _ _ _ _ _ e3
  obtain ⟨m4, d4⟩ := need_inv e4
  subst hm
  have hm1 : k1 = k + 1 := m1
  rw [hm1] at hs d2 m2 h20
  refine ⟨nm, l, by rw [d1, hm1, d2, d3, d4]; simp [first2], by rw [m4, m3, m2]; simp [first2]; omega, ?_, ⟨hc, by rw [hs] at h20; omega⟩, ⟨by simpa using h8 (by simp), hns, hvs, hp⟩⟩
  rw [← hn, hm1, hs, hl, m2]
  simp
end
theorem items_inv {S : Bs} : ∀ (f k : Nat) (p : Int) (d : Nat) (L : List Nd) (k' : Nat) (L' : List Nd), items f S k p d L = .ok (k', L') → ∃ t, Ok d t ∧ S.drop k = text t ++ S.drop k' ∧ k' = k + (text t).length ∧ L' = L ++ nodes k p L.length t ∧ (L.length ≤ 120 → L'.length ≤ 120)
  | 0, k, p, d, L, k', L', h => by simp [items] at h
  | f + 1, k, p, d, L, k', L', h => by
    unfold items at h
    split at h
    · injection h with h
      injection h with h1 h2
      subst h1 h2
      exact ⟨.nil, trivial, rfl, rfl, by simp [nodes], id⟩
    split at h
    · rename_i hh
      split at h
      · cases h
      rename_i e e1
      obtain ⟨c, d1, m1, hc⟩ := past_inv e1
      obtain ⟨t, ho, d2, m2, hL, h120⟩ := items_inv f _ _ _ _ _ _ h
      have hd0 : S.drop k = [60, 33, 45, 45] ++ S.drop (k + 4) := by
        unfold has at hh
        obtain ⟨r, hr⟩ := List.isPrefixOf_iff_prefix.1 hh
        rw [show S.drop (k + 4) = r from drop_on hr.symm, hr]
      refine ⟨.note c t, ⟨hc, ho⟩, ?_, ?_, ?_, h120⟩
      · rw [hd0, d1]
        show _ ++ (c ++ [45, 45, 62] ++ S.drop (e + 3)) = _
        rw [d2]; simp [text]
      · rw [m2, m1]; simp [text]; omega
      · rw [hL, m1]
        show _ = L ++ nodes (k + 7 + c.length) p L.length t
        rw [show k + 4 + c.length + 3 = k + 7 + c.length by omega]
    split at h
    · split at h
      · cases h
      rename_i k1 L1 e1
      obtain ⟨r, hor, dr, mr, hLr, h120r⟩ := items_inv f _ _ _ _ _ _ h
      unfold element at e1
      split at e1
      · cases e1
      rename_i hlim
      split at e1
      · cases e1
      rename_i n k2 e2
      obtain ⟨nm, l, d2, m2, hn, hnm, hat⟩ := first_inv e2
      subst hn
      simp only at e1
      split at e1
      · rename_i hs
        subst hs
        split at e1
        · cases e1
        rename_i e e3
        injection e1 with e1
        injection e1 with e11 e12
        obtain ⟨c, d3, m3, hc⟩ := past_inv e3
        have h8 : (lastTag styleL).length = 8 := by decide
        rw [h8] at d3
        rw [e11] at d3
        refine ⟨.sty l c r, ⟨by omega, hat, hc, hor⟩, ?_, ?_, ?_, ?_⟩
        · rw [d2, d3, dr]; simp [text]
        · rw [mr, ← e11, m3, m2]; simp [text, h8]; omega
        · rw [hLr, ← e12, ← e11, m3, m2]
          simp [nodes]
          exact ⟨rfl, rfl⟩
        · intro h
          exact h120r (by rw [← e12]; simp; omega)
      · rename_i hs
        split at e1
        · cases e1
        rename_i k3 L2 e3
        split at e1
        · cases e1
        rename_i k4 e4
        injection e1 with e1
        injection e1 with e11 e12
        subst e11 e12
        obtain ⟨t, hot, dt, mt, hLt, h120t⟩ := items_inv f _ _ _ _ _ _ e3
        obtain ⟨m4, d4⟩ := need_inv e4
        refine ⟨.el nm l t r, ⟨by omega, hnm, hs, hat, hot, hor⟩, ?_, ?_, ?_, ?_⟩
        · rw [d2, dt, d4, dr]; simp [text]
        · rw [mr, m4, mt, m2]; simp [text]; omega
        · rw [hLr, hLt, m4, mt, m2]
          simp [nodes, nodes_len]
          congr 1
          omega
        · intro h
          exact h120r (h120t (by simp; omega))
    split at h
    · rename_i hf
      unfold fitsAt at hf
      cases hg : S[k]? with
      | none => rw [hg] at hf; cases hf
      | some b =>
        rw [hg] at hf
        obtain ⟨hk, hb⟩ := List.getElem?_eq_some_iff.1 hg
        obtain ⟨t, ho, d2, m2, hL, h120⟩ := items_inv f _ _ _ _ _ _ h
        refine ⟨.txt b t, ⟨hf, ho⟩, ?_, ?_, hL, h120⟩
        · rw [List.drop_eq_getElem_cons hk, hb, d2]; rfl
        · rw [m2]; simp [text]; omega
    · cases h
theorem parse_tree {S : Bs} {L : List Nd} (h : parse S = .ok L) : ∃ t, Ok 1 t ∧ S = text t ∧ L = nodes 0 (-1) 0 t ∧ count t ≤ 120 ∧ S.length ≤ 6000 := by
  unfold parse at h
  split at h
  · cases h
  rename_i hl
  unfold readAll at h
  split at h
  · cases h
  rename_i k M e
  split at h
  · cases h
  rename_i hk
  injection h with h
  subst h
  obtain ⟨t, ho, hd, hm, hL, h120⟩ := items_inv _ _ _ _ _ _ _ e
  have hz : S.drop k = [] := List.drop_of_length_le (by omega)
  rw [hz] at hd
  refine ⟨t, ho, by simpa using hd, by simpa using hL, ?_, by omega⟩
  have := h120 (by simp)
  rw [hL] at this
  simpa [nodes_len] using this
theorem tree_parse {t : Tr} (ho : Ok 1 t) (hc : count t ≤ 120) (hl : (text t).length ≤ 6000) : parse (text t) = .ok (nodes 0 (-1) 0 t) := by
  unfold parse
  rw [if_neg (by omega)]
  unfold readAll
  rw [items_of t 6001 0 (-1) 1 [] [] (by simp) (.inl rfl) (Nat.zero_le _) (by omega) ho (by simpa using hc)]
  simp
end Go.Proofs.YtblkldfokeeaeacGreatDoor.Sh
