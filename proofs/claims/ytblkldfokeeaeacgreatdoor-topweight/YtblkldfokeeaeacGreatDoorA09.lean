/- Texts that the statement's proof stands on: FEdits, FBd, ShelfF. -/
import Derived.Test.YtblkldfokeeaeacGreatDoorA08
import Derived.Shelf.SlSortCmp.WholeK
import Derived.Ground.SlsfProg
import Derived.Test.YtblkldfokeeaeacGreatDoorProg
namespace Go.Proofs.YtblkldfokeeaeacGreatDoor
theorem cons_perm {α : Type} {a : α} {l m : List α} : List.Perm (a :: l) (a :: m) ↔ l.Perm m := List.perm_cons a
theorem strict_eq : ∀ {A B : List Sh.Ed}, A.Pairwise (fun x y => x.1 < y.1) → B.Pairwise (fun x y => x.1 < y.1) → (∀ x, x ∈ A ↔ x ∈ B) → A = B
  | [], [], _, _, _ => rfl
  | [], y :: B, _, _, h => absurd ((h y).2 (List.mem_cons_self ..)) (by simp)
  | x :: A, [], _, _, h => absurd ((h x).1 (List.mem_cons_self ..)) (by simp)
  | x :: A, y :: B, hA, hB, h => by
    obtain ⟨l1, l2⟩ := List.pairwise_cons.1 hA
    obtain ⟨m1, m2⟩ := List.pairwise_cons.1 hB
    have hxy : x = y := by
      rcases List.mem_cons.1 ((h x).1 (List.mem_cons_self ..)) with e | hx
      · exact e
      · rcases List.mem_cons.1 ((h y).2 (List.mem_cons_self ..)) with e | hy
        · exact e.symm
        · have a := l1 y hy
          have b := m1 x hx
          omega
    subst hxy
    rw [strict_eq l2 m2 fun z => ?_]
    constructor
    · intro hz
      rcases List.mem_cons.1 ((h z).1 (List.mem_cons_of_mem _ hz)) with e | e
      · subst e; have := l1 z hz; omega
      · exact e
    · intro hz
      rcases List.mem_cons.1 ((h z).2 (List.mem_cons_of_mem _ hz)) with e | e
      · subst e; have := m1 z hz; omega
      · exact e
theorem sorted_eq {A B : List Sh.Ed} (hA : A.Pairwise (fun x y => x.1 ≤ y.1)) (hB : B.Pairwise (fun x y => x.1 < y.1)) (hp : A.Perm B) : A = B := by
  have hne : A.Pairwise (fun x y => x.1 ≠ y.1) := by
    have : (A.map (·.1)).Nodup := (hp.map _).nodup_iff.2 (List.pairwise_map.2 (hB.imp fun {a b} h => Nat.ne_of_lt h))
    exact List.pairwise_map.1 this
  exact strict_eq ((hA.and hne).imp fun {a b} h => by have := h.1; have := h.2; omega) hB fun x => hp.mem_iff
def Spread (k : Nat) (E : List Sh.Ed) (m : Nat) : Prop := E.Pairwise (fun x y => x.1 < y.1) ∧ ∀ e ∈ E, k ≤ e.1 ∧ e.1 < m
theorem Spread.nil (k m : Nat) : Spread k [] m := ⟨List.Pairwise.nil, by simp⟩
theorem Spread.app {k m n : Nat} {E F : List Sh.Ed} (h : Spread k E m) (g : Spread m F n) (h1 : k ≤ m) (h2 : m ≤ n) : Spread k (E ++ F) n := by
  refine ⟨List.pairwise_append.2 ⟨h.1, g.1, fun x hx y hy => ?_⟩, fun e he => ?_⟩
  · have := (h.2 x hx).2; have := (g.2 y hy).1; omega
  · rcases List.mem_append.1 he with he | he
    · have := h.2 e he; omega
    · have := g.2 e he; omega
theorem Spread.wide {k k' m m' : Nat} {E : List Sh.Ed} (h : Spread k E m) (h1 : k' ≤ k) (h2 : m ≤ m') : Spread k' E m' := ⟨h.1, fun e he => by have := h.2 e he; omega⟩
theorem at2_pos (a : Sh.At2) : 0 < (Sh.at2 a).length := by rw [Sh.at2_len]; omega
theorem ats_spread (v : Bs) : ∀ (l : List Sh.At2) (k : Nat), Spread k ((Sh.atrs k l).flatMap (Sh.edA v)) (k + (Sh.ats2 l).length)
  | [], k => Spread.nil _ _
  | a :: l, k => by
    have ih := ats_spread v l (k + (Sh.at2 a).length)
    have e : k + (Sh.ats2 (a :: l)).length = k + (Sh.at2 a).length + (Sh.ats2 l).length := by simp [Sh.ats2]; omega
    rw [e]
    show Spread k (Sh.edA v ⟨a.1, a.2, k, k + (Sh.at2 a).length⟩ ++ (Sh.atrs (k + (Sh.at2 a).length) l).flatMap (Sh.edA v)) _
    refine Spread.app (m := k + (Sh.at2 a).length) ?_ ih (by omega) (by omega)
    have hp := at2_pos a
    unfold Sh.edA
    split
    · exact ⟨List.pairwise_singleton _ _, fun e he => by rw [List.mem_singleton.1 he]; show k ≤ k ∧ k < _; omega⟩
    · exact Spread.nil _ _
theorem sty_spread (v : Bs) (l : List Sh.At2) (k : Nat) : Spread k (Sh.styEd v k (Sh.atrs k l)) (k + (Sh.ats2 l).length + 1) := by
  unfold Sh.styEd
  split
  · exact (ats_spread v l k).wide (Nat.le_refl _) (by omega)
  · split
    · exact Spread.nil _ _
    · exact ⟨List.pairwise_singleton _ _, fun e he => by rw [List.mem_singleton.1 he]; show k ≤ k ∧ k < _; omega⟩
theorem first2_len (n : Bs) (l : List Sh.At2) : (Sh.first2 n l).length = 1 + n.length + (Sh.ats2 l).length + 1 := by simp [Sh.first2]; omega
theorem first_spread (v n : Bs) (l : List Sh.At2) (k : Nat) : Spread k (Sh.styEd v (k + 1 + n.length) (Sh.atrs (k + 1 + n.length) l)) (k + (Sh.first2 n l).length) :=
  (sty_spread v l (k + 1 + n.length)).wide (by omega) (by rw [first2_len]; omega)
theorem tree_spread (v : Nat → Bs) (hs : Nat → List Sh.Ed) : ∀ (t : Sh.Tr) (k : Nat) (p : Int) (i d : Nat), Sh.Ok d t → (∀ x ∈ (Sh.nodes k p i t).zipIdx i, x.1.name = Sh.styleL → Spread x.1.inFrom (hs x.2) x.1.inTo) → Spread k (Sh.eds v hs (Sh.nodes k p i t) i) (k + (Sh.text t).length)
  | .nil, k, p, i, d, _, _ => Spread.nil _ _
  | .txt b r, k, p, i, d, ho, hh => by
    have ih := tree_spread v hs r (k + 1) p i d ho.2 hh
    exact ih.wide (by omega) (by show k + 1 + (Sh.text r).length ≤ k + ((Sh.text r).length + 1); omega)
  | .note c r, k, p, i, d, ho, hh => by
    have ih := tree_spread v hs r (k + 7 + c.length) p i d ho.2 hh
    exact ih.wide (by omega) (by simp [Sh.text]; omega)
  | .sty l s r, k, p, i, d, ho, hh => by
    have e : Sh.nodes k p i (.sty l s r) = ⟨Sh.styleL, p, Sh.atrs (k + 6) l, k + 6, k + (Sh.first2 Sh.styleL l).length, k + (Sh.first2 Sh.styleL l).length + s.length⟩ :: Sh.nodes (k + (Sh.first2 Sh.styleL l).length + s.length + 8) p (i + 1) r := rfl
    rw [e] at hh ⊢
    have ih := tree_spread v hs r (k + (Sh.first2 Sh.styleL l).length + s.length + 8) p (i + 1) d ho.2.2.2 (fun x hx => hh x (List.mem_cons_of_mem _ hx))
    have h0 := hh (⟨Sh.styleL, p, Sh.atrs (k + 6) l, k + 6, k + (Sh.first2 Sh.styleL l).length, k + (Sh.first2 Sh.styleL l).length + s.length⟩, i) (List.mem_cons_self ..) rfl
    have hlen : (Sh.text (.sty l s r)).length = (Sh.first2 Sh.styleL l).length + s.length + 8 + (Sh.text r).length := by simp [Sh.text, Sh.lastTag, Sh.styleL]; omega
    show Spread k (Sh.ndEd v hs (_, i) ++ Sh.eds v hs _ (i + 1)) _
    unfold Sh.ndEd
    rw [if_pos rfl]
    rw [show k + (Sh.text (.sty l s r)).length = k + (Sh.first2 Sh.styleL l).length + s.length + 8 + (Sh.text r).length by omega]
    refine Spread.app (m := k + (Sh.first2 Sh.styleL l).length + s.length + 8) ?_ ih (by omega) (by omega)
    exact ((first_spread (v i) Sh.styleL l k).app h0 (by omega) (by show k + (Sh.first2 Sh.styleL l).length ≤ k + (Sh.first2 Sh.styleL l).length + s.length; omega)).wide (Nat.le_refl _) (by show k + (Sh.first2 Sh.styleL l).length + s.length ≤ _; omega)
  | .el n l u r, k, p, i, d, ho, hh => by
    have e : Sh.nodes k p i (.el n l u r) = ⟨n, p, Sh.atrs (k + 1 + n.length) l, k + 1 + n.length, 0, 0⟩ :: (Sh.nodes (k + (Sh.first2 n l).length) i (i + 1) u ++ Sh.nodes (k + (Sh.first2 n l).length + (Sh.text u).length + (Sh.lastTag n).length) p (i + 1 + Sh.count u) r) := rfl
    rw [e] at hh ⊢
    rw [List.zipIdx_cons, List.zipIdx_append, Sh.nodes_len] at hh
    have i1 := tree_spread v hs u (k + (Sh.first2 n l).length) i (i + 1) (d + 1) ho.2.2.2.2.1 (fun x hx => hh x (List.mem_cons_of_mem _ (List.mem_append_left _ hx)))
    have i2 := tree_spread v hs r (k + (Sh.first2 n l).length + (Sh.text u).length + (Sh.lastTag n).length) p (i + 1 + Sh.count u) d ho.2.2.2.2.2 (fun x hx => hh x (List.mem_cons_of_mem _ (List.mem_append_right _ hx)))
    have hlen : (Sh.text (.el n l u r)).length = (Sh.first2 n l).length + (Sh.text u).length + (Sh.lastTag n).length + (Sh.text r).length := by simp [Sh.text]; omega
    show Spread k (Sh.ndEd v hs (_, i) ++ Sh.eds v hs _ (i + 1)) _
    rw [Sh.eds_app, Sh.nodes_len]
    unfold Sh.ndEd
    rw [if_neg ho.2.2.1, List.append_nil]
    rw [show k + (Sh.text (.el n l u r)).length = k + (Sh.first2 n l).length + (Sh.text u).length + (Sh.lastTag n).length + (Sh.text r).length by omega]
    refine Spread.app (m := k + (Sh.first2 n l).length) (first_spread (v i) n l k) (Spread.app (m := k + (Sh.first2 n l).length + (Sh.text u).length + (Sh.lastTag n).length) (i1.wide (Nat.le_refl _) (by omega)) i2 (by omega) (by omega)) (by omega) (by omega)
theorem gone_spread {s : Bs} {o : Nat} : ∀ {M : List Sh.Rl} {k : Nat} (fl : List Bool), Sh.Chain s k M → Spread (o + k) (Sh.edR o (M.zip fl)) (o + s.length)
  | [], k, fl, _ => by simp [Sh.edR]; exact Spread.nil _ _
  | r :: M, k, [], _ => by simp [Sh.edR]; exact Spread.nil _ _
  | r :: M, k, b :: fl, h => by
    obtain ⟨h1, h2, h3, _, h5⟩ := h
    have ih := gone_spread (o := o) fl h5
    show Spread _ ((if b then [] else [(o + r.from_, o + r.to_, [32])]) ++ Sh.edR o (M.zip fl)) _
    refine Spread.app (m := o + r.to_) ?_ ih (by omega) (by omega)
    cases b
    · exact ⟨List.pairwise_singleton _ _, fun e he => by
        have : e = (o + r.from_, o + r.to_, [32]) := by simpa using he
        rw [this]; show o + k ≤ o + r.from_ ∧ o + r.from_ < o + r.to_; omega⟩
    · exact Spread.nil _ _
variable {S : Bs} {L : List Sh.Nd} {R : List Sh.Rl}
theorem Rd.spread (h : Rd S L R) : (edsB S L R).Pairwise (fun x y => x.1 < y.1) ∧ Sh.Within 0 (edsB S L R) S.length := by
  obtain ⟨t, ho, hS, hL, hc, hl⟩ := Sh.parse_tree h.page
  refine ⟨?_, (text_fold h ho hS hL).1⟩
  have := tree_spread (YtblkldfokeeaeacGreatDoor.newV (L.map ofN) (R.map ofR)) (fun j => match L[j]? with | none => [] | some n => goneEd S (L.map ofN) (R.map ofR) n) t 0 (-1) 0 1 ho (fun x hx hs => by
    rw [← hL] at hx
    have hx2 := zip_mem hx
    have hmem : x.1 ∈ L := List.mem_of_getElem? hx2
    simp only [hx2]
    have hp := h.sheet x.1 hmem hs
    have hn := nodes_len (S := S) t 0 (-1) 0 1 [] ho (by rw [hS]; simp) x.1 (by rw [← hL]; exact hmem) hs
    have hg := gone_spread (s := Sh.sub S x.1.inFrom x.1.inTo) (o := x.1.inFrom) (flagsAt S (L.map ofN) (R.map ofR) x.1) (Sh.sheet_few hp).2.1
    rw [← hn] at hg
    exact hg)
  rw [← hL] at this
  exact this.1
def restyleB (n : Sh.Nd) (v : Bs) : List Sh.Ed := if ownV n = v then [] else match ownA n with
  | some a => [(a.from_, a.to_, if v = [] then [] else Sh.at2 (Sh.styleL, v))]
  | none => [(n.nameEnd, n.nameEnd, if v = [] then [] else Sh.at2 (Sh.styleL, v))]
noncomputable def ruleEds (L : List Sh.Nd) (R : List Sh.Rl) : List Sh.Ed := (R.filter fun r => !stayB (L.map ofN) (R.map ofR) (ofR r)).map fun r => (r.from_, r.to_, [32])
noncomputable def madeEds (L : List Sh.Nd) (R : List Sh.Rl) : List Sh.Ed := ruleEds L R ++ L.zipIdx.flatMap fun x => restyleB x.1 (newV (L.map ofN) (R.map ofR) x.2)
theorem restyle_eq {n : Sh.Nd} (hp : (Sh.vw n).ats.Pairwise fun a b => a.1 ≠ b.1) (v : Bs) : restyleB n v = Sh.styEd v n.nameEnd n.attrs := by
  have hone : ∀ (l : List Sh.Atr), (l.map fun a => (a.name, a.val)).Pairwise (fun a b : Sh.At2 => a.1 ≠ b.1) → ∀ a, l.find? (fun a => a.name == Sh.styleL) = some a → l.flatMap (Sh.edA v) = Sh.edA v a := by
    intro l
    induction l with
    | nil => intro _ a ha; cases ha
    | cons b l ih =>
      intro hp a ha
      obtain ⟨h1, h2⟩ := List.pairwise_cons.1 hp
      rw [List.find?_cons] at ha
      by_cases hb : b.name = Sh.styleL
      · have : (b.name == Sh.styleL) = true := by simpa using hb
        rw [this] at ha
        injection ha with ha
        subst ha
        rw [List.flatMap_cons]
        have : l.flatMap (Sh.edA v) = [] := List.flatMap_eq_nil_iff.2 fun c hc => by
          have hcn : c.name ≠ Sh.styleL := fun e => h1 (c.name, c.val) (List.mem_map.2 ⟨c, hc, rfl⟩) (by show b.name = c.name; rw [hb, e])
          unfold Sh.edA
          simp [hcn]
        rw [this, List.append_nil]
      · have hf : (b.name == Sh.styleL) = false := by simpa using hb
        rw [hf] at ha
        rw [List.flatMap_cons, ih h2 a ha]
        have : Sh.edA v b = [] := by unfold Sh.edA; simp [hb]
        rw [this, List.nil_append]
  unfold restyleB Sh.styEd ownV
  cases ho : ownA n with
  | none =>
    have hn : n.attrs.any (fun a => a.name == Sh.styleL) = false := by
      rw [Bool.eq_false_iff]
      intro h
      obtain ⟨a, ha, hs⟩ := List.any_eq_true.1 h
      exact List.find?_eq_none.1 ho a ha hs
    rw [hn]
    simp only [Bool.false_eq_true, if_false]
    by_cases hv : v = []
    · rw [hv]; rfl
    · rw [if_neg (fun e => hv e.symm), if_neg hv, if_neg hv]
  | some a =>
    have ha : a.name = Sh.styleL := by simpa using List.find?_some ho
    have hn : n.attrs.any (fun a => a.name == Sh.styleL) = true := List.any_eq_true.2 ⟨a, List.mem_of_find?_eq_some ho, by simpa using ha⟩
    rw [if_pos hn, hone n.attrs hp a ho]
    unfold Sh.edA
    simp only
    by_cases hv : a.val = v
    · simp [hv]
    · simp [hv, ha]
theorem flat_perm {α β : Type} (f g : α → List β) : ∀ l : List α, (l.flatMap fun x => f x ++ g x).Perm (l.flatMap f ++ l.flatMap g)
  | [] => List.Perm.refl _
  | a :: l => by
    rw [List.flatMap_cons, List.flatMap_cons, List.flatMap_cons]
    have ih := flat_perm f g l
    have h1 : (f a ++ g a ++ l.flatMap fun x => f x ++ g x).Perm (f a ++ g a ++ (l.flatMap f ++ l.flatMap g)) := ih.append_left _
    refine h1.trans ?_
    rw [List.append_assoc, List.append_assoc]
    refine List.Perm.append_left _ ?_
    rw [← List.append_assoc, ← List.append_assoc]
    exact List.perm_append_comm.append_right _
theorem ed_zip (o : Nat) (st : Sh.Rl → Bool) : ∀ A : List Sh.Rl, Sh.edR o (A.zip (A.map fun r => st (shift o r))) = ((A.map (shift o)).filter fun r => !st r).map fun r => (r.from_, r.to_, [32])
  | [] => rfl
  | a :: A => by
    have ih := ed_zip o st A
    rw [List.map_cons, List.map_cons, List.zip_cons_cons, List.filter_cons]
    unfold Sh.edR at ih ⊢
    rw [List.flatMap_cons, ih]
    cases st (shift o a)
    · show [(o + a.from_, o + a.to_, [32])] ++ _ = (a.from_ + o, a.to_ + o, [32]) :: _
      rw [Nat.add_comm o, Nat.add_comm o]
      rfl
    · rfl
theorem made_perm (h : Rd S L R) : (madeEds L R).Perm (edsB S L R) := by
  obtain ⟨t, ho, hS, hL, hc, hl⟩ := Sh.parse_tree h.page
  have e1 : (L.zipIdx.flatMap fun x => restyleB x.1 (newV (L.map ofN) (R.map ofR) x.2)) = L.zipIdx.flatMap fun x => Sh.styEd (newV (L.map ofN) (R.map ofR) x.2) x.1.nameEnd x.1.attrs := flat_congr fun x hx => by
    refine restyle_eq (views_apart t (-1) 0 1 ho _ ?_) _
    rw [← Sh.nodes_views t 0, ← hL]
    exact List.mem_map.2 ⟨_, List.mem_of_getElem? (zip_mem hx), rfl⟩
  have e2 : ruleEds L R = L.zipIdx.flatMap fun x => if x.1.name = Sh.styleL then (match L[x.2]? with | none => [] | some n => goneEd S (L.map ofN) (R.map ofR) n) else [] := by
    have e3 : ∀ st : Sh.Rl → Bool, ((flatR S L).filter fun r => !st r).map (fun r => ((r.from_, r.to_, [32]) : Sh.Ed)) = L.zipIdx.flatMap fun x => Sh.edR x.1.inFrom ((rulesAt S x.1).zip ((rulesAt S x.1).map fun r => st (shift x.1.inFrom r))) := fun st => by
      unfold flatR
      rw [List.filter_flatMap, List.map_flatMap, ← zip_flat _ L 0]
      exact flat_congr fun x _ => (ed_zip _ st _).symm
    unfold ruleEds
    have e4 : (R.filter fun r => !stayB (L.map ofN) (R.map ofR) (ofR r)) = (flatR S L).filter fun r => !stayB (L.map ofN) (R.map ofR) (ofR r) := by
      generalize (fun r => !stayB (L.map ofN) (R.map ofR) (ofR r)) = st
      rw [← h.flat]
    rw [e4, e3 (fun r => stayB (L.map ofN) (R.map ofR) (ofR r))]
    refine flat_congr fun x hx => ?_
    rw [zip_mem hx]
    by_cases hs : x.1.name = Sh.styleL
    · rw [if_pos hs]; rfl
    · rw [if_neg hs, rulesAt_not hs]; rfl
  unfold madeEds
  rw [e1, e2]
  refine List.perm_append_comm.trans ?_
  exact (flat_perm _ _ _).symm
theorem made_sorted (h : Rd S L R) {E : List Sh.Ed} (hs : E.Pairwise (fun x y => x.1 ≤ y.1)) (hp : E.Perm (madeEds L R)) : E = edsB S L R :=
  sorted_eq hs h.spread.1 (hp.trans (made_perm h))
end Go.Proofs.YtblkldfokeeaeacGreatDoor
namespace Go.Proofs.YtblkldfokeeaeacGreatDoor
structure NdBd (m : Nat) (n : Sh.Nd) : Prop where
  few : n.attrs.length ≤ 8
  ne : n.nameEnd ≤ m
  fr : n.inFrom ≤ n.inTo
  to : n.inTo ≤ m
  at_ : ∀ a ∈ n.attrs, a.name.length ≤ 20 ∧ a.val.length ≤ m ∧ a.from_ ≤ a.to_ ∧ a.to_ ≤ m
  nm : n.name.length ≤ 20
theorem atrs_bd : ∀ (l : List Sh.At2) (k m : Nat), k + (Sh.ats2 l).length ≤ m → (∀ a ∈ l, Sh.NmOk a.1) → ∀ a ∈ Sh.atrs k l, a.name.length ≤ 20 ∧ a.val.length ≤ m ∧ a.from_ ≤ a.to_ ∧ a.to_ ≤ m
  | [], _, _, _, _ => fun a ha => by cases ha
  | x :: l, k, m, h, hn => fun a ha => by
    have e : (Sh.ats2 (x :: l)).length = (Sh.at2 x).length + (Sh.ats2 l).length := by simp [Sh.ats2]
    have hx := Sh.at2_len x
    rcases List.mem_cons.1 ha with rfl | ha
    · refine ⟨(hn x (List.mem_cons_self ..)).len, ?_, ?_, ?_⟩
      · show x.2.length ≤ m; omega
      · show k ≤ k + (Sh.at2 x).length; omega
      · show k + (Sh.at2 x).length ≤ m; omega
    · exact atrs_bd l _ m (by omega) (fun y hy => hn y (List.mem_cons_of_mem _ hy)) a ha
theorem nodes_bd : ∀ (t : Sh.Tr) (k m : Nat) (p : Int) (i d : Nat), Sh.Ok d t → k + (Sh.text t).length ≤ m → ∀ n ∈ Sh.nodes k p i t, NdBd m n
  | .nil, _, _, _, _, _, _, _ => fun n hn => by cases hn
  | .txt b r, k, m, p, i, d, ho, h => nodes_bd r (k + 1) m p i d ho.2 (by have : (Sh.text (.txt b r)).length = (Sh.text r).length + 1 := rfl; omega)
  | .note c r, k, m, p, i, d, ho, h => nodes_bd r (k + 7 + c.length) m p i d ho.2 (by have : (Sh.text (.note c r)).length = 7 + c.length + (Sh.text r).length := by simp [Sh.text]; omega
                                                                                      omega)
  | .sty l s r, k, m, p, i, d, ho, h => fun n hn => by
    have hlen : (Sh.text (.sty l s r)).length = (Sh.first2 Sh.styleL l).length + s.length + 8 + (Sh.text r).length := by simp [Sh.text, Sh.lastTag, Sh.styleL]; omega
    have hf := first2_len Sh.styleL l
    have h5 : Sh.styleL.length = 5 := rfl
    rcases List.mem_cons.1 hn with rfl | hn
    · refine ⟨by rw [Sh.atrs_len]; exact ho.2.1.len, ?_, ?_, ?_, atrs_bd l _ m (by omega) ho.2.1.nms, by show (5 : Nat) ≤ 20; omega⟩
      · show k + 6 ≤ m; omega
      · show k + (Sh.first2 Sh.styleL l).length ≤ k + (Sh.first2 Sh.styleL l).length + s.length; omega
      · show k + (Sh.first2 Sh.styleL l).length + s.length ≤ m; omega
    · exact nodes_bd r _ m p (i + 1) d ho.2.2.2 (by omega) n hn
  | .el nm l u r, k, m, p, i, d, ho, h => fun n hn => by
    have hlen : (Sh.text (.el nm l u r)).length = (Sh.first2 nm l).length + (Sh.text u).length + (Sh.lastTag nm).length + (Sh.text r).length := by simp [Sh.text]; omega
    have hf := first2_len nm l
    rcases List.mem_cons.1 hn with rfl | hn
    · refine ⟨by rw [Sh.atrs_len]; exact ho.2.2.2.1.len, ?_, Nat.le_refl _, Nat.zero_le _, atrs_bd l _ m (by omega) ho.2.2.2.1.nms, ho.2.1.len⟩
      show k + 1 + nm.length ≤ m; omega
    · rcases List.mem_append.1 hn with hn | hn
      · exact nodes_bd u _ m i (i + 1) (d + 1) ho.2.2.2.2.1 (by omega) n hn
      · exact nodes_bd r _ m p (i + 1 + Sh.count u) d ho.2.2.2.2.2 (by omega) n hn
theorem page_bd {S : Bs} {L : List Sh.Nd} (h : Sh.parse S = .ok L) : L.length ≤ 120 ∧ S.length ≤ 6000 ∧ ∀ n ∈ L, NdBd S.length n := by
  obtain ⟨t, ho, hS, hL, hc, hl⟩ := Sh.parse_tree h
  refine ⟨by rw [hL, Sh.nodes_len]; exact hc, hl, fun n hn => ?_⟩
  rw [hL] at hn
  exact nodes_bd t 0 S.length (-1) 0 1 ho (by rw [hS]; omega) n hn
theorem own_find {n : Sh.Nd} {a : Sh.Atr} (h : ownA n = some a) : a ∈ n.attrs ∧ a.name = Sh.styleL := ⟨List.mem_of_find?_eq_some h, by simpa using List.find?_some h⟩
theorem sub_len_le (S : Bs) (a b : Nat) : (Sh.sub S a b).length ≤ S.length := by unfold Sh.sub; simp; omega
theorem sheet_bd {s : Bs} {A : List Sh.Rl} (h : Sh.sheetParse s = .ok A) : A.length ≤ 60 ∧ ∀ r ∈ A, r.from_ ≤ s.length ∧ r.to_ ≤ s.length := by
  obtain ⟨h1, h2, _⟩ := Sh.sheet_few h
  refine ⟨h1, fun r hr => ?_⟩
  obtain ⟨_, a, b, _⟩ := h2.mem r hr
  omega
structure RlBd (r : Sh.Rl) : Prop where
  sels : r.sels.length ≤ 100
  decls : r.decls.length ≤ 20
  parts : ∀ s ∈ r.sels, s.length ≤ 100 ∧ ∀ t ∈ s, t.tests.length ≤ 100
  texts : ∀ d ∈ r.decls, d.name.length ≤ 20 ∧ d.val.length ≤ 60
theorem dcl_bd {d : Sh.Dcl} (h : Sh.DclOK d) : d.name.length ≤ 20 ∧ d.val.length ≤ 60 := by
  obtain ⟨⟨c, t, e, _, _, hn⟩, ws, _, _, _, hv⟩ := h
  exact ⟨hn, hv⟩
theorem sheet_rl {s : Bs} {A : List Sh.Rl} (h : Sh.sheetParse s = .ok A) : ∀ r ∈ A, RlBd r := fun r hr => by
  obtain ⟨_, _, h3⟩ := Sh.sheet_few h
  obtain ⟨a, _, b⟩ := h3 r hr
  have hk := sheet_ok h r hr
  exact ⟨a, hk.few, b, fun d hd => dcl_bd (hk.dcl d hd)⟩
theorem rulesAt_bd {S : Bs} {n : Sh.Nd} (hp : n.name = Sh.styleL → Sh.sheetParse (Sh.sub S n.inFrom n.inTo) = .ok (rulesAt S n)) : ∀ r ∈ rulesAt S n, RlBd r := fun r hr => by
  by_cases hs : n.name = Sh.styleL
  · exact sheet_rl (hp hs) r hr
  · rw [rulesAt_not hs] at hr; cases hr
end Go.Proofs.YtblkldfokeeaeacGreatDoor
namespace Go.Proofs
open Go.Shelf
def Tryz.sortF55_ren : Go.Shelf.Ren := ⟨fun | 6 => 55 | 15 => 89 | 14 => 88 | 28 => 123 | 29 => 124 | 20 => 115 | 21 => 116 | 22 => 117 | 23 => 118 | 24 => 119 | 25 => 120 | 26 => 121 | 27 => 122 | 46 => 153 | 47 => 154 | 48 => 155 | 49 => 156 | 50 => 157 | 57 => 178 | n => n, fun | 22 => 73 | 24 => 113 | 25 => 119 | 3 => 3 | 39 => 171 | 0 => 0 | 53 => 209 | 55 => 211 | 4 => 4 | 46 => 203 | 45 => 202 | 50 => 195 | 5 => 5 | 9 => 9 | 66 => 231 | 70 => 235 | 76 => 246 | 77 => 247 | n => n, fun | n => n⟩
theorem Tryz.sortF55 : Go.Proofs.SlLaysF0.n6 Tryz.prog Tryz.sortF55_ren := {
  mixed := by kernel_rfl
  f6 := ⟨Tryz.f55.name, by decide, Tryz.func55.trans (congrArg some (by kernel_rfl))⟩
  f14 := ⟨Tryz.f88.name, by decide, Tryz.func88.trans (congrArg some (by kernel_rfl))⟩
  f15 := Tryz.func89.trans (congrArg some (by kernel_rfl))
  f20 := ⟨Tryz.f115.name, by decide, Tryz.func115.trans (congrArg some (by kernel_rfl))⟩
  f21 := ⟨Tryz.f116.name, by decide, Tryz.func116.trans (congrArg some (by kernel_rfl))⟩
  f22 := ⟨Tryz.f117.name, by decide, Tryz.func117.trans (congrArg some (by kernel_rfl))⟩
  f23 := ⟨Tryz.f118.name, by decide, Tryz.func118.trans (congrArg some (by kernel_rfl))⟩
  f24 := ⟨Tryz.f119.name, by decide, Tryz.func119.trans (congrArg some (by kernel_rfl))⟩
  f25 := ⟨Tryz.f120.name, by decide, Tryz.func120.trans (congrArg some (by kernel_rfl))⟩
  f26 := ⟨Tryz.f121.name, by decide, Tryz.func121.trans (congrArg some (by kernel_rfl))⟩
  f27 := ⟨Tryz.f122.name, by decide, Tryz.func122.trans (congrArg some (by kernel_rfl))⟩
  f28 := Tryz.func123.trans (congrArg some (by kernel_rfl))
  f29 := Tryz.func124.trans (congrArg some (by kernel_rfl))
  f46 := ⟨Tryz.f153.name, by decide, Tryz.func153.trans (congrArg some (by kernel_rfl))⟩
  f47 := Tryz.func154.trans (congrArg some (by kernel_rfl))
  f48 := Tryz.func155.trans (congrArg some (by kernel_rfl))
  f49 := ⟨Tryz.f156.name, by decide, Tryz.func156.trans (congrArg some (by kernel_rfl))⟩
  f50 := ⟨Tryz.f157.name, by decide, Tryz.func157.trans (congrArg some (by kernel_rfl))⟩
  f57 := ⟨Tryz.f178.name, by decide, Tryz.func178.trans (congrArg some (by kernel_rfl))⟩
  t0 := Tryz.underlying0
  a0 := Tryz.isAgg0
  z0 := Tryz.sizeOf0
  v0 := Tryz.zeroValue0
  t3 := Tryz.underlying3
  a3 := Tryz.isAgg3
  z3 := Tryz.sizeOf3
  v3 := Tryz.zeroValue3
  t4 := Tryz.underlying4
  a4 := Tryz.isAgg4
  z4 := Tryz.sizeOf4
  v4 := Tryz.zeroValue4
  t5 := Tryz.underlying5
  a5 := Tryz.isAgg5
  z5 := Tryz.sizeOf5
  v5 := Tryz.zeroValue5
  t9 := Tryz.underlying9
  a9 := Tryz.isAgg9
  z9 := Tryz.sizeOf9
  v9 := Tryz.zeroValue9
  t22 := Tryz.underlying73
  a22 := Tryz.isAgg73
  z22 := Tryz.sizeOf73
  v22 := Tryz.zeroValue73
  t25 := Tryz.underlying119
  a25 := Tryz.isAgg119
  z25 := Tryz.sizeOf119
  v25 := Tryz.zeroValue119
  t39 := Tryz.underlying171
  a39 := Tryz.isAgg171
  z39 := Tryz.sizeOf171
  v39 := Tryz.zeroValue171
  t45 := Tryz.underlying202
  a45 := Tryz.isAgg202
  z45 := Tryz.sizeOf202
  v45 := Tryz.zeroValue202
  t46 := Tryz.underlying203
  a46 := Tryz.isAgg203
  z46 := Tryz.sizeOf203
  v46 := Tryz.zeroValue203
  t50 := Tryz.underlying195
  a50 := Tryz.isAgg195
  z50 := Tryz.sizeOf195
  v50 := Tryz.zeroValue195
  t53 := Tryz.underlying209
  a53 := Tryz.isAgg209
  z53 := Tryz.sizeOf209
  v53 := Tryz.zeroValue209
  t55 := Tryz.underlying211
  a55 := Tryz.isAgg211
  z55 := Tryz.sizeOf211
  v55 := Tryz.zeroValue211
  t66 := Tryz.underlying231
  a66 := Tryz.isAgg231
  z66 := Tryz.sizeOf231
  v66 := Tryz.zeroValue231
  t70 := Tryz.underlying235
  a70 := Tryz.isAgg235
  z70 := Tryz.sizeOf235
  v70 := Tryz.zeroValue235
  t76 := Tryz.underlying246
  a76 := Tryz.isAgg246
  z76 := Tryz.sizeOf246
  v76 := Tryz.zeroValue246
  t77 := Tryz.underlying247
  a77 := Tryz.isAgg247
  z77 := Tryz.sizeOf247
  v77 := Tryz.zeroValue247 }
end Go.Proofs
