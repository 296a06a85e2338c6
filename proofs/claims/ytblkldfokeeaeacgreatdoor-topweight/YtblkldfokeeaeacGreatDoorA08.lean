/- Texts that the statement's proof stands on: FTree, FLaws. -/
import Derived.Test.YtblkldfokeeaeacGreatDoorA07
namespace Go.Proofs.YtblkldfokeeaeacGreatDoor
theorem nodes_len {S : Bs} : ∀ (t : Sh.Tr) (k : Nat) (p : Int) (i d : Nat) (Q : Bs), Sh.Ok d t → S.drop k = Sh.text t ++ Q → ∀ n ∈ Sh.nodes k p i t, n.name = Sh.styleL → n.inTo = n.inFrom + (Sh.sub S n.inFrom n.inTo).length
  | .nil, _, _, _, _, _, _, _ => fun n hn => by cases hn
  | .txt b r, k, p, i, d, Q, ho, h => nodes_len r (k + 1) p i d Q ho.2 (Sh.drop_on (a := [b]) h)
  | .note c r, k, p, i, d, Q, ho, h => fun n hn => by
    have h0 : S.drop k = ([60, 33, 45, 45] ++ c ++ [45, 45, 62]) ++ (Sh.text r ++ Q) := by rw [h]; simp [Sh.text]
    have h1 := Sh.drop_on h0
    have e : k + ([60, 33, 45, 45] ++ c ++ [45, 45, 62]).length = k + 7 + c.length := by simp; omega
    rw [e] at h1
    exact nodes_len r (k + 7 + c.length) p i d Q ho.2 h1 n hn
  | .sty l s r, k, p, i, d, Q, ho, h => fun n hn hs => by
    have h0 : S.drop k = Sh.first2 Sh.styleL l ++ (s ++ (Sh.lastTag Sh.styleL ++ (Sh.text r ++ Q))) := by rw [h]; simp [Sh.text]
    have h1 := Sh.drop_on h0
    have h2 := Sh.drop_on h1
    have h3 := Sh.drop_on h2
    rcases List.mem_cons.1 hn with rfl | hn
    · show k + (Sh.first2 Sh.styleL l).length + s.length = k + (Sh.first2 Sh.styleL l).length + (Sh.sub S (k + (Sh.first2 Sh.styleL l).length) (k + (Sh.first2 Sh.styleL l).length + s.length)).length
      rw [Sh.sub_of h1]
    · exact nodes_len r _ p (i + 1) d Q ho.2.2.2 h3 n hn hs
  | .el m l t r, k, p, i, d, Q, ho, h => fun n hn hs => by
    have h0 : S.drop k = Sh.first2 m l ++ (Sh.text t ++ (Sh.lastTag m ++ (Sh.text r ++ Q))) := by rw [h]; simp [Sh.text]
    have h1 := Sh.drop_on h0
    have h2 := Sh.drop_on h1
    have h3 := Sh.drop_on h2
    rcases List.mem_cons.1 hn with rfl | hn
    · exact absurd hs ho.2.2.1
    · rcases List.mem_append.1 hn with hn | hn
      · exact nodes_len t _ i (i + 1) (d + 1) _ ho.2.2.2.2.1 h1 n hn hs
      · exact nodes_len r _ p (i + 1 + Sh.count t) d Q ho.2.2.2.2.2 h3 n hn hs
theorem flat_inn {β : Type} {S : Bs} {t : Sh.Tr} {L : List Sh.Nd} (ho : Sh.Ok 1 t) (hS : S = Sh.text t) (hL : L = Sh.nodes 0 (-1) 0 t) (f : Nat → Bs → List β) :
    (Sh.inn 0 t).flatMap (fun x => f x.1 x.2) = L.zipIdx.flatMap fun y => if y.1.name = Sh.styleL then f y.2 (Sh.sub S y.1.inFrom y.1.inTo) else [] := by
  have h := Sh.nodes_inn (S := S) t 0 (-1) 0 1 [] ho (by rw [hS]; simp)
  rw [← hL] at h
  rw [← h]
  generalize L.zipIdx 0 = Z
  induction Z with
  | nil => rfl
  | cons y Z ih =>
    rw [List.filterMap_cons, List.flatMap_cons, ← ih]
    unfold Sh.atSty
    by_cases hy : y.1.name = Sh.styleL
    · rw [if_pos hy, if_pos hy]; rfl
    · rw [if_neg hy, if_neg hy]; rfl
theorem zip_flat {α β : Type} (f : α → List β) : ∀ (L : List α) (i : Nat), (L.zipIdx i).flatMap (fun y => f y.1) = L.flatMap f
  | [], _ => rfl
  | a :: L, i => by rw [List.zipIdx_cons, List.flatMap_cons, List.flatMap_cons, zip_flat f L (i + 1)]
theorem zip_mem {α : Type} {L : List α} {x : α × Nat} (h : x ∈ L.zipIdx) : L[x.2]? = some x.1 := by
  have := List.mem_zipIdx_iff_getElem?.1 h
  simpa using this
theorem flat_congr {α β : Type} {f g : α → List β} : ∀ {l : List α}, (∀ x ∈ l, f x = g x) → l.flatMap f = l.flatMap g
  | [], _ => rfl
  | a :: l, h => by rw [List.flatMap_cons, List.flatMap_cons, h a (List.mem_cons_self ..), flat_congr fun x hx => h x (List.mem_cons_of_mem _ hx)]
def keepF (z : List (Sh.Rl × Bool)) : List Sh.Rl := (z.filter (·.2)).map fun y => Sh.bare y.1
theorem bare_shift (o : Nat) (r : Sh.Rl) : Sh.bare (shift o r) = Sh.bare r := rfl
theorem flat_bare {S : Bs} {t : Sh.Tr} {L : List Sh.Nd} (ho : Sh.Ok 1 t) (hS : S = Sh.text t) (hL : L = Sh.nodes 0 (-1) 0 t) : (flatR S L).map Sh.bare = (Sh.inn 0 t).flatMap fun x => (rulesOf x.2).map Sh.bare := by
  rw [flat_inn ho hS hL (fun _ s => (rulesOf s).map Sh.bare)]
  unfold flatR
  rw [List.map_flatMap, ← zip_flat _ L 0]
  refine congrArg (fun f => List.flatMap f (L.zipIdx 0)) (funext fun y => ?_)
  rw [List.map_map]
  have hc : Sh.bare ∘ shift y.1.inFrom = Sh.bare := funext fun r => bare_shift _ r
  rw [hc]
  by_cases hy : y.1.name = Sh.styleL
  · rw [if_pos hy, rulesAt_sty hy]
  · rw [if_neg hy, rulesAt_not hy]; rfl
theorem filter_zip {α : Type} (st : α → Bool) : ∀ A : List α, ((A.zip (A.map st)).filter (·.2)).map (·.1) = A.filter st
  | [] => rfl
  | a :: A => by
    have ih := filter_zip st A
    rw [List.map_cons, List.zip_cons_cons, List.filter_cons, List.filter_cons]
    cases st a
    · simpa using ih
    · simpa using ih
theorem keep_zip (st : Sh.Rl → Bool) (A : List Sh.Rl) : keepF (A.zip (A.map st)) = (A.filter st).map Sh.bare := by
  rw [← filter_zip st A, List.map_map]
  rfl
theorem filter_shift (o : Nat) (st : Sh.Rl → Bool) : ∀ A : List Sh.Rl, ((A.map (shift o)).filter st).map Sh.bare = (A.filter fun r => st (shift o r)).map Sh.bare
  | [] => rfl
  | a :: A => by
    have ih := filter_shift o st A
    rw [List.map_cons, List.filter_cons, List.filter_cons]
    cases st (shift o a)
    · simpa using ih
    · simp [ih, bare_shift]
theorem flat_filter (S : Bs) (L : List Sh.Nd) (st : Sh.Rl → Bool) : ((flatR S L).filter st).map Sh.bare = L.zipIdx.flatMap fun y => ((rulesAt S y.1).filter fun r => st (shift y.1.inFrom r)).map Sh.bare := by
  unfold flatR
  rw [List.filter_flatMap, List.map_flatMap, ← zip_flat _ L 0]
  exact flat_congr fun y _ => filter_shift _ _ _
theorem own_sty (n : Sh.Nd) : ownV n = Sh.styOf (Sh.vw n).ats := by
  unfold ownV ownA Sh.styOf Sh.vw
  rw [List.find?_map]
  have e : (Sh.isSty ∘ fun a : Sh.Atr => (a.name, a.val)) = fun a : Sh.Atr => a.name == Sh.styleL := rfl
  rw [e]
  cases n.attrs.find? fun a : Sh.Atr => a.name == Sh.styleL <;> rfl
theorem any_vw (n : Sh.Nd) : (Sh.vw n).ats.any Sh.isSty = n.attrs.any fun a => a.name == Sh.styleL := by
  unfold Sh.vw
  rw [List.any_map]
  rfl
theorem views_apart : ∀ (t : Sh.Tr) (p : Int) (i d : Nat), Sh.Ok d t → ∀ v ∈ Sh.views p i t, v.ats.Pairwise (fun a b => a.1 ≠ b.1) := by
  intro t
  induction t with
  | nil => intro p i d _ v hv; cases hv
  | txt b r ih => intro p i d ho v hv; exact ih p i d ho.2 v hv
  | note c r ih => intro p i d ho v hv; exact ih p i d ho.2 v hv
  | sty l s r ih =>
    intro p i d ho v hv
    rcases List.mem_cons.1 hv with rfl | hv
    · exact ho.2.1.apart
    · exact ih p (i + 1) d ho.2.2.2 v hv
  | el n l t r ih1 ih2 =>
    intro p i d ho v hv
    rcases List.mem_cons.1 hv with rfl | hv
    · exact ho.2.2.2.1.apart
    · rcases List.mem_append.1 hv with hv | hv
      · exact ih1 i (i + 1) (d + 1) ho.2.2.2.2.1 v hv
      · exact ih2 p _ d ho.2.2.2.2.2 v hv
structure Fd (S T : Bs) (L : List Sh.Nd) (R : List Sh.Rl) (L' : List Sh.Nd) (R' : List Sh.Rl) (t : Sh.Tr) : Prop where
  read : Rd S L R
  again : Rd T L' R'
  ok : Sh.Ok 1 t
  src : S = Sh.text t
  nds : L = Sh.nodes 0 (-1) 0 t
  view : L'.map Sh.vw = (L.map Sh.vw).zipIdx.map (Sh.reAts (newV (L.map ofN) (R.map ofR)))
  stay : R'.map Sh.bare = (R.filter fun r => stayB (L.map ofN) (R.map ofR) (ofR r)).map Sh.bare
  few : ∀ k, k < L.length → (lookAt (L.map ofN) (R.map ofR) k).length ≤ 20
  out : T = Sh.text (Sh.edit (newV (L.map ofN) (R.map ofR)) (Sh.newIn (fun j => match L[j]? with | none => [] | some n => rulesAt S n) (fun j => match L[j]? with | none => [] | some n => flagsAt S (L.map ofN) (R.map ofR) n)) 0 t)
  nds' : L' = Sh.nodes 0 (-1) 0 (Sh.edit (newV (L.map ofN) (R.map ofR)) (Sh.newIn (fun j => match L[j]? with | none => [] | some n => rulesAt S n) (fun j => match L[j]? with | none => [] | some n => flagsAt S (L.map ofN) (R.map ofR) n)) 0 t)
  ok' : Sh.Ok 1 (Sh.edit (newV (L.map ofN) (R.map ofR)) (Sh.newIn (fun j => match L[j]? with | none => [] | some n => rulesAt S n) (fun j => match L[j]? with | none => [] | some n => flagsAt S (L.map ofN) (R.map ofR) n)) 0 t)
  few6 : T.length ≤ 6000
  len : L'.length = L.length
  own' : ∀ k (h : k < L'.length), ownV L'[k] = newV (L.map ofN) (R.map ofR) k
theorem many_none {L : List Sh.Nd} {R : List Sh.Rl} : manyAt L R = none ↔ ∀ x ∈ L.zipIdx, tooMany x.1 (lookAt (L.map ofN) (R.map ofR) x.2) = false := by
  unfold manyAt
  rw [Option.map_eq_none_iff, List.find?_eq_none]
  constructor
  · intro h x hx; simpa using h x hx
  · intro h x hx; simpa using h x hx
theorem text_fold {S : Bs} {L : List Sh.Nd} {R : List Sh.Rl} (hr : Rd S L R) {t : Sh.Tr} (ho : Sh.Ok 1 t) (hS : S = Sh.text t) (hL : L = Sh.nodes 0 (-1) 0 t) :
    Sh.Within 0 (edsB S L R) S.length ∧ Sh.app S 0 (edsB S L R) S.length = Sh.text (Sh.edit (newV (L.map ofN) (R.map ofR)) (Sh.newIn (fun j => match L[j]? with | none => [] | some n => rulesAt S n) (fun j => match L[j]? with | none => [] | some n => flagsAt S (L.map ofN) (R.map ofR) n)) 0 t) := by
  have h := Sh.text_edit (S := S) (newV (L.map ofN) (R.map ofR)) (Sh.newIn (fun j => match L[j]? with | none => [] | some n => rulesAt S n) (fun j => match L[j]? with | none => [] | some n => flagsAt S (L.map ofN) (R.map ofR) n))
    (fun j => match L[j]? with | none => [] | some n => goneEd S (L.map ofN) (R.map ofR) n) t 0 (-1) 0 1 [] ho (by rw [hS]; simp) (fun x hx hs => by
      rw [← hL] at hx
      have hx2 := zip_mem hx
      have hmem : x.1 ∈ L := List.mem_of_getElem? hx2
      simp only [hx2]
      have hp := hr.sheet x.1 hmem hs
      have hn := nodes_len (S := S) t 0 (-1) 0 1 [] ho (by rw [hS]; simp) x.1 (by rw [← hL]; exact hmem) hs
      have hg := Sh.gone_app (S := S) (s := Sh.sub S x.1.inFrom x.1.inTo) (o := x.1.inFrom) (by rw [← hn]) (k := 0) (flagsAt S (L.map ofN) (R.map ofR) x.1) (Sh.sheet_few hp).2.1 (Nat.zero_le _)
      rw [← hn] at hg
      simp only [Nat.add_zero] at hg
      refine ⟨hg.1, ?_⟩
      rw [show goneEd S (L.map ofN) (R.map ofR) x.1 = Sh.edR x.1.inFrom ((rulesAt S x.1).zip (flagsAt S (L.map ofN) (R.map ofR) x.1)) from rfl, hg.2]
      unfold Sh.newIn
      simp only [hx2])
  rw [Nat.zero_add, ← hS, ← hL] at h
  exact h
theorem fold_read {S T : Bs} {L : List Sh.Nd} {R : List Sh.Rl} (hr : Rd S L R) (hm : manyAt L R = none) (hT : T = Sh.app S 0 (edsB S L R) S.length) (h6 : T.length ≤ 6000) : ∃ L' R' t, Fd S T L R L' R' t := by
  obtain ⟨t, ho, hS, hL, hc, hl⟩ := Sh.parse_tree hr.page
  have hlen : L.length = Sh.count t := by rw [hL, Sh.nodes_len]
  have htext := text_fold hr ho hS hL
  have hmany := many_none.1 hm
  have hviews : Sh.views (-1) 0 t = L.map Sh.vw := by rw [hL, Sh.nodes_views]
  have hinn : ∀ x ∈ Sh.inn 0 t, ∃ n, L[x.1]? = some n ∧ n.name = Sh.styleL ∧ x.2 = Sh.sub S n.inFrom n.inTo := fun x hx => by
    rw [← Sh.nodes_inn (S := S) t 0 (-1) 0 1 [] ho (by rw [hS]; simp), ← hL] at hx
    obtain ⟨y, hy, hyx⟩ := List.mem_filterMap.1 hx
    unfold Sh.atSty at hyx
    split at hyx
    · rename_i hs
      injection hyx with hyx
      subst hyx
      exact ⟨y.1, zip_mem hy, hs, rfl⟩
    · cases hyx
  have h20 : ∀ k, k < L.length → (lookAt (L.map ofN) (R.map ofR) k).length ≤ 20 := fun k hk => by
    have := hmany (L[k], k) (List.mem_zipIdx_iff_getElem?.2 (by simp [hk]))
    unfold tooMany at this
    simp only [Bool.or_eq_false_iff, decide_eq_false_iff_not] at this
    omega
  obtain ⟨f1, f2, f3, f4⟩ := Sh.fold_tree (v := newV (L.map ofN) (R.map ofR)) (A := fun j => match L[j]? with | none => [] | some n => rulesAt S n) (F := fun j => match L[j]? with | none => [] | some n => flagsAt S (L.map ofN) (R.map ofR) n) (t := t) ho hc
    (fun x hx => by
      obtain ⟨n, h1, h2, h3⟩ := hinn x hx
      simp only [h1]
      rw [h3]
      exact hr.sheet n (List.mem_of_getElem? h1) h2)
    (fun x hx => by
      obtain ⟨n, h1, h2, h3⟩ := hinn x hx
      simp only [h1]
      unfold flagsAt
      rw [List.length_map])
    (fun i => hr.newV i)
    (fun x hx => by
      rw [hviews, List.zipIdx_map] at hx
      obtain ⟨y, hy, rfl⟩ := List.mem_map.1 hx
      show newV _ _ y.2 = [] ∨ (Sh.vw y.1).ats.any Sh.isSty = true ∨ (Sh.vw y.1).ats.length < 8
      have := hmany y hy
      unfold tooMany at this
      simp only [Bool.or_eq_false_iff, Bool.and_eq_false_iff, decide_eq_false_iff_not, Bool.not_eq_false'] at this
      rcases this.2 with (h | h) | h
      · left
        have : lookAt (L.map ofN) (R.map ofR) y.2 = [] := List.length_eq_zero_iff.1 (by omega)
        unfold newV printD
        rw [this]; rfl
      · right; left
        rw [any_vw]; exact h
      · right; right
        unfold Sh.vw
        rw [List.length_map]; omega)
    (by rw [← htext.2, ← hT]; exact h6)
  rw [← htext.2, ← hT] at f1
  have f3' : (Sh.nodes 0 (-1) 0 (Sh.edit (newV (L.map ofN) (R.map ofR)) (Sh.newIn (fun j => match L[j]? with | none => [] | some n => rulesAt S n) (fun j => match L[j]? with | none => [] | some n => flagsAt S (L.map ofN) (R.map ofR) n)) 0 t)).map Sh.vw = (L.map Sh.vw).zipIdx.map (Sh.reAts (newV (L.map ofN) (R.map ofR))) := by
    rw [f3, hviews]
  have hT' : T = Sh.text (Sh.edit (newV (L.map ofN) (R.map ofR)) (Sh.newIn (fun j => match L[j]? with | none => [] | some n => rulesAt S n) (fun j => match L[j]? with | none => [] | some n => flagsAt S (L.map ofN) (R.map ofR) n)) 0 t) := by rw [← htext.2, ← hT]
  generalize hLL : Sh.nodes 0 (-1) 0 (Sh.edit (newV (L.map ofN) (R.map ofR)) (Sh.newIn (fun j => match L[j]? with | none => [] | some n => rulesAt S n) (fun j => match L[j]? with | none => [] | some n => flagsAt S (L.map ofN) (R.map ofR) n)) 0 t) = L' at f1 f3'
  have hin' := Sh.nodes_inn (S := T) _ 0 (-1) 0 1 [] f2 (by rw [← hT']; simp)
  rw [hLL, Sh.inn_edit] at hin'
  have hsh : ∀ n ∈ L', n.name = Sh.styleL → Sh.sheetParse (Sh.sub T n.inFrom n.inTo) = .ok (rulesAt T n) := fun n hn hs => by
    obtain ⟨k, hk, rfl⟩ := List.getElem_of_mem hn
    have : (k, Sh.sub T L'[k].inFrom L'[k].inTo) ∈ (L'.zipIdx 0).filterMap (Sh.atSty T) :=
      List.mem_filterMap.2 ⟨(L'[k], k), List.mem_zipIdx_iff_getElem?.2 (by simp [hk]), by unfold Sh.atSty; rw [if_pos hs]⟩
    rw [hin'] at this
    obtain ⟨x, hx, he⟩ := List.mem_map.1 this
    injection he with he1 he2
    obtain ⟨M, hM, _⟩ := f4 x hx
    rw [rulesAt_sty hs, ← he2, rulesOf_ok hM, hM]
  have hstay : (flatR T L').map Sh.bare = (R.filter fun r => stayB (L.map ofN) (R.map ofR) (ofR r)).map Sh.bare := by
    rw [flat_bare f2 hT' hLL.symm, Sh.inn_edit, List.flatMap_map]
    have e2 : (R.filter fun r => stayB (L.map ofN) (R.map ofR) (ofR r)).map Sh.bare = (Sh.inn 0 t).flatMap fun x => keepF ((match L[x.1]? with | none => [] | some n => rulesAt S n).zip (match L[x.1]? with | none => [] | some n => flagsAt S (L.map ofN) (R.map ofR) n)) := by
      refine Eq.trans ?_ (flat_inn ho hS hL (fun j _ => keepF ((match L[j]? with | none => [] | some n => rulesAt S n).zip (match L[j]? with | none => [] | some n => flagsAt S (L.map ofN) (R.map ofR) n)))).symm
      have e3 : R.filter (fun r => stayB (L.map ofN) (R.map ofR) (ofR r)) = (flatR S L).filter (fun r => stayB (L.map ofN) (R.map ofR) (ofR r)) := by
        generalize (fun r => stayB (L.map ofN) (R.map ofR) (ofR r)) = st
        rw [← hr.flat]
      rw [e3, flat_filter]
      refine flat_congr fun y hy => ?_
      simp only [zip_mem hy]
      by_cases hs : y.1.name = Sh.styleL
      · rw [if_pos hs]
        unfold flagsAt
        rw [keep_zip]
      · rw [if_neg hs, rulesAt_not hs]; rfl
    rw [e2]
    refine flat_congr fun x hx => ?_
    obtain ⟨M, hM, hb⟩ := f4 x hx
    show (rulesOf _).map Sh.bare = _
    rw [rulesOf_ok hM, hb, List.map_map]
    rfl
  have hlen' : L'.length = L.length := by
    have := congrArg List.length f3'
    simpa using this
  have hbare : ∀ r ∈ flatR T L', ∃ q ∈ R, r.decls = q.decls := fun r hr' => by
    have : Sh.bare r ∈ (flatR T L').map Sh.bare := List.mem_map.2 ⟨r, hr', rfl⟩
    rw [hstay] at this
    obtain ⟨q, hq, e⟩ := List.mem_map.1 this
    exact ⟨q, (List.mem_filter.1 hq).1, (congrArg Sh.Rl.decls e).symm⟩
  have hown : ∀ k (h : k < L'.length), ownV L'[k] = newV (L.map ofN) (R.map ofR) k := fun k hk => by
    have hv : Sh.vw L'[k] = Sh.reAts (newV (L.map ofN) (R.map ofR)) (Sh.vw (L[k]'(by omega)), k) := by
      have := congrArg (fun l => l[k]?) f3'
      simp [hk, show k < L.length by omega] at this
      exact this
    have hap : (Sh.vw (L[k]'(by omega))).ats.Pairwise (fun a b => a.1 ≠ b.1) := by
      refine views_apart t (-1) 0 1 ho _ ?_
      rw [hviews]
      exact List.mem_map.2 ⟨_, List.getElem_mem _, rfl⟩
    rw [own_sty, hv]
    exact Sh.editAts_style _ _ hap
  refine ⟨L', flatR T L', t, hr, ⟨f1, rfl, hsh, ?_, fun r hr' => ?_, fun n hn => ?_⟩, ho, hS, hL, f3', hstay, h20, hT', hLL.symm, f2, h6, hlen', hown⟩
  · have h1 := congrArg List.length hstay
    rw [List.length_map, List.length_map] at h1
    have h2 := List.length_filter_le (fun r => stayB (L.map ofN) (R.map ofR) (ofR r)) R
    have h3 := hr.few
    omega
  · obtain ⟨q, hq, e⟩ := hbare r hr'
    rw [e]; exact hr.rule q hq
  · obtain ⟨k, hk, rfl⟩ := List.getElem_of_mem hn
    rw [hown k hk]
    have := hr.turn (h20 k (by omega))
    exact ⟨_, _, this.1, this.2⟩
theorem fold_ok {S T : Bs} (h : foldB S = .ok T) : ∃ L R L' R' t, Fd S T L R L' R' t ∧ manyAt L R = none ∧ T = Sh.app S 0 (edsB S L R) S.length := by
  unfold foldB at h
  cases hr : readB S with
  | error x => rw [hr] at h; cases h
  | ok q =>
    obtain ⟨L, R⟩ := q
    rw [hr] at h
    simp only at h
    cases hm : manyAt L R with
    | some e => rw [hm] at h; cases h
    | none =>
      rw [hm] at h
      simp only at h
      split at h
      · cases h
      · rename_i h6
        injection h with h
        obtain ⟨L', R', t, hf⟩ := fold_read (read_iff.1 hr) hm h.symm (by rw [← h]; omega)
        exact ⟨L, R, L', R', t, hf, hm, h.symm⟩
end Go.Proofs.YtblkldfokeeaeacGreatDoor
namespace Go.Proofs.YtblkldfokeeaeacGreatDoor
variable {S T : Bs} {L L' : List Sh.Nd} {R R' : List Sh.Rl} {t : Sh.Tr}
theorem Fd.vw (h : Fd S T L R L' R' t) {k : Nat} (hk : k < L.length) : Sh.vw (L'[k]'(by rw [h.len]; exact hk)) = Sh.reAts (newV (L.map ofN) (R.map ofR)) (Sh.vw L[k], k) := by
  have hk' : k < L'.length := by rw [h.len]; exact hk
  have := congrArg (fun l => l[k]?) h.view
  simp [hk, hk'] at this
  exact this
theorem find_rest {x : Bs} (hx : x ≠ Sh.styleL) : ∀ l : List Sh.At2, l.find? (fun a => a.1 == x) = (l.filter fun a => !Sh.isSty a).find? (fun a => a.1 == x)
  | [] => rfl
  | a :: l => by
    have ih := find_rest hx l
    rw [List.filter_cons, List.find?_cons]
    cases hs : Sh.isSty a
    · simp only [Bool.not_false, if_true, List.find?_cons]
      rw [ih]
    · have ha : a.1 = Sh.styleL := by simpa [Sh.isSty] using hs
      have : (a.1 == x) = false := by rw [ha]; simpa using fun e => hx e.symm
      rw [this]
      simpa using ih
theorem getA_vw (x : ByteArray) (n : Sh.Nd) : getA x (ofN n).attrs = ((Sh.vw n).ats.find? fun a => a.1 == x.data.toList).map fun a => bsL a.2 := by
  show getA x (n.attrs.map ofA) = _
  rw [getA_find]
  unfold Sh.vw
  rw [List.find?_map, Option.map_map]
  rfl
theorem Fd.sim (h : Fd S T L R L' R' t) : Sim (L.map ofN) (L'.map ofN) := by
  have hl : L.length = L'.length := h.len.symm
  have hout : ∀ k, ¬ k < L.length → ndAt (L.map ofN) k = ndAt (L'.map ofN) k := fun k hk => by
    unfold ndAt
    rw [List.getD_eq_getElem?_getD, List.getD_eq_getElem?_getD, List.getElem?_eq_none (by simp; omega), List.getElem?_eq_none (by simp; omega)]
  refine ⟨by simpa using hl, fun k => ?_, fun k => ?_, fun k n hn => ?_⟩
  · by_cases hk : k < L.length
    · rw [nd_map hk, nd_map (show k < L'.length by omega)]
      have := congrArg Sh.Vw.name (h.vw hk)
      show bsL _ = bsL _
      exact congrArg bsL this.symm
    · rw [hout k hk]
  · unfold YtblkldfokeeaeacGreatDoor.par
    by_cases hk : k < L.length
    · rw [nd_map hk, nd_map (show k < L'.length by omega)]
      have := congrArg Sh.Vw.parent (h.vw hk)
      exact this.symm
    · rw [hout k hk]
  · by_cases hk : k < L.length
    · rw [nd_map hk, nd_map (show k < L'.length by omega), getA_vw, getA_vw, h.vw hk]
      have hx : n.data.toList ≠ Sh.styleL := fun e => hn (by rw [Lib.toList_data, Lib.toList_data]; exact e)
      show _ = ((Sh.editAts _ _).find? _).map _
      rw [find_rest hx, find_rest hx (Sh.editAts _ _), Sh.editAts_rest]
    · rw [hout k hk]
theorem sel_ok {s : List Sh.Prt} (h : PrtsOk s) : SelOk (s.map ofP) := fun p hp u hu => by
  obtain ⟨q, hq, rfl⟩ := List.mem_map.1 hp
  obtain ⟨x, hx, rfl⟩ := List.mem_map.1 hu
  intro hk e
  have hk' : (x.kind : Int) = 4 ∨ (x.kind : Int) = 5 := hk
  refine h q hq x hx (by omega) ?_
  rw [show (ofT x).name.toList = x.name from bsL_toList _, Lib.toList_data] at e
  exact e
theorem sels_ok {r : Sh.Rl} (h : RlOk r) : ∀ s ∈ (ofR r).sels, SelOk s := fun s hs => by
  obtain ⟨q, hq, rfl⟩ := List.mem_map.1 hs
  exact sel_ok (h.sel q hq)
theorem ruCl_bare (l : List Nd) (k : Int) (media : List ByteArray) (r : Sh.Rl) : ruCl l k media (ofR (Sh.bare r)) = ruCl l k media (ofR r) := rfl
theorem flat_bareC (l : List Nd) (k : Int) (media : List ByteArray) (R : List Sh.Rl) : (R.map ofR).flatMap (ruCl l k media) = (R.map Sh.bare).flatMap fun r => ruCl l k media (ofR r) := by
  rw [List.flatMap_map, List.flatMap_map]
  rfl
theorem Fd.stayC (h : Fd S T L R L' R' t) (k : Int) (media : List ByteArray) : (R'.map ofR).flatMap (ruCl (L'.map ofN) k media) = ((R.map ofR).filter (stayB (L.map ofN) (R.map ofR))).flatMap (ruCl (L.map ofN) k media) := by
  rw [flat_bareC, h.stay, ← flat_bareC, List.filter_map, List.flatMap_map, List.flatMap_map]
  refine flat_congr fun r hr => ?_
  have hr' : r ∈ R := (List.mem_filter.1 hr).1
  unfold ruCl
  rw [h.sim.ruleC k media (sels_ok (h.read.rlOk r hr'))]
theorem stay_iff {l : List Nd} {rs : List Ru} {r : Ru} : stayB l rs r = true ↔ Stay l rs r := by unfold stayB; simp
theorem go_media {l : List Nd} {rs : List Ru} {r : Ru} (h : r ∈ goesB l rs) : r.media.toList.isEmpty = true := by
  obtain ⟨h1, h2⟩ := List.mem_filter.1 h
  cases hm : r.media.toList.isEmpty
  · have : Stay l rs r := .base h1 hm
    rw [stay_iff.2 this] at h2; cases h2
  · rfl
theorem go_clR {l : List Nd} {k : Int} {rs : List Ru} (media : List ByteArray) : (goesB l rs).flatMap (ruCl l k media) = (goesB l rs).flatMap (ruCl l k []) := by
  refine flat_congr fun r hr => ?_
  have hm := go_media hr
  unfold ruCl ruleC counts
  rw [hm]; rfl
noncomputable def fcs (l : List Nd) (k : Int) (media : List ByteArray) (rs : List Ru) : List Fc := rs.map fun r => (ruCl l k media r, stayB l rs r)
theorem fcs_all (l : List Nd) (k : Int) (media : List ByteArray) (rs : List Ru) : allCl (fcs l k media rs) = rs.flatMap (ruCl l k media) := by
  unfold allCl fcs
  rw [List.flatMap_map]
theorem fcs_stay (l : List Nd) (k : Int) (media : List ByteArray) (rs : List Ru) : stayCl (fcs l k media rs) = (rs.filter (stayB l rs)).flatMap (ruCl l k media) := by
  unfold stayCl fcs
  rw [List.filter_map, List.flatMap_map]
  rfl
theorem fcs_go (l : List Nd) (k : Int) (media : List ByteArray) (rs : List Ru) : goCl (fcs l k media rs) = (goesB l rs).flatMap (ruCl l k []) := by
  rw [← go_clR media]
  unfold goCl fcs goesB
  rw [List.filter_map, List.flatMap_map]
  rfl
theorem names_of {r : Ru} {a : List Dc} (h : allB r.decls = some a) {d : Dc} (hd : d ∈ a) : nm d ∈ namesB r := by
  unfold namesB
  rw [h]
  exact List.mem_map.2 ⟨d, hd, rfl⟩
theorem fcs_apart {l : List Nd} {k : Nat} (hk : k < l.length) (media : List ByteArray) (rs : List Ru) : Apart (fcs l k media rs) := by
  intro x hx y hy e
  rw [fcs_stay] at hx
  rw [fcs_go] at hy
  obtain ⟨r, hr, hx⟩ := List.mem_flatMap.1 hx
  obtain ⟨q, hq, hy⟩ := List.mem_flatMap.1 hy
  obtain ⟨hr1, hr2⟩ := List.mem_filter.1 hr
  obtain ⟨hq1, hq2⟩ := List.mem_filter.1 hq
  obtain ⟨b1, a1, ha1, hd1⟩ := ruCl_mem hx
  obtain ⟨b2, a2, ha2, hd2⟩ := ruCl_mem hy
  have hng : ¬ Stay l rs q := fun h => by rw [stay_iff.2 h] at hq2; cases hq2
  refine Sh.StR.apart hq1 hng (stay_iff.1 hr2) ?_
  unfold meetB
  rw [Bool.and_eq_true_iff]
  refine ⟨List.any_eq_true.2 ⟨k, List.mem_range.2 hk, ?_⟩, List.any_eq_true.2 ⟨nm y.d, names_of ha2 hd2, ?_⟩⟩
  · unfold meansR; rw [b1, b2]; rfl
  · rw [← e]; exact List.elem_eq_true_of_mem (names_of ha1 hd1)
theorem Fd.ownD (h : Fd S T L R L' R' t) {k : Nat} (hk : k < L'.length) : ownD L'[k] = lookAt (L.map ofN) (R.map ofR) k := by
  have hk' : k < L.length := by rw [← h.len]; exact hk
  obtain ⟨h1, h2⟩ := h.read.turn (h.few k hk')
  unfold YtblkldfokeeaeacGreatDoor.ownD
  rw [h.own' k hk, h1]
  simp only
  rw [h2]; rfl
theorem Fd.look (h : Fd S T L R L' R' t) {k : Nat} (hk : k < L.length) (media : List ByteArray) : IsLook (lookAt (L.map ofN) (R.map ofR) k) (lookF (goCl (fcs (L.map ofN) k media (R.map ofR)) ++ asC true w00 (YtblkldfokeeaeacGreatDoor.ownD L[k]))) := by
  rw [h.read.look hk, fcs_go]
  exact lookOf_is _
theorem Fd.alike (h : Fd S T L R L' R' t) {k : Nat} (hk : k < L.length) (media : List ByteArray) : ∃ cs cs', claimsB styF (L.map ofN) k (R.map ofR) media = .ok cs ∧ claimsB styF (L'.map ofN) k (R'.map ofR) media = .ok cs' ∧ ∀ n, lookF cs n = lookF cs' n := by
  have hk' : k < L'.length := by rw [h.len]; exact hk
  refine ⟨_, _, h.read.claims hk media (fun _ hr => hr), h.again.claims hk' media (fun _ hr => hr), fun n => ?_⟩
  rw [h.stayC, h.ownD hk', ← fcs_stay, ← fcs_all]
  exact same_look (fcs_apart (by simpa using hk) media _) (h.look hk media) n
theorem Fd.value (h : Fd S T L R L' R' t) (inh : ByteArray → Bool) (ini : ByteArray → ByteArray) (media : List ByteArray) (name : ByteArray) : ∀ k, k < L.length → ∃ v, valueB styF inh ini (L.map ofN) (R.map ofR) media name k = .ok v ∧ valueB styF inh ini (L'.map ofN) (R'.map ofR) media name k = .ok v := by
  intro k
  induction k using Nat.strongRecOn with
  | _ k ih =>
    intro hk
    obtain ⟨cs, cs', h1, h2, he⟩ := h.alike hk media
    cases hl : lookF cs name.data.toList with
    | some d => exact ⟨d.val, value_there styF inh ini h1 hl, value_there styF inh ini h2 (by rw [← he]; exact hl)⟩
    | none =>
      have hl' : lookF cs' name.data.toList = none := by rw [← he]; exact hl
      by_cases hc : inh name = true ∧ 0 ≤ YtblkldfokeeaeacGreatDoor.par (L.map ofN) k ∧ YtblkldfokeeaeacGreatDoor.par (L.map ofN) k < k
      · have hp := h.sim.par k
        rw [value_up styF inh ini h1 hl hc.1 hc.2.1 hc.2.2, value_up styF inh ini h2 hl' hc.1 (by rw [← hp]; exact hc.2.1) (by rw [← hp]; exact hc.2.2), ← hp]
        exact ih _ (by omega) (by omega)
      · refine ⟨ini name, value_end styF inh ini h1 hl hc, value_end styF inh ini h2 hl' ?_⟩
        rw [← h.sim.par k]; exact hc
def touchB (l : List Nd) (k : Int) (r : Ru) (n : Bs) : Bool := (bestB l k r.sels).2 && (namesB r).contains n
theorem Fd.alone (h : Fd S T L R L' R' t) {k : Nat} (hk : k < L.length) {d : Dc} (hd : d ∈ lookOf (okCl (claimsB styF (L.map ofN) k (R.map ofR) []))) (hf : ∀ r ∈ R', touchB (L'.map ofN) k (ofR r) (nm d) = false) : d ∈ lookOf (okCl (claimsB styF (L'.map ofN) k [] [])) := by
  have hk' : k < L'.length := by rw [h.len]; exact hk
  have e2 : claimsB styF (L'.map ofN) k [] [] = .ok ([] ++ asC true w00 (lookAt (L.map ofN) (R.map ofR) k)) := by
    rw [h.again.claims hk' [] (Q := []) (fun _ hr => by cases hr), h.ownD hk']; rfl
  rw [h.read.claims hk [] (fun _ hr => hr)] at hd
  rw [e2]
  have e3 := own_again (h.look hk []) (lookOf_is ([] ++ asC true w00 (lookAt (L.map ofN) (R.map ofR) k)))
  show d ∈ lookOf ([] ++ asC true w00 (lookAt (L.map ofN) (R.map ofR) k))
  rw [e3]
  refine own_enough (h.look hk []) (lookOf_is _) (by rw [fcs_all]; exact hd) fun y hy e => ?_
  rw [fcs_stay, ← h.stayC] at hy
  obtain ⟨r, hr, hy⟩ := List.mem_flatMap.1 hy
  obtain ⟨q, hq, rfl⟩ := List.mem_map.1 hr
  obtain ⟨b, a, ha, hda⟩ := ruCl_mem hy
  have := hf q hq
  unfold touchB at this
  rw [b, ← e] at this
  have h2 : (namesB (ofR q)).contains (nm y.d) = true := List.contains_iff_mem.2 (names_of ha hda)
  rw [h2] at this
  cases this
def bareU (r : Ru) : Ru := { r with rf := 0, rt := 0 }
theorem meet_bare {l : List Nd} (r q : Ru) : meetB l (bareU r) (bareU q) = meetB l r q := rfl
theorem Sim.meet {l m : List Nd} (H : Sim l m) {r q : Ru} (hr : ∀ s ∈ r.sels, SelOk s) (hq : ∀ s ∈ q.sels, SelOk s) : meetB l r q = meetB m r q := by
  unfold meetB meansR bestB
  rw [H.len]
  congr 2
  funext k
  rw [H.bestTo k _ _ hr, H.bestTo k _ _ hq]
theorem stay_back {l : List Nd} {rs : List Ru} {x : Ru} (h : Stay l (rs.map bareU) x) : ∀ r ∈ rs, bareU r = x → Stay l rs r := by
  induction h with
  | base hm hd => intro r hr e; subst e; exact .base hr hd
  | step hm hq hmt ih =>
    intro r hr e
    subst e
    obtain ⟨q0, hq0, rfl⟩ := List.mem_map.1 hq.mem
    exact .step hr (ih q0 hq0 rfl) hmt
theorem Fd.stays (h : Fd S T L R L' R' t) : ∀ r ∈ R', stayB (L'.map ofN) (R'.map ofR) (ofR r) = true := fun r' hr' => by
  have : Sh.bare r' ∈ R'.map Sh.bare := List.mem_map.2 ⟨r', hr', rfl⟩
  rw [h.stay] at this
  obtain ⟨r, hr, e⟩ := List.mem_map.1 this
  obtain ⟨hr1, hr2⟩ := List.mem_filter.1 hr
  have s1 := stay_iff.1 hr2
  have s2 : Stay (L.map ofN) ((R.map ofR).filter (stayB (L.map ofN) (R.map ofR))) (ofR r) := Sh.StR.again (fun q hq hs => List.mem_filter.2 ⟨hq, stay_iff.2 hs⟩) s1
  have hok : ∀ q ∈ (R.map ofR).filter (stayB (L.map ofN) (R.map ofR)), ∀ s ∈ q.sels, SelOk s := fun q hq => by
    obtain ⟨x, hx, rfl⟩ := List.mem_map.1 (List.mem_filter.1 hq).1
    exact sels_ok (h.read.rlOk x hx)
  have s3 : Stay (L'.map ofN) (((R.map ofR).filter (stayB (L.map ofN) (R.map ofR))).map bareU) (bareU (ofR r)) :=
    Sh.StR.map bareU (fun _ _ hm => hm) (fun a ha b hb hm => by rw [meet_bare, ← h.sim.meet (hok a ha) (hok b hb)]; exact hm) s2
  have e4 : ((R.map ofR).filter (stayB (L.map ofN) (R.map ofR))).map bareU = (R'.map ofR).map bareU := by
    have := congrArg (List.map ofR) h.stay
    rw [List.map_map, List.map_map] at this
    rw [List.filter_map, List.map_map, List.map_map]
    exact this.symm
  rw [e4] at s3
  refine stay_iff.2 (stay_back s3 _ (List.mem_map.2 ⟨r', hr', rfl⟩) ?_)
  exact (congrArg ofR e).symm
theorem print_nil {X : List Dc} (h : printD X = []) : X = [] := by
  cases X with
  | nil => rfl
  | cons d X =>
    exfalso
    have h0 : ∀ y, Sh.printOne y ≠ [] := fun y e => by
      have := congrArg List.length e
      simp [Sh.printOne] at this
    unfold printD at h
    cases X with
    | nil => exact h0 _ h
    | cons e X =>
      have := List.append_eq_nil_iff.1 (show Sh.printOne (Sh.toL d) ++ [59, 32] ++ Sh.printL ((e :: X).map Sh.toL) = [] from h)
      exact absurd (List.append_eq_nil_iff.1 this.1).2 (by simp)
theorem sty_same {n : Sh.Nd} (hp : (Sh.vw n).ats.Pairwise fun a b => a.1 ≠ b.1) : Sh.styEd (ownV n) n.nameEnd n.attrs = [] := by
  have hone : ∀ (l : List Sh.Atr), (l.map fun a => (a.name, a.val)).Pairwise (fun a b : Sh.At2 => a.1 ≠ b.1) → ∀ a ∈ l, a.name = Sh.styleL → l.find? (fun a => a.name == Sh.styleL) = some a := by
    intro l
    induction l with
    | nil => intro _ a ha; cases ha
    | cons b l ih =>
      intro hp a ha hs
      obtain ⟨h1, h2⟩ := List.pairwise_cons.1 hp
      rw [List.find?_cons]
      rcases List.mem_cons.1 ha with rfl | ha
      · simp [hs]
      · have : b.name ≠ Sh.styleL := fun e => h1 (a.name, a.val) (List.mem_map.2 ⟨a, ha, rfl⟩) (by show b.name = a.name; rw [e, hs])
        have hb : (b.name == Sh.styleL) = false := by simpa using this
        rw [hb]
        exact ih h2 a ha hs
  unfold Sh.styEd
  split
  · refine List.flatMap_eq_nil_iff.2 fun a ha => ?_
    unfold Sh.edA
    by_cases hs : a.name = Sh.styleL
    · have := hone n.attrs hp a ha hs
      have hv : ownV n = a.val := by unfold ownV ownA; rw [this]
      simp [hv]
    · simp [hs]
  · rename_i hn
    have hv : ownV n = [] := by
      unfold ownV ownA
      have : n.attrs.find? (fun a => a.name == Sh.styleL) = none := List.find?_eq_none.2 fun a ha hs => hn (List.any_eq_true.2 ⟨a, ha, hs⟩)
      rw [this]
    rw [if_pos hv]
theorem ed_true {o : Nat} : ∀ A : List Sh.Rl, ∀ F : List Bool, (∀ b ∈ F, b = true) → Sh.edR o (A.zip F) = []
  | [], _, _ => rfl
  | a :: A, [], _ => rfl
  | a :: A, b :: F, h => by
    have hb := h b (List.mem_cons_self ..)
    have ih := ed_true (o := o) A F fun x hx => h x (List.mem_cons_of_mem _ hx)
    subst hb
    unfold Sh.edR at ih ⊢
    rw [List.zip_cons_cons, List.flatMap_cons, ih]
    rfl
theorem rule_mem {S : Bs} {L : List Sh.Nd} {n : Sh.Nd} (hn : n ∈ L) {r : Sh.Rl} (hr : r ∈ rulesAt S n) : shift n.inFrom r ∈ flatR S L := List.mem_flatMap.2 ⟨n, hn, List.mem_map.2 ⟨r, hr, rfl⟩⟩
theorem eds_nil {S : Bs} {L : List Sh.Nd} {R : List Sh.Rl} (h : Rd S L R) {t : Sh.Tr} (ho : Sh.Ok 1 t) (hL : L = Sh.nodes 0 (-1) 0 t) (hv : ∀ k (hk : k < L.length), newV (L.map ofN) (R.map ofR) k = ownV L[k]) (hs : ∀ r ∈ R, stayB (L.map ofN) (R.map ofR) (ofR r) = true) :
    edsB S L R = [] := by
  unfold edsB Sh.eds
  refine List.flatMap_eq_nil_iff.2 fun x hx => ?_
  have hx2 := zip_mem hx
  obtain ⟨hk, hxe⟩ := List.getElem?_eq_some_iff.1 hx2
  have hmem : x.1 ∈ L := List.mem_of_getElem? hx2
  unfold Sh.ndEd
  rw [hv x.2 hk, hxe]
  have h1 : Sh.styEd (ownV x.1) x.1.nameEnd x.1.attrs = [] := by
    refine sty_same (views_apart t (-1) 0 1 ho _ ?_)
    rw [← Sh.nodes_views t 0, ← hL]
    exact List.mem_map.2 ⟨_, hmem, rfl⟩
  rw [h1]
  split
  · simp only [hx2]
    refine ed_true _ _ fun b hb => ?_
    obtain ⟨r, hr, rfl⟩ := List.mem_map.1 hb
    exact hs _ (by rw [h.flat]; exact rule_mem hmem hr)
  · rfl
theorem app_none (S : Bs) : Sh.app S 0 [] S.length = S := by
  show Sh.sub S 0 S.length = S
  unfold Sh.sub
  simp
theorem goes_none {l : List Nd} {rs : List Ru} (h : ∀ r ∈ rs, stayB l rs r = true) : goesB l rs = [] := List.filter_eq_nil_iff.2 fun r hr => by simp [h r hr]
theorem Fd.twice (h : Fd S T L R L' R' t) : foldB T = .ok T := by
  have hg : goesB (L'.map ofN) (R'.map ofR) = [] := goes_none fun r hr => by
    obtain ⟨q, hq, rfl⟩ := List.mem_map.1 hr
    exact h.stays q hq
  have hlk : ∀ k, k < L'.length → lookAt (L'.map ofN) (R'.map ofR) k = lookAt (L.map ofN) (R.map ofR) k := fun k hk => by
    have hk' : k < L.length := by rw [← h.len]; exact hk
    rw [h.again.look hk, hg, h.ownD hk]
    exact own_again (h.look hk' []) (lookOf_is _)
  have hv : ∀ k (hk : k < L'.length), newV (L'.map ofN) (R'.map ofR) k = ownV L'[k] := fun k hk => by
    rw [h.own' k hk]
    unfold newV
    rw [hlk k hk]
  have hm : manyAt L' R' = none := many_none.2 fun x hx => by
    have hx2 := zip_mem hx
    obtain ⟨hk, hxe⟩ := List.getElem?_eq_some_iff.1 hx2
    have hk' : x.2 < L.length := by rw [← h.len]; exact hk
    unfold tooMany
    rw [hlk x.2 hk]
    have h20 := h.few x.2 hk'
    simp only [Bool.or_eq_false_iff, decide_eq_false_iff_not, Bool.and_eq_false_iff, Bool.not_eq_false']
    refine ⟨by omega, ?_⟩
    by_cases ha : x.1.attrs.any (fun a => a.name == Sh.styleL) = true
    · exact .inl (.inr ha)
    · left; left
      have hvn : ownV L'[x.2] = [] := by
        rw [hxe]
        unfold ownV ownA
        have : x.1.attrs.find? (fun a => a.name == Sh.styleL) = none := List.find?_eq_none.2 fun a hm hs => ha (List.any_eq_true.2 ⟨a, hm, hs⟩)
        rw [this]
      rw [h.own' x.2 hk] at hvn
      rw [print_nil hvn]
      simp
  have he := eds_nil h.again h.ok' h.nds' hv h.stays
  unfold foldB
  rw [read_iff.2 h.again]
  simp only [hm, he, app_none]
  rw [if_neg (by have := h.few6; omega)]
theorem Fd.still (h : Fd S T L R L' R' t) (hT : T = Sh.app S 0 (edsB S L R) S.length) (hm : ∀ r ∈ R, r.media ≠ []) (hs : ∀ n ∈ L, n.attrs.any (fun a => a.name == Sh.styleL) = false) : T = S := by
  have hst : ∀ r ∈ R, stayB (L.map ofN) (R.map ofR) (ofR r) = true := fun r hr => stay_iff.2 (.base (List.mem_map.2 ⟨r, hr, rfl⟩) (by
    show (bsL r.media).toList.isEmpty = false
    rw [bsL_toList]
    have := hm r hr
    cases hq : r.media with
    | nil => exact absurd hq this
    | cons _ _ => rfl))
  have hov : ∀ n ∈ L, ownV n = [] := fun n hn => by
    unfold ownV ownA
    have : n.attrs.find? (fun a => a.name == Sh.styleL) = none := List.find?_eq_none.2 fun a ha he => by
      have := hs n hn
      rw [List.any_eq_true.2 ⟨a, ha, he⟩] at this
      cases this
    rw [this]
  have hg : goesB (L.map ofN) (R.map ofR) = [] := goes_none fun r hr => by
    obtain ⟨q, hq, rfl⟩ := List.mem_map.1 hr
    exact hst q hq
  have hv : ∀ k (hk : k < L.length), newV (L.map ofN) (R.map ofR) k = ownV L[k] := fun k hk => by
    have ho := hov L[k] (List.getElem_mem hk)
    unfold newV
    rw [h.read.look hk, hg, ho]
    unfold YtblkldfokeeaeacGreatDoor.ownD
    rw [ho]
    rfl
  rw [hT, eds_nil h.read h.ok h.nds hv hst, app_none]
theorem Fd.none (h : Fd S T L R L' R' t) (hm : ∀ r ∈ R, r.media = []) : R' = [] := by
  have : (R.filter fun r => stayB (L.map ofN) (R.map ofR) (ofR r)) = [] := List.filter_eq_nil_iff.2 fun r hr hs => by
    refine Sh.StR.none (fun q hq hq2 => ?_) (stay_iff.1 hs)
    obtain ⟨x, hx, rfl⟩ := List.mem_map.1 hq
    have : (bsL x.media).toList.isEmpty = false := hq2
    rw [bsL_toList, hm x hx] at this
    cases this
  have h2 := h.stay
  rw [this] at h2
  exact List.map_eq_nil_iff.1 h2
theorem Fd.places (h : Fd S T L R L' R' t) : Sh.app S 0 (L.map Sh.cutN) S.length = Sh.app T 0 (L'.map Sh.cutN) T.length := by
  have h1 := (Sh.rest_app (S := S) t 0 (-1) 0 1 [] h.ok (by rw [h.src]; simp)).2
  have h2 := (Sh.rest_app (S := T) _ 0 (-1) 0 1 [] h.ok' (by rw [← h.out]; simp)).2
  rw [← h.nds, Nat.zero_add, ← h.src] at h1
  rw [← h.nds', Nat.zero_add, ← h.out, Sh.rest_edit] at h2
  rw [h1, h2]
end Go.Proofs.YtblkldfokeeaeacGreatDoor
