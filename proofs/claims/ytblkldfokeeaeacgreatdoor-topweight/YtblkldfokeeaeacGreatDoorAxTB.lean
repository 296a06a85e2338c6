/-
  Pages by their trees: what is read of them, and what they are folded to. No program's function is named here.
-/
import Derived.Test.YtblkldfokeeaeacGreatDoorAxTA
namespace Go.Proofs.YtblkldfokeeaeacGreatDoor
open Go.RowKit Go.Maps

theorem first_free {c : Bs} (h : ∀ b ∈ c, b ≠ 60) : Sh.FirstAt c (Sh.lastTag Sh.styleL) := by
  refine Sh.none_first fun j hj hp => ?_
  rw [List.drop_append_of_le_length (by omega), List.drop_eq_getElem_cons hj] at hp
  obtain ⟨x, hx⟩ := hp
  have := (List.cons.inj (show (60 : UInt8) :: ([47, 115, 116, 121, 108, 101, 62] ++ x) = c[j] :: (c.drop (j + 1) ++ Sh.lastTag Sh.styleL) from hx)).1
  exact h _ (List.getElem_mem hj) this.symm
theorem edit_congr {v v' : Nat → Bs} {g g' : Nat → Bs → Bs} : ∀ (t : Sh.Tr) (i : Nat), (∀ k, i ≤ k → k < i + Sh.count t → v k = v' k) → (∀ x ∈ Sh.inn i t, g x.1 x.2 = g' x.1 x.2) → Sh.edit v g i t = Sh.edit v' g' i t
  | .nil, _, _, _ => rfl
  | .txt b r, i, h1, h2 => by show Sh.Tr.txt _ _ = .txt _ _; rw [edit_congr r i h1 h2]
  | .note c r, i, h1, h2 => by show Sh.Tr.note _ _ = .note _ _; rw [edit_congr r i h1 h2]
  | .sty l s r, i, h1, h2 => by
    show Sh.Tr.sty _ _ _ = .sty _ _ _
    have e1 := h1 i (Nat.le_refl _) (by show i < i + (Sh.count r + 1); omega)
    have e2 : g i s = g' i s := h2 (i, s) (List.mem_cons_self ..)
    rw [e1, e2, edit_congr r (i + 1) (fun k hk hk2 => h1 k (by omega) (by show k < i + (Sh.count r + 1); omega)) (fun x hx => h2 x (List.mem_cons_of_mem _ hx))]
  | .el n l t r, i, h1, h2 => by
    show Sh.Tr.el _ _ _ _ = .el _ _ _ _
    have e1 := h1 i (Nat.le_refl _) (by show i < i + (Sh.count t + Sh.count r + 1); omega)
    rw [e1, edit_congr t (i + 1) (fun k hk hk2 => h1 k (by omega) (by show k < i + (Sh.count t + Sh.count r + 1); omega)) (fun x hx => h2 x (List.mem_append_left _ hx)),
      edit_congr r (i + 1 + Sh.count t) (fun k hk hk2 => h1 k (by omega) (by show k < i + (Sh.count t + Sh.count r + 1); omega)) (fun x hx => h2 x (List.mem_append_right _ hx))]

/-! ### what is read -/
section
variable {t : Sh.Tr} {A : Nat → List Sh.Rl}
def treeR (t : Sh.Tr) (A : Nat → List Sh.Rl) : List Sh.Rl := (Sh.nodes 0 (-1) 0 t).zipIdx.flatMap fun y => if y.1.name = Sh.styleL then (A y.2).map (shift y.1.inFrom) else []
theorem inn_of (ho : Sh.Ok 1 t) {y : Sh.Nd × Nat} (hy : y ∈ (Sh.nodes 0 (-1) 0 t).zipIdx) (hs : y.1.name = Sh.styleL) : (y.2, Sh.sub (Sh.text t) y.1.inFrom y.1.inTo) ∈ Sh.inn 0 t := by
  have h := Sh.nodes_inn (S := Sh.text t) t 0 (-1) 0 1 [] ho (by simp)
  rw [← h]
  refine List.mem_filterMap.2 ⟨y, hy, ?_⟩
  unfold Sh.atSty
  rw [if_pos hs]
theorem of_inn (ho : Sh.Ok 1 t) {x : Nat × Bs} (hx : x ∈ Sh.inn 0 t) : ∃ n, (Sh.nodes 0 (-1) 0 t)[x.1]? = some n ∧ n.name = Sh.styleL ∧ x.2 = Sh.sub (Sh.text t) n.inFrom n.inTo := by
  rw [← Sh.nodes_inn (S := Sh.text t) t 0 (-1) 0 1 [] ho (by simp)] at hx
  obtain ⟨y, hy, hyx⟩ := List.mem_filterMap.1 hx
  unfold Sh.atSty at hyx
  split at hyx
  · rename_i hs
    injection hyx with hyx
    subst hyx
    exact ⟨y.1, zip_mem hy, hs, rfl⟩
  · cases hyx
theorem rules_of (ho : Sh.Ok 1 t) (hA : ∀ x ∈ Sh.inn 0 t, Sh.sheetParse x.2 = .ok (A x.1)) {y : Sh.Nd × Nat} (hy : y ∈ (Sh.nodes 0 (-1) 0 t).zipIdx) (hs : y.1.name = Sh.styleL) : rulesAt (Sh.text t) y.1 = A y.2 := by
  rw [rulesAt_sty hs]
  exact rulesOf_ok (hA _ (inn_of ho hy hs))
theorem tree_flat (ho : Sh.Ok 1 t) (hA : ∀ x ∈ Sh.inn 0 t, Sh.sheetParse x.2 = .ok (A x.1)) : treeR t A = flatR (Sh.text t) (Sh.nodes 0 (-1) 0 t) := by
  unfold treeR flatR
  rw [← zip_flat (fun n => (rulesAt (Sh.text t) n).map (shift n.inFrom)) _ 0]
  refine flat_congr fun y hy => ?_
  by_cases hs : y.1.name = Sh.styleL
  · rw [if_pos hs, rules_of ho hA hy hs]
  · rw [if_neg hs, rulesAt_not hs]; rfl
theorem rd_tree (ho : Sh.Ok 1 t) (hc : Sh.count t ≤ 120) (hl : (Sh.text t).length ≤ 6000) (hA : ∀ x ∈ Sh.inn 0 t, Sh.sheetParse x.2 = .ok (A x.1)) (h60 : (treeR t A).length ≤ 60)
    (hr : ∀ x ∈ Sh.inn 0 t, ∀ r ∈ A x.1, ∃ a, allB (r.decls.map Sh.ofL) = some a) (hw : ∀ v ∈ Sh.views (-1) 0 t, ∃ D a, Sh.declsParse (Sh.styOf v.ats) = .ok D ∧ allB (D.map Sh.ofL) = some a) : Rd (Sh.text t) (Sh.nodes 0 (-1) 0 t) (treeR t A) := by
  refine ⟨Sh.tree_parse ho hc hl, tree_flat ho hA, fun n hn hs => ?_, h60, fun r h => ?_, fun n hn => ?_⟩
  · obtain ⟨i, hi⟩ := List.getElem?_of_mem hn
    have hy : (n, i) ∈ (Sh.nodes 0 (-1) 0 t).zipIdx := List.mem_zipIdx_iff_getElem?.2 hi
    rw [rules_of ho hA hy hs]
    exact hA _ (inn_of ho hy hs)
  · obtain ⟨y, hy, h⟩ := List.mem_flatMap.1 h
    split at h
    · rename_i hs
      obtain ⟨q, hq, rfl⟩ := List.mem_map.1 h
      exact hr _ (inn_of ho hy hs) q hq
    · cases h
  · rw [own_sty]
    refine hw _ ?_
    rw [← Sh.nodes_views t 0]
    exact List.mem_map.2 ⟨n, hn, rfl⟩

/-! ### what it is folded to -/
theorem goes_st {l : List Nd} {rs : List Ru} {st : Ru → Bool} (h : ∀ r ∈ rs, stayB l rs r = st r) : goesB l rs = rs.filter fun r => !st r := by
  unfold goesB
  exact List.filter_congr fun r hr => by rw [h r hr]
theorem look_st {S : Bs} {L : List Sh.Nd} {R : List Sh.Rl} (hr : Rd S L R) {st : Ru → Bool} (h : ∀ r ∈ R.map ofR, stayB (L.map ofN) (R.map ofR) r = st r) {k : Nat} (hk : k < L.length) :
    lookAt (L.map ofN) (R.map ofR) k = lookOf (((R.map ofR).filter fun r => !st r).flatMap (ruCl (L.map ofN) k []) ++ asC true w00 (ownD L[k])) := by
  rw [hr.look hk, goes_st h]
def goneR (A : Nat → List Sh.Rl) (stR : Sh.Rl → Bool) (j : Nat) (s : Bs) : Bs := Sh.goneTo s 0 ((A j).zip ((A j).map stR))
theorem fold_st {st : Ru → Bool} {stR : Sh.Rl → Bool} {v : Nat → Bs} (hr : Rd (Sh.text t) (Sh.nodes 0 (-1) 0 t) (treeR t A)) (ho : Sh.Ok 1 t) (hA : ∀ x ∈ Sh.inn 0 t, Sh.sheetParse x.2 = .ok (A x.1))
    (hst : ∀ r ∈ (treeR t A).map ofR, stayB ((Sh.nodes 0 (-1) 0 t).map ofN) ((treeR t A).map ofR) r = st r) (hsh : ∀ o r, st (ofR (shift o r)) = stR r)
    (h8 : ∀ n ∈ Sh.nodes 0 (-1) 0 t, n.attrs.length < 8) (hv : ∀ k, k < Sh.count t → (lookAt ((Sh.nodes 0 (-1) 0 t).map ofN) ((treeR t A).map ofR) k).length ≤ 20 ∧ newV ((Sh.nodes 0 (-1) 0 t).map ofN) ((treeR t A).map ofR) k = v k)
    (hl : (Sh.text (Sh.edit v (goneR A stR) 0 t)).length ≤ 6000) : foldB (Sh.text t) = .ok (Sh.text (Sh.edit v (goneR A stR) 0 t)) := by
  have hm : manyAt (Sh.nodes 0 (-1) 0 t) (treeR t A) = none := many_none.2 fun x hx => by
    have hx2 := zip_mem hx
    obtain ⟨hk, hxe⟩ := List.getElem?_eq_some_iff.1 hx2
    rw [Sh.nodes_len] at hk
    have h1 := (hv x.2 hk).1
    have h2 := h8 x.1 (List.mem_of_getElem? hx2)
    unfold tooMany
    simp only [Bool.or_eq_false_iff, decide_eq_false_iff_not, Bool.and_eq_false_iff]
    exact ⟨by omega, .inr (by omega)⟩
  have ht := (text_fold hr ho rfl rfl).2
  have he : Sh.edit (newV ((Sh.nodes 0 (-1) 0 t).map ofN) ((treeR t A).map ofR)) (Sh.newIn (fun j => match (Sh.nodes 0 (-1) 0 t)[j]? with | none => [] | some n => rulesAt (Sh.text t) n) (fun j => match (Sh.nodes 0 (-1) 0 t)[j]? with | none => [] | some n => flagsAt (Sh.text t) ((Sh.nodes 0 (-1) 0 t).map ofN) ((treeR t A).map ofR) n)) 0 t = Sh.edit v (goneR A stR) 0 t := by
    refine edit_congr t 0 (fun k _ hk => (hv k (by omega)).2) fun x hx => ?_
    obtain ⟨n, h1, h2, h3⟩ := of_inn ho hx
    have hy : (n, x.1) ∈ (Sh.nodes 0 (-1) 0 t).zipIdx := List.mem_zipIdx_iff_getElem?.2 h1
    have e1 := rules_of ho hA hy h2
    unfold Sh.newIn goneR
    simp only [h1]
    unfold flagsAt
    rw [e1]
    congr 2
    refine List.map_congr_left fun r hr2 => ?_
    rw [hst _ (List.mem_map.2 ⟨shift n.inFrom r, ?_, rfl⟩), hsh]
    rw [tree_flat ho hA]
    exact rule_mem (List.mem_of_getElem? h1) (by rw [e1]; exact hr2)
  have ht2 := ht.trans (congrArg Sh.text he)
  rw [fold_long (read_iff.2 hr) hm, ht2, if_neg (by omega)]
end

/-! ### rules that all go -/
theorem sub_self' (S : Bs) (k : Nat) : Sh.sub S k k = [] := by unfold Sh.sub; simp
theorem gone_all {S : Bs} : ∀ (l : List RuT) (k : Nat), Sh.goneTo S k ((ruAt [] k l).zip ((ruAt [] k l).map fun _ => false)) = List.replicate l.length 32 ++ S.drop (k + (ruTx l).length)
  | [], k => by simp [ruAt, ruTx, Sh.goneTo]
  | x :: l, k => by
    have ih := gone_all (S := S) l (k + x.1.length)
    show Sh.goneTo S k ((_, false) :: (ruAt [] (k + x.1.length) l).zip ((ruAt [] (k + x.1.length) l).map fun _ => false)) = _
    unfold Sh.goneTo
    rw [if_neg (by decide), ih, sub_self']
    have e : k + x.1.length + (ruTx l).length = k + (ruTx (x :: l)).length := by simp [ruTx]; omega
    rw [e, List.length_cons, List.replicate_succ]
    rfl
theorem gone_sheet (l : List RuT) : Sh.goneTo (ruTx l) 0 ((ruAt [] 0 l).zip ((ruAt [] 0 l).map fun _ => false)) = List.replicate l.length 32 := by
  rw [gone_all, Nat.zero_add, List.drop_length, List.append_nil]
theorem cut_word {a : Bs} (h : Wd a) : cutB (bsL a) = [bsL a] := by
  have := cut_eq (v := bsL a) (l := [bsL a]) (by
    rw [show (bsL a).data.toList = a from rfl, words_one fun b hb => (wch_value (h.ch b hb)).2.2]
    rfl)
  exact this.2 (by simp)
end Go.Proofs.YtblkldfokeeaeacGreatDoor
