/-
  Pages with words, and what their elements' own styles come to be. No program's function is named here.
-/
import Derived.Test.YtblkldfokeeaeacGreatDoorAxTC
namespace Go.Proofs.YtblkldfokeeaeacGreatDoor
open Go.RowKit Go.Maps

/-! ### rules with a word -/
abbrev colorL : Bs := [99, 111, 108, 111, 114]
abbrev sizeL : Bs := [115, 105, 122, 101]
abbrev edgeL : Bs := [101, 100, 103, 101]
abbrev leftL : Bs := [101, 100, 103, 101, 45, 108, 101, 102, 116]
abbrev nmSel (n : Bs) : List Sh.Prt := [⟨0, [⟨1, n, []⟩]⟩]
theorem nameOk {c : UInt8} {t : Bs} (h1 : Sh.letterB c = true) (h2 : (t.all Sh.nameB) = true) (h3 : t.length < 20) : Sh.NameOK (c :: t) := ⟨c, t, rfl, h1, List.all_eq_true.1 h2, h3⟩
def ruP (sel : Bs) (ss : List (List Sh.Prt)) (nm a : Bs) : RuT := (sel ++ 123 :: (nm ++ 58 :: a ++ [125]), (ss, [⟨nm, a, false⟩]))
def ruI (sel : Bs) (ss : List (List Sh.Prt)) (nm a : Bs) : RuT := (sel ++ 123 :: (nm ++ 58 :: a ++ 32 :: 33 :: Sh.importantL ++ [125]), (ss, [⟨nm, a, true⟩]))
section
variable {sel a : Bs} {ss : List (List Sh.Prt)} {c : UInt8} {t : Bs}
theorem ru_plain (hp : ∀ Z, Sh.hasPart (sel ++ 123 :: Z) 0 = true) (hs : ∀ Z, Sh.selectors (sel ++ 123 :: Z) 0 = .ok (ss, sel.length)) (hn : Sh.NameOK (c :: t)) (hc : Sh.letterB c = true) (ha : Wd a) : RuOk (ruP sel ss (c :: t) a) := by
  have hd : Sh.decl (sel ++ 123 :: (((c :: t) ++ 58 :: a) ++ [125])) (sel.length + 1) = .ok (⟨c :: t, a, false⟩, sel.length + 1 + (c :: t).length + 1 + a.length) :=
    decl_end (c := 125) (Y := []) (by
      have h1 : (sel ++ 123 :: (((c :: t) ++ 58 :: a) ++ [125])).drop sel.length = 123 :: (((c :: t) ++ 58 :: a) ++ [125]) := by simp
      rw [Sh.at_one h1]; simp) hn ha (by decide) (by decide) (by decide) (by decide) (by decide)
  have e : sel.length + 1 + (c :: t).length + 1 + a.length = sel.length + 1 + ((c :: t) ++ 58 :: a).length := by simp; omega
  rw [e] at hd
  exact rule_one hp hs rfl hc hd
theorem ru_imp (hp : ∀ Z, Sh.hasPart (sel ++ 123 :: Z) 0 = true) (hs : ∀ Z, Sh.selectors (sel ++ 123 :: Z) 0 = .ok (ss, sel.length)) (hn : Sh.NameOK (c :: t)) (hc : Sh.letterB c = true) (ha : Wd a) (hl : (sel ++ 123 :: (((c :: t) ++ 58 :: a ++ 32 :: 33 :: Sh.importantL) ++ [125])).length ≤ 4000) : RuOk (ruI sel ss (c :: t) a) := by
  have hd : Sh.decl (sel ++ 123 :: (((c :: t) ++ 58 :: a ++ 32 :: 33 :: Sh.importantL) ++ [125])) (sel.length + 1) = .ok (⟨c :: t, a, true⟩, sel.length + 1 + (c :: t).length + 1 + a.length + 11) :=
    decl_imp (c := 125) (Y := []) hl (by
      have h1 : (sel ++ 123 :: (((c :: t) ++ 58 :: a ++ 32 :: 33 :: Sh.importantL) ++ [125])).drop sel.length = 123 :: (((c :: t) ++ 58 :: a ++ 32 :: 33 :: Sh.importantL) ++ [125]) := by simp
      rw [Sh.at_one h1]; simp) hn ha (by decide) (by decide) (by decide)
  have e : sel.length + 1 + (c :: t).length + 1 + a.length + 11 = sel.length + 1 + ((c :: t) ++ 58 :: a ++ 32 :: 33 :: Sh.importantL).length := by simp [Sh.importantL]; omega
  rw [e] at hd
  exact rule_one hp hs rfl hc hd
end

/-! ### pages, all of whose rules go -/
theorem ruAt_media : ∀ (l : List RuT) (k : Nat), ∀ r ∈ ruAt [] k l, r.media = []
  | [], _, _, h => by cases h
  | x :: l, k, r, h => by
    rcases List.mem_cons.1 h with rfl | h
    · rfl
    · exact ruAt_media l _ r h
theorem tree_media {t : Sh.Tr} {A : Nat → List Sh.Rl} (h : ∀ j, ∀ r ∈ A j, r.media = []) : ∀ r ∈ (treeR t A).map ofR, r.media.toList.isEmpty = true := fun r hr => by
  obtain ⟨q, hq, rfl⟩ := List.mem_map.1 hr
  obtain ⟨y, _, hq⟩ := List.mem_flatMap.1 hq
  split at hq
  · obtain ⟨x, hx, rfl⟩ := List.mem_map.1 hq
    show (bsL x.media).toList.isEmpty = true
    rw [h _ x hx, bsL_toList]; rfl
  · cases hq
/-- A page by its tree; its sheets are rows of rules without media; what is declared for each element. -/
structure Pg (t : Sh.Tr) (rows : Nat → List RuT) (lk : Nat → List Dc) : Prop where
  ok : Sh.Ok 1 t
  few : Sh.count t ≤ 120
  len : (Sh.text t).length ≤ 6000
  inn : ∀ x ∈ Sh.inn 0 t, x.2 = ruTx (rows x.1) ∧ (∀ y ∈ rows x.1, RuOk y) ∧ (ruTx (rows x.1)).length ≤ 4000 ∧ (rows x.1).length ≤ 60 ∧ ∀ r ∈ ruAt [] 0 (rows x.1), ∃ a, allB (r.decls.map Sh.ofL) = some a
  sixty : (treeR t fun j => ruAt [] 0 (rows j)).length ≤ 60
  own : ∀ v ∈ Sh.views (-1) 0 t, ∃ D a, Sh.declsParse (Sh.styOf v.ats) = .ok D ∧ allB (D.map Sh.ofL) = some a
  eight : ((Sh.views (-1) 0 t).all fun v => decide (v.ats.length < 8)) = true
  look : ∀ k, k < Sh.count t → ∀ (hk : k < (Sh.nodes 0 (-1) 0 t).length), lookOf ((((treeR t fun j => ruAt [] 0 (rows j)).map ofR).flatMap (ruCl ((Sh.nodes 0 (-1) 0 t).map ofN) k [])) ++ asC true w00 (ownD (Sh.nodes 0 (-1) 0 t)[k])) = lk k
  twenty : ∀ k, (lk k).length ≤ 20
  out : (Sh.text (Sh.edit (fun k => printD (lk k)) (fun j _ => List.replicate (rows j).length 32) 0 t)).length ≤ 6000
section
variable {t : Sh.Tr} {rows : Nat → List RuT} {lk : Nat → List Dc}
theorem Pg.sheet (h : Pg t rows lk) : ∀ x ∈ Sh.inn 0 t, Sh.sheetParse x.2 = .ok (ruAt [] 0 (rows x.1)) := fun x hx => by
  obtain ⟨h1, h2, h3, h4, _⟩ := h.inn x hx
  rw [h1]
  exact sheet_rules h2 h3 h4
theorem Pg.rd (h : Pg t rows lk) : Rd (Sh.text t) (Sh.nodes 0 (-1) 0 t) (treeR t fun j => ruAt [] 0 (rows j)) :=
  rd_tree h.ok h.few h.len h.sheet h.sixty (fun x hx => (h.inn x hx).2.2.2.2) h.own
theorem Pg.stay (_ : Pg t rows lk) : ∀ r ∈ (treeR t fun j => ruAt [] 0 (rows j)).map ofR, stayB ((Sh.nodes 0 (-1) 0 t).map ofN) ((treeR t fun j => ruAt [] 0 (rows j)).map ofR) r = false := fun r _ =>
  stay_no (tree_media fun _ => ruAt_media _ 0) r
theorem Pg.lookAt (h : Pg t rows lk) {k : Nat} (hk : k < Sh.count t) : lookAt ((Sh.nodes 0 (-1) 0 t).map ofN) ((treeR t fun j => ruAt [] 0 (rows j)).map ofR) k = lk k := by
  have hk' : k < (Sh.nodes 0 (-1) 0 t).length := by rw [Sh.nodes_len]; exact hk
  rw [look_st (st := fun _ => false) h.rd h.stay hk', show (List.filter (fun _ : Ru => !false) ((treeR t fun j => ruAt [] 0 (rows j)).map ofR)) = (treeR t fun j => ruAt [] 0 (rows j)).map ofR from List.filter_eq_self.2 (fun _ _ => rfl)]
  exact h.look k hk hk'
theorem Pg.fold (h : Pg t rows lk) : foldB (Sh.text t) = .ok (Sh.text (Sh.edit (fun k => printD (lk k)) (fun j _ => List.replicate (rows j).length 32) 0 t)) := by
  have e : Sh.edit (fun k => printD (lk k)) (goneR (fun j => ruAt [] 0 (rows j)) fun _ => false) 0 t = Sh.edit (fun k => printD (lk k)) (fun j _ => List.replicate (rows j).length 32) 0 t :=
    edit_congr t 0 (fun _ _ _ => rfl) fun x hx => by
      unfold goneR
      rw [(h.inn x hx).1]
      exact gone_sheet _
  have hl := h.out
  rw [← e] at hl ⊢
  refine fold_st (st := fun _ => false) (stR := fun _ => false) h.rd h.ok h.sheet h.stay (fun _ _ => rfl) (fun n hn => ?_) (fun k hk => ?_) hl
  · have hv : Sh.vw n ∈ Sh.views (-1) 0 t := by
      rw [← Sh.nodes_views t 0]
      exact List.mem_map.2 ⟨n, hn, rfl⟩
    have := List.all_eq_true.1 h.eight _ hv
    simp [Sh.vw] at this
    exact this
  · refine ⟨by rw [h.lookAt hk]; exact h.twenty k, ?_⟩
    unfold newV
    rw [h.lookAt hk]
theorem Pg.style (h : Pg t rows lk) : ∃ T L', foldB (Sh.text t) = .ok T ∧ Sh.parse T = .ok L' ∧ ∃ hl : L'.length = Sh.count t, ∀ k (hk : k < Sh.count t), ownV (L'[k]'(by rw [hl]; exact hk)) = printD (lk k) := by
  have hf := h.fold
  obtain ⟨L0, R0, L', R', t0, h1, _, _⟩ := fold_ok hf
  have e := read_iff.2 h1.read
  rw [read_iff.2 h.rd] at e
  injection e with e
  injection e with e1 e2
  subst e1 e2
  refine ⟨_, L', hf, h1.again.page, by rw [h1.len, Sh.nodes_len], fun k hk => ?_⟩
  rw [h1.own' k]
  unfold newV
  rw [h.lookAt hk]
end
end Go.Proofs.YtblkldfokeeaeacGreatDoor
