/- Texts that the statement's proof stands on: Fold, Rest, FSpec, FRead, FOwn. -/
import Derived.Test.YtblkldfokeeaeacGreatDoorA04
import Derived.Test.YtblkldfokeeaeacGreatDoorA06
namespace Go.Proofs.YtblkldfokeeaeacGreatDoor.Sh
def newIn (A : Nat → List Rl) (F : Nat → List Bool) (j : Nat) (s : Bs) : Bs := goneTo s 0 ((A j).zip (F j))
theorem tag_blank : (32 : UInt8) ∉ lastTag styleL := by decide
theorem fits_tree {v : Nat → Bs} {A : Nat → List Rl} {F : Nat → List Bool} : ∀ (t : Tr) (p : Int) (i d : Nat), Ok d t → (∀ x ∈ inn i t, sheetParse x.2 = .ok (A x.1)) →
      (∀ x ∈ (views p i t).zipIdx i, v x.2 = [] ∨ x.1.ats.any isSty = true ∨ x.1.ats.length < 8) → Fits v (newIn A F) i t
  | .nil, _, _, _, _, _, _ => trivial
  | .txt _ r, p, i, d, ho, hi, hv => fits_tree r p i d ho.2 hi hv
  | .note _ r, p, i, d, ho, hi, hv => fits_tree r p i d ho.2 hi hv
  | .sty l s r, p, i, d, ho, hi, hv => by
    refine ⟨hv (⟨styleL, p, l⟩, i) (List.mem_cons_self ..), ?_, fits_tree r p (i + 1) d ho.2.2.2 (fun x hx => hi x (List.mem_cons_of_mem _ hx)) (fun x hx => hv x (List.mem_cons_of_mem _ hx))⟩
    exact gone_first (hi (i, s) (List.mem_cons_self ..)) tag_blank (by decide) ho.2.2.1 (F i)
  | .el n l t r, p, i, d, ho, hi, hv => by
    have hz : (views p i (.el n l t r)).zipIdx i = (⟨n, p, l⟩, i) :: ((views i (i + 1) t).zipIdx (i + 1) ++ (views p (i + 1 + count t) r).zipIdx (i + 1 + count t)) := by
      show (_, i) :: ((views i (i + 1) t ++ views p (i + 1 + count t) r).zipIdx (i + 1)) = _
      rw [List.zipIdx_append, views_len]
    rw [hz] at hv
    exact ⟨hv (⟨n, p, l⟩, i) (List.mem_cons_self ..),
      fits_tree t i (i + 1) (d + 1) ho.2.2.2.2.1 (fun x hx => hi x (List.mem_append_left _ hx)) (fun x hx => hv x (List.mem_cons_of_mem _ (List.mem_append_left _ hx))),
      fits_tree r p (i + 1 + count t) d ho.2.2.2.2.2 (fun x hx => hi x (List.mem_append_right _ hx)) (fun x hx => hv x (List.mem_cons_of_mem _ (List.mem_append_right _ hx)))⟩
theorem fold_tree {v : Nat → Bs} {A : Nat → List Rl} {F : Nat → List Bool} {t : Tr} (ho : Ok 1 t) (hc : count t ≤ 120) (hi : ∀ x ∈ inn 0 t, sheetParse x.2 = .ok (A x.1)) (hF : ∀ x ∈ inn 0 t, (F x.1).length = (A x.1).length)
    (hv : ∀ i, ∀ b ∈ v i, valueB b = true) (h8 : ∀ x ∈ (views (-1) 0 t).zipIdx 0, v x.2 = [] ∨ x.1.ats.any isSty = true ∨ x.1.ats.length < 8) (hl : (text (edit v (newIn A F) 0 t)).length ≤ 6000) :
    parse (text (edit v (newIn A F) 0 t)) = .ok (nodes 0 (-1) 0 (edit v (newIn A F) 0 t)) ∧ Ok 1 (edit v (newIn A F) 0 t) ∧
    (nodes 0 (-1) 0 (edit v (newIn A F) 0 t)).map vw = ((views (-1) 0 t).zipIdx 0).map (reAts v) ∧
    ∀ x ∈ inn 0 t, ∃ M, sheetParse (newIn A F x.1 x.2) = .ok M ∧ M.map bare = ((((A x.1).zip (F x.1)).filter (·.2)).map (·.1)).map bare := by
  have hok := edit_ok (g := newIn A F) hv t 0 1 ho (fits_tree t (-1) 0 1 ho hi h8)
  refine ⟨tree_parse hok (by rw [edit_count]; exact hc) hl, hok, by rw [nodes_views, views_edit], fun x hx => ?_⟩
  obtain ⟨M, h1, h2, _⟩ := sheet_gone (hi x hx) (F x.1) (hF x hx)
  exact ⟨M, h1, h2⟩
section
variable {α : Type} (md : α → Prop) (mt : α → α → Prop)
inductive StR (R : List α) : α → Prop
  | base {r : α} (h : r ∈ R) (hm : md r) : StR R r
  | step {r q : α} (h : r ∈ R) (hq : StR R q) (hm : mt r q) : StR R r
variable {md mt}
theorem StR.mem {R : List α} {r : α} (h : StR md mt R r) : r ∈ R := by cases h <;> assumption
theorem StR.again {R R' : List α} (h : ∀ r ∈ R, StR md mt R r → r ∈ R') {r : α} (hr : StR md mt R r) : StR md mt R' r := by
  induction hr with
  | base hm hd => exact .base (h _ hm (.base hm hd)) hd
  | step hm hq hmt ih => exact .step (h _ hm (.step hm hq hmt)) ih hmt
theorem StR.none {R : List α} (h : ∀ r ∈ R, ¬ md r) {r : α} (hr : StR md mt R r) : False := by
  induction hr with
  | base hm hd => exact h _ hm hd
  | step _ _ _ ih => exact ih
theorem StR.map {β : Type} {md' : β → Prop} {mt' : β → β → Prop} {R : List α} (f : α → β) (hmd : ∀ r ∈ R, md r → md' (f r)) (hmt : ∀ r ∈ R, ∀ q ∈ R, mt r q → mt' (f r) (f q)) {r : α} (hr : StR md mt R r) : StR md' mt' (R.map f) (f r) := by
  induction hr with
  | base hm hd => exact .base (List.mem_map.2 ⟨_, hm, rfl⟩) (hmd _ hm hd)
  | step hm hq hmt' ih => exact .step (List.mem_map.2 ⟨_, hm, rfl⟩) ih (hmt _ hm _ hq.mem hmt')
theorem StR.apart {R : List α} {r q : α} (hr : r ∈ R) (hg : ¬ StR md mt R r) (hq : StR md mt R q) : ¬ mt r q := fun h => hg (.step hr hq h)
end
end Go.Proofs.YtblkldfokeeaeacGreatDoor.Sh
namespace Go.Proofs.YtblkldfokeeaeacGreatDoor.Sh
def restT : Tr → Bs
  | .nil => []
  | .txt b r => b :: restT r
  | .note c r => [60, 33, 45, 45] ++ c ++ [45, 45, 62] ++ restT r
  | .sty _ _ r => [60] ++ styleL ++ lastTag styleL ++ restT r
  | .el n _ t r => [60] ++ n ++ [62] ++ restT t ++ lastTag n ++ restT r
theorem rest_edit (v : Nat → Bs) (g : Nat → Bs → Bs) : ∀ (t : Tr) (i : Nat), restT (edit v g i t) = restT t
  | .nil, _ => rfl
  | .txt b r, i => by show b :: restT (edit v g i r) = b :: restT r; rw [rest_edit v g r i]
  | .note c r, i => by show _ ++ restT (edit v g i r) = _ ++ restT r; rw [rest_edit v g r i]
  | .sty _ _ r, i => by show _ ++ restT (edit v g (i + 1) r) = _ ++ restT r; rw [rest_edit v g r (i + 1)]
  | .el n _ t r, i => by
    show _ ++ restT (edit v g (i + 1) t) ++ _ ++ restT (edit v g (i + 1 + count t) r) = _ ++ restT t ++ _ ++ restT r
    rw [rest_edit v g t, rest_edit v g r]
def endA (ne : Nat) (as : List Atr) : Nat := as.foldl (fun _ a => a.to_) ne
theorem endA_atrs : ∀ (l : List At2) (k : Nat), endA k (atrs k l) = k + (ats2 l).length
  | [], k => rfl
  | a :: l, k => by
    show endA (k + (at2 a).length) (atrs (k + (at2 a).length) l) = _
    rw [endA_atrs l]
    simp [ats2]; omega
def cutN (n : Nd) : Ed := (n.nameEnd, if n.name = styleL then n.inTo else endA n.nameEnd n.attrs, [])
theorem rest_app {S : Bs} : ∀ (t : Tr) (k : Nat) (p : Int) (i d : Nat) (Q : Bs), Ok d t → S.drop k = text t ++ Q → Within k ((nodes k p i t).map cutN) (k + (text t).length) ∧ app S k ((nodes k p i t).map cutN) (k + (text t).length) = restT t
  | .nil, _, _, _, _, _, _, h => plain_app h
  | .txt b r, k, p, i, d, Q, ho, h => by
    have h0 : S.drop k = [b] ++ (text r ++ Q) := h
    obtain ⟨w, e⟩ := rest_app r (k + 1) p i d Q ho.2 (drop_on h0)
    have p1 : Within k [] (k + 1) ∧ app S k [] (k + 1) = [b] := plain_app h0
    have hl : k + (text (.txt b r)).length = k + 1 + (text r).length := by simp [text]; omega
    rw [hl]
    have e2 := app_split (S := S) p1.1 w
    rw [p1.2, e] at e2
    exact ⟨p1.1.app w, e2⟩
  | .note c r, k, p, i, d, Q, ho, h => by
    have h0 : S.drop k = ([60, 33, 45, 45] ++ c ++ [45, 45, 62]) ++ (text r ++ Q) := by rw [h]; simp [text]
    have hk : k + ([60, 33, 45, 45] ++ c ++ [45, 45, 62]).length = k + 7 + c.length := by simp; omega
    have h1 := drop_on h0
    rw [hk] at h1
    obtain ⟨w, e⟩ := rest_app r (k + 7 + c.length) p i d Q ho.2 h1
    have p1 := plain_app h0
    rw [hk] at p1
    have hl : k + (text (.note c r)).length = k + 7 + c.length + (text r).length := by simp [text]; omega
    rw [hl]
    have e2 := app_split (S := S) p1.1 w
    rw [p1.2, e] at e2
    exact ⟨p1.1.app w, e2⟩
  | .sty l s r, k, p, i, d, Q, ho, h => by
    have h8 : (lastTag styleL).length = 8 := by decide
    have h0 : S.drop k = ([60] ++ styleL) ++ (ats2 l ++ [62] ++ s ++ (lastTag styleL ++ (text r ++ Q))) := by rw [h]; simp [text, first2]
    have hk : k + ([60] ++ styleL).length = k + 6 := by simp [styleL]
    have hf : k + (first2 styleL l).length = k + 6 + (ats2 l).length + 1 := by simp [first2, styleL]; omega
    have h1 := drop_on h0
    rw [hk] at h1
    have h2 : S.drop (k + 6 + (ats2 l ++ [62] ++ s).length) = lastTag styleL ++ (text r ++ Q) := drop_on h1
    have hm : k + 6 + (ats2 l ++ [62] ++ s).length = k + (first2 styleL l).length + s.length := by rw [hf]; simp; omega
    rw [hm] at h2
    have h3 := drop_on h2
    rw [h8] at h3
    obtain ⟨w, e⟩ := rest_app r (k + (first2 styleL l).length + s.length + 8) p (i + 1) d Q ho.2.2.2 h3
    have p1 := plain_app h0
    rw [hk] at p1
    have p3 := plain_app h2
    rw [h8] at p3
    have hE : (nodes k p i (.sty l s r)).map cutN = (k + 6, k + (first2 styleL l).length + s.length, []) :: (nodes (k + (first2 styleL l).length + s.length + 8) p (i + 1) r).map cutN := by
      show cutN _ :: _ = _
      simp [cutN]
    have hl : k + (text (.sty l s r)).length = k + (first2 styleL l).length + s.length + 8 + (text r).length := by simp [text, h8]; omega
    rw [hE, hl]
    have w2 := p3.1.app w
    have e2 := app_split (S := S) p3.1 w
    rw [p3.2, e] at e2
    refine ⟨⟨by simp, by simp; omega, w2⟩, ?_⟩
    show sub S k (k + 6) ++ [] ++ app S _ _ _ = _
    have p1' : sub S k (k + 6) = [60] ++ styleL := p1.2
    simp only [List.nil_append] at e2
    rw [p1', e2]
    simp [restT]
  | .el n l t r, k, p, i, d, Q, ho, h => by
    have hns : ¬ n = styleL := ho.2.2.1
    have h0 : S.drop k = ([60] ++ n) ++ (ats2 l ++ ([62] ++ (text t ++ (lastTag n ++ (text r ++ Q))))) := by rw [h]; simp [text, first2]
    have hk : k + ([60] ++ n).length = k + 1 + n.length := by simp; omega
    have hf : k + (first2 n l).length = k + 1 + n.length + (ats2 l).length + [(62 : UInt8)].length := by simp [first2]; omega
    have h1 := drop_on h0
    rw [hk] at h1
    have h2 := drop_on h1
    have h3 := drop_on h2
    rw [← hf] at h3
    have h4 := drop_on h3
    have h5 := drop_on h4
    obtain ⟨w1, e1⟩ := rest_app t (k + (first2 n l).length) i (i + 1) (d + 1) _ ho.2.2.2.2.1 h3
    obtain ⟨w, e⟩ := rest_app r (k + (first2 n l).length + (text t).length + (lastTag n).length) p (i + 1 + count t) d Q ho.2.2.2.2.2 h5
    have p1 := plain_app h0
    rw [hk] at p1
    have p2 := plain_app h2
    rw [← hf] at p2
    have p4 := plain_app h4
    have hE : (nodes k p i (.el n l t r)).map cutN = (k + 1 + n.length, k + 1 + n.length + (ats2 l).length, []) :: (([] ++ (nodes (k + (first2 n l).length) i (i + 1) t).map cutN) ++ ([] ++ (nodes (k + (first2 n l).length + (text t).length + (lastTag n).length) p (i + 1 + count t) r).map cutN)) := by
      show cutN _ :: (nodes _ _ _ t ++ nodes _ _ _ r).map cutN = _
      rw [List.map_append]
      simp [cutN, if_neg hns, endA_atrs]
    have hl : k + (text (.el n l t r)).length = k + (first2 n l).length + (text t).length + (lastTag n).length + (text r).length := by simp [text]; omega
    rw [hE, hl]
    have wa := p2.1.app w1
    have wb := p4.1.app w
    refine ⟨⟨by simp; omega, by simp, wa.app wb⟩, ?_⟩
    show sub S k (k + 1 + n.length) ++ [] ++ app S (k + 1 + n.length + (ats2 l).length) _ _ = _
    have p1' : sub S k (k + 1 + n.length) = [60] ++ n := p1.2
    rw [app_split wa wb, app_split p2.1 w1, app_split p4.1 w, p1', p2.2, p4.2, e1, e]
    simp [restT]
end Go.Proofs.YtblkldfokeeaeacGreatDoor.Sh
namespace Go.Proofs.YtblkldfokeeaeacGreatDoor
abbrev Bs := List UInt8
def bsL (l : Bs) : ByteArray := ⟨l.toArray⟩
def ofA (a : Sh.Atr) : At := ⟨bsL a.name, bsL a.val, a.from_, a.to_⟩
def ofN (n : Sh.Nd) : Nd := ⟨bsL n.name, n.parent, n.attrs.map ofA, n.nameEnd, n.inFrom, n.inTo⟩
def ofT (t : Sh.Tst) : Ts := ⟨t.kind, bsL t.name, bsL t.val⟩
def ofP (p : Sh.Prt) : Pt := ⟨p.join, p.tests.map ofT⟩
def ofR (r : Sh.Rl) : Ru := ⟨bsL r.media, r.sels.map (·.map ofP), r.decls.map Sh.ofL, r.from_, r.to_⟩
def styF (s : ByteArray) : Except Int (List Dc) := match Sh.declsParse s.data.toList with
  | .error x => .error x.1
  | .ok L => .ok (L.map Sh.ofL)
def shift (o : Nat) (r : Sh.Rl) : Sh.Rl := { r with from_ := r.from_ + o, to_ := r.to_ + o }
def sheetsB (S : Bs) : List Sh.Nd → Except (Nat × Nat) (List Sh.Rl)
  | [] => .ok []
  | n :: L => if n.name = Sh.styleL then match Sh.sheetParse (Sh.sub S n.inFrom n.inTo) with
      | .error x => .error (x.1, n.inFrom + x.2)
      | .ok R => match sheetsB S L with
        | .error x => .error x
        | .ok Q => .ok (R.map (shift n.inFrom) ++ Q)
    else sheetsB S L
def wrongR : List Sh.Rl → Option Nat
  | [] => none
  | r :: R => if (allB (r.decls.map Sh.ofL)).isNone then some r.from_ else wrongR R
def ownA (n : Sh.Nd) : Option Sh.Atr := n.attrs.find? fun a => a.name == Sh.styleL
def ownV (n : Sh.Nd) : Bs := match ownA n with
  | none => []
  | some a => a.val
def ownF (n : Sh.Nd) : Nat := match ownA n with
  | none => 0
  | some a => a.from_
def declsErr (s : Bs) : Option Nat := match Sh.declsParse s with
  | .error x => some x.1
  | .ok D => if (allB (D.map Sh.ofL)).isNone then some 5 else none
def wrongO : List Sh.Nd → Option (Nat × Nat)
  | [] => none
  | n :: L => match declsErr (ownV n) with
    | some e => some (e, ownF n)
    | none => wrongO L
def readB (S : Bs) : Except (Nat × Nat) (List Sh.Nd × List Sh.Rl) := match Sh.parse S with
  | .error x => .error x
  | .ok L => match sheetsB S L with
    | .error x => .error x
    | .ok R => if 60 < R.length then .error (5, 0) else match wrongR R with
      | some k => .error (5, k)
      | none => match wrongO L with
        | some x => .error x
        | none => .ok (L, R)
def namesB (r : Ru) : List Bs := ((allB r.decls).getD []).map nm
def meansR (l : List Nd) (k : Nat) (r : Ru) : Bool := (bestB l k r.sels).2
def meetB (l : List Nd) (r q : Ru) : Bool := ((List.range l.length).any fun k => meansR l k r && meansR l k q) && (namesB r).any fun n => (namesB q).contains n
def Stay (l : List Nd) (rules : List Ru) (r : Ru) : Prop := Sh.StR (fun r : Ru => r.media.toList.isEmpty = false) (fun r q => meetB l r q = true) rules r
open Classical in
noncomputable def stayB (l : List Nd) (rules : List Ru) (r : Ru) : Bool := decide (Stay l rules r)
noncomputable def goesB (l : List Nd) (rules : List Ru) : List Ru := rules.filter fun r => !stayB l rules r
def insN (n : Bs) : List Bs → List Bs
  | [] => [n]
  | m :: l => if n < m then n :: m :: l else if n = m then m :: l else m :: insN n l
def keysOf : List Cl → List Bs
  | [] => []
  | c :: cs => insN (nm c.d) (keysOf cs)
def lookOf (cs : List Cl) : List Dc := (keysOf cs).filterMap (lookF cs)
theorem insN_mem {n : Bs} : ∀ {l : List Bs} {x : Bs}, x ∈ insN n l ↔ x = n ∨ x ∈ l
  | [], x => by simp [insN]
  | m :: l, x => by
    unfold insN
    split
    · simp
    · split
      · rename_i h; subst h; simp
      · simp only [List.mem_cons, insN_mem (l := l)]
        constructor
        · rintro (h | h | h)
          · exact .inr (.inl h)
          · exact .inl h
          · exact .inr (.inr h)
        · rintro (h | h | h)
          · exact .inr (.inl h)
          · exact .inl h
          · exact .inr (.inr h)
theorem insN_sorted {n : Bs} : ∀ {l : List Bs}, l.Pairwise (· < ·) → (insN n l).Pairwise (· < ·)
  | [], _ => List.pairwise_singleton _ _
  | m :: l, h => by
    obtain ⟨h1, h2⟩ := List.pairwise_cons.1 h
    unfold insN
    split
    · rename_i hl
      refine List.pairwise_cons.2 ⟨fun x hx => ?_, h⟩
      rcases List.mem_cons.1 hx with rfl | hx
      · exact hl
      · exact List.lt_trans hl (h1 x hx)
    · split
      · exact h
      · rename_i hn he
        refine List.pairwise_cons.2 ⟨fun x hx => ?_, insN_sorted h2⟩
        rcases insN_mem.1 hx with rfl | hx
        · rcases Decidable.em (m < x) with h3 | h3
          · exact h3
          · exact absurd (List.le_antisymm (show x ≤ m from h3) (show m ≤ x from hn)) (fun e => he e)
        · exact h1 x hx
theorem keysOf_sorted : ∀ cs : List Cl, (keysOf cs).Pairwise (· < ·)
  | [] => List.Pairwise.nil
  | _ :: cs => insN_sorted (keysOf_sorted cs)
theorem keysOf_mem : ∀ {cs : List Cl} {n : Bs}, n ∈ keysOf cs ↔ ∃ c ∈ cs, nm c.d = n
  | [], n => by simp [keysOf]
  | c :: cs, n => by
    show n ∈ insN (nm c.d) (keysOf cs) ↔ _
    rw [insN_mem, keysOf_mem (cs := cs)]
    simp only [List.mem_cons, exists_eq_or_imp]
    constructor
    · rintro (h | h)
      · exact .inl h.symm
      · exact .inr h
    · rintro (h | h)
      · exact .inl h.symm
      · exact .inr h
theorem lookF_some {cs : List Cl} {n : Bs} : (lookF cs n).isSome = true ↔ ∃ c ∈ cs, nm c.d = n := by
  unfold lookF
  constructor
  · intro h
    cases hw : win n cs with
    | none => rw [hw] at h; cases h
    | some c => exact ⟨c, win_name hw⟩
  · rintro ⟨c, hc, hn⟩
    obtain ⟨d, hd, _⟩ := win_beats hc hn
    rw [hd]; rfl
theorem lookOf_is (cs : List Cl) : IsLook (lookOf cs) (lookF cs) :=
  look_of_keys (fun n x h => lookF_name cs n x h) (keysOf_sorted cs) (fun n => by rw [lookF_some, keysOf_mem])
theorem look_eq {cs : List Cl} {L : List Dc} (h : IsLook L (lookF cs)) : L = lookOf cs := h.same (lookOf_is cs) (fun _ => rfl)
def okCl : Except Int (List Cl) → List Cl
  | .ok cs => cs
  | .error _ => []
noncomputable def lookAt (l : List Nd) (rules : List Ru) (k : Nat) : List Dc := lookOf (okCl (claimsB styF l k (goesB l rules) []))
def printD (L : List Dc) : Bs := Sh.printL (L.map Sh.toL)
noncomputable def newV (l : List Nd) (rules : List Ru) (k : Nat) : Bs := printD (lookAt l rules k)
def tooMany (n : Sh.Nd) (L : List Dc) : Bool := decide (20 < L.length) || (decide (0 < L.length) && !n.attrs.any (fun a => a.name == Sh.styleL) && decide (8 ≤ n.attrs.length))
def rulesAt (S : Bs) (n : Sh.Nd) : List Sh.Rl := if n.name = Sh.styleL then match Sh.sheetParse (Sh.sub S n.inFrom n.inTo) with
    | .error _ => []
    | .ok R => R
  else []
noncomputable def flagsAt (S : Bs) (l : List Nd) (rules : List Ru) (n : Sh.Nd) : List Bool := (rulesAt S n).map fun r => stayB l rules (ofR (shift n.inFrom r))
noncomputable def goneEd (S : Bs) (l : List Nd) (rules : List Ru) (n : Sh.Nd) : List Sh.Ed := Sh.edR n.inFrom ((rulesAt S n).zip (flagsAt S l rules n))
noncomputable def edsB (S : Bs) (L : List Sh.Nd) (R : List Sh.Rl) : List Sh.Ed :=
  Sh.eds (newV (L.map ofN) (R.map ofR)) (fun j => match L[j]? with | none => [] | some n => goneEd S (L.map ofN) (R.map ofR) n) L 0
noncomputable def manyAt (L : List Sh.Nd) (R : List Sh.Rl) : Option Nat := (L.zipIdx.find? fun x => tooMany x.1 (lookAt (L.map ofN) (R.map ofR) x.2)).map (·.1.nameEnd)
noncomputable def foldB (S : Bs) : Except (Nat × Nat) Bs := match readB S with
  | .error x => .error x
  | .ok (L, R) => match manyAt L R with
    | some e => .error (5, e)
    | none => if 6000 < (Sh.app S 0 (edsB S L R) S.length).length then .error (4, 0) else .ok (Sh.app S 0 (edsB S L R) S.length)
end Go.Proofs.YtblkldfokeeaeacGreatDoor
namespace Go.Proofs.YtblkldfokeeaeacGreatDoor
def rulesOf (s : Bs) : List Sh.Rl := match Sh.sheetParse s with
  | .error _ => []
  | .ok R => R
theorem rulesAt_sty {S : Bs} {n : Sh.Nd} (h : n.name = Sh.styleL) : rulesAt S n = rulesOf (Sh.sub S n.inFrom n.inTo) := by
  unfold rulesAt rulesOf
  rw [if_pos h]
  all_goals (cases Sh.sheetParse (Sh.sub S n.inFrom n.inTo) <;> rfl)
theorem rulesAt_not {S : Bs} {n : Sh.Nd} (h : n.name ≠ Sh.styleL) : rulesAt S n = [] := if_neg h
theorem rulesOf_ok {s : Bs} {R : List Sh.Rl} (h : Sh.sheetParse s = .ok R) : rulesOf s = R := by unfold rulesOf; rw [h]
def flatR (S : Bs) (L : List Sh.Nd) : List Sh.Rl := L.flatMap fun n => (rulesAt S n).map (shift n.inFrom)
theorem sheets_iff {S : Bs} : ∀ {L : List Sh.Nd} {R : List Sh.Rl}, sheetsB S L = .ok R ↔ R = flatR S L ∧ ∀ n ∈ L, n.name = Sh.styleL → Sh.sheetParse (Sh.sub S n.inFrom n.inTo) = .ok (rulesAt S n)
  | [], R => by
    constructor
    · intro h; injection h with h; exact ⟨h.symm, by simp⟩
    · rintro ⟨h, _⟩; rw [h]; rfl
  | n :: L, R => by
    unfold sheetsB
    by_cases hn : n.name = Sh.styleL
    · rw [if_pos hn]
      cases hs : Sh.sheetParse (Sh.sub S n.inFrom n.inTo) with
      | error x =>
        constructor
        · intro h; cases h
        · rintro ⟨_, h⟩
          have := h n (List.mem_cons_self ..) hn
          rw [hs] at this; cases this
      | ok A =>
        have hA : rulesAt S n = A := by rw [rulesAt_sty hn, rulesOf_ok hs]
        simp only
        cases hq : sheetsB S L with
        | error x =>
          constructor
          · intro h; cases h
          · rintro ⟨_, h⟩
            have := (sheets_iff (S := S) (L := L) (R := flatR S L)).2 ⟨rfl, fun m hm => h m (List.mem_cons_of_mem _ hm)⟩
            rw [hq] at this; cases this
        | ok Q =>
          obtain ⟨h1, h2⟩ := (sheets_iff (S := S) (L := L) (R := Q)).1 hq
          constructor
          · intro h
            injection h with h
            refine ⟨?_, fun m hm hs' => ?_⟩
            · rw [← h, h1]; unfold flatR; rw [List.flatMap_cons, hA]
            · rcases List.mem_cons.1 hm with rfl | hm
              · rw [hs, hA]
              · exact h2 m hm hs'
          · rintro ⟨h, _⟩
            rw [h, h1]; unfold flatR; rw [List.flatMap_cons, hA]
    · rw [if_neg hn]
      have e : flatR S (n :: L) = flatR S L := by unfold flatR; rw [List.flatMap_cons, rulesAt_not hn]; rfl
      rw [e, sheets_iff (S := S) (L := L)]
      constructor
      · rintro ⟨h1, h2⟩
        refine ⟨h1, fun m hm hs' => ?_⟩
        rcases List.mem_cons.1 hm with rfl | hm
        · exact absurd hs' hn
        · exact h2 m hm hs'
      · rintro ⟨h1, h2⟩
        exact ⟨h1, fun m hm => h2 m (List.mem_cons_of_mem _ hm)⟩
theorem wrongR_none : ∀ {R : List Sh.Rl}, wrongR R = none ↔ ∀ r ∈ R, ∃ a, allB (r.decls.map Sh.ofL) = some a
  | [] => by simp [wrongR]
  | r :: R => by
    unfold wrongR
    cases ha : allB (r.decls.map Sh.ofL) with
    | none =>
      constructor
      · intro h; cases h
      · intro h; obtain ⟨a, h⟩ := h r (List.mem_cons_self ..); rw [ha] at h; cases h
    | some a =>
      simp only [Option.isNone_some, Bool.false_eq_true, if_false]
      rw [wrongR_none (R := R)]
      constructor
      · intro h q hq
        rcases List.mem_cons.1 hq with rfl | hq
        · exact ⟨a, ha⟩
        · exact h q hq
      · intro h q hq; exact h q (List.mem_cons_of_mem _ hq)
theorem wrongO_none : ∀ {L : List Sh.Nd}, wrongO L = none ↔ ∀ n ∈ L, declsErr (ownV n) = none
  | [] => by simp [wrongO]
  | n :: L => by
    unfold wrongO
    cases hd : declsErr (ownV n) with
    | some e =>
      constructor
      · intro h; cases h
      · intro h; have := h n (List.mem_cons_self ..); rw [hd] at this; cases this
    | none =>
      simp only
      rw [wrongO_none (L := L)]
      constructor
      · intro h q hq
        rcases List.mem_cons.1 hq with rfl | hq
        · exact hd
        · exact h q hq
      · intro h q hq; exact h q (List.mem_cons_of_mem _ hq)
theorem declsErr_none {s : Bs} : declsErr s = none ↔ ∃ D a, Sh.declsParse s = .ok D ∧ allB (D.map Sh.ofL) = some a := by
  unfold declsErr
  cases hp : Sh.declsParse s with
  | error x =>
    constructor
    · intro h; cases h
    · rintro ⟨D, a, h, _⟩; cases h
  | ok D =>
    simp only
    cases ha : allB (D.map Sh.ofL) with
    | none =>
      constructor
      · intro h; cases h
      · rintro ⟨D', a, h, h'⟩; injection h with h; subst h; rw [ha] at h'; cases h'
    | some a => simp only [Option.isNone_some, Bool.false_eq_true, if_false, true_iff]; exact ⟨D, a, rfl, ha⟩
structure Rd (S : Bs) (L : List Sh.Nd) (R : List Sh.Rl) : Prop where
  page : Sh.parse S = .ok L
  flat : R = flatR S L
  sheet : ∀ n ∈ L, n.name = Sh.styleL → Sh.sheetParse (Sh.sub S n.inFrom n.inTo) = .ok (rulesAt S n)
  few : R.length ≤ 60
  rule : ∀ r ∈ R, ∃ a, allB (r.decls.map Sh.ofL) = some a
  own : ∀ n ∈ L, ∃ D a, Sh.declsParse (ownV n) = .ok D ∧ allB (D.map Sh.ofL) = some a
theorem read_iff {S : Bs} {L : List Sh.Nd} {R : List Sh.Rl} : readB S = .ok (L, R) ↔ Rd S L R := by
  unfold readB
  constructor
  · intro h
    cases hp : Sh.parse S with
    | error x => rw [hp] at h; cases h
    | ok L0 =>
      rw [hp] at h
      simp only at h
      cases hs : sheetsB S L0 with
      | error x => rw [hs] at h; cases h
      | ok R0 =>
        rw [hs] at h
        simp only at h
        split at h
        · cases h
        · rename_i h60
          cases hw : wrongR R0 with
          | some k => rw [hw] at h; cases h
          | none =>
            rw [hw] at h
            simp only at h
            cases ho : wrongO L0 with
            | some x => rw [ho] at h; cases h
            | none =>
              rw [ho] at h
              injection h with h
              injection h with h1 h2
              subst h1 h2
              obtain ⟨f1, f2⟩ := sheets_iff.1 hs
              exact ⟨hp, f1, f2, by omega, wrongR_none.1 hw, fun n hn => declsErr_none.1 (wrongO_none.1 ho n hn)⟩
  · intro h
    rw [h.page]
    simp only
    rw [sheets_iff.2 ⟨h.flat, h.sheet⟩]
    simp only
    rw [if_neg (by have := h.few; omega), wrongR_none.2 h.rule]
    simp only
    rw [wrongO_none.2 fun n hn => declsErr_none.2 (h.own n hn)]
theorem rule_dcl {n : Nat} {S : Bs} {k m : Nat} {p : List (List Sh.Prt) × List Sh.Dcl} (h : Sh.rule n S k = .ok (p, m)) : p.2.length ≤ 20 ∧ ∀ d ∈ p.2, Sh.DclOK d := by
  unfold Sh.rule Sh.bnd at h
  cases e1 : Sh.aheadOfPart n 60 S k with
  | error x => rw [e1] at h; cases h
  | ok q1 =>
    rw [e1] at h; obtain ⟨u1, k1⟩ := q1; simp only at h
    cases e2 : Sh.selectors S k1 with
    | error x => rw [e2] at h; cases h
    | ok q2 =>
      rw [e2] at h; obtain ⟨l, k2⟩ := q2; simp only at h
      cases e3 : Sh.tok [123] S k2 with
      | error x => rw [e3] at h; cases h
      | ok q3 =>
        rw [e3] at h; obtain ⟨u3, k3⟩ := q3; simp only at h
        cases e4 : Sh.decls S k3 with
        | error x => rw [e4] at h; cases h
        | ok q4 =>
          rw [e4] at h; obtain ⟨d, k4⟩ := q4; simp only at h
          cases e5 : Sh.tok [125] S k4 with
          | error x => rw [e5] at h; cases h
          | ok q5 =>
            rw [e5] at h; obtain ⟨u5, k5⟩ := q5
            have hp : p = (l, d) := by
              have : (.ok ((l, d), k5) : Sh.Res _) = .ok (p, m) := h
              injection this with this
              injection this with this _
              exact this.symm
            subst hp
            unfold Sh.decls Sh.bnd at e4
            cases e6 : Sh.gaps S k3 with
            | error x => rw [e6] at e4; cases e4
            | ok q6 =>
              rw [e6] at e4; obtain ⟨g, k6⟩ := q6
              exact Sh.declsTo_ok 22 [] k6 k4 d (by simp) (by simp) e4
def TstOk (t : Sh.Tst) : Prop := (t.kind = 4 ∨ t.kind = 5) → t.name ≠ Sh.styleL
theorem opt_cases {α : Type} {t : Bs} {f g : Sh.Pr α} {S : Bs} {k : Nat} {r : α × Nat} (h : Sh.opt t f g S k = .ok r) : f S (k + t.length) = .ok r ∨ g S k = .ok r := by
  unfold Sh.opt at h
  split at h
  · exact .inl h
  · exact .inr h
theorem bnd_cases {α β : Type} {f : Sh.Pr α} {g : α → Sh.Pr β} {S : Bs} {k : Nat} {r : β × Nat} (h : Sh.bnd f g S k = .ok r) : ∃ a k1, f S k = .ok (a, k1) ∧ g a S k1 = .ok r := by
  unfold Sh.bnd at h
  split at h
  · cases h
  · rename_i a k1 e; exact ⟨a, k1, e, h⟩
theorem ret_cases {α : Type} {a b : α} {S : Bs} {k m : Nat} (h : Sh.ret a S k = .ok (b, m)) : a = b := by
  unfold Sh.ret at h
  injection h with h
  injection h
theorem test_ok {S : Bs} {k m : Nat} {t : Sh.Tst} (h : Sh.test S k = .ok (t, m)) : TstOk t := by
  unfold Sh.test at h
  rcases opt_cases h with h | h
  · obtain ⟨n, k1, _, h⟩ := bnd_cases h
    rw [← ret_cases h]; intro hk; simp at hk
  rcases opt_cases h with h | h
  · obtain ⟨n, k1, _, h⟩ := bnd_cases h
    rw [← ret_cases h]; intro hk; simp at hk
  rcases opt_cases h with h | h
  · rw [← ret_cases h]; intro hk; simp at hk
  rcases opt_cases h with h | h
  · unfold Sh.attrTest at h
    obtain ⟨n, k1, _, h⟩ := bnd_cases h
    split at h
    · simp [Sh.bad] at h
    · rename_i hn
      obtain ⟨q, k2, h1, h⟩ := bnd_cases h
      obtain ⟨_, k3, _, h⟩ := bnd_cases h
      rw [← ret_cases h]
      rcases opt_cases h1 with h1 | h1
      · obtain ⟨v, k4, _, h1⟩ := bnd_cases h1
        rw [← ret_cases h1]; exact fun _ => hn
      · rw [← ret_cases h1]; exact fun _ => hn
  · rw [← ret_cases h]; intro hk; simp at hk
theorem testsTo_ok {S : Bs} : ∀ (f : Nat) (l : List Sh.Tst) (k m : Nat) (l' : List Sh.Tst), (∀ t ∈ l, TstOk t) → Sh.testsTo f l S k = .ok (l', m) → ∀ t ∈ l', TstOk t
  | 0, l, k, m, l', _, h => by simp [Sh.testsTo, Sh.bad] at h
  | f + 1, l, k, m, l', hl, h => by
    unfold Sh.testsTo at h
    obtain ⟨t, k1, h1, h⟩ := bnd_cases h
    split at h
    · rw [← ret_cases h]; exact hl
    · split at h
      · simp [Sh.bad] at h
      · refine testsTo_ok f _ k1 m l' (fun x hx => ?_) h
        rcases List.mem_append.1 hx with hx | hx
        · exact hl x hx
        · rw [List.mem_singleton.1 hx]; exact test_ok h1
theorem part_ok {S : Bs} {j k m : Nat} {p : Sh.Prt} (h : Sh.part j S k = .ok (p, m)) : ∀ t ∈ p.tests, TstOk t := by
  unfold Sh.part at h
  obtain ⟨l, k1, h1, h⟩ := bnd_cases h
  obtain ⟨l2, k2, h2, h⟩ := bnd_cases h
  rw [← ret_cases h]
  refine testsTo_ok 8 l k1 k2 l2 (fun t ht => ?_) h2
  unfold Sh.partHead at h1
  rcases opt_cases h1 with h1 | h1
  · rw [← ret_cases h1] at ht; cases ht
  · unfold Sh.fits at h1
    split at h1
    · obtain ⟨n, k3, _, h1⟩ := bnd_cases h1
      rw [← ret_cases h1] at ht
      rw [List.mem_singleton.1 ht]; intro hk; simp at hk
    · rw [← ret_cases h1] at ht; cases ht
def PrtsOk (l : List Sh.Prt) : Prop := ∀ p ∈ l, ∀ t ∈ p.tests, TstOk t
theorem selectorTo_ok {S : Bs} : ∀ (f j : Nat) (l : List Sh.Prt) (k m : Nat) (l' : List Sh.Prt), PrtsOk l → Sh.selectorTo f j l S k = .ok (l', m) → PrtsOk l'
  | 0, j, l, k, m, l', _, h => by simp [Sh.selectorTo, Sh.bad] at h
  | f + 1, j, l, k, m, l', hl, h => by
    unfold Sh.selectorTo at h
    obtain ⟨_, k1, _, h⟩ := bnd_cases h
    obtain ⟨p, k2, h2, h⟩ := bnd_cases h
    obtain ⟨q, k3, _, h⟩ := bnd_cases h
    have hn : PrtsOk (l ++ [p]) := fun x hx => by
      rcases List.mem_append.1 hx with hx | hx
      · exact hl x hx
      · rw [List.mem_singleton.1 hx]; exact part_ok h2
    split at h
    · exact selectorTo_ok f _ _ k3 m l' hn h
    · rw [← ret_cases h]; exact hn
theorem selectorsTo_ok {S : Bs} : ∀ (f : Nat) (l : List (List Sh.Prt)) (k m : Nat) (l' : List (List Sh.Prt)), (∀ s ∈ l, PrtsOk s) → Sh.selectorsTo f l S k = .ok (l', m) → ∀ s ∈ l', PrtsOk s
  | 0, l, k, m, l', _, h => by simp [Sh.selectorsTo, Sh.bad] at h
  | f + 1, l, k, m, l', hl, h => by
    unfold Sh.selectorsTo at h
    obtain ⟨_, k1, _, h⟩ := bnd_cases h
    obtain ⟨p, k2, h2, h⟩ := bnd_cases h
    have hn : ∀ s ∈ l ++ [p], PrtsOk s := fun x hx => by
      rcases List.mem_append.1 hx with hx | hx
      · exact hl x hx
      · rw [List.mem_singleton.1 hx]; exact selectorTo_ok 8 0 [] k1 k2 p (fun _ h => by cases h) h2
    rcases opt_cases h with h | h
    · obtain ⟨_, k3, _, h⟩ := bnd_cases h
      exact selectorsTo_ok f _ k3 m l' hn h
    · rw [← ret_cases h]; exact hn
theorem rule_sel {n : Nat} {S : Bs} {k m : Nat} {p : List (List Sh.Prt) × List Sh.Dcl} (h : Sh.rule n S k = .ok (p, m)) : ∀ s ∈ p.1, PrtsOk s := by
  unfold Sh.rule at h
  obtain ⟨_, k1, _, h⟩ := bnd_cases h
  obtain ⟨l, k2, h2, h⟩ := bnd_cases h
  obtain ⟨_, k3, _, h⟩ := bnd_cases h
  obtain ⟨d, k4, _, h⟩ := bnd_cases h
  obtain ⟨_, k5, _, h⟩ := bnd_cases h
  rw [← ret_cases h]
  exact selectorsTo_ok 10 [] k1 k2 l (fun _ h => by cases h) h2
structure RlOk (r : Sh.Rl) : Prop where
  few : r.decls.length ≤ 20
  dcl : ∀ d ∈ r.decls, Sh.DclOK d
  sel : ∀ s ∈ r.sels, PrtsOk s
theorem sheet_ok {s : Bs} {A : List Sh.Rl} (h : Sh.sheetParse s = .ok A) : ∀ r ∈ A, RlOk r := fun r hr => by
  obtain ⟨_, _, _, n, hn⟩ := (Sh.sheet_few h).2.1.mem r hr
  have h1 := rule_dcl hn
  exact ⟨h1.1, h1.2, rule_sel hn⟩
theorem Rd.rlOk {S : Bs} {L : List Sh.Nd} {R : List Sh.Rl} (h : Rd S L R) : ∀ r ∈ R, RlOk r := fun r hr => by
  rw [h.flat] at hr
  obtain ⟨n, hn, hr⟩ := List.mem_flatMap.1 hr
  obtain ⟨q, hq, rfl⟩ := List.mem_map.1 hr
  by_cases hs : n.name = Sh.styleL
  · have := sheet_ok (h.sheet n hn hs) q hq
    exact ⟨this.few, this.dcl, this.sel⟩
  · rw [rulesAt_not hs] at hq; cases hq
end Go.Proofs.YtblkldfokeeaeacGreatDoor
namespace Go.Proofs.YtblkldfokeeaeacGreatDoor
theorem bsL_inj {a b : Bs} (h : bsL a = bsL b) : a = b := by
  unfold bsL at h
  injection h with h
  exact (Array.toList_inj.2 h)
theorem bsL_data (a : Bs) : (bsL a).data.toList = a := rfl
theorem bsL_toList (a : Bs) : (bsL a).toList = a := by rw [Lib.toList_data]; rfl
theorem data_bsL (a : ByteArray) : bsL a.data.toList = a := rfl
def ownD (n : Sh.Nd) : List Dc := match Sh.declsParse (ownV n) with
  | .error _ => []
  | .ok D => (allB (D.map Sh.ofL)).getD []
theorem getA_find (x : ByteArray) : ∀ l : List Sh.Atr, getA x (l.map ofA) = (l.find? fun a => a.name == x.data.toList).map fun a => bsL a.val
  | [] => rfl
  | a :: l => by
    show (if (bsL a.name).toList == x.toList then some (bsL a.val) else getA x (l.map ofA)) = _
    rw [bsL_toList, Lib.toList_data, List.find?_cons]
    cases h : a.name == x.data.toList
    · simp only [Bool.false_eq_true, if_false]
      exact getA_find x l
    · simp
theorem own_get (n : Sh.Nd) : (getA styleN (ofN n).attrs).getD ⟨#[]⟩ = bsL (ownV n) := by
  show (getA styleN (n.attrs.map ofA)).getD ⟨#[]⟩ = _
  rw [getA_find]
  unfold ownV ownA
  show ((n.attrs.find? fun a => a.name == Sh.styleL).map _).getD _ = _
  cases n.attrs.find? fun a => a.name == Sh.styleL <;> rfl
theorem own_claims {n : Sh.Nd} (h : ∃ D a, Sh.declsParse (ownV n) = .ok D ∧ allB (D.map Sh.ofL) = some a) : ownC styF (ofN n) = .ok (asC true w00 (ownD n)) := by
  obtain ⟨D, a, h1, h2⟩ := h
  unfold ownC
  rw [own_get]
  unfold styF ownD
  rw [bsL_data, h1]
  simp only [h2]
  rfl
def ruCl (l : List Nd) (k : Int) (media : List ByteArray) (r : Ru) : List Cl := (ruleC l k media r).getD []
theorem ruleC_some {l : List Nd} {k : Int} {media : List ByteArray} {r : Ru} (h : ∃ a, allB r.decls = some a) : ruleC l k media r = some (ruCl l k media r) := by
  obtain ⟨a, h⟩ := h
  unfold ruCl ruleC
  split
  · rw [h]; rfl
  · rfl
theorem rulesC_flat {l : List Nd} {k : Int} {media : List ByteArray} : ∀ {Q : List Ru}, (∀ r ∈ Q, ∃ a, allB r.decls = some a) → rulesC l k media Q = some (Q.flatMap (ruCl l k media))
  | [], _ => rfl
  | r :: Q, h => by
    show (ruleC l k media r).bind (fun x => (rulesC l k media Q).map (x ++ ·)) = _
    rw [ruleC_some (h r (List.mem_cons_self ..)), rulesC_flat (fun q hq => h q (List.mem_cons_of_mem _ hq))]
    rfl
theorem ruCl_mem {l : List Nd} {k : Int} {media : List ByteArray} {r : Ru} {c : Cl} (h : c ∈ ruCl l k media r) : (bestB l k r.sels).2 = true ∧ ∃ a, allB r.decls = some a ∧ c.d ∈ a := by
  unfold ruCl ruleC at h
  split at h
  · rename_i hc
    cases ha : allB r.decls with
    | none => rw [ha] at h; cases h
    | some a =>
      rw [ha] at h
      obtain ⟨d, hd, rfl⟩ := List.mem_map.1 (show c ∈ asC false (bestB l k r.sels).1 a from h)
      exact ⟨(Bool.and_eq_true_iff.1 hc).2, a, rfl, hd⟩
  · cases h
theorem claims_ok {l : List Nd} {k : Nat} {media : List ByteArray} {Q : List Ru} {O : List Dc} (hk : k < l.length) (hq : ∀ r ∈ Q, ∃ a, allB r.decls = some a) (ho : ownC styF (ndAt l k) = .ok (asC true w00 O)) :
    claimsB styF l k Q media = .ok (Q.flatMap (ruCl l k media) ++ asC true w00 O) := by
  have hin : inB l (k : Int) = true := by unfold inB; simp; omega
  unfold claimsB
  rw [if_pos hin, rulesC_flat hq, show ((k : Int).toNat) = k from rfl, ho]
variable {S : Bs} {L : List Sh.Nd} {R : List Sh.Rl}
theorem nd_map {k : Nat} (hk : k < L.length) : ndAt (L.map ofN) k = ofN L[k] := by
  rw [ndAt_eq (by simpa using hk)]; simp
theorem Rd.decls (h : Rd S L R) : ∀ r ∈ R.map ofR, ∃ a, allB r.decls = some a := fun r hr => by
  obtain ⟨q, hq, rfl⟩ := List.mem_map.1 hr
  exact h.rule q hq
theorem Rd.claims (h : Rd S L R) {k : Nat} (hk : k < L.length) (media : List ByteArray) {Q : List Ru} (hQ : ∀ r ∈ Q, r ∈ R.map ofR) :
    claimsB styF (L.map ofN) k Q media = .ok (Q.flatMap (ruCl (L.map ofN) k media) ++ asC true w00 (ownD L[k])) :=
  claims_ok (by simpa using hk) (fun r hr => h.decls r (hQ r hr)) (by rw [nd_map hk]; exact own_claims (h.own _ (List.getElem_mem hk)))
theorem goes_sub {l : List Nd} {rs : List Ru} : ∀ r ∈ goesB l rs, r ∈ rs := fun _ hr => (List.mem_filter.1 hr).1
theorem Rd.look (h : Rd S L R) {k : Nat} (hk : k < L.length) :
    lookAt (L.map ofN) (R.map ofR) k = lookOf ((goesB (L.map ofN) (R.map ofR)).flatMap (ruCl (L.map ofN) k []) ++ asC true w00 (ownD L[k])) := by
  unfold lookAt
  rw [h.claims hk [] goes_sub]
  rfl
theorem look_out {l : List Nd} {rs : List Ru} {k : Nat} (hk : l.length ≤ k) : lookAt l rs k = [] := by
  unfold lookAt claimsB
  have : inB l (k : Int) = false := by unfold inB; simp; omega
  rw [this]
  rfl
theorem look_mem {cs : List Cl} {d : Dc} (h : d ∈ lookOf cs) : ∃ c ∈ cs, c.d = d := by
  obtain ⟨n, _, hn⟩ := List.mem_filterMap.1 h
  unfold lookF at hn
  cases hw : win n cs with
  | none => rw [hw] at hn; cases hn
  | some c => rw [hw] at hn; injection hn with hn; exact ⟨c, (win_name hw).1, hn⟩
structure Plain (d : Dc) : Prop where
  ok : Sh.DclOK (Sh.toL d)
  pl : isE d = false
theorem own_plain {n : Sh.Nd} : ∀ d ∈ ownD n, Plain d := fun d hd => by
  unfold ownD at hd
  cases hp : Sh.declsParse (ownV n) with
  | error x => rw [hp] at hd; cases hd
  | ok D =>
    rw [hp] at hd
    simp only at hd
    cases ha : allB (D.map Sh.ofL) with
    | none => rw [ha] at hd; cases hd
    | some a =>
      rw [ha] at hd
      refine ⟨Sh.all_ok (fun e he => ?_) ha d hd, allB_plain ha d hd⟩
      obtain ⟨x, hx, rfl⟩ := List.mem_map.1 he
      rw [Sh.toL_ofL]
      exact (Sh.declsParse_ok hp).2 x hx
theorem cl_plain (h : Rd S L R) {k : Int} {media : List ByteArray} {r : Ru} (hr : r ∈ R.map ofR) : ∀ c ∈ ruCl (L.map ofN) k media r, Plain c.d := fun c hc => by
  obtain ⟨_, a, ha, hd⟩ := ruCl_mem hc
  obtain ⟨q, hq, rfl⟩ := List.mem_map.1 hr
  refine ⟨Sh.all_ok (fun e he => ?_) ha _ hd, allB_plain ha _ hd⟩
  obtain ⟨x, hx, rfl⟩ := List.mem_map.1 he
  rw [Sh.toL_ofL]
  exact (h.rlOk q hq).dcl x hx
theorem Rd.plain (h : Rd S L R) (k : Nat) : ∀ d ∈ lookAt (L.map ofN) (R.map ofR) k, Plain d := fun d hd => by
  by_cases hk : k < L.length
  · rw [h.look hk] at hd
    obtain ⟨c, hc, rfl⟩ := look_mem hd
    rcases List.mem_append.1 hc with hc | hc
    · obtain ⟨r, hr, hc⟩ := List.mem_flatMap.1 hc
      exact cl_plain h (goes_sub r hr) c hc
    · obtain ⟨x, hx, rfl⟩ := List.mem_map.1 hc
      exact own_plain x hx
  · rw [look_out (by simpa using hk)] at hd; cases hd
theorem Rd.newV (h : Rd S L R) (k : Nat) : ∀ b ∈ YtblkldfokeeaeacGreatDoor.newV (L.map ofN) (R.map ofR) k, Sh.valueB b = true :=
  Sh.print_bytes fun d hd => by
    obtain ⟨x, hx, rfl⟩ := List.mem_map.1 hd
    exact (h.plain k x hx).ok
theorem map_ofL (L : List Dc) : (L.map Sh.toL).map Sh.ofL = L := by
  rw [List.map_map]
  conv => rhs; rw [← List.map_id L]
  refine List.map_congr_left fun d _ => Sh.ofL_toL d
theorem Rd.turn (h : Rd S L R) {k : Nat} (h20 : (lookAt (L.map ofN) (R.map ofR) k).length ≤ 20) :
    Sh.declsParse (YtblkldfokeeaeacGreatDoor.newV (L.map ofN) (R.map ofR) k) = .ok ((lookAt (L.map ofN) (R.map ofR) k).map Sh.toL) ∧ allB (((lookAt (L.map ofN) (R.map ofR) k).map Sh.toL).map Sh.ofL) = some (lookAt (L.map ofN) (R.map ofR) k) := by
  refine ⟨(Sh.read_print (by simpa using h20) fun d hd => ?_).1, ?_⟩
  · obtain ⟨x, hx, rfl⟩ := List.mem_map.1 hd
    exact (h.plain k x hx).ok
  · rw [map_ofL]
    exact plain_allB fun y hy => (h.plain k y hy).pl
end Go.Proofs.YtblkldfokeeaeacGreatDoor
