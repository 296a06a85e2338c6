/-
  The plain answer of package fold, over lists: what Read, Stays and Fold tell. No program's function is named here; no condition.
  What Read tells, taken apart and put together; what its declarations, selectors and own styles are. No program's function is named here.
  What is claimed for an element of a page that was read: the rules' claims and the own style's; what is declared may stand in an own style, and is read from it. No program's function is named here.
  A page that is folded is read: its elements are those, with the new styles; its rules are those that stay. No program's function is named here.
-/
import Derived.Test.YtblkldfokeeaeacGreatDoorG06
namespace Go.Proofs.YtblkldfokeeaeacGreatDoor

abbrev Bs := List UInt8
def bsL (l : Bs) : ByteArray := ⟨l.toArray⟩
def ofA (a : Sh.Atr) : At := ⟨bsL a.name, bsL a.val, a.from_, a.to_⟩
def ofN (n : Sh.Nd) : Nd := ⟨bsL n.name, n.parent, n.attrs.map ofA, n.nameEnd, n.inFrom, n.inTo⟩
def ofT (t : Sh.Tst) : Ts := ⟨t.kind, bsL t.name, bsL t.val⟩
def ofP (p : Sh.Prt) : Pt := ⟨p.join, p.tests.map ofT⟩
def ofR (r : Sh.Rl) : Ru := ⟨bsL r.media, r.sels.map (·.map ofP), r.decls.map Sh.ofL, r.from_, r.to_⟩
def styF (s : ByteArray) : Except Int (List Dc) := match Sh.declsParse s.data.toList with
  | .error x => .error x.1
  | .ok L => .ok (L.map Sh.ofL)

/-! ### reading -/
def shift (o : Nat) (r : Sh.Rl) : Sh.Rl := { r with from_ := r.from_ + o, to_ := r.to_ + o }
def sheetsB (S : Bs) : List Sh.Nd → Except (Nat × Nat) (List Sh.Rl)
  | [] => .ok []
  | n :: L => if n.name = Sh.styleL then match Sh.sheetParse (Sh.sub S n.inFrom n.inTo) with
      | .error x => .error (x.1, n.inFrom + x.2)
      | .ok R => match sheetsB S L with
        | .error x => .error x
        | .ok Q => .ok (R.map (shift n.inFrom) ++ Q)
    else sheetsB S L
def wrongR : List Sh.Rl → Option Nat
  | [] => none
  | r :: R => if (allB (r.decls.map Sh.ofL)).isNone then some r.from_ else wrongR R
def ownA (n : Sh.Nd) : Option Sh.Atr := n.attrs.find? fun a => a.name == Sh.styleL
def ownV (n : Sh.Nd) : Bs := match ownA n with
  | none => []
  | some a => a.val
def ownF (n : Sh.Nd) : Nat := match ownA n with
  | none => 0
  | some a => a.from_
def declsErr (s : Bs) : Option Nat := match Sh.declsParse s with
  | .error x => some x.1
  | .ok D => if (allB (D.map Sh.ofL)).isNone then some 5 else none
def wrongO : List Sh.Nd → Option (Nat × Nat)
  | [] => none
  | n :: L => match declsErr (ownV n) with
    | some e => some (e, ownF n)
    | none => wrongO L
def readB (S : Bs) : Except (Nat × Nat) (List Sh.Nd × List Sh.Rl) := match Sh.parse S with
  | .error x => .error x
  | .ok L => match sheetsB S L with
    | .error x => .error x
    | .ok R => if 60 < R.length then .error (5, 0) else match wrongR R with
      | some k => .error (5, k)
      | none => match wrongO L with
        | some x => .error x
        | none => .ok (L, R)

/-! ### which rules stay -/
def namesB (r : Ru) : List Bs := ((allB r.decls).getD []).map nm
def meansR (l : List Nd) (k : Nat) (r : Ru) : Bool := (bestB l k r.sels).2
def meetB (l : List Nd) (r q : Ru) : Bool := ((List.range l.length).any fun k => meansR l k r && meansR l k q) && (namesB r).any fun n => (namesB q).contains n
def Stay (l : List Nd) (rules : List Ru) (r : Ru) : Prop := Sh.StR (fun r : Ru => r.media.toList.isEmpty = false) (fun r q => meetB l r q = true) rules r
open Classical in
noncomputable def stayB (l : List Nd) (rules : List Ru) (r : Ru) : Bool := decide (Stay l rules r)
noncomputable def goesB (l : List Nd) (rules : List Ru) : List Ru := rules.filter fun r => !stayB l rules r

/-! ### what is declared, as a list -/
def insN (n : Bs) : List Bs → List Bs
  | [] => [n]
  | m :: l => if n < m then n :: m :: l else if n = m then m :: l else m :: insN n l
def keysOf : List Cl → List Bs
  | [] => []
  | c :: cs => insN (nm c.d) (keysOf cs)
def lookOf (cs : List Cl) : List Dc := (keysOf cs).filterMap (lookF cs)
theorem insN_mem {n : Bs} : ∀ {l : List Bs} {x : Bs}, x ∈ insN n l ↔ x = n ∨ x ∈ l
  | [], x => by simp [insN]
  | m :: l, x => by
    unfold insN
    split
    · simp
    · split
      · rename_i h; subst h; simp
      · simp only [List.mem_cons, insN_mem (l := l)]
        constructor
        · rintro (h | h | h)
          · exact .inr (.inl h)
          · exact .inl h
          · exact .inr (.inr h)
        · rintro (h | h | h)
          · exact .inr (.inl h)
          · exact .inl h
          · exact .inr (.inr h)
theorem insN_sorted {n : Bs} : ∀ {l : List Bs}, l.Pairwise (· < ·) → (insN n l).Pairwise (· < ·)
  | [], _ => List.pairwise_singleton _ _
  | m :: l, h => by
    obtain ⟨h1, h2⟩ := List.pairwise_cons.1 h
    unfold insN
    split
    · rename_i hl
      refine List.pairwise_cons.2 ⟨fun x hx => ?_, h⟩
      rcases List.mem_cons.1 hx with rfl | hx
      · exact hl
      · exact List.lt_trans hl (h1 x hx)
    · split
      · exact h
      · rename_i hn he
        refine List.pairwise_cons.2 ⟨fun x hx => ?_, insN_sorted h2⟩
        rcases insN_mem.1 hx with rfl | hx
        · rcases Decidable.em (m < x) with h3 | h3
          · exact h3
          · exact absurd (List.le_antisymm (show x ≤ m from h3) (show m ≤ x from hn)) (fun e => he e)
        · exact h1 x hx
theorem keysOf_sorted : ∀ cs : List Cl, (keysOf cs).Pairwise (· < ·)
  | [] => List.Pairwise.nil
  | _ :: cs => insN_sorted (keysOf_sorted cs)
theorem keysOf_mem : ∀ {cs : List Cl} {n : Bs}, n ∈ keysOf cs ↔ ∃ c ∈ cs, nm c.d = n
  | [], n => by simp [keysOf]
  | c :: cs, n => by
    show n ∈ insN (nm c.d) (keysOf cs) ↔ _
    rw [insN_mem, keysOf_mem (cs := cs)]
    simp only [List.mem_cons, exists_eq_or_imp]
    constructor
    · rintro (h | h)
      · exact .inl h.symm
      · exact .inr h
    · rintro (h | h)
      · exact .inl h.symm
      · exact .inr h
theorem lookF_some {cs : List Cl} {n : Bs} : (lookF cs n).isSome = true ↔ ∃ c ∈ cs, nm c.d = n := by
  unfold lookF
  constructor
  · intro h
    cases hw : win n cs with
    | none => rw [hw] at h; cases h
    | some c => exact ⟨c, win_name hw⟩
  · rintro ⟨c, hc, hn⟩
    obtain ⟨d, hd, _⟩ := win_beats hc hn
    rw [hd]; rfl
theorem lookOf_is (cs : List Cl) : IsLook (lookOf cs) (lookF cs) :=
  look_of_keys (fun n x h => lookF_name cs n x h) (keysOf_sorted cs) (fun n => by rw [lookF_some, keysOf_mem])
theorem look_eq {cs : List Cl} {L : List Dc} (h : IsLook L (lookF cs)) : L = lookOf cs := h.same (lookOf_is cs) (fun _ => rfl)

/-! ### folding -/
def okCl : Except Int (List Cl) → List Cl
  | .ok cs => cs
  | .error _ => []
/-- What is declared for element k of the rules that go, and of no media. -/
noncomputable def lookAt (l : List Nd) (rules : List Ru) (k : Nat) : List Dc := lookOf (okCl (claimsB styF l k (goesB l rules) []))
def printD (L : List Dc) : Bs := Sh.printL (L.map Sh.toL)
noncomputable def newV (l : List Nd) (rules : List Ru) (k : Nat) : Bs := printD (lookAt l rules k)
def tooMany (n : Sh.Nd) (L : List Dc) : Bool := decide (20 < L.length) || (decide (0 < L.length) && !n.attrs.any (fun a => a.name == Sh.styleL) && decide (8 ≤ n.attrs.length))
def rulesAt (S : Bs) (n : Sh.Nd) : List Sh.Rl := if n.name = Sh.styleL then match Sh.sheetParse (Sh.sub S n.inFrom n.inTo) with
    | .error _ => []
    | .ok R => R
  else []
noncomputable def flagsAt (S : Bs) (l : List Nd) (rules : List Ru) (n : Sh.Nd) : List Bool := (rulesAt S n).map fun r => stayB l rules (ofR (shift n.inFrom r))
noncomputable def goneEd (S : Bs) (l : List Nd) (rules : List Ru) (n : Sh.Nd) : List Sh.Ed := Sh.edR n.inFrom ((rulesAt S n).zip (flagsAt S l rules n))
noncomputable def edsB (S : Bs) (L : List Sh.Nd) (R : List Sh.Rl) : List Sh.Ed :=
  Sh.eds (newV (L.map ofN) (R.map ofR)) (fun j => match L[j]? with | none => [] | some n => goneEd S (L.map ofN) (R.map ofR) n) L 0
noncomputable def manyAt (L : List Sh.Nd) (R : List Sh.Rl) : Option Nat := (L.zipIdx.find? fun x => tooMany x.1 (lookAt (L.map ofN) (R.map ofR) x.2)).map (·.1.nameEnd)
noncomputable def foldB (S : Bs) : Except (Nat × Nat) Bs := match readB S with
  | .error x => .error x
  | .ok (L, R) => match manyAt L R with
    | some e => .error (5, e)
    | none => if 6000 < (Sh.app S 0 (edsB S L R) S.length).length then .error (4, 0) else .ok (Sh.app S 0 (edsB S L R) S.length)
end Go.Proofs.YtblkldfokeeaeacGreatDoor

namespace Go.Proofs.YtblkldfokeeaeacGreatDoor

/-! ### Read, taken apart -/
def rulesOf (s : Bs) : List Sh.Rl := match Sh.sheetParse s with
  | .error _ => []
  | .ok R => R
theorem rulesAt_sty {S : Bs} {n : Sh.Nd} (h : n.name = Sh.styleL) : rulesAt S n = rulesOf (Sh.sub S n.inFrom n.inTo) := by
  unfold rulesAt rulesOf
  rw [if_pos h]
  all_goals (cases Sh.sheetParse (Sh.sub S n.inFrom n.inTo) <;> rfl)
theorem rulesAt_not {S : Bs} {n : Sh.Nd} (h : n.name ≠ Sh.styleL) : rulesAt S n = [] := if_neg h
theorem rulesOf_ok {s : Bs} {R : List Sh.Rl} (h : Sh.sheetParse s = .ok R) : rulesOf s = R := by unfold rulesOf; rw [h]
def flatR (S : Bs) (L : List Sh.Nd) : List Sh.Rl := L.flatMap fun n => (rulesAt S n).map (shift n.inFrom)
theorem sheets_iff {S : Bs} : ∀ {L : List Sh.Nd} {R : List Sh.Rl}, sheetsB S L = .ok R ↔ R = flatR S L ∧ ∀ n ∈ L, n.name = Sh.styleL → Sh.sheetParse (Sh.sub S n.inFrom n.inTo) = .ok (rulesAt S n)
  | [], R => by
    constructor
    · intro h; injection h with h; exact ⟨h.symm, by simp⟩
    · rintro ⟨h, _⟩; rw [h]; rfl
  | n :: L, R => by
    unfold sheetsB
    by_cases hn : n.name = Sh.styleL
    · rw [if_pos hn]
      cases hs : Sh.sheetParse (Sh.sub S n.inFrom n.inTo) with
      | error x =>
        constructor
        · intro h; cases h
        · rintro ⟨_, h⟩
          have := h n (List.mem_cons_self ..) hn
          rw [hs] at this; cases this
      | ok A =>
        have hA : rulesAt S n = A := by rw [rulesAt_sty hn, rulesOf_ok hs]
        simp only
        cases hq : sheetsB S L with
        | error x =>
          constructor
          · intro h; cases h
          · rintro ⟨_, h⟩
            have := (sheets_iff (S := S) (L := L) (R := flatR S L)).2 ⟨rfl, fun m hm => h m (List.mem_cons_of_mem _ hm)⟩
            rw [hq] at this; cases this
        | ok Q =>
          obtain ⟨h1, h2⟩ := (sheets_iff (S := S) (L := L) (R := Q)).1 hq
          constructor
          · intro h
            injection h with h
            refine ⟨?_, fun m hm hs' => ?_⟩
            · rw [← h, h1]; unfold flatR; rw [List.flatMap_cons, hA]
            · rcases List.mem_cons.1 hm with rfl | hm
              · rw [hs, hA]
              · exact h2 m hm hs'
          · rintro ⟨h, _⟩
            rw [h, h1]; unfold flatR; rw [List.flatMap_cons, hA]
    · rw [if_neg hn]
      have e : flatR S (n :: L) = flatR S L := by unfold flatR; rw [List.flatMap_cons, rulesAt_not hn]; rfl
      rw [e, sheets_iff (S := S) (L := L)]
      constructor
      · rintro ⟨h1, h2⟩
        refine ⟨h1, fun m hm hs' => ?_⟩
        rcases List.mem_cons.1 hm with rfl | hm
        · exact absurd hs' hn
        · exact h2 m hm hs'
      · rintro ⟨h1, h2⟩
        exact ⟨h1, fun m hm => h2 m (List.mem_cons_of_mem _ hm)⟩
theorem wrongR_none : ∀ {R : List Sh.Rl}, wrongR R = none ↔ ∀ r ∈ R, ∃ a, allB (r.decls.map Sh.ofL) = some a
  | [] => by simp [wrongR]
  | r :: R => by
    unfold wrongR
    cases ha : allB (r.decls.map Sh.ofL) with
    | none =>
      constructor
      · intro h; cases h
      · intro h; obtain ⟨a, h⟩ := h r (List.mem_cons_self ..); rw [ha] at h; cases h
    | some a =>
      simp only [Option.isNone_some, Bool.false_eq_true, if_false]
      rw [wrongR_none (R := R)]
      constructor
      · intro h q hq
        rcases List.mem_cons.1 hq with rfl | hq
        · exact ⟨a, ha⟩
        · exact h q hq
      · intro h q hq; exact h q (List.mem_cons_of_mem _ hq)
theorem wrongO_none : ∀ {L : List Sh.Nd}, wrongO L = none ↔ ∀ n ∈ L, declsErr (ownV n) = none
  | [] => by simp [wrongO]
  | n :: L => by
    unfold wrongO
    cases hd : declsErr (ownV n) with
    | some e =>
      constructor
      · intro h; cases h
      · intro h; have := h n (List.mem_cons_self ..); rw [hd] at this; cases this
    | none =>
      simp only
      rw [wrongO_none (L := L)]
      constructor
      · intro h q hq
        rcases List.mem_cons.1 hq with rfl | hq
        · exact hd
        · exact h q hq
      · intro h q hq; exact h q (List.mem_cons_of_mem _ hq)
theorem declsErr_none {s : Bs} : declsErr s = none ↔ ∃ D a, Sh.declsParse s = .ok D ∧ allB (D.map Sh.ofL) = some a := by
  unfold declsErr
  cases hp : Sh.declsParse s with
  | error x =>
    constructor
    · intro h; cases h
    · rintro ⟨D, a, h, _⟩; cases h
  | ok D =>
    simp only
    cases ha : allB (D.map Sh.ofL) with
    | none =>
      constructor
      · intro h; cases h
      · rintro ⟨D', a, h, h'⟩; injection h with h; subst h; rw [ha] at h'; cases h'
    | some a => simp only [Option.isNone_some, Bool.false_eq_true, if_false, true_iff]; exact ⟨D, a, rfl, ha⟩
/-- What Read asks of a page that it tells. -/
structure Rd (S : Bs) (L : List Sh.Nd) (R : List Sh.Rl) : Prop where
  page : Sh.parse S = .ok L
  flat : R = flatR S L
  sheet : ∀ n ∈ L, n.name = Sh.styleL → Sh.sheetParse (Sh.sub S n.inFrom n.inTo) = .ok (rulesAt S n)
  few : R.length ≤ 60
  rule : ∀ r ∈ R, ∃ a, allB (r.decls.map Sh.ofL) = some a
  own : ∀ n ∈ L, ∃ D a, Sh.declsParse (ownV n) = .ok D ∧ allB (D.map Sh.ofL) = some a
theorem read_iff {S : Bs} {L : List Sh.Nd} {R : List Sh.Rl} : readB S = .ok (L, R) ↔ Rd S L R := by
  unfold readB
  constructor
  · intro h
    cases hp : Sh.parse S with
    | error x => rw [hp] at h; cases h
    | ok L0 =>
      rw [hp] at h
      simp only at h
      cases hs : sheetsB S L0 with
      | error x => rw [hs] at h; cases h
      | ok R0 =>
        rw [hs] at h
        simp only at h
        split at h
        · cases h
        · rename_i h60
          cases hw : wrongR R0 with
          | some k => rw [hw] at h; cases h
          | none =>
            rw [hw] at h
            simp only at h
            cases ho : wrongO L0 with
            | some x => rw [ho] at h; cases h
            | none =>
              rw [ho] at h
              injection h with h
              injection h with h1 h2
              subst h1 h2
              obtain ⟨f1, f2⟩ := sheets_iff.1 hs
              exact ⟨hp, f1, f2, by omega, wrongR_none.1 hw, fun n hn => declsErr_none.1 (wrongO_none.1 ho n hn)⟩
  · intro h
    rw [h.page]
    simp only
    rw [sheets_iff.2 ⟨h.flat, h.sheet⟩]
    simp only
    rw [if_neg (by have := h.few; omega), wrongR_none.2 h.rule]
    simp only
    rw [wrongO_none.2 fun n hn => declsErr_none.2 (h.own n hn)]

/-! ### what rules are -/
theorem rule_dcl {n : Nat} {S : Bs} {k m : Nat} {p : List (List Sh.Prt) × List Sh.Dcl} (h : Sh.rule n S k = .ok (p, m)) : p.2.length ≤ 20 ∧ ∀ d ∈ p.2, Sh.DclOK d := by
  unfold Sh.rule Sh.bnd at h
  cases e1 : Sh.aheadOfPart n 60 S k with
  | error x => rw [e1] at h; cases h
  | ok q1 =>
    rw [e1] at h; obtain ⟨u1, k1⟩ := q1; simp only at h
    cases e2 : Sh.selectors S k1 with
    | error x => rw [e2] at h; cases h
    | ok q2 =>
      rw [e2] at h; obtain ⟨l, k2⟩ := q2; simp only at h
      cases e3 : Sh.tok [123] S k2 with
      | error x => rw [e3] at h; cases h
      | ok q3 =>
        rw [e3] at h; obtain ⟨u3, k3⟩ := q3; simp only at h
        cases e4 : Sh.decls S k3 with
        | error x => rw [e4] at h; cases h
        | ok q4 =>
          rw [e4] at h; obtain ⟨d, k4⟩ := q4; simp only at h
          cases e5 : Sh.tok [125] S k4 with
          | error x => rw [e5] at h; cases h
          | ok q5 =>
            rw [e5] at h; obtain ⟨u5, k5⟩ := q5
            have hp : p = (l, d) := by
              have : (.ok ((l, d), k5) : Sh.Res _) = .ok (p, m) := h
              injection this with this
              injection this with this _
              exact this.symm
            subst hp
            unfold Sh.decls Sh.bnd at e4
            cases e6 : Sh.gaps S k3 with
            | error x => rw [e6] at e4; cases e4
            | ok q6 =>
              rw [e6] at e4; obtain ⟨g, k6⟩ := q6
              exact Sh.declsTo_ok 22 [] k6 k4 d (by simp) (by simp) e4
/-- No test of an attribute is of the own style. -/
def TstOk (t : Sh.Tst) : Prop := (t.kind = 4 ∨ t.kind = 5) → t.name ≠ Sh.styleL
theorem opt_cases {α : Type} {t : Bs} {f g : Sh.Pr α} {S : Bs} {k : Nat} {r : α × Nat} (h : Sh.opt t f g S k = .ok r) : f S (k + t.length) = .ok r ∨ g S k = .ok r := by
  unfold Sh.opt at h
  split at h
  · exact .inl h
  · exact .inr h
theorem bnd_cases {α β : Type} {f : Sh.Pr α} {g : α → Sh.Pr β} {S : Bs} {k : Nat} {r : β × Nat} (h : Sh.bnd f g S k = .ok r) : ∃ a k1, f S k = .ok (a, k1) ∧ g a S k1 = .ok r := by
  unfold Sh.bnd at h
  split at h
  · cases h
  · rename_i a k1 e; exact ⟨a, k1, e, h⟩
theorem ret_cases {α : Type} {a b : α} {S : Bs} {k m : Nat} (h : Sh.ret a S k = .ok (b, m)) : a = b := by
  unfold Sh.ret at h
  injection h with h
  injection h
theorem test_ok {S : Bs} {k m : Nat} {t : Sh.Tst} (h : Sh.test S k = .ok (t, m)) : TstOk t := by
  unfold Sh.test at h
  rcases opt_cases h with h | h
  · obtain ⟨n, k1, _, h⟩ := bnd_cases h
    rw [← ret_cases h]; intro hk; simp at hk
  rcases opt_cases h with h | h
  · obtain ⟨n, k1, _, h⟩ := bnd_cases h
    rw [← ret_cases h]; intro hk; simp at hk
  rcases opt_cases h with h | h
  · rw [← ret_cases h]; intro hk; simp at hk
  rcases opt_cases h with h | h
  · unfold Sh.attrTest at h
    obtain ⟨n, k1, _, h⟩ := bnd_cases h
    split at h
    · simp [Sh.bad] at h
    · rename_i hn
      obtain ⟨q, k2, h1, h⟩ := bnd_cases h
      obtain ⟨_, k3, _, h⟩ := bnd_cases h
      rw [← ret_cases h]
      rcases opt_cases h1 with h1 | h1
      · obtain ⟨v, k4, _, h1⟩ := bnd_cases h1
        rw [← ret_cases h1]; exact fun _ => hn
      · rw [← ret_cases h1]; exact fun _ => hn
  · rw [← ret_cases h]; intro hk; simp at hk
theorem testsTo_ok {S : Bs} : ∀ (f : Nat) (l : List Sh.Tst) (k m : Nat) (l' : List Sh.Tst), (∀ t ∈ l, TstOk t) → Sh.testsTo f l S k = .ok (l', m) → ∀ t ∈ l', TstOk t
  | 0, l, k, m, l', _, h => by simp [Sh.testsTo, Sh.bad] at h
  | f + 1, l, k, m, l', hl, h => by
    unfold Sh.testsTo at h
    obtain ⟨t, k1, h1, h⟩ := bnd_cases h
    split at h
    · rw [← ret_cases h]; exact hl
    · split at h
      · simp [Sh.bad] at h
      · refine testsTo_ok f _ k1 m l' (fun x hx => ?_) h
        rcases List.mem_append.1 hx with hx | hx
        · exact hl x hx
        · rw [List.mem_singleton.1 hx]; exact test_ok h1
theorem part_ok {S : Bs} {j k m : Nat} {p : Sh.Prt} (h : Sh.part j S k = .ok (p, m)) : ∀ t ∈ p.tests, TstOk t := by
  unfold Sh.part at h
  obtain ⟨l, k1, h1, h⟩ := bnd_cases h
  obtain ⟨l2, k2, h2, h⟩ := bnd_cases h
  rw [← ret_cases h]
  refine testsTo_ok 8 l k1 k2 l2 (fun t ht => ?_) h2
  unfold Sh.partHead at h1
  rcases opt_cases h1 with h1 | h1
  · rw [← ret_cases h1] at ht; cases ht
  · unfold Sh.fits at h1
    split at h1
    · obtain ⟨n, k3, _, h1⟩ := bnd_cases h1
      rw [← ret_cases h1] at ht
      rw [List.mem_singleton.1 ht]; intro hk; simp at hk
    · rw [← ret_cases h1] at ht; cases ht
def PrtsOk (l : List Sh.Prt) : Prop := ∀ p ∈ l, ∀ t ∈ p.tests, TstOk t
theorem selectorTo_ok {S : Bs} : ∀ (f j : Nat) (l : List Sh.Prt) (k m : Nat) (l' : List Sh.Prt), PrtsOk l → Sh.selectorTo f j l S k = .ok (l', m) → PrtsOk l'
  | 0, j, l, k, m, l', _, h => by simp [Sh.selectorTo, Sh.bad] at h
  | f + 1, j, l, k, m, l', hl, h => by
    unfold Sh.selectorTo at h
    obtain ⟨_, k1, _, h⟩ := bnd_cases h
    obtain ⟨p, k2, h2, h⟩ := bnd_cases h
    obtain ⟨q, k3, _, h⟩ := bnd_cases h
    have hn : PrtsOk (l ++ [p]) := fun x hx => by
      rcases List.mem_append.1 hx with hx | hx
      · exact hl x hx
      · rw [List.mem_singleton.1 hx]; exact part_ok h2
    split at h
    · exact selectorTo_ok f _ _ k3 m l' hn h
    · rw [← ret_cases h]; exact hn
theorem selectorsTo_ok {S : Bs} : ∀ (f : Nat) (l : List (List Sh.Prt)) (k m : Nat) (l' : List (List Sh.Prt)), (∀ s ∈ l, PrtsOk s) → Sh.selectorsTo f l S k = .ok (l', m) → ∀ s ∈ l', PrtsOk s
  | 0, l, k, m, l', _, h => by simp [Sh.selectorsTo, Sh.bad] at h
  | f + 1, l, k, m, l', hl, h => by
    unfold Sh.selectorsTo at h
    obtain ⟨_, k1, _, h⟩ := bnd_cases h
    obtain ⟨p, k2, h2, h⟩ := bnd_cases h
    have hn : ∀ s ∈ l ++ [p], PrtsOk s := fun x hx => by
      rcases List.mem_append.1 hx with hx | hx
      · exact hl x hx
      · rw [List.mem_singleton.1 hx]; exact selectorTo_ok 8 0 [] k1 k2 p (fun _ h => by cases h) h2
    rcases opt_cases h with h | h
    · obtain ⟨_, k3, _, h⟩ := bnd_cases h
      exact selectorsTo_ok f _ k3 m l' hn h
    · rw [← ret_cases h]; exact hn
theorem rule_sel {n : Nat} {S : Bs} {k m : Nat} {p : List (List Sh.Prt) × List Sh.Dcl} (h : Sh.rule n S k = .ok (p, m)) : ∀ s ∈ p.1, PrtsOk s := by
  unfold Sh.rule at h
  obtain ⟨_, k1, _, h⟩ := bnd_cases h
  obtain ⟨l, k2, h2, h⟩ := bnd_cases h
  obtain ⟨_, k3, _, h⟩ := bnd_cases h
  obtain ⟨d, k4, _, h⟩ := bnd_cases h
  obtain ⟨_, k5, _, h⟩ := bnd_cases h
  rw [← ret_cases h]
  exact selectorsTo_ok 10 [] k1 k2 l (fun _ h => by cases h) h2
structure RlOk (r : Sh.Rl) : Prop where
  few : r.decls.length ≤ 20
  dcl : ∀ d ∈ r.decls, Sh.DclOK d
  sel : ∀ s ∈ r.sels, PrtsOk s
theorem sheet_ok {s : Bs} {A : List Sh.Rl} (h : Sh.sheetParse s = .ok A) : ∀ r ∈ A, RlOk r := fun r hr => by
  obtain ⟨_, _, _, n, hn⟩ := (Sh.sheet_few h).2.1.mem r hr
  have h1 := rule_dcl hn
  exact ⟨h1.1, h1.2, rule_sel hn⟩
theorem Rd.rlOk {S : Bs} {L : List Sh.Nd} {R : List Sh.Rl} (h : Rd S L R) : ∀ r ∈ R, RlOk r := fun r hr => by
  rw [h.flat] at hr
  obtain ⟨n, hn, hr⟩ := List.mem_flatMap.1 hr
  obtain ⟨q, hq, rfl⟩ := List.mem_map.1 hr
  by_cases hs : n.name = Sh.styleL
  · have := sheet_ok (h.sheet n hn hs) q hq
    exact ⟨this.few, this.dcl, this.sel⟩
  · rw [rulesAt_not hs] at hq; cases hq
end Go.Proofs.YtblkldfokeeaeacGreatDoor

namespace Go.Proofs.YtblkldfokeeaeacGreatDoor

/-! ### own styles -/
theorem bsL_inj {a b : Bs} (h : bsL a = bsL b) : a = b := by
  unfold bsL at h
  injection h with h
  exact (Array.toList_inj.2 h)
theorem bsL_data (a : Bs) : (bsL a).data.toList = a := rfl
theorem bsL_toList (a : Bs) : (bsL a).toList = a := by rw [Lib.toList_data]; rfl
def ownD (n : Sh.Nd) : List Dc := match Sh.declsParse (ownV n) with
  | .error _ => []
  | .ok D => (allB (D.map Sh.ofL)).getD []
theorem getA_find (x : ByteArray) : ∀ l : List Sh.Atr, getA x (l.map ofA) = (l.find? fun a => a.name == x.data.toList).map fun a => bsL a.val
  | [] => rfl
  | a :: l => by
    show (if (bsL a.name).toList == x.toList then some (bsL a.val) else getA x (l.map ofA)) = _
    rw [bsL_toList, Lib.toList_data, List.find?_cons]
    cases h : a.name == x.data.toList
    · simp only [Bool.false_eq_true, if_false]
      exact getA_find x l
    · simp
theorem own_get (n : Sh.Nd) : (getA styleN (ofN n).attrs).getD ⟨#[]⟩ = bsL (ownV n) := by
  show (getA styleN (n.attrs.map ofA)).getD ⟨#[]⟩ = _
  rw [getA_find]
  unfold ownV ownA
  show ((n.attrs.find? fun a => a.name == Sh.styleL).map _).getD _ = _
  cases n.attrs.find? fun a => a.name == Sh.styleL <;> rfl
theorem own_claims {n : Sh.Nd} (h : ∃ D a, Sh.declsParse (ownV n) = .ok D ∧ allB (D.map Sh.ofL) = some a) : ownC styF (ofN n) = .ok (asC true w00 (ownD n)) := by
  obtain ⟨D, a, h1, h2⟩ := h
  unfold ownC
  rw [own_get]
  unfold styF ownD
  rw [bsL_data, h1]
  simp only [h2]
  rfl

/-! ### claims -/
def ruCl (l : List Nd) (k : Int) (media : List ByteArray) (r : Ru) : List Cl := (ruleC l k media r).getD []
theorem ruleC_some {l : List Nd} {k : Int} {media : List ByteArray} {r : Ru} (h : ∃ a, allB r.decls = some a) : ruleC l k media r = some (ruCl l k media r) := by
  obtain ⟨a, h⟩ := h
  unfold ruCl ruleC
  split
  · rw [h]; rfl
  · rfl
theorem rulesC_flat {l : List Nd} {k : Int} {media : List ByteArray} : ∀ {Q : List Ru}, (∀ r ∈ Q, ∃ a, allB r.decls = some a) → rulesC l k media Q = some (Q.flatMap (ruCl l k media))
  | [], _ => rfl
  | r :: Q, h => by
    show (ruleC l k media r).bind (fun x => (rulesC l k media Q).map (x ++ ·)) = _
    rw [ruleC_some (h r (List.mem_cons_self ..)), rulesC_flat (fun q hq => h q (List.mem_cons_of_mem _ hq))]
    rfl
theorem ruCl_mem {l : List Nd} {k : Int} {media : List ByteArray} {r : Ru} {c : Cl} (h : c ∈ ruCl l k media r) : (bestB l k r.sels).2 = true ∧ ∃ a, allB r.decls = some a ∧ c.d ∈ a := by
  unfold ruCl ruleC at h
  split at h
  · rename_i hc
    cases ha : allB r.decls with
    | none => rw [ha] at h; cases h
    | some a =>
      rw [ha] at h
      obtain ⟨d, hd, rfl⟩ := List.mem_map.1 (show c ∈ asC false (bestB l k r.sels).1 a from h)
      exact ⟨(Bool.and_eq_true_iff.1 hc).2, a, rfl, hd⟩
  · cases h
theorem claims_ok {l : List Nd} {k : Nat} {media : List ByteArray} {Q : List Ru} {O : List Dc} (hk : k < l.length) (hq : ∀ r ∈ Q, ∃ a, allB r.decls = some a) (ho : ownC styF (ndAt l k) = .ok (asC true w00 O)) :
    claimsB styF l k Q media = .ok (Q.flatMap (ruCl l k media) ++ asC true w00 O) := by
  have hin : inB l (k : Int) = true := by unfold inB; simp; omega
  unfold claimsB
  rw [if_pos hin, rulesC_flat hq, show ((k : Int).toNat) = k from rfl, ho]
variable {S : Bs} {L : List Sh.Nd} {R : List Sh.Rl}
theorem nd_map {k : Nat} (hk : k < L.length) : ndAt (L.map ofN) k = ofN L[k] := by
  rw [ndAt_eq (by simpa using hk)]; simp
theorem Rd.decls (h : Rd S L R) : ∀ r ∈ R.map ofR, ∃ a, allB r.decls = some a := fun r hr => by
  obtain ⟨q, hq, rfl⟩ := List.mem_map.1 hr
  exact h.rule q hq
theorem Rd.claims (h : Rd S L R) {k : Nat} (hk : k < L.length) (media : List ByteArray) {Q : List Ru} (hQ : ∀ r ∈ Q, r ∈ R.map ofR) :
    claimsB styF (L.map ofN) k Q media = .ok (Q.flatMap (ruCl (L.map ofN) k media) ++ asC true w00 (ownD L[k])) :=
  claims_ok (by simpa using hk) (fun r hr => h.decls r (hQ r hr)) (by rw [nd_map hk]; exact own_claims (h.own _ (List.getElem_mem hk)))
theorem goes_sub {l : List Nd} {rs : List Ru} : ∀ r ∈ goesB l rs, r ∈ rs := fun _ hr => (List.mem_filter.1 hr).1
theorem Rd.look (h : Rd S L R) {k : Nat} (hk : k < L.length) :
    lookAt (L.map ofN) (R.map ofR) k = lookOf ((goesB (L.map ofN) (R.map ofR)).flatMap (ruCl (L.map ofN) k []) ++ asC true w00 (ownD L[k])) := by
  unfold lookAt
  rw [h.claims hk [] goes_sub]
  rfl
theorem look_out {l : List Nd} {rs : List Ru} {k : Nat} (hk : l.length ≤ k) : lookAt l rs k = [] := by
  unfold lookAt claimsB
  have : inB l (k : Int) = false := by unfold inB; simp; omega
  rw [this]
  rfl
/-- Of what is declared each was claimed. -/
theorem look_mem {cs : List Cl} {d : Dc} (h : d ∈ lookOf cs) : ∃ c ∈ cs, c.d = d := by
  obtain ⟨n, _, hn⟩ := List.mem_filterMap.1 h
  unfold lookF at hn
  cases hw : win n cs with
  | none => rw [hw] at hn; cases hn
  | some c => rw [hw] at hn; injection hn with hn; exact ⟨c, (win_name hw).1, hn⟩
structure Plain (d : Dc) : Prop where
  ok : Sh.DclOK (Sh.toL d)
  pl : isE d = false
theorem own_plain {n : Sh.Nd} : ∀ d ∈ ownD n, Plain d := fun d hd => by
  unfold ownD at hd
  cases hp : Sh.declsParse (ownV n) with
  | error x => rw [hp] at hd; cases hd
  | ok D =>
    rw [hp] at hd
    simp only at hd
    cases ha : allB (D.map Sh.ofL) with
    | none => rw [ha] at hd; cases hd
    | some a =>
      rw [ha] at hd
      refine ⟨Sh.all_ok (fun e he => ?_) ha d hd, allB_plain ha d hd⟩
      obtain ⟨x, hx, rfl⟩ := List.mem_map.1 he
      rw [Sh.toL_ofL]
      exact (Sh.declsParse_ok hp).2 x hx
theorem cl_plain (h : Rd S L R) {k : Int} {media : List ByteArray} {r : Ru} (hr : r ∈ R.map ofR) : ∀ c ∈ ruCl (L.map ofN) k media r, Plain c.d := fun c hc => by
  obtain ⟨_, a, ha, hd⟩ := ruCl_mem hc
  obtain ⟨q, hq, rfl⟩ := List.mem_map.1 hr
  refine ⟨Sh.all_ok (fun e he => ?_) ha _ hd, allB_plain ha _ hd⟩
  obtain ⟨x, hx, rfl⟩ := List.mem_map.1 he
  rw [Sh.toL_ofL]
  exact (h.rlOk q hq).dcl x hx
theorem Rd.plain (h : Rd S L R) (k : Nat) : ∀ d ∈ lookAt (L.map ofN) (R.map ofR) k, Plain d := fun d hd => by
  by_cases hk : k < L.length
  · rw [h.look hk] at hd
    obtain ⟨c, hc, rfl⟩ := look_mem hd
    rcases List.mem_append.1 hc with hc | hc
    · obtain ⟨r, hr, hc⟩ := List.mem_flatMap.1 hc
      exact cl_plain h (goes_sub r hr) c hc
    · obtain ⟨x, hx, rfl⟩ := List.mem_map.1 hc
      exact own_plain x hx
  · rw [look_out (by simpa using hk)] at hd; cases hd
theorem Rd.newV (h : Rd S L R) (k : Nat) : ∀ b ∈ YtblkldfokeeaeacGreatDoor.newV (L.map ofN) (R.map ofR) k, Sh.valueB b = true :=
  Sh.print_bytes fun d hd => by
    obtain ⟨x, hx, rfl⟩ := List.mem_map.1 hd
    exact (h.plain k x hx).ok
theorem map_ofL (L : List Dc) : (L.map Sh.toL).map Sh.ofL = L := by
  rw [List.map_map]
  conv => rhs; rw [← List.map_id L]
  refine List.map_congr_left fun d _ => Sh.ofL_toL d
/-- What is printed is read, and is plain. -/
theorem Rd.turn (h : Rd S L R) {k : Nat} (h20 : (lookAt (L.map ofN) (R.map ofR) k).length ≤ 20) :
    Sh.declsParse (YtblkldfokeeaeacGreatDoor.newV (L.map ofN) (R.map ofR) k) = .ok ((lookAt (L.map ofN) (R.map ofR) k).map Sh.toL) ∧ allB (((lookAt (L.map ofN) (R.map ofR) k).map Sh.toL).map Sh.ofL) = some (lookAt (L.map ofN) (R.map ofR) k) := by
  refine ⟨(Sh.read_print (by simpa using h20) fun d hd => ?_).1, ?_⟩
  · obtain ⟨x, hx, rfl⟩ := List.mem_map.1 hd
    exact (h.plain k x hx).ok
  · rw [map_ofL]
    exact plain_allB fun y hy => (h.plain k y hy).pl
end Go.Proofs.YtblkldfokeeaeacGreatDoor

namespace Go.Proofs.YtblkldfokeeaeacGreatDoor

/-! ### where sheets stand -/
theorem nodes_len {S : Bs} : ∀ (t : Sh.Tr) (k : Nat) (p : Int) (i d : Nat) (Q : Bs), Sh.Ok d t → S.drop k = Sh.text t ++ Q → ∀ n ∈ Sh.nodes k p i t, n.name = Sh.styleL → n.inTo = n.inFrom + (Sh.sub S n.inFrom n.inTo).length
  | .nil, _, _, _, _, _, _, _ => fun n hn => by cases hn
  | .txt b r, k, p, i, d, Q, ho, h => nodes_len r (k + 1) p i d Q ho.2 (Sh.drop_on (a := [b]) h)
  | .note c r, k, p, i, d, Q, ho, h => fun n hn => by
    have h0 : S.drop k = ([60, 33, 45, 45] ++ c ++ [45, 45, 62]) ++ (Sh.text r ++ Q) := by rw [h]; simp [Sh.text]
    have h1 := Sh.drop_on h0
    have e : k + ([60, 33, 45, 45] ++ c ++ [45, 45, 62]).length = k + 7 + c.length := by simp; omega
    rw [e] at h1
    exact nodes_len r (k + 7 + c.length) p i d Q ho.2 h1 n hn
  | .sty l s r, k, p, i, d, Q, ho, h => fun n hn hs => by
    have h0 : S.drop k = Sh.first2 Sh.styleL l ++ (s ++ (Sh.lastTag Sh.styleL ++ (Sh.text r ++ Q))) := by rw [h]; simp [Sh.text]
    have h1 := Sh.drop_on h0
    have h2 := Sh.drop_on h1
    have h3 := Sh.drop_on h2
    rcases List.mem_cons.1 hn with rfl | hn
    · show k + (Sh.first2 Sh.styleL l).length + s.length = k + (Sh.first2 Sh.styleL l).length + (Sh.sub S (k + (Sh.first2 Sh.styleL l).length) (k + (Sh.first2 Sh.styleL l).length + s.length)).length
      rw [Sh.sub_of h1]
    · exact nodes_len r _ p (i + 1) d Q ho.2.2.2 h3 n hn hs
  | .el m l t r, k, p, i, d, Q, ho, h => fun n hn hs => by
    have h0 : S.drop k = Sh.first2 m l ++ (Sh.text t ++ (Sh.lastTag m ++ (Sh.text r ++ Q))) := by rw [h]; simp [Sh.text]
    have h1 := Sh.drop_on h0
    have h2 := Sh.drop_on h1
    have h3 := Sh.drop_on h2
    rcases List.mem_cons.1 hn with rfl | hn
    · exact absurd hs ho.2.2.1
    · rcases List.mem_append.1 hn with hn | hn
      · exact nodes_len t _ i (i + 1) (d + 1) _ ho.2.2.2.2.1 h1 n hn hs
      · exact nodes_len r _ p (i + 1 + Sh.count t) d Q ho.2.2.2.2.2 h3 n hn hs

/-! ### element by element -/
theorem flat_inn {β : Type} {S : Bs} {t : Sh.Tr} {L : List Sh.Nd} (ho : Sh.Ok 1 t) (hS : S = Sh.text t) (hL : L = Sh.nodes 0 (-1) 0 t) (f : Nat → Bs → List β) :
    (Sh.inn 0 t).flatMap (fun x => f x.1 x.2) = L.zipIdx.flatMap fun y => if y.1.name = Sh.styleL then f y.2 (Sh.sub S y.1.inFrom y.1.inTo) else [] := by
  have h := Sh.nodes_inn (S := S) t 0 (-1) 0 1 [] ho (by rw [hS]; simp)
  rw [← hL] at h
  rw [← h]
  generalize L.zipIdx 0 = Z
  induction Z with
  | nil => rfl
  | cons y Z ih =>
    rw [List.filterMap_cons, List.flatMap_cons, ← ih]
    unfold Sh.atSty
    by_cases hy : y.1.name = Sh.styleL
    · rw [if_pos hy, if_pos hy]; rfl
    · rw [if_neg hy, if_neg hy]; rfl
theorem zip_flat {α β : Type} (f : α → List β) : ∀ (L : List α) (i : Nat), (L.zipIdx i).flatMap (fun y => f y.1) = L.flatMap f
  | [], _ => rfl
  | a :: L, i => by rw [List.zipIdx_cons, List.flatMap_cons, List.flatMap_cons, zip_flat f L (i + 1)]
theorem zip_mem {α : Type} {L : List α} {x : α × Nat} (h : x ∈ L.zipIdx) : L[x.2]? = some x.1 := by
  have := List.mem_zipIdx_iff_getElem?.1 h
  simpa using this
theorem flat_congr {α β : Type} {f g : α → List β} : ∀ {l : List α}, (∀ x ∈ l, f x = g x) → l.flatMap f = l.flatMap g
  | [], _ => rfl
  | a :: l, h => by rw [List.flatMap_cons, List.flatMap_cons, h a (List.mem_cons_self ..), flat_congr fun x hx => h x (List.mem_cons_of_mem _ hx)]
/-- Those of a sheet that stay. -/
def keepF (z : List (Sh.Rl × Bool)) : List Sh.Rl := (z.filter (·.2)).map fun y => Sh.bare y.1
theorem bare_shift (o : Nat) (r : Sh.Rl) : Sh.bare (shift o r) = Sh.bare r := rfl
theorem flat_bare {S : Bs} {t : Sh.Tr} {L : List Sh.Nd} (ho : Sh.Ok 1 t) (hS : S = Sh.text t) (hL : L = Sh.nodes 0 (-1) 0 t) : (flatR S L).map Sh.bare = (Sh.inn 0 t).flatMap fun x => (rulesOf x.2).map Sh.bare := by
  rw [flat_inn ho hS hL (fun _ s => (rulesOf s).map Sh.bare)]
  unfold flatR
  rw [List.map_flatMap, ← zip_flat _ L 0]
  refine congrArg (fun f => List.flatMap f (L.zipIdx 0)) (funext fun y => ?_)
  rw [List.map_map]
  have hc : Sh.bare ∘ shift y.1.inFrom = Sh.bare := funext fun r => bare_shift _ r
  rw [hc]
  by_cases hy : y.1.name = Sh.styleL
  · rw [if_pos hy, rulesAt_sty hy]
  · rw [if_neg hy, rulesAt_not hy]; rfl

/-! ### what stays, sheet by sheet -/
theorem filter_zip {α : Type} (st : α → Bool) : ∀ A : List α, ((A.zip (A.map st)).filter (·.2)).map (·.1) = A.filter st
  | [] => rfl
  | a :: A => by
    have ih := filter_zip st A
    rw [List.map_cons, List.zip_cons_cons, List.filter_cons, List.filter_cons]
    cases st a
    · simpa using ih
    · simpa using ih
theorem keep_zip (st : Sh.Rl → Bool) (A : List Sh.Rl) : keepF (A.zip (A.map st)) = (A.filter st).map Sh.bare := by
  rw [← filter_zip st A, List.map_map]
  rfl
theorem filter_shift (o : Nat) (st : Sh.Rl → Bool) : ∀ A : List Sh.Rl, ((A.map (shift o)).filter st).map Sh.bare = (A.filter fun r => st (shift o r)).map Sh.bare
  | [] => rfl
  | a :: A => by
    have ih := filter_shift o st A
    rw [List.map_cons, List.filter_cons, List.filter_cons]
    cases st (shift o a)
    · simpa using ih
    · simp [ih, bare_shift]

theorem flat_filter (S : Bs) (L : List Sh.Nd) (st : Sh.Rl → Bool) : ((flatR S L).filter st).map Sh.bare = L.zipIdx.flatMap fun y => ((rulesAt S y.1).filter fun r => st (shift y.1.inFrom r)).map Sh.bare := by
  unfold flatR
  rw [List.filter_flatMap, List.map_flatMap, ← zip_flat _ L 0]
  exact flat_congr fun y _ => filter_shift _ _ _

/-! ### the own style -/
theorem own_sty (n : Sh.Nd) : ownV n = Sh.styOf (Sh.vw n).ats := by
  unfold ownV ownA Sh.styOf Sh.vw
  rw [List.find?_map]
  have e : (Sh.isSty ∘ fun a : Sh.Atr => (a.name, a.val)) = fun a : Sh.Atr => a.name == Sh.styleL := rfl
  rw [e]
  cases n.attrs.find? fun a : Sh.Atr => a.name == Sh.styleL <;> rfl
theorem any_vw (n : Sh.Nd) : (Sh.vw n).ats.any Sh.isSty = n.attrs.any fun a => a.name == Sh.styleL := by
  unfold Sh.vw
  rw [List.any_map]
  rfl

theorem views_apart : ∀ (t : Sh.Tr) (p : Int) (i d : Nat), Sh.Ok d t → ∀ v ∈ Sh.views p i t, v.ats.Pairwise (fun a b => a.1 ≠ b.1) := by
  intro t
  induction t with
  | nil => intro p i d _ v hv; cases hv
  | txt b r ih => intro p i d ho v hv; exact ih p i d ho.2 v hv
  | note c r ih => intro p i d ho v hv; exact ih p i d ho.2 v hv
  | sty l s r ih =>
    intro p i d ho v hv
    rcases List.mem_cons.1 hv with rfl | hv
    · exact ho.2.1.apart
    · exact ih p (i + 1) d ho.2.2.2 v hv
  | el n l t r ih1 ih2 =>
    intro p i d ho v hv
    rcases List.mem_cons.1 hv with rfl | hv
    · exact ho.2.2.2.1.apart
    · rcases List.mem_append.1 hv with hv | hv
      · exact ih1 i (i + 1) (d + 1) ho.2.2.2.2.1 v hv
      · exact ih2 p _ d ho.2.2.2.2.2 v hv

/-- A page that was folded, and what it came of. -/
structure Fd (S T : Bs) (L : List Sh.Nd) (R : List Sh.Rl) (L' : List Sh.Nd) (R' : List Sh.Rl) (t : Sh.Tr) : Prop where
  read : Rd S L R
  again : Rd T L' R'
  ok : Sh.Ok 1 t
  src : S = Sh.text t
  nds : L = Sh.nodes 0 (-1) 0 t
  view : L'.map Sh.vw = (L.map Sh.vw).zipIdx.map (Sh.reAts (newV (L.map ofN) (R.map ofR)))
  stay : R'.map Sh.bare = (R.filter fun r => stayB (L.map ofN) (R.map ofR) (ofR r)).map Sh.bare
  few : ∀ k, k < L.length → (lookAt (L.map ofN) (R.map ofR) k).length ≤ 20
  out : T = Sh.text (Sh.edit (newV (L.map ofN) (R.map ofR)) (Sh.newIn (fun j => match L[j]? with | none => [] | some n => rulesAt S n) (fun j => match L[j]? with | none => [] | some n => flagsAt S (L.map ofN) (R.map ofR) n)) 0 t)
  nds' : L' = Sh.nodes 0 (-1) 0 (Sh.edit (newV (L.map ofN) (R.map ofR)) (Sh.newIn (fun j => match L[j]? with | none => [] | some n => rulesAt S n) (fun j => match L[j]? with | none => [] | some n => flagsAt S (L.map ofN) (R.map ofR) n)) 0 t)
  ok' : Sh.Ok 1 (Sh.edit (newV (L.map ofN) (R.map ofR)) (Sh.newIn (fun j => match L[j]? with | none => [] | some n => rulesAt S n) (fun j => match L[j]? with | none => [] | some n => flagsAt S (L.map ofN) (R.map ofR) n)) 0 t)
  few6 : T.length ≤ 6000
  len : L'.length = L.length
  own' : ∀ k (h : k < L'.length), ownV L'[k] = newV (L.map ofN) (R.map ofR) k
theorem many_none {L : List Sh.Nd} {R : List Sh.Rl} : manyAt L R = none ↔ ∀ x ∈ L.zipIdx, tooMany x.1 (lookAt (L.map ofN) (R.map ofR) x.2) = false := by
  unfold manyAt
  rw [Option.map_eq_none_iff, List.find?_eq_none]
  constructor
  · intro h x hx; simpa using h x hx
  · intro h x hx; simpa using h x hx
theorem text_fold {S : Bs} {L : List Sh.Nd} {R : List Sh.Rl} (hr : Rd S L R) {t : Sh.Tr} (ho : Sh.Ok 1 t) (hS : S = Sh.text t) (hL : L = Sh.nodes 0 (-1) 0 t) :
    Sh.Within 0 (edsB S L R) S.length ∧ Sh.app S 0 (edsB S L R) S.length = Sh.text (Sh.edit (newV (L.map ofN) (R.map ofR)) (Sh.newIn (fun j => match L[j]? with | none => [] | some n => rulesAt S n) (fun j => match L[j]? with | none => [] | some n => flagsAt S (L.map ofN) (R.map ofR) n)) 0 t) := by
  have h := Sh.text_edit (S := S) (newV (L.map ofN) (R.map ofR)) (Sh.newIn (fun j => match L[j]? with | none => [] | some n => rulesAt S n) (fun j => match L[j]? with | none => [] | some n => flagsAt S (L.map ofN) (R.map ofR) n))
    (fun j => match L[j]? with | none => [] | some n => goneEd S (L.map ofN) (R.map ofR) n) t 0 (-1) 0 1 [] ho (by rw [hS]; simp) (fun x hx hs => by
      rw [← hL] at hx
      have hx2 := zip_mem hx
      have hmem : x.1 ∈ L := List.mem_of_getElem? hx2
      simp only [hx2]
      have hp := hr.sheet x.1 hmem hs
      have hn := nodes_len (S := S) t 0 (-1) 0 1 [] ho (by rw [hS]; simp) x.1 (by rw [← hL]; exact hmem) hs
      have hg := Sh.gone_app (S := S) (s := Sh.sub S x.1.inFrom x.1.inTo) (o := x.1.inFrom) (by rw [← hn]) (k := 0) (flagsAt S (L.map ofN) (R.map ofR) x.1) (Sh.sheet_few hp).2.1 (Nat.zero_le _)
      rw [← hn] at hg
      simp only [Nat.add_zero] at hg
      refine ⟨hg.1, ?_⟩
      rw [show goneEd S (L.map ofN) (R.map ofR) x.1 = Sh.edR x.1.inFrom ((rulesAt S x.1).zip (flagsAt S (L.map ofN) (R.map ofR) x.1)) from rfl, hg.2]
      unfold Sh.newIn
      simp only [hx2])
  rw [Nat.zero_add, ← hS, ← hL] at h
  exact h
theorem fold_read {S T : Bs} {L : List Sh.Nd} {R : List Sh.Rl} (hr : Rd S L R) (hm : manyAt L R = none) (hT : T = Sh.app S 0 (edsB S L R) S.length) (h6 : T.length ≤ 6000) : ∃ L' R' t, Fd S T L R L' R' t := by
  obtain ⟨t, ho, hS, hL, hc, hl⟩ := Sh.parse_tree hr.page
  have hlen : L.length = Sh.count t := by rw [hL, Sh.nodes_len]
  have htext := text_fold hr ho hS hL
  have hmany := many_none.1 hm
  have hviews : Sh.views (-1) 0 t = L.map Sh.vw := by rw [hL, Sh.nodes_views]
  have hinn : ∀ x ∈ Sh.inn 0 t, ∃ n, L[x.1]? = some n ∧ n.name = Sh.styleL ∧ x.2 = Sh.sub S n.inFrom n.inTo := fun x hx => by
    rw [← Sh.nodes_inn (S := S) t 0 (-1) 0 1 [] ho (by rw [hS]; simp), ← hL] at hx
    obtain ⟨y, hy, hyx⟩ := List.mem_filterMap.1 hx
    unfold Sh.atSty at hyx
    split at hyx
    · rename_i hs
      injection hyx with hyx
      subst hyx
      exact ⟨y.1, zip_mem hy, hs, rfl⟩
    · cases hyx
  have h20 : ∀ k, k < L.length → (lookAt (L.map ofN) (R.map ofR) k).length ≤ 20 := fun k hk => by
    have := hmany (L[k], k) (List.mem_zipIdx_iff_getElem?.2 (by simp [hk]))
    unfold tooMany at this
    simp only [Bool.or_eq_false_iff, decide_eq_false_iff_not] at this
    omega
  obtain ⟨f1, f2, f3, f4⟩ := Sh.fold_tree (v := newV (L.map ofN) (R.map ofR)) (A := fun j => match L[j]? with | none => [] | some n => rulesAt S n) (F := fun j => match L[j]? with | none => [] | some n => flagsAt S (L.map ofN) (R.map ofR) n) (t := t) ho hc
    (fun x hx => by
      obtain ⟨n, h1, h2, h3⟩ := hinn x hx
      simp only [h1]
      rw [h3]
      exact hr.sheet n (List.mem_of_getElem? h1) h2)
    (fun x hx => by
      obtain ⟨n, h1, h2, h3⟩ := hinn x hx
      simp only [h1]
      unfold flagsAt
      rw [List.length_map])
    (fun i => hr.newV i)
    (fun x hx => by
      rw [hviews, List.zipIdx_map] at hx
      obtain ⟨y, hy, rfl⟩ := List.mem_map.1 hx
      show newV _ _ y.2 = [] ∨ (Sh.vw y.1).ats.any Sh.isSty = true ∨ (Sh.vw y.1).ats.length < 8
      have := hmany y hy
      unfold tooMany at this
      simp only [Bool.or_eq_false_iff, Bool.and_eq_false_iff, decide_eq_false_iff_not, Bool.not_eq_false'] at this
      rcases this.2 with (h | h) | h
      · left
        have : lookAt (L.map ofN) (R.map ofR) y.2 = [] := List.length_eq_zero_iff.1 (by omega)
        unfold newV printD
        rw [this]; rfl
      · right; left
        rw [any_vw]; exact h
      · right; right
        unfold Sh.vw
        rw [List.length_map]; omega)
    (by rw [← htext.2, ← hT]; exact h6)
  rw [← htext.2, ← hT] at f1
  have f3' : (Sh.nodes 0 (-1) 0 (Sh.edit (newV (L.map ofN) (R.map ofR)) (Sh.newIn (fun j => match L[j]? with | none => [] | some n => rulesAt S n) (fun j => match L[j]? with | none => [] | some n => flagsAt S (L.map ofN) (R.map ofR) n)) 0 t)).map Sh.vw = (L.map Sh.vw).zipIdx.map (Sh.reAts (newV (L.map ofN) (R.map ofR))) := by
    rw [f3, hviews]
  have hT' : T = Sh.text (Sh.edit (newV (L.map ofN) (R.map ofR)) (Sh.newIn (fun j => match L[j]? with | none => [] | some n => rulesAt S n) (fun j => match L[j]? with | none => [] | some n => flagsAt S (L.map ofN) (R.map ofR) n)) 0 t) := by rw [← htext.2, ← hT]
  generalize hLL : Sh.nodes 0 (-1) 0 (Sh.edit (newV (L.map ofN) (R.map ofR)) (Sh.newIn (fun j => match L[j]? with | none => [] | some n => rulesAt S n) (fun j => match L[j]? with | none => [] | some n => flagsAt S (L.map ofN) (R.map ofR) n)) 0 t) = L' at f1 f3'
  have hin' := Sh.nodes_inn (S := T) _ 0 (-1) 0 1 [] f2 (by rw [← hT']; simp)
  rw [hLL, Sh.inn_edit] at hin'
  have hsh : ∀ n ∈ L', n.name = Sh.styleL → Sh.sheetParse (Sh.sub T n.inFrom n.inTo) = .ok (rulesAt T n) := fun n hn hs => by
    obtain ⟨k, hk, rfl⟩ := List.getElem_of_mem hn
    have : (k, Sh.sub T L'[k].inFrom L'[k].inTo) ∈ (L'.zipIdx 0).filterMap (Sh.atSty T) :=
      List.mem_filterMap.2 ⟨(L'[k], k), List.mem_zipIdx_iff_getElem?.2 (by simp [hk]), by unfold Sh.atSty; rw [if_pos hs]⟩
    rw [hin'] at this
    obtain ⟨x, hx, he⟩ := List.mem_map.1 this
    injection he with he1 he2
    obtain ⟨M, hM, _⟩ := f4 x hx
    rw [rulesAt_sty hs, ← he2, rulesOf_ok hM, hM]
  have hstay : (flatR T L').map Sh.bare = (R.filter fun r => stayB (L.map ofN) (R.map ofR) (ofR r)).map Sh.bare := by
    rw [flat_bare f2 hT' hLL.symm, Sh.inn_edit, List.flatMap_map]
    have e2 : (R.filter fun r => stayB (L.map ofN) (R.map ofR) (ofR r)).map Sh.bare = (Sh.inn 0 t).flatMap fun x => keepF ((match L[x.1]? with | none => [] | some n => rulesAt S n).zip (match L[x.1]? with | none => [] | some n => flagsAt S (L.map ofN) (R.map ofR) n)) := by
      refine Eq.trans ?_ (flat_inn ho hS hL (fun j _ => keepF ((match L[j]? with | none => [] | some n => rulesAt S n).zip (match L[j]? with | none => [] | some n => flagsAt S (L.map ofN) (R.map ofR) n)))).symm
      have e3 : R.filter (fun r => stayB (L.map ofN) (R.map ofR) (ofR r)) = (flatR S L).filter (fun r => stayB (L.map ofN) (R.map ofR) (ofR r)) := by
        generalize (fun r => stayB (L.map ofN) (R.map ofR) (ofR r)) = st
        rw [← hr.flat]
      rw [e3, flat_filter]
      refine flat_congr fun y hy => ?_
      simp only [zip_mem hy]
      by_cases hs : y.1.name = Sh.styleL
      · rw [if_pos hs]
        unfold flagsAt
        rw [keep_zip]
      · rw [if_neg hs, rulesAt_not hs]; rfl
    rw [e2]
    refine flat_congr fun x hx => ?_
    obtain ⟨M, hM, hb⟩ := f4 x hx
    show (rulesOf _).map Sh.bare = _
    rw [rulesOf_ok hM, hb, List.map_map]
    rfl
  have hlen' : L'.length = L.length := by
    have := congrArg List.length f3'
    simpa using this
  have hbare : ∀ r ∈ flatR T L', ∃ q ∈ R, r.decls = q.decls := fun r hr' => by
    have : Sh.bare r ∈ (flatR T L').map Sh.bare := List.mem_map.2 ⟨r, hr', rfl⟩
    rw [hstay] at this
    obtain ⟨q, hq, e⟩ := List.mem_map.1 this
    exact ⟨q, (List.mem_filter.1 hq).1, (congrArg Sh.Rl.decls e).symm⟩
  have hown : ∀ k (h : k < L'.length), ownV L'[k] = newV (L.map ofN) (R.map ofR) k := fun k hk => by
    have hv : Sh.vw L'[k] = Sh.reAts (newV (L.map ofN) (R.map ofR)) (Sh.vw (L[k]'(by omega)), k) := by
      have := congrArg (fun l => l[k]?) f3'
      simp [hk, show k < L.length by omega] at this
      exact this
    have hap : (Sh.vw (L[k]'(by omega))).ats.Pairwise (fun a b => a.1 ≠ b.1) := by
      refine views_apart t (-1) 0 1 ho _ ?_
      rw [hviews]
      exact List.mem_map.2 ⟨_, List.getElem_mem _, rfl⟩
    rw [own_sty, hv]
    exact Sh.editAts_style _ _ hap
  refine ⟨L', flatR T L', t, hr, ⟨f1, rfl, hsh, ?_, fun r hr' => ?_, fun n hn => ?_⟩, ho, hS, hL, f3', hstay, h20, hT', hLL.symm, f2, h6, hlen', hown⟩
  · have h1 := congrArg List.length hstay
    rw [List.length_map, List.length_map] at h1
    have h2 := List.length_filter_le (fun r => stayB (L.map ofN) (R.map ofR) (ofR r)) R
    have h3 := hr.few
    omega
  · obtain ⟨q, hq, e⟩ := hbare r hr'
    rw [e]; exact hr.rule q hq
  · obtain ⟨k, hk, rfl⟩ := List.getElem_of_mem hn
    rw [hown k hk]
    have := hr.turn (h20 k (by omega))
    exact ⟨_, _, this.1, this.2⟩
theorem fold_ok {S T : Bs} (h : foldB S = .ok T) : ∃ L R L' R' t, Fd S T L R L' R' t ∧ manyAt L R = none ∧ T = Sh.app S 0 (edsB S L R) S.length := by
  unfold foldB at h
  cases hr : readB S with
  | error x => rw [hr] at h; cases h
  | ok q =>
    obtain ⟨L, R⟩ := q
    rw [hr] at h
    simp only at h
    cases hm : manyAt L R with
    | some e => rw [hm] at h; cases h
    | none =>
      rw [hm] at h
      simp only at h
      split at h
      · cases h
      · rename_i h6
        injection h with h
        obtain ⟨L', R', t, hf⟩ := fold_read (read_iff.1 hr) hm h.symm (by rw [← h]; omega)
        exact ⟨L, R, L', R', t, hf, hm, h.symm⟩
end Go.Proofs.YtblkldfokeeaeacGreatDoor
