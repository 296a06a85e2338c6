/- Texts that the statement's proof stands on: Spec, SheetSpec, Base, SheetLoc. -/
import Derived.Lib.Index
import Derived.Lib.Strings
import Derived.Lib.IndexLaws
namespace Go.Proofs.YtblkldfokeeaeacGreatDoor.Sh
open Go
abbrev Res (α : Type) : Type := Except (Nat × Nat) α
structure Atr where
  name : List UInt8
  val : List UInt8
  from_ : Nat
  to_ : Nat
structure Nd where
  name : List UInt8
  parent : Int
  attrs : List Atr
  nameEnd : Nat
  inFrom : Nat
  inTo : Nat
def letterB (c : UInt8) : Bool := decide (97 ≤ c.toNat) && decide (c.toNat ≤ 122)
def nameB (c : UInt8) : Bool := letterB c || (decide (48 ≤ c.toNat) && decide (c.toNat ≤ 57)) || decide (c.toNat = 45)
def plainB (c : UInt8) : Bool := decide (32 ≤ c.toNat) && decide (c.toNat ≤ 126)
def textB (c : UInt8) : Bool := decide (c.toNat = 10) || (plainB c && !decide (c.toNat = 60))
def valueB (c : UInt8) : Bool := plainB c && !decide (c.toNat = 34) && !decide (c.toNat = 60) && !decide (c.toNat = 38)
def has (S : List UInt8) (k : Nat) (t : List UInt8) : Bool := t.isPrefixOf (S.drop k)
def sub (S : List UInt8) (a b : Nat) : List UInt8 := (S.drop a).take (b - a)
def need (S : List UInt8) (k : Nat) (t : List UInt8) : Res Nat := if has S k t then .ok (k + t.length) else .error (2, k)
def fitsAt (S : List UInt8) (k : Nat) (p : UInt8 → Bool) : Bool := match S[k]? with | some c => p c | none => false
def whileEnd (S : List UInt8) (k : Nat) (p : UInt8 → Bool) : Nat := k + ((S.drop k).takeWhile p).length
def nameTo (S : List UInt8) (k : Nat) : Res Nat := if fitsAt S k letterB then .ok (whileEnd S (k + 1) nameB) else .error (2, k)
def pastAt (S : List UInt8) (k : Nat) (t : List UInt8) : Option Nat := if Lib.index (S.drop k) t < 0 then none else some (k + (Lib.index (S.drop k) t).toNat)
def attrName (S : List UInt8) (k : Nat) (as : List Atr) : Res (List UInt8 × Nat) :=
  match nameTo S k with
  | .error x => .error x
  | .ok e =>
    if 8 ≤ as.length then .error (5, k)
    else if 20 < (sub S k e).length then .error (7, k)
    else if as.any (fun a => a.name == sub S k e) then .error (7, k)
    else .ok (sub S k e, e)
def attr (S : List UInt8) (k : Nat) (as : List Atr) : Res (Atr × Nat) :=
  match need S k [32] with
  | .error x => .error x
  | .ok k1 =>
    match attrName S k1 as with
    | .error x => .error x
    | .ok (nm, k2) =>
      match need S k2 [61, 34] with
      | .error x => .error x
      | .ok k3 =>
        match need S (whileEnd S k3 valueB) [34] with
        | .error x => .error x
        | .ok k5 => .ok (⟨nm, sub S k3 (whileEnd S k3 valueB), k, k5⟩, k5)
def attrsTo : Nat → List UInt8 → Nat → List Atr → Res (List Atr × Nat)
  | 0, _, _, _ => .error (0, 0)
  | f + 1, S, k, as =>
    if has S k [32] then
      match attr S k as with
      | .error x => .error x
      | .ok (a, k1) => attrsTo f S k1 (as ++ [a])
    else .ok (as, k)
def firstTag (S : List UInt8) (k : Nat) : Res (Nd × Nat) :=
  match need S k [60] with
  | .error x => .error x
  | .ok k1 =>
    match nameTo S k1 with
    | .error x => .error x
    | .ok k2 =>
      if 20 < (sub S k1 k2).length then .error (7, k1)
      else
        match attrsTo 10 S k2 [] with
        | .error x => .error x
        | .ok (as, k3) =>
          match need S k3 [62] with
          | .error x => .error x
          | .ok k4 => .ok (⟨sub S k1 k2, 0, as, k2, 0, 0⟩, k4)
def styleL : List UInt8 := [115, 116, 121, 108, 101]
def lastTag (n : List UInt8) : List UInt8 := [60, 47] ++ n ++ [62]
def element (rec : Nat → Int → Nat → List Nd → Res (Nat × List Nd)) (S : List UInt8) (k : Nat) (parent : Int) (deep : Nat) (L : List Nd) : Res (Nat × List Nd) :=
  if 20 < deep ∨ 120 ≤ L.length then .error (4, k)
  else
    match firstTag S k with
    | .error x => .error x
    | .ok (n, k1) =>
      if n.name = styleL then
        match pastAt S k1 (lastTag styleL) with
        | none => .error (2, S.length)
        | some e => .ok (e + 8, L ++ [{ n with parent := parent, inFrom := k1, inTo := e }])
      else
        match rec k1 L.length (deep + 1) (L ++ [{ n with parent := parent }]) with
        | .error x => .error x
        | .ok (k2, L2) =>
          match need S k2 (lastTag n.name) with
          | .error x => .error x
          | .ok k3 => .ok (k3, L2)
def items : Nat → List UInt8 → Nat → Int → Nat → List Nd → Res (Nat × List Nd)
  | 0, _, _, _, _, _ => .error (0, 0)
  | f + 1, S, k, parent, deep, L =>
    if S.length ≤ k ∨ has S k [60, 47] = true then .ok (k, L)
    else if has S k [60, 33, 45, 45] then
      match pastAt S (k + 4) [45, 45, 62] with
      | none => .error (2, S.length)
      | some e => items f S (e + 3) parent deep L
    else if has S k [60] then
      match element (items f S) S k parent deep L with
      | .error x => .error x
      | .ok (k1, L1) => items f S k1 parent deep L1
    else if fitsAt S k textB then items f S (k + 1) parent deep L
    else .error (2, k)
def readAll (S : List UInt8) : Res (List Nd) :=
  match items 6001 S 0 (-1) 1 [] with
  | .error x => .error x
  | .ok (k, L) => if k < S.length then .error (2, k) else .ok L
def parse (S : List UInt8) : Res (List Nd) := if 6000 < S.length then .error (4, 0) else readAll S
end Go.Proofs.YtblkldfokeeaeacGreatDoor.Sh
namespace Go.Proofs.YtblkldfokeeaeacGreatDoor.Sh
open Go
abbrev Pr (α : Type) : Type := List UInt8 → Nat → Res (α × Nat)
structure Tst where
  kind : Nat
  name : List UInt8
  val : List UInt8
deriving DecidableEq
structure Prt where
  join : Nat
  tests : List Tst
deriving DecidableEq
structure Dcl where
  name : List UInt8
  val : List UInt8
  strong : Bool
deriving DecidableEq
structure Rl where
  media : List UInt8
  sels : List (List Prt)
  decls : List Dcl
  from_ : Nat
  to_ : Nat
deriving DecidableEq
def wordB (c : UInt8) : Bool := letterB c || (decide (48 ≤ c.toNat) && decide (c.toNat ≤ 57)) || decide (c.toNat = 35) || decide (c.toNat = 46) || decide (c.toNat = 37) || decide (c.toNat = 45)
def bnd {α β : Type} (f : Pr α) (g : α → Pr β) : Pr β := fun S k => match f S k with | .error x => .error x | .ok (a, k1) => g a S k1
def ret {α : Type} (a : α) : Pr α := fun _ k => .ok (a, k)
def bad {α : Type} (c : Nat) : Pr α := fun _ k => .error (c, k)
def opt {α : Type} (t : List UInt8) (f g : Pr α) : Pr α := fun S k => if has S k t then f S (k + t.length) else g S k
def look {α : Type} (t : List UInt8) (f g : Pr α) : Pr α := fun S k => if has S k t then f S k else g S k
def fits {α : Type} (p : UInt8 → Bool) (f g : Pr α) : Pr α := fun S k => if fitsAt S k p then f S k else g S k
def ended {α : Type} (f g : Pr α) : Pr α := fun S k => if S.length ≤ k then f S k else g S k
def tok (t : List UInt8) : Pr Unit := opt t (ret ()) (bad 2)
def gapsTo : Nat → List UInt8 → Nat → Res Nat
  | 0, _, _ => .error (0, 0)
  | f + 1, S, k =>
    if has S k [32] then gapsTo f S (k + 1)
    else if has S k [10] then gapsTo f S (k + 1)
    else if has S k [47, 42] then
      match pastAt S (k + 2) [42, 47] with
      | none => .error (2, k)
      | some e => gapsTo f S (e + 2)
    else .ok k
def gaps : Pr Bool := fun S k => match gapsTo 4001 S k with | .error x => .error x | .ok k1 => .ok (decide (k < k1), k1)
def sname : Pr (List UInt8) := fun S k =>
  match nameTo S k with
  | .error x => .error x
  | .ok e => if 20 < (sub S k e).length then .error (2, k) else .ok (sub S k e, e)
def chars (p : UInt8 → Bool) : Pr (List UInt8) := fun S k => .ok (sub S k (whileEnd S k p), whileEnd S k p)
def word (ahead : List UInt8) : Pr (List UInt8) := fun S k =>
  match chars wordB S k with
  | .error x => .error x
  | .ok (u, k1) =>
    if u = [] then .error (2, k)
    else if 60 < ahead.length + u.length then .error (4, k)
    else bnd gaps (fun _ => ret (ahead ++ u)) S k1
def valueTo : Nat → List UInt8 → Pr (List UInt8)
  | 0, _ => bad 0
  | f + 1, v => fits wordB (bnd (word (v ++ [32])) (valueTo f)) (ret v)
def value : Pr (List UInt8) := bnd (word []) (valueTo 62)
def importantL : List UInt8 := [105, 109, 112, 111, 114, 116, 97, 110, 116]
def decl : Pr Dcl :=
  bnd sname fun n => bnd gaps fun _ => bnd (tok [58]) fun _ => bnd gaps fun _ => bnd value fun v =>
    opt [33] (bnd (tok importantL) fun _ => bnd gaps fun _ => ret ⟨n, v, true⟩) (ret ⟨n, v, false⟩)
def declsTo : Nat → List Dcl → Pr (List Dcl)
  | 0, _ => bad 0
  | f + 1, l =>
    ended (ret l) (look [125] (ret l)
      (bnd (if 20 ≤ l.length then fits letterB (bad 5) (ret ()) else ret ()) fun _ =>
        bnd decl fun d => opt [59] (bnd gaps fun _ => declsTo f (l ++ [d])) (ret (l ++ [d]))))
def decls : Pr (List Dcl) := bnd gaps fun _ => declsTo 22 []
def onlyDecls : Pr (List Dcl) := bnd decls fun l => ended (ret l) (bad 2)
def firstL : List UInt8 := [58, 102, 105, 114, 115, 116]
def hasPart (S : List UInt8) (k : Nat) : Bool := fitsAt S k letterB || has S k [42] || has S k [46] || has S k [35] || has S k [91] || has S k firstL
def aheadOfPart (n most : Nat) : Pr Unit := fun S k => if hasPart S k = false then .error (2, k) else if most ≤ n then .error (5, k) else .ok ((), k)
def attrTest : Pr Tst :=
  bnd sname fun n => if n = styleL then bad 1 else
    bnd (opt [61] (bnd sname fun v => ret (Tst.mk 5 n v)) (ret ⟨4, n, []⟩)) fun t => bnd (tok [93]) fun _ => ret t
def test : Pr Tst :=
  opt [46] (bnd sname fun n => ret ⟨2, n, []⟩) (opt [35] (bnd sname fun n => ret ⟨3, n, []⟩) (opt firstL (ret ⟨6, [], []⟩) (opt [91] attrTest (ret ⟨0, [], []⟩))))
def testsTo : Nat → List Tst → Pr (List Tst)
  | 0, _ => bad 0
  | f + 1, l => bnd test fun t => if t.kind = 0 then ret l else if 6 ≤ l.length then bad 5 else testsTo f (l ++ [t])
def partHead : Pr (List Tst) := opt [42] (ret []) (fits letterB (bnd sname fun n => ret [⟨1, n, []⟩]) (ret []))
def part (join : Nat) : Pr Prt := bnd partHead fun l => bnd (testsTo 8 l) fun l => ret ⟨join, l⟩
def join : Pr (Nat × Bool) :=
  bnd gaps fun g => opt [62] (bnd gaps fun _ => ret (2, true)) (opt [43] (bnd gaps fun _ => ret (3, true))
    (if g then look [44] (ret (0, false)) (look [123] (ret (0, false)) (ended (ret (0, false)) (ret (1, true)))) else ret (0, false)))
def selectorTo : Nat → Nat → List Prt → Pr (List Prt)
  | 0, _, _ => bad 0
  | f + 1, j, l => bnd (aheadOfPart l.length 6) fun _ => bnd (part j) fun p => bnd join fun q => if q.2 then selectorTo f q.1 (l ++ [p]) else ret (l ++ [p])
def selector : Pr (List Prt) := selectorTo 8 0 []
def selectorsTo : Nat → List (List Prt) → Pr (List (List Prt))
  | 0, _ => bad 0
  | f + 1, l => bnd (aheadOfPart l.length 8) fun _ => bnd selector fun p => opt [44] (bnd gaps fun _ => selectorsTo f (l ++ [p])) (ret (l ++ [p]))
def selectors : Pr (List (List Prt)) := selectorsTo 10 []
def rule (n : Nat) : Pr (List (List Prt) × List Dcl) :=
  bnd (aheadOfPart n 60) fun _ => bnd selectors fun l => bnd (tok [123]) fun _ => bnd decls fun d => bnd (tok [125]) fun _ => ret (l, d)
def mediaL : List UInt8 := [64, 109, 101, 100, 105, 97]
def mediaHead : Pr (List UInt8) :=
  bnd gaps fun g => if g then bnd sname fun n => bnd gaps fun _ => bnd (tok [123]) fun _ => ret n else bad 2
def rulesTo : Nat → List UInt8 → Nat → Option (List UInt8) → List Rl → Res (List Rl)
  | 0, _, _, _, _ => .error (0, 0)
  | f + 1, S, k, md, L =>
    match gaps S k with
    | .error x => .error x
    | .ok (_, k1) =>
      match md with
      | none =>
        if S.length ≤ k1 then .ok L
        else if has S k1 mediaL then
          match mediaHead S (k1 + 6) with
          | .error x => .error x
          | .ok (n, k2) => rulesTo f S k2 (some n) L
        else
          match rule L.length S k1 with
          | .error x => .error x
          | .ok (p, k2) => rulesTo f S k2 none (L ++ [⟨[], p.1, p.2, k1, k2⟩])
      | some n =>
        if has S k1 [125] then rulesTo f S (k1 + 1) none L
        else
          match rule L.length S k1 with
          | .error x => .error x
          | .ok (p, k2) => rulesTo f S k2 (some n) (L ++ [⟨n, p.1, p.2, k1, k2⟩])
def sheetAll (S : List UInt8) : Res (List Rl) := rulesTo 4001 S 0 none []
def sheetParse (S : List UInt8) : Res (List Rl) := if 4000 < S.length then .error (4, 0) else sheetAll S
def declsAll (S : List UInt8) : Res (List Dcl) := match onlyDecls S 0 with | .error x => .error x | .ok (l, _) => .ok l
def declsParse (S : List UInt8) : Res (List Dcl) := if 4000 < S.length then .error (4, 0) else declsAll S
def printOne (d : Dcl) : List UInt8 := d.name ++ [58, 32] ++ d.val ++ (if d.strong then [32, 33] ++ importantL else [])
def printL : List Dcl → List UInt8
  | [] => []
  | [d] => printOne d
  | d :: e :: l => printOne d ++ [59, 32] ++ printL (e :: l)
end Go.Proofs.YtblkldfokeeaeacGreatDoor.Sh
namespace Go.Proofs.YtblkldfokeeaeacGreatDoor.Sh
theorem fitsAt_ge {S : List UInt8} {k : Nat} (p : UInt8 → Bool) (h : S.length ≤ k) : fitsAt S k p = false := by
  unfold fitsAt; rw [List.getElem?_eq_none h]
theorem fitsAt_lt {S : List UInt8} {k : Nat} (p : UInt8 → Bool) (h : k < S.length) : fitsAt S k p = p S[k] := by
  unfold fitsAt; rw [List.getElem?_eq_getElem h]
theorem whileEnd_step {S : List UInt8} {k : Nat} {p : UInt8 → Bool} (h : fitsAt S k p = true) : whileEnd S (k + 1) p = whileEnd S k p := by
  have hk : k < S.length := by
    by_cases hk : k < S.length
    · exact hk
    · rw [fitsAt_ge p (by omega)] at h; cases h
  rw [fitsAt_lt p hk] at h
  unfold whileEnd
  rw [List.drop_eq_getElem_cons hk, List.takeWhile_cons, if_pos h, List.length_cons]
  omega
theorem whileEnd_stop {S : List UInt8} {k : Nat} {p : UInt8 → Bool} (h : fitsAt S k p = false) : whileEnd S k p = k := by
  unfold whileEnd
  by_cases hk : k < S.length
  · rw [fitsAt_lt p hk] at h
    rw [List.drop_eq_getElem_cons hk, List.takeWhile_cons, if_neg (by simp [h])]; rfl
  · rw [List.drop_of_length_le (by omega)]; rfl
theorem index_spec : ∀ (s t : List UInt8) (i : Nat), Lib.index s t = i → t.isPrefixOf (s.drop i) = true ∧ i ≤ s.length ∧ ∀ j, j < i → t.isPrefixOf (s.drop j) = false
  | [], t, i, h => by
    rw [Lib.index] at h
    split at h
    · rename_i ht
      have : i = 0 := by omega
      subst this
      have : t = [] := by simpa using ht
      subst this
      simp
    · omega
  | b :: l, t, i, h => by
    rw [Lib.index] at h
    split at h
    · rename_i hp
      have : i = 0 := by omega
      subst this
      exact ⟨hp, Nat.zero_le _, fun j hj => absurd hj (Nat.not_lt_zero _)⟩
    · rename_i hp
      split at h
      · omega
      · rename_i hne
        have hge := Lib.index_ge l t
        have hn : Lib.index l t ≠ -1 := by simpa using hne
        obtain ⟨k, rfl⟩ : ∃ k, i = k + 1 := ⟨i - 1, by omega⟩
        obtain ⟨h1, h2, h3⟩ := index_spec l t k (by omega)
        refine ⟨by simpa using h1, by simpa using h2, fun j hj => ?_⟩
        cases j with
        | zero => exact Bool.eq_false_iff.2 hp
        | succ j => simpa using h3 j (by omega)
theorem whileEnd_le {S : List UInt8} {k : Nat} (p : UInt8 → Bool) (h : k ≤ S.length) : k ≤ whileEnd S k p ∧ whileEnd S k p ≤ S.length := by
  unfold whileEnd
  have := (List.takeWhile_sublist (l := S.drop k) p).length_le
  rw [List.length_drop] at this
  omega
theorem has_le {S : List UInt8} {k : Nat} {t : List UInt8} (h : has S k t = true) (hk : k ≤ S.length) : k + t.length ≤ S.length := by
  unfold has at h
  have := (List.isPrefixOf_iff_prefix.1 h).length_le
  rw [List.length_drop] at this
  omega
theorem nameTo_le {S : List UInt8} {k m : Nat} (h : nameTo S k = .ok m) : k < m ∧ m ≤ S.length := by
  unfold nameTo at h
  split at h
  · rename_i hf
    have hk : k < S.length := by
      by_cases hk : k < S.length
      · exact hk
      · rw [fitsAt_ge _ (by omega)] at hf; cases hf
    injection h with h
    have := whileEnd_le (S := S) (k := k + 1) nameB (by omega)
    omega
  · cases h
theorem pastAt_le {S : List UInt8} {k m : Nat} {t : List UInt8} (h : pastAt S k t = some m) (hk : k ≤ S.length) : k ≤ m ∧ m + t.length ≤ S.length := by
  unfold pastAt at h
  split at h
  · cases h
  · rename_i hge
    injection h with h
    obtain ⟨h1, h2, _⟩ := index_spec (S.drop k) t (Lib.index (S.drop k) t).toNat (by omega)
    have := (List.isPrefixOf_iff_prefix.1 h1).length_le
    rw [List.length_drop] at h2
    rw [List.length_drop, List.length_drop] at this
    omega
end Go.Proofs.YtblkldfokeeaeacGreatDoor.Sh
namespace Go.Proofs.YtblkldfokeeaeacGreatDoor.Sh
open Go
theorem has_iff {S : List UInt8} {k : Nat} {t : List UInt8} : has S k t = true ↔ ∀ j (h : j < t.length), S[k + j]? = some t[j] := by
  unfold has
  rw [List.isPrefixOf_iff_prefix, List.prefix_iff_getElem?]
  constructor
  · intro h j hj
    have := h j hj
    rwa [List.getElem?_drop] at this
  · intro h j hj
    rw [List.getElem?_drop]
    exact h j hj
structure Agree (c : UInt8) (S : List UInt8) (k : Nat) (S' : List UInt8) (k' : Nat) (n : Nat) : Prop where
  brace : S[k + n]? = some c
  same : ∀ i, i ≤ n → S'[k' + i]? = S[k + i]?
theorem Agree.brace' {c : UInt8} {S S' : List UInt8} {k k' n : Nat} (h : Agree c S k S' k' n) : S'[k' + n]? = some c := by rw [h.same n (Nat.le_refl _)]; exact h.brace
theorem Agree.step {c : UInt8} {S S' : List UInt8} {k k' n d : Nat} (h : Agree c S k S' k' n) (hd : d ≤ n) : Agree c S (k + d) S' (k' + d) (n - d) := by
  refine ⟨?_, fun i hi => ?_⟩
  · rw [show k + d + (n - d) = k + n by omega]; exact h.brace
  · rw [Nat.add_assoc, Nat.add_assoc]; exact h.same (d + i) (by omega)
theorem Agree.lt {c : UInt8} {S S' : List UInt8} {k k' n : Nat} (h : Agree c S k S' k' n) : k + n < S.length := by
  have := h.brace
  exact (List.getElem?_eq_some_iff.1 this).1
theorem Agree.lt' {c : UInt8} {S S' : List UInt8} {k k' n : Nat} (h : Agree c S k S' k' n) : k' + n < S'.length := (List.getElem?_eq_some_iff.1 h.brace').1
def Tame (c : UInt8) (t : List UInt8) : Prop := (∀ x ∈ t, x ≠ c) ∨ t.length = 1
instance (c : UInt8) (t : List UInt8) : Decidable (Tame c t) := inferInstanceAs (Decidable (_ ∨ _))
theorem has_same {c : UInt8} {S S' : List UInt8} {k k' n : Nat} (h : Agree c S k S' k' n) {t : List UInt8} (ht : Tame c t) : has S' k' t = has S k t := by
  rw [Bool.eq_iff_iff, has_iff, has_iff]
  have key : ∀ (X Y : List UInt8) (x y : Nat), X[x + n]? = some c → (∀ i, i ≤ n → Y[y + i]? = X[x + i]?) → (∀ j (h : j < t.length), X[x + j]? = some t[j]) → ∀ j (h : j < t.length), Y[y + j]? = some t[j] := by
    intro X Y x y hb hs hx j hj
    by_cases hjn : j ≤ n
    · rw [hs j hjn]; exact hx j hj
    · rcases ht with ht | ht
      · have := hx n (by omega)
        rw [hb] at this
        injection this with this
        exact absurd this.symm (ht _ (List.getElem_mem _))
      · omega
  constructor
  · exact key S' S k' k h.brace' (fun i hi => (h.same i hi).symm)
  · exact key S S' k k' h.brace h.same
theorem fits_same {c : UInt8} {S S' : List UInt8} {k k' n : Nat} (h : Agree c S k S' k' n) (p : UInt8 → Bool) : fitsAt S' k' p = fitsAt S k p := by
  have := h.same 0 (Nat.zero_le _)
  simp only [Nat.add_zero] at this
  unfold fitsAt
  rw [this]
theorem sub_same {c : UInt8} {S S' : List UInt8} {k k' n d : Nat} (h : Agree c S k S' k' n) (hd : d ≤ n) : sub S' k' (k' + d) = sub S k (k + d) := by
  unfold sub
  apply List.ext_getElem?
  intro i
  rw [List.getElem?_take, List.getElem?_take, List.getElem?_drop, List.getElem?_drop, Nat.add_sub_cancel_left, Nat.add_sub_cancel_left]
  split
  · exact h.same i (by omega)
  · rfl
structure Loc (c : UInt8) {α : Type} (f : Pr α) : Prop where
  adv : ∀ {S : List UInt8} {k m : Nat} {a : α}, f S k = .ok (a, m) → k ≤ m
  loc : ∀ {S S' : List UInt8} {k k' n d : Nat} {a : α}, f S k = .ok (a, k + d) → Agree c S k S' k' n → d ≤ n → f S' k' = .ok (a, k' + d)
theorem loc_ret {c : UInt8} {α : Type} (a : α) : Loc c (ret a) := by
  refine ⟨fun h => ?_, fun h _ _ => ?_⟩
  · injection h with h; injection h with _ h; omega
  · injection h with h
    injection h with h1 h2
    subst h1
    have : _ = 0 := Nat.add_left_cancel (h2.symm.trans (Nat.add_zero _).symm)
    subst this
    rfl
theorem loc_bad {c : UInt8} {α : Type} (e : Nat) : Loc c (bad (α := α) e) := ⟨fun h => (by cases h), fun h _ _ => (by cases h)⟩
theorem loc_bnd {c : UInt8} {α β : Type} {f : Pr α} {g : α → Pr β} (hf : Loc c f) (hg : ∀ a, Loc c (g a)) : Loc c (bnd f g) := by
  have key : ∀ {S : List UInt8} {k m : Nat} {b : β}, bnd f g S k = .ok (b, m) → ∃ a m1, f S k = .ok (a, m1) ∧ g a S m1 = .ok (b, m) := by
    intro S k m b h
    unfold bnd at h
    split at h
    · cases h
    · rename_i a m1 e
      exact ⟨a, m1, e, h⟩
  refine ⟨fun h => ?_, fun h ag hd => ?_⟩
  · obtain ⟨a, m1, h1, h2⟩ := key h
    exact Nat.le_trans (hf.adv h1) ((hg a).adv h2)
  · obtain ⟨a, m1, h1, h2⟩ := key h
    have a1 := hf.adv h1
    have a2 := (hg a).adv h2
    obtain ⟨d1, rfl⟩ := Nat.exists_eq_add_of_le a1
    obtain ⟨d2, hd2⟩ := Nat.exists_eq_add_of_le a2
    have e2 : _ = d1 + d2 := Nat.add_left_cancel (hd2.trans (Nat.add_assoc _ _ _))
    subst e2
    have r1 := hf.loc h1 ag (by omega)
    rw [← Nat.add_assoc] at h2
    have r2 := (hg a).loc h2 (ag.step (d := d1) (by omega)) (by omega)
    unfold bnd
    rw [r1, ← Nat.add_assoc]
    exact r2
theorem loc_opt {c : UInt8} {α : Type} {t : List UInt8} {f g : Pr α} (ht : ∀ x ∈ t, x ≠ c) (hf : Loc c f) (hg : Loc c g) : Loc c (opt t f g) := by
  refine ⟨fun h => ?_, fun h ag hd => ?_⟩
  · unfold opt at h
    split at h
    · have := hf.adv h; omega
    · exact hg.adv h
  · unfold opt at h ⊢
    rw [has_same ag (.inl ht)]
    split at h
    · rename_i hh
      rw [if_pos hh]
      have a1 := hf.adv h
      obtain ⟨d2, hd2⟩ := Nat.exists_eq_add_of_le a1
      have e2 : _ = t.length + d2 := Nat.add_left_cancel (hd2.trans (Nat.add_assoc _ _ _))
      subst e2
      rw [← Nat.add_assoc] at h ⊢
      exact hf.loc h (ag.step (by omega)) (by omega)
    · rename_i hh
      rw [if_neg hh]
      exact hg.loc h ag hd
theorem loc_look {c : UInt8} {α : Type} {t : List UInt8} {f g : Pr α} (ht : Tame c t) (hf : Loc c f) (hg : Loc c g) : Loc c (look t f g) := by
  refine ⟨fun h => ?_, fun h ag hd => ?_⟩
  · unfold look at h
    split at h
    · exact hf.adv h
    · exact hg.adv h
  · unfold look at h ⊢
    rw [has_same ag ht]
    split at h
    · rename_i hh; rw [if_pos hh]; exact hf.loc h ag hd
    · rename_i hh; rw [if_neg hh]; exact hg.loc h ag hd
theorem loc_fits {c : UInt8} {α : Type} {p : UInt8 → Bool} {f g : Pr α} (hf : Loc c f) (hg : Loc c g) : Loc c (fits p f g) := by
  refine ⟨fun h => ?_, fun h ag hd => ?_⟩
  · unfold fits at h
    split at h
    · exact hf.adv h
    · exact hg.adv h
  · unfold fits at h ⊢
    rw [fits_same ag p]
    split at h
    · rename_i hh; rw [if_pos hh]; exact hf.loc h ag hd
    · rename_i hh; rw [if_neg hh]; exact hg.loc h ag hd
theorem loc_ended {c : UInt8} {α : Type} {f g : Pr α} (hf : Loc c f) (hg : Loc c g) : Loc c (ended f g) := by
  refine ⟨fun h => ?_, fun h ag hd => ?_⟩
  · unfold ended at h
    split at h
    · exact hf.adv h
    · exact hg.adv h
  · unfold ended at h ⊢
    have h1 := ag.lt
    have h2 := ag.lt'
    rw [if_neg (by omega)] at h ⊢
    exact hg.loc h ag hd
theorem loc_tok {c : UInt8} {t : List UInt8} (ht : ∀ x ∈ t, x ≠ c) : Loc c (tok t) := loc_opt ht (loc_ret ()) (loc_bad 2)
theorem loc_ite {c : UInt8} {α : Type} {q : Prop} [Decidable q] {f g : Pr α} (hf : Loc c f) (hg : Loc c g) : Loc c (if q then f else g) := by
  split
  · exact hf
  · exact hg
theorem pastAt_iff {S : List UInt8} {k e : Nat} {t : List UInt8} (ht : t ≠ []) : pastAt S k t = some e ↔ k ≤ e ∧ has S e t = true ∧ ∀ j, k ≤ j → j < e → has S j t = false := by
  have spec : ∀ i : Nat, Lib.index (S.drop k) t = i → has S (k + i) t = true ∧ ∀ j, k ≤ j → j < k + i → has S j t = false := by
    intro i hi
    obtain ⟨h1, h2, h3⟩ := index_spec (S.drop k) t i hi
    refine ⟨by unfold has; rw [← List.drop_drop]; exact h1, fun j hj1 hj2 => ?_⟩
    obtain ⟨d, rfl⟩ := Nat.exists_eq_add_of_le hj1
    have := h3 d (by omega)
    unfold has; rw [← List.drop_drop]; exact this
  have hge := Lib.index_ge (S.drop k) t
  constructor
  · intro h
    unfold pastAt at h
    split at h
    · cases h
    · rename_i hn
      injection h with h
      obtain ⟨i, hi⟩ : ∃ i : Nat, Lib.index (S.drop k) t = i := ⟨(Lib.index (S.drop k) t).toNat, by omega⟩
      have := spec i hi
      rw [hi] at h
      subst h
      exact ⟨by simp, by simpa using this.1, fun j h1 h2 => this.2 j h1 (by simpa using h2)⟩
  · rintro ⟨h1, h2, h3⟩
    obtain ⟨d, rfl⟩ := Nat.exists_eq_add_of_le h1
    have hlt : k + d < S.length := by
      have := has_iff.1 h2 0 (List.length_pos_iff.2 ht)
      exact (List.getElem?_eq_some_iff.1 this).1
    have hi : Lib.index (S.drop k) t = (d : Int) := Lib.index_first (by rw [List.length_drop]; omega) (by unfold has at h2; rw [← List.drop_drop] at h2; exact h2) (fun j hj => by
      have := h3 (k + j) (by omega) (by omega)
      unfold has at this
      rw [← List.drop_drop] at this
      exact this)
    unfold pastAt
    rw [hi, if_neg (by omega)]
    simp
theorem whileEnd_iff {S : List UInt8} {k m : Nat} {p : UInt8 → Bool} (hk : k ≤ m) : whileEnd S k p = m ↔ (∀ j, k ≤ j → j < m → fitsAt S j p = true) ∧ fitsAt S m p = false := by
  induction hd : m - k generalizing k with
  | zero =>
    have : m = k := by omega
    subst this
    constructor
    · intro h
      refine ⟨fun j h1 h2 => by omega, ?_⟩
      cases hf : fitsAt S m p with
      | false => rfl
      | true =>
        have h1 := whileEnd_step hf
        have h2 : m + 1 ≤ whileEnd S (m + 1) p := by unfold whileEnd; omega
        omega
    · rintro ⟨_, h⟩
      exact whileEnd_stop h
  | succ n ih =>
    cases hf : fitsAt S k p with
    | true =>
      have := ih (k := k + 1) (by omega) (by omega)
      rw [← whileEnd_step hf, this]
      constructor
      · rintro ⟨h1, h2⟩
        refine ⟨fun j hj1 hj2 => ?_, h2⟩
        by_cases hjk : j = k
        · rw [hjk]; exact hf
        · exact h1 j (by omega) hj2
      · rintro ⟨h1, h2⟩
        exact ⟨fun j hj1 hj2 => h1 j (by omega) hj2, h2⟩
    | false =>
      rw [whileEnd_stop hf]
      constructor
      · intro h; omega
      · rintro ⟨h1, _⟩
        have := h1 k (Nat.le_refl _) (by omega)
        rw [hf] at this
        cases this
theorem while_same {c : UInt8} {S S' : List UInt8} {k k' n d : Nat} {p : UInt8 → Bool} (ag : Agree c S k S' k' n) (hd : d ≤ n) (h : whileEnd S k p = k + d) : whileEnd S' k' p = k' + d := by
  rw [whileEnd_iff (by omega)] at h ⊢
  refine ⟨fun j h1 h2 => ?_, ?_⟩
  · obtain ⟨i, rfl⟩ := Nat.exists_eq_add_of_le h1
    rw [fits_same (ag.step (d := i) (by omega))]
    exact h.1 _ (by omega) (by omega)
  · rw [fits_same (ag.step (d := d) hd)]
    exact h.2
theorem loc_chars {c : UInt8} (p : UInt8 → Bool) : Loc c (chars p) := by
  refine ⟨fun h => ?_, fun h ag hd => ?_⟩
  · injection h with h
    injection h with _ h
    rw [← h]; unfold whileEnd; omega
  · injection h with h
    injection h with h1 h2
    have h3 := while_same ag hd h2
    unfold chars
    rw [h3, ← h1, h2, sub_same ag hd]
theorem loc_sname {c : UInt8} : Loc c sname := by
  have key : ∀ {S : List UInt8} {k m : Nat} {a : List UInt8}, sname S k = .ok (a, m) → fitsAt S k letterB = true ∧ whileEnd S (k + 1) nameB = m ∧ ¬ 20 < (sub S k m).length ∧ a = sub S k m := by
    intro S k m a h
    unfold sname nameTo at h
    split at h
    · cases h
    · rename_i e he
      split at he
      · rename_i hf
        injection he with he
        split at h
        · cases h
        · rename_i h20
          injection h with h
          injection h with h1 h2
          subst h2
          exact ⟨hf, he, h20, h1.symm⟩
      · cases he
  refine ⟨fun h => ?_, fun {S S' k k' n d a} h ag hd => ?_⟩
  · obtain ⟨_, h, _, _⟩ := key h
    rw [← h]; unfold whileEnd; omega
  · obtain ⟨h1, h2, h3, h4⟩ := key h
    have hd1 : 1 ≤ d := by
      have : k + 1 ≤ whileEnd S (k + 1) nameB := by unfold whileEnd; omega
      omega
    have w := while_same (d := d - 1) (p := nameB) (ag.step (d := 1) (by omega)) (by omega) (by rw [h2]; omega)
    unfold sname nameTo
    rw [fits_same ag, if_pos h1, w, show k' + 1 + (d - 1) = k' + d by omega]
    simp only
    rw [sub_same ag hd, if_neg h3, h4]
theorem has_nil_false {S : List UInt8} {k : Nat} {t : List UInt8} (h : S.length ≤ k) (ht : t ≠ []) : has S k t = false := by
  cases hh : has S k t with
  | false => rfl
  | true =>
    have := has_iff.1 hh 0 (List.length_pos_iff.2 ht)
    have := (List.getElem?_eq_some_iff.1 this).1
    omega
theorem gapsTo_adv {S : List UInt8} : ∀ (f k m : Nat), gapsTo f S k = .ok m → k ≤ m
  | 0, _, _, h => by cases h
  | f + 1, k, m, h => by
    rw [gapsTo] at h
    split at h
    · have := gapsTo_adv f _ _ h; omega
    split at h
    · have := gapsTo_adv f _ _ h; omega
    split at h
    · split at h
      · cases h
      · rename_i e he
        have := (pastAt_iff (by simp)).1 he
        have := gapsTo_adv f _ _ h
        omega
    · injection h with h; omega
theorem past_same {c : UInt8} {S S' : List UInt8} {k k' n d : Nat} {t : List UInt8} (ht : Tame c t) (hn : t ≠ []) (ag : Agree c S k S' k' n) (hd : d ≤ n) (h : pastAt S k t = some (k + d)) : pastAt S' k' t = some (k' + d) := by
  rw [pastAt_iff hn] at h ⊢
  refine ⟨by omega, ?_, fun j h1 h2 => ?_⟩
  · rw [has_same (ag.step hd) ht]; exact h.2.1
  · obtain ⟨i, rfl⟩ := Nat.exists_eq_add_of_le h1
    rw [has_same (ag.step (d := i) (by omega)) ht]
    exact h.2.2 _ (by omega) (by omega)
theorem gapsTo_loc {c : UInt8} (hc : c = 123 ∨ c = 125) {S S' : List UInt8} : ∀ (f k k' n d : Nat), gapsTo f S k = .ok (k + d) → Agree c S k S' k' n → d ≤ n → gapsTo f S' k' = .ok (k' + d)
  | 0, _, _, _, _, h, _, _ => by cases h
  | f + 1, k, k', n, d, h, ag, hd => by
    rw [gapsTo] at h ⊢
    rw [has_same ag (t := [32]) (by rcases hc with rfl | rfl <;> decide), has_same ag (t := [10]) (by rcases hc with rfl | rfl <;> decide), has_same ag (t := [47, 42]) (by rcases hc with rfl | rfl <;> decide)]
    split at h
    · rename_i hh
      rw [if_pos hh]
      have := gapsTo_adv f _ _ h
      have := gapsTo_loc hc f (k + 1) (k' + 1) (n - 1) (d - 1) (by rw [h]; congr 1; omega) (ag.step (by omega)) (by omega)
      rw [this]; congr 1; omega
    rename_i hh
    rw [if_neg hh]
    split at h
    · rename_i hh
      rw [if_pos hh]
      have := gapsTo_adv f _ _ h
      have := gapsTo_loc hc f (k + 1) (k' + 1) (n - 1) (d - 1) (by rw [h]; congr 1; omega) (ag.step (by omega)) (by omega)
      rw [this]; congr 1; omega
    rename_i hh
    rw [if_neg hh]
    split at h
    · rename_i hh
      rw [if_pos hh]
      split at h
      · cases h
      · rename_i e he
        have a1 := ((pastAt_iff (by simp)).1 he).1
        have a2 := gapsTo_adv f _ _ h
        obtain ⟨i, rfl⟩ := Nat.exists_eq_add_of_le a1
        have := past_same (by rcases hc with rfl | rfl <;> decide) (by simp) (ag.step (d := 2) (by omega)) (d := i) (by omega) he
        rw [this]
        have := gapsTo_loc hc f (k + 2 + i + 2) (k' + 2 + i + 2) (n - (2 + i + 2)) (d - (2 + i + 2)) (by rw [h]; congr 1; omega) (by
          have := ag.step (d := 2 + i + 2) (by omega)
          rw [show k + 2 + i + 2 = k + (2 + i + 2) by omega, show k' + 2 + i + 2 = k' + (2 + i + 2) by omega]
          exact this) (by omega)
        simp only
        rw [this]; congr 1; omega
    · rename_i hh
      rw [if_neg hh]
      injection h with h
      have : d = 0 := by omega
      subst this
      rfl
theorem loc_gaps {c : UInt8} (hc : c = 123 ∨ c = 125) : Loc c gaps := by
  have key : ∀ {S : List UInt8} {k m : Nat} {g : Bool}, gaps S k = .ok (g, m) → gapsTo 4001 S k = .ok m ∧ g = decide (k < m) := by
    intro S k m g h
    unfold gaps at h
    split at h
    · cases h
    · rename_i k1 e
      injection h with h
      injection h with h1 h2
      subst h2
      exact ⟨e, h1.symm⟩
  refine ⟨fun h => gapsTo_adv _ _ _ (key h).1, fun {S S' k k' n d a} h ag hd => ?_⟩
  obtain ⟨h1, h2⟩ := key h
  have := gapsTo_loc hc 4001 k k' n d h1 ag hd
  unfold gaps
  rw [this, h2]
  have : decide (k' < k' + d) = decide (k < k + d) := by simp
  rw [← this]
theorem loc_word (ahead : List UInt8) : Loc 125 (word ahead) := by
  have key : ∀ {S : List UInt8} {k m : Nat} {a : List UInt8}, word ahead S k = .ok (a, m) ↔ bnd (chars wordB) (fun u => if u = [] ∨ 60 < ahead.length + u.length then bad 2 else bnd gaps (fun _ => ret (ahead ++ u))) S k = .ok (a, m) := by
    intro S k m a
    unfold word
    simp only [bnd, chars]
    by_cases h1 : sub S k (whileEnd S k wordB) = []
    · rw [if_pos h1, if_pos (.inl h1)]
      constructor
      · intro h; cases h
      · intro h; cases h
    · rw [if_neg h1]
      by_cases h2 : 60 < ahead.length + (sub S k (whileEnd S k wordB)).length
      · rw [if_pos h2, if_pos (.inr h2)]
        constructor
        · intro h; cases h
        · intro h; cases h
      · rw [if_neg h2, if_neg (by rintro (h | h); exact h1 h; exact h2 h)]
        rfl
  have L : Loc 125 (bnd (chars wordB) (fun u => if u = [] ∨ 60 < ahead.length + u.length then bad 2 else bnd gaps (fun _ => ret (ahead ++ u)))) := loc_bnd (loc_chars _) (fun u => loc_ite (loc_bad 2) (loc_bnd (loc_gaps (.inr rfl)) (fun _ => loc_ret _)))
  exact ⟨fun h => L.adv (key.1 h), fun h ag hd => key.2 (L.loc (key.1 h) ag hd)⟩
theorem loc_valueTo : ∀ (f : Nat) (v : List UInt8), Loc 125 (valueTo f v)
  | 0, _ => loc_bad 0
  | f + 1, v => loc_fits (loc_bnd (loc_word _) (loc_valueTo f)) (loc_ret v)
theorem loc_value : Loc 125 value := loc_bnd (loc_word _) (loc_valueTo 62)
theorem loc_decl : Loc 125 decl :=
  loc_bnd loc_sname fun _ => loc_bnd (loc_gaps (.inr rfl)) fun _ => loc_bnd (loc_tok (by decide)) fun _ => loc_bnd (loc_gaps (.inr rfl)) fun _ => loc_bnd loc_value fun _ =>
    loc_opt (by decide) (loc_bnd (loc_tok (by decide)) fun _ => loc_bnd (loc_gaps (.inr rfl)) fun _ => loc_ret _) (loc_ret _)
theorem loc_declsTo : ∀ (f : Nat) (l : List Dcl), Loc 125 (declsTo f l)
  | 0, _ => loc_bad 0
  | f + 1, l => loc_ended (loc_ret l) (loc_look (by decide) (loc_ret l) (loc_bnd (loc_ite (loc_fits (loc_bad 5) (loc_ret ())) (loc_ret ())) fun _ => loc_bnd loc_decl fun d => loc_opt (by decide) (loc_bnd (loc_gaps (.inr rfl)) fun _ => loc_declsTo f (l ++ [d])) (loc_ret _)))
theorem loc_decls : Loc 125 decls := loc_bnd (loc_gaps (.inr rfl)) fun _ => loc_declsTo 22 []
theorem loc_aheadOfPart (n most : Nat) : Loc 125 (aheadOfPart n most) := by
  have hp : ∀ {S S' : List UInt8} {k k' n : Nat}, Agree 125 S k S' k' n → hasPart S' k' = hasPart S k := by
    intro S S' k k' n ag
    unfold hasPart
    rw [fits_same ag, has_same ag (t := [42]) (by decide), has_same ag (t := [46]) (by decide), has_same ag (t := [35]) (by decide), has_same ag (t := [91]) (by decide), has_same ag (t := firstL) (by decide)]
  refine ⟨fun h => ?_, fun h ag hd => ?_⟩
  · unfold aheadOfPart at h
    split at h
    · cases h
    split at h
    · cases h
    injection h with h
    injection h with _ h
    omega
  · unfold aheadOfPart at h ⊢
    rw [hp ag]
    split at h
    · cases h
    split at h
    · cases h
    rename_i h1 h2
    injection h with h
    injection h with _ h
    rw [if_neg h1, if_neg h2]
    have : _ = 0 := Nat.add_left_cancel (h.symm.trans (Nat.add_zero _).symm)
    rw [this]
    rfl
theorem loc_attrTest : Loc 125 attrTest := loc_bnd loc_sname fun _ => loc_ite (loc_bad 1) (loc_bnd (loc_opt (by decide) (loc_bnd loc_sname fun _ => loc_ret _) (loc_ret _)) fun _ => loc_bnd (loc_tok (by decide)) fun _ => loc_ret _)
theorem loc_test : Loc 125 test := loc_opt (by decide) (loc_bnd loc_sname fun _ => loc_ret _) (loc_opt (by decide) (loc_bnd loc_sname fun _ => loc_ret _) (loc_opt (by decide) (loc_ret _) (loc_opt (by decide) loc_attrTest (loc_ret _))))
theorem loc_testsTo : ∀ (f : Nat) (l : List Tst), Loc 125 (testsTo f l)
  | 0, _ => loc_bad 0
  | f + 1, l => loc_bnd loc_test fun t => loc_ite (loc_ret l) (loc_ite (loc_bad 5) (loc_testsTo f (l ++ [t])))
theorem loc_part (j : Nat) : Loc 125 (part j) := loc_bnd (loc_opt (by decide) (loc_ret _) (loc_fits (loc_bnd loc_sname fun _ => loc_ret _) (loc_ret _))) fun l => loc_bnd (loc_testsTo 8 l) fun _ => loc_ret _
theorem loc_join : Loc 125 join := loc_bnd (loc_gaps (.inr rfl)) fun _ => loc_opt (by decide) (loc_bnd (loc_gaps (.inr rfl)) fun _ => loc_ret _) (loc_opt (by decide) (loc_bnd (loc_gaps (.inr rfl)) fun _ => loc_ret _) (loc_ite (loc_look (by decide) (loc_ret _) (loc_look (by decide) (loc_ret _) (loc_ended (loc_ret _) (loc_ret _)))) (loc_ret _)))
theorem loc_selectorTo : ∀ (f j : Nat) (l : List Prt), Loc 125 (selectorTo f j l)
  | 0, _, _ => loc_bad 0
  | f + 1, j, l => loc_bnd (loc_aheadOfPart _ _) fun _ => loc_bnd (loc_part j) fun p => loc_bnd loc_join fun q => loc_ite (loc_selectorTo f q.1 (l ++ [p])) (loc_ret _)
theorem loc_selectorsTo : ∀ (f : Nat) (l : List (List Prt)), Loc 125 (selectorsTo f l)
  | 0, _ => loc_bad 0
  | f + 1, l => loc_bnd (loc_aheadOfPart _ _) fun _ => loc_bnd (loc_selectorTo 8 0 []) fun p => loc_opt (by decide) (loc_bnd (loc_gaps (.inr rfl)) fun _ => loc_selectorsTo f (l ++ [p])) (loc_ret _)
def ruleBody (n : Nat) : Pr (List (List Prt) × List Dcl) :=
  bnd (aheadOfPart n 60) fun _ => bnd selectors fun l => bnd (tok [123]) fun _ => bnd decls fun d => ret (l, d)
theorem loc_ruleBody (n : Nat) : Loc 125 (ruleBody n) := loc_bnd (loc_aheadOfPart _ _) fun _ => loc_bnd (loc_selectorsTo 10 []) fun _ => loc_bnd (loc_tok (by decide)) fun _ => loc_bnd loc_decls fun _ => loc_ret _
def mediaBody : Pr (List UInt8) := bnd gaps fun g => if g then bnd sname fun n => bnd gaps fun _ => ret n else bad 2
theorem loc_mediaBody : Loc 123 mediaBody := loc_bnd (loc_gaps (.inl rfl)) fun _ => loc_ite (loc_bnd loc_sname fun _ => loc_bnd (loc_gaps (.inl rfl)) fun _ => loc_ret _) (loc_bad 2)
end Go.Proofs.YtblkldfokeeaeacGreatDoor.Sh
