/-
  The plain answers of packages page and sheet, over lists of bytes. No program is named here; no condition.
-/
import Derived.Lib.Index
import Derived.Lib.Strings
import Derived.Lib.IndexLaws
namespace Go.Proofs.YtfobkiglmphgjabGreatDoor.Sh
open Go

/-- An answer, or a fault: which, and where. -/
abbrev Res (α : Type) : Type := Except (Nat × Nat) α

structure Atr where
  name : List UInt8
  val : List UInt8
  from_ : Nat
  to_ : Nat

structure Nd where
  name : List UInt8
  parent : Int
  attrs : List Atr
  nameEnd : Nat
  inFrom : Nat
  inTo : Nat

def letterB (c : UInt8) : Bool := decide (97 ≤ c.toNat) && decide (c.toNat ≤ 122)
def nameB (c : UInt8) : Bool := letterB c || (decide (48 ≤ c.toNat) && decide (c.toNat ≤ 57)) || decide (c.toNat = 45)
def plainB (c : UInt8) : Bool := decide (32 ≤ c.toNat) && decide (c.toNat ≤ 126)
def textB (c : UInt8) : Bool := decide (c.toNat = 10) || (plainB c && !decide (c.toNat = 60))
def valueB (c : UInt8) : Bool := plainB c && !decide (c.toNat = 34) && !decide (c.toNat = 60) && !decide (c.toNat = 38)

def has (S : List UInt8) (k : Nat) (t : List UInt8) : Bool := t.isPrefixOf (S.drop k)
def sub (S : List UInt8) (a b : Nat) : List UInt8 := (S.drop a).take (b - a)
def need (S : List UInt8) (k : Nat) (t : List UInt8) : Res Nat := if has S k t then .ok (k + t.length) else .error (2, k)
def fitsAt (S : List UInt8) (k : Nat) (p : UInt8 → Bool) : Bool := match S[k]? with | some c => p c | none => false
def whileEnd (S : List UInt8) (k : Nat) (p : UInt8 → Bool) : Nat := k + ((S.drop k).takeWhile p).length
def nameTo (S : List UInt8) (k : Nat) : Res Nat := if fitsAt S k letterB then .ok (whileEnd S (k + 1) nameB) else .error (2, k)
/-- Where the first such token begins, from k on. -/
def pastAt (S : List UInt8) (k : Nat) (t : List UInt8) : Option Nat := if Lib.index (S.drop k) t < 0 then none else some (k + (Lib.index (S.drop k) t).toNat)

def attrName (S : List UInt8) (k : Nat) (as : List Atr) : Res (List UInt8 × Nat) :=
  match nameTo S k with
  | .error x => .error x
  | .ok e =>
    if 8 ≤ as.length then .error (5, k)
    else if 20 < (sub S k e).length then .error (7, k)
    else if as.any (fun a => a.name == sub S k e) then .error (7, k)
    else .ok (sub S k e, e)

def attr (S : List UInt8) (k : Nat) (as : List Atr) : Res (Atr × Nat) :=
  match need S k [32] with
  | .error x => .error x
  | .ok k1 =>
    match attrName S k1 as with
    | .error x => .error x
    | .ok (nm, k2) =>
      match need S k2 [61, 34] with
      | .error x => .error x
      | .ok k3 =>
        match need S (whileEnd S k3 valueB) [34] with
        | .error x => .error x
        | .ok k5 => .ok (⟨nm, sub S k3 (whileEnd S k3 valueB), k, k5⟩, k5)

def attrsTo : Nat → List UInt8 → Nat → List Atr → Res (List Atr × Nat)
  | 0, _, _, _ => .error (0, 0)
  | f + 1, S, k, as =>
    if has S k [32] then
      match attr S k as with
      | .error x => .error x
      | .ok (a, k1) => attrsTo f S k1 (as ++ [a])
    else .ok (as, k)

def firstTag (S : List UInt8) (k : Nat) : Res (Nd × Nat) :=
  match need S k [60] with
  | .error x => .error x
  | .ok k1 =>
    match nameTo S k1 with
    | .error x => .error x
    | .ok k2 =>
      if 20 < (sub S k1 k2).length then .error (7, k1)
      else
        match attrsTo 10 S k2 [] with
        | .error x => .error x
        | .ok (as, k3) =>
          match need S k3 [62] with
          | .error x => .error x
          | .ok k4 => .ok (⟨sub S k1 k2, 0, as, k2, 0, 0⟩, k4)

def styleL : List UInt8 := [115, 116, 121, 108, 101]
def lastTag (n : List UInt8) : List UInt8 := [60, 47] ++ n ++ [62]

def element (rec : Nat → Int → Nat → List Nd → Res (Nat × List Nd)) (S : List UInt8) (k : Nat) (parent : Int) (deep : Nat) (L : List Nd) : Res (Nat × List Nd) :=
  if 20 < deep ∨ 120 ≤ L.length then .error (4, k)
  else
    match firstTag S k with
    | .error x => .error x
    | .ok (n, k1) =>
      if n.name = styleL then
        match pastAt S k1 (lastTag styleL) with
        | none => .error (2, S.length)
        | some e => .ok (e + 8, L ++ [{ n with parent := parent, inFrom := k1, inTo := e }])
      else
        match rec k1 L.length (deep + 1) (L ++ [{ n with parent := parent }]) with
        | .error x => .error x
        | .ok (k2, L2) =>
          match need S k2 (lastTag n.name) with
          | .error x => .error x
          | .ok k3 => .ok (k3, L2)

def items : Nat → List UInt8 → Nat → Int → Nat → List Nd → Res (Nat × List Nd)
  | 0, _, _, _, _, _ => .error (0, 0)
  | f + 1, S, k, parent, deep, L =>
    if S.length ≤ k ∨ has S k [60, 47] = true then .ok (k, L)
    else if has S k [60, 33, 45, 45] then
      match pastAt S (k + 4) [45, 45, 62] with
      | none => .error (2, S.length)
      | some e => items f S (e + 3) parent deep L
    else if has S k [60] then
      match element (items f S) S k parent deep L with
      | .error x => .error x
      | .ok (k1, L1) => items f S k1 parent deep L1
    else if fitsAt S k textB then items f S (k + 1) parent deep L
    else .error (2, k)

def readAll (S : List UInt8) : Res (List Nd) :=
  match items 6001 S 0 (-1) 1 [] with
  | .error x => .error x
  | .ok (k, L) => if k < S.length then .error (2, k) else .ok L

def parse (S : List UInt8) : Res (List Nd) := if 6000 < S.length then .error (4, 0) else readAll S

end Go.Proofs.YtfobkiglmphgjabGreatDoor.Sh

namespace Go.Proofs.YtfobkiglmphgjabGreatDoor.Sh
open Go

/-- What is read from a place on: an answer and the place behind it, or a fault. -/
abbrev Pr (α : Type) : Type := List UInt8 → Nat → Res (α × Nat)

structure Tst where
  kind : Nat
  name : List UInt8
  val : List UInt8
deriving DecidableEq

structure Prt where
  join : Nat
  tests : List Tst
deriving DecidableEq

structure Dcl where
  name : List UInt8
  val : List UInt8
  strong : Bool
deriving DecidableEq

structure Rl where
  media : List UInt8
  sels : List (List Prt)
  decls : List Dcl
  from_ : Nat
  to_ : Nat
deriving DecidableEq

def wordB (c : UInt8) : Bool := letterB c || (decide (48 ≤ c.toNat) && decide (c.toNat ≤ 57)) || decide (c.toNat = 35) || decide (c.toNat = 46) || decide (c.toNat = 37) || decide (c.toNat = 45)

/-- One thing and then another. -/
def bnd {α β : Type} (f : Pr α) (g : α → Pr β) : Pr β := fun S k => match f S k with | .error x => .error x | .ok (a, k1) => g a S k1
def ret {α : Type} (a : α) : Pr α := fun _ k => .ok (a, k)
def bad {α : Type} (c : Nat) : Pr α := fun _ k => .error (c, k)
/-- If the token stands next it is read, and f goes on; else g. -/
def opt {α : Type} (t : List UInt8) (f g : Pr α) : Pr α := fun S k => if has S k t then f S (k + t.length) else g S k
def look {α : Type} (t : List UInt8) (f g : Pr α) : Pr α := fun S k => if has S k t then f S k else g S k
def fits {α : Type} (p : UInt8 → Bool) (f g : Pr α) : Pr α := fun S k => if fitsAt S k p then f S k else g S k
def ended {α : Type} (f g : Pr α) : Pr α := fun S k => if S.length ≤ k then f S k else g S k
def tok (t : List UInt8) : Pr Unit := opt t (ret ()) (bad 2)

def gapsTo : Nat → List UInt8 → Nat → Res Nat
  | 0, _, _ => .error (0, 0)
  | f + 1, S, k =>
    if has S k [32] then gapsTo f S (k + 1)
    else if has S k [10] then gapsTo f S (k + 1)
    else if has S k [47, 42] then
      match pastAt S (k + 2) [42, 47] with
      | none => .error (2, k)
      | some e => gapsTo f S (e + 2)
    else .ok k

/-- Gaps; whether there are any. -/
def gaps : Pr Bool := fun S k => match gapsTo 4001 S k with | .error x => .error x | .ok k1 => .ok (decide (k < k1), k1)

def sname : Pr (List UInt8) := fun S k =>
  match nameTo S k with
  | .error x => .error x
  | .ok e => if 20 < (sub S k e).length then .error (2, k) else .ok (sub S k e, e)

def chars (p : UInt8 → Bool) : Pr (List UInt8) := fun S k => .ok (sub S k (whileEnd S k p), whileEnd S k p)

def word (ahead : List UInt8) : Pr (List UInt8) := fun S k =>
  match chars wordB S k with
  | .error x => .error x
  | .ok (u, k1) =>
    if u = [] then .error (2, k)
    else if 60 < ahead.length + u.length then .error (4, k)
    else bnd gaps (fun _ => ret (ahead ++ u)) S k1

def valueTo : Nat → List UInt8 → Pr (List UInt8)
  | 0, _ => bad 0
  | f + 1, v => fits wordB (bnd (word (v ++ [32])) (valueTo f)) (ret v)

def value : Pr (List UInt8) := bnd (word []) (valueTo 62)

def importantL : List UInt8 := [105, 109, 112, 111, 114, 116, 97, 110, 116]

def decl : Pr Dcl :=
  bnd sname fun n => bnd gaps fun _ => bnd (tok [58]) fun _ => bnd gaps fun _ => bnd value fun v =>
    opt [33] (bnd (tok importantL) fun _ => bnd gaps fun _ => ret ⟨n, v, true⟩) (ret ⟨n, v, false⟩)

def declsTo : Nat → List Dcl → Pr (List Dcl)
  | 0, _ => bad 0
  | f + 1, l =>
    ended (ret l) (look [125] (ret l)
      (bnd (if 20 ≤ l.length then fits letterB (bad 5) (ret ()) else ret ()) fun _ =>
        bnd decl fun d => opt [59] (bnd gaps fun _ => declsTo f (l ++ [d])) (ret (l ++ [d]))))

def decls : Pr (List Dcl) := bnd gaps fun _ => declsTo 22 []

def onlyDecls : Pr (List Dcl) := bnd decls fun l => ended (ret l) (bad 2)

def firstL : List UInt8 := [58, 102, 105, 114, 115, 116]

def hasPart (S : List UInt8) (k : Nat) : Bool := fitsAt S k letterB || has S k [42] || has S k [46] || has S k [35] || has S k [91] || has S k firstL

def aheadOfPart (n most : Nat) : Pr Unit := fun S k => if hasPart S k = false then .error (2, k) else if most ≤ n then .error (5, k) else .ok ((), k)

def attrTest : Pr Tst :=
  bnd sname fun n => if n = styleL then bad 1 else
    bnd (opt [61] (bnd sname fun v => ret (Tst.mk 5 n v)) (ret ⟨4, n, []⟩)) fun t => bnd (tok [93]) fun _ => ret t

def test : Pr Tst :=
  opt [46] (bnd sname fun n => ret ⟨2, n, []⟩) (opt [35] (bnd sname fun n => ret ⟨3, n, []⟩) (opt firstL (ret ⟨6, [], []⟩) (opt [91] attrTest (ret ⟨0, [], []⟩))))

def testsTo : Nat → List Tst → Pr (List Tst)
  | 0, _ => bad 0
  | f + 1, l => bnd test fun t => if t.kind = 0 then ret l else if 6 ≤ l.length then bad 5 else testsTo f (l ++ [t])

def partHead : Pr (List Tst) := opt [42] (ret []) (fits letterB (bnd sname fun n => ret [⟨1, n, []⟩]) (ret []))

def part (join : Nat) : Pr Prt := bnd partHead fun l => bnd (testsTo 8 l) fun l => ret ⟨join, l⟩

def join : Pr (Nat × Bool) :=
  bnd gaps fun g => opt [62] (bnd gaps fun _ => ret (2, true)) (opt [43] (bnd gaps fun _ => ret (3, true))
    (if g then look [44] (ret (0, false)) (look [123] (ret (0, false)) (ended (ret (0, false)) (ret (1, true)))) else ret (0, false)))

def selectorTo : Nat → Nat → List Prt → Pr (List Prt)
  | 0, _, _ => bad 0
  | f + 1, j, l => bnd (aheadOfPart l.length 6) fun _ => bnd (part j) fun p => bnd join fun q => if q.2 then selectorTo f q.1 (l ++ [p]) else ret (l ++ [p])

def selector : Pr (List Prt) := selectorTo 8 0 []

def selectorsTo : Nat → List (List Prt) → Pr (List (List Prt))
  | 0, _ => bad 0
  | f + 1, l => bnd (aheadOfPart l.length 8) fun _ => bnd selector fun p => opt [44] (bnd gaps fun _ => selectorsTo f (l ++ [p])) (ret (l ++ [p]))

def selectors : Pr (List (List Prt)) := selectorsTo 10 []

/-- A rule where n stand already: its selectors and its declarations. -/
def rule (n : Nat) : Pr (List (List Prt) × List Dcl) :=
  bnd (aheadOfPart n 60) fun _ => bnd selectors fun l => bnd (tok [123]) fun _ => bnd decls fun d => bnd (tok [125]) fun _ => ret (l, d)

def mediaL : List UInt8 := [64, 109, 101, 100, 105, 97]

/-- What stands behind the word, up to behind the brace. -/
def mediaHead : Pr (List UInt8) :=
  bnd gaps fun g => if g then bnd sname fun n => bnd gaps fun _ => bnd (tok [123]) fun _ => ret n else bad 2

/-- Rules, and what stands between: within media, or in none. -/
def rulesTo : Nat → List UInt8 → Nat → Option (List UInt8) → List Rl → Res (List Rl)
  | 0, _, _, _, _ => .error (0, 0)
  | f + 1, S, k, md, L =>
    match gaps S k with
    | .error x => .error x
    | .ok (_, k1) =>
      match md with
      | none =>
        if S.length ≤ k1 then .ok L
        else if has S k1 mediaL then
          match mediaHead S (k1 + 6) with
          | .error x => .error x
          | .ok (n, k2) => rulesTo f S k2 (some n) L
        else
          match rule L.length S k1 with
          | .error x => .error x
          | .ok (p, k2) => rulesTo f S k2 none (L ++ [⟨[], p.1, p.2, k1, k2⟩])
      | some n =>
        if has S k1 [125] then rulesTo f S (k1 + 1) none L
        else
          match rule L.length S k1 with
          | .error x => .error x
          | .ok (p, k2) => rulesTo f S k2 (some n) (L ++ [⟨n, p.1, p.2, k1, k2⟩])

def sheetAll (S : List UInt8) : Res (List Rl) := rulesTo 4001 S 0 none []
def sheetParse (S : List UInt8) : Res (List Rl) := if 4000 < S.length then .error (4, 0) else sheetAll S
def declsAll (S : List UInt8) : Res (List Dcl) := match onlyDecls S 0 with | .error x => .error x | .ok (l, _) => .ok l
def declsParse (S : List UInt8) : Res (List Dcl) := if 4000 < S.length then .error (4, 0) else declsAll S

def printOne (d : Dcl) : List UInt8 := d.name ++ [58, 32] ++ d.val ++ (if d.strong then [32, 33] ++ importantL else [])
/-- The declarations' text. -/
def printL : List Dcl → List UInt8
  | [] => []
  | [d] => printOne d
  | d :: e :: l => printOne d ++ [59, 32] ++ printL (e :: l)

end Go.Proofs.YtfobkiglmphgjabGreatDoor.Sh

namespace Go.Proofs.YtfobkiglmphgjabGreatDoor.Sh

theorem fitsAt_ge {S : List UInt8} {k : Nat} (p : UInt8 → Bool) (h : S.length ≤ k) : fitsAt S k p = false := by
  unfold fitsAt; rw [List.getElem?_eq_none h]
theorem fitsAt_lt {S : List UInt8} {k : Nat} (p : UInt8 → Bool) (h : k < S.length) : fitsAt S k p = p S[k] := by
  unfold fitsAt; rw [List.getElem?_eq_getElem h]
theorem whileEnd_step {S : List UInt8} {k : Nat} {p : UInt8 → Bool} (h : fitsAt S k p = true) : whileEnd S (k + 1) p = whileEnd S k p := by
  have hk : k < S.length := by
    by_cases hk : k < S.length
    · exact hk
    · rw [fitsAt_ge p (by omega)] at h; cases h
  rw [fitsAt_lt p hk] at h
  unfold whileEnd
  rw [List.drop_eq_getElem_cons hk, List.takeWhile_cons, if_pos h, List.length_cons]
  omega
theorem whileEnd_stop {S : List UInt8} {k : Nat} {p : UInt8 → Bool} (h : fitsAt S k p = false) : whileEnd S k p = k := by
  unfold whileEnd
  by_cases hk : k < S.length
  · rw [fitsAt_lt p hk] at h
    rw [List.drop_eq_getElem_cons hk, List.takeWhile_cons, if_neg (by simp [h])]; rfl
  · rw [List.drop_of_length_le (by omega)]; rfl

theorem index_spec : ∀ (s t : List UInt8) (i : Nat), Lib.index s t = i → t.isPrefixOf (s.drop i) = true ∧ i ≤ s.length ∧ ∀ j, j < i → t.isPrefixOf (s.drop j) = false
  | [], t, i, h => by
    rw [Lib.index] at h
    split at h
    · rename_i ht
      have : i = 0 := by omega
      subst this
      have : t = [] := by simpa using ht
      subst this
      simp
    · omega
  | b :: l, t, i, h => by
    rw [Lib.index] at h
    split at h
    · rename_i hp
      have : i = 0 := by omega
      subst this
      exact ⟨hp, Nat.zero_le _, fun j hj => absurd hj (Nat.not_lt_zero _)⟩
    · rename_i hp
      split at h
      · omega
      · rename_i hne
        have hge := Lib.index_ge l t
        have hn : Lib.index l t ≠ -1 := by simpa using hne
        obtain ⟨k, rfl⟩ : ∃ k, i = k + 1 := ⟨i - 1, by omega⟩
        obtain ⟨h1, h2, h3⟩ := index_spec l t k (by omega)
        refine ⟨by simpa using h1, by simpa using h2, fun j hj => ?_⟩
        cases j with
        | zero => exact Bool.eq_false_iff.2 hp
        | succ j => simpa using h3 j (by omega)
theorem whileEnd_le {S : List UInt8} {k : Nat} (p : UInt8 → Bool) (h : k ≤ S.length) : k ≤ whileEnd S k p ∧ whileEnd S k p ≤ S.length := by
  unfold whileEnd
  have := (List.takeWhile_sublist (l := S.drop k) p).length_le
  rw [List.length_drop] at this
  omega

theorem has_le {S : List UInt8} {k : Nat} {t : List UInt8} (h : has S k t = true) (hk : k ≤ S.length) : k + t.length ≤ S.length := by
  unfold has at h
  have := (List.isPrefixOf_iff_prefix.1 h).length_le
  rw [List.length_drop] at this
  omega
theorem nameTo_le {S : List UInt8} {k m : Nat} (h : nameTo S k = .ok m) : k < m ∧ m ≤ S.length := by
  unfold nameTo at h
  split at h
  · rename_i hf
    have hk : k < S.length := by
      by_cases hk : k < S.length
      · exact hk
      · rw [fitsAt_ge _ (by omega)] at hf; cases hf
    injection h with h
    have := whileEnd_le (S := S) (k := k + 1) nameB (by omega)
    omega
  · cases h
theorem pastAt_le {S : List UInt8} {k m : Nat} {t : List UInt8} (h : pastAt S k t = some m) (hk : k ≤ S.length) : k ≤ m ∧ m + t.length ≤ S.length := by
  unfold pastAt at h
  split at h
  · cases h
  · rename_i hge
    injection h with h
    obtain ⟨h1, h2, _⟩ := index_spec (S.drop k) t (Lib.index (S.drop k) t).toNat (by omega)
    have := (List.isPrefixOf_iff_prefix.1 h1).length_le
    rw [List.length_drop] at h2
    rw [List.length_drop, List.length_drop] at this
    omega
end Go.Proofs.YtfobkiglmphgjabGreatDoor.Sh
