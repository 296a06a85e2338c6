/-
  The plain answer of package page, as functions over lists of bytes: what Parse, and all that it calls, tells. No program is named here; no condition.
-/
import Derived.Lib.Index
import Derived.Lib.Strings
namespace Go.Proofs.Ytanedepdhbdcgaa
open Go

/-- An answer, or a fault: which, and where. -/
abbrev Res (α : Type) : Type := Except (Nat × Nat) α

structure Atr where
  name : List UInt8
  val : List UInt8
  from_ : Nat
  to_ : Nat

structure Nd where
  name : List UInt8
  parent : Int
  attrs : List Atr
  nameEnd : Nat
  inFrom : Nat
  inTo : Nat

def letterB (c : UInt8) : Bool := decide (97 ≤ c.toNat) && decide (c.toNat ≤ 122)
def nameB (c : UInt8) : Bool := letterB c || (decide (48 ≤ c.toNat) && decide (c.toNat ≤ 57)) || decide (c.toNat = 45)
def plainB (c : UInt8) : Bool := decide (32 ≤ c.toNat) && decide (c.toNat ≤ 126)
def textB (c : UInt8) : Bool := decide (c.toNat = 10) || (plainB c && !decide (c.toNat = 60))
def valueB (c : UInt8) : Bool := plainB c && !decide (c.toNat = 34) && !decide (c.toNat = 60) && !decide (c.toNat = 38)

def has (S : List UInt8) (k : Nat) (t : List UInt8) : Bool := t.isPrefixOf (S.drop k)
def sub (S : List UInt8) (a b : Nat) : List UInt8 := (S.drop a).take (b - a)
def need (S : List UInt8) (k : Nat) (t : List UInt8) : Res Nat := if has S k t then .ok (k + t.length) else .error (2, k)
def fitsAt (S : List UInt8) (k : Nat) (p : UInt8 → Bool) : Bool := match S[k]? with | some c => p c | none => false
def whileEnd (S : List UInt8) (k : Nat) (p : UInt8 → Bool) : Nat := k + ((S.drop k).takeWhile p).length
def nameTo (S : List UInt8) (k : Nat) : Res Nat := if fitsAt S k letterB then .ok (whileEnd S (k + 1) nameB) else .error (2, k)
/-- Where the first such token begins, from k on. -/
def pastAt (S : List UInt8) (k : Nat) (t : List UInt8) : Option Nat := if Lib.index (S.drop k) t < 0 then none else some (k + (Lib.index (S.drop k) t).toNat)

def attrName (S : List UInt8) (k : Nat) (as : List Atr) : Res (List UInt8 × Nat) :=
  match nameTo S k with
  | .error x => .error x
  | .ok e =>
    if 8 ≤ as.length then .error (5, k)
    else if 20 < (sub S k e).length then .error (7, k)
    else if as.any (fun a => a.name == sub S k e) then .error (7, k)
    else .ok (sub S k e, e)

def attr (S : List UInt8) (k : Nat) (as : List Atr) : Res (Atr × Nat) :=
  match need S k [32] with
  | .error x => .error x
  | .ok k1 =>
    match attrName S k1 as with
    | .error x => .error x
    | .ok (nm, k2) =>
      match need S k2 [61, 34] with
      | .error x => .error x
      | .ok k3 =>
        match need S (whileEnd S k3 valueB) [34] with
        | .error x => .error x
        | .ok k5 => .ok (⟨nm, sub S k3 (whileEnd S k3 valueB), k, k5⟩, k5)

def attrsTo : Nat → List UInt8 → Nat → List Atr → Res (List Atr × Nat)
  | 0, _, _, _ => .error (0, 0)
  | f + 1, S, k, as =>
    if has S k [32] then
      match attr S k as with
      | .error x => .error x
      | .ok (a, k1) => attrsTo f S k1 (as ++ [a])
    else .ok (as, k)

def firstTag (S : List UInt8) (k : Nat) : Res (Nd × Nat) :=
  match need S k [60] with
  | .error x => .error x
  | .ok k1 =>
    match nameTo S k1 with
    | .error x => .error x
    | .ok k2 =>
      if 20 < (sub S k1 k2).length then .error (7, k1)
      else
        match attrsTo 10 S k2 [] with
        | .error x => .error x
        | .ok (as, k3) =>
          match need S k3 [62] with
          | .error x => .error x
          | .ok k4 => .ok (⟨sub S k1 k2, 0, as, k2, 0, 0⟩, k4)

def styleL : List UInt8 := [115, 116, 121, 108, 101]
def lastTag (n : List UInt8) : List UInt8 := [60, 47] ++ n ++ [62]

def element (rec : Nat → Int → Nat → List Nd → Res (Nat × List Nd)) (S : List UInt8) (k : Nat) (parent : Int) (deep : Nat) (L : List Nd) : Res (Nat × List Nd) :=
  if 20 < deep ∨ 120 ≤ L.length then .error (4, k)
  else
    match firstTag S k with
    | .error x => .error x
    | .ok (n, k1) =>
      if n.name = styleL then
        match pastAt S k1 (lastTag styleL) with
        | none => .error (2, S.length)
        | some e => .ok (e + 8, L ++ [{ n with parent := parent, inFrom := k1, inTo := e }])
      else
        match rec k1 L.length (deep + 1) (L ++ [{ n with parent := parent }]) with
        | .error x => .error x
        | .ok (k2, L2) =>
          match need S k2 (lastTag n.name) with
          | .error x => .error x
          | .ok k3 => .ok (k3, L2)

def items : Nat → List UInt8 → Nat → Int → Nat → List Nd → Res (Nat × List Nd)
  | 0, _, _, _, _, _ => .error (0, 0)
  | f + 1, S, k, parent, deep, L =>
    if S.length ≤ k ∨ has S k [60, 47] = true then .ok (k, L)
    else if has S k [60, 33, 45, 45] then
      match pastAt S (k + 4) [45, 45, 62] with
      | none => .error (2, S.length)
      | some e => items f S (e + 3) parent deep L
    else if has S k [60] then
      match element (items f S) S k parent deep L with
      | .error x => .error x
      | .ok (k1, L1) => items f S k1 parent deep L1
    else if fitsAt S k textB then items f S (k + 1) parent deep L
    else .error (2, k)

def readAll (S : List UInt8) : Res (List Nd) :=
  match items 6001 S 0 (-1) 1 [] with
  | .error x => .error x
  | .ok (k, L) => if k < S.length then .error (2, k) else .ok L

def parse (S : List UInt8) : Res (List Nd) := if 6000 < S.length then .error (4, 0) else readAll S

end Go.Proofs.Ytanedepdhbdcgaa
