/-
  The plain answer of package sheet, as functions over lists of bytes: what Parse and Decls, and all that they call, tell. No program is named here; no condition.
-/
import Derived.Test.YtanedepdhbdcgaaSpec
namespace Go.Proofs.Ytanedepdhbdcgaa
open Go

/-- What is read from a place on: an answer and the place behind it, or a fault. -/
abbrev Pr (α : Type) : Type := List UInt8 → Nat → Res (α × Nat)

structure Tst where
  kind : Nat
  name : List UInt8
  val : List UInt8
deriving DecidableEq

structure Prt where
  join : Nat
  tests : List Tst
deriving DecidableEq

structure Dcl where
  name : List UInt8
  val : List UInt8
  strong : Bool
deriving DecidableEq

structure Rl where
  media : List UInt8
  sels : List (List Prt)
  decls : List Dcl
  from_ : Nat
  to_ : Nat
deriving DecidableEq

def wordB (c : UInt8) : Bool := letterB c || (decide (48 ≤ c.toNat) && decide (c.toNat ≤ 57)) || decide (c.toNat = 35) || decide (c.toNat = 46) || decide (c.toNat = 37) || decide (c.toNat = 45)

/-- One thing and then another. -/
def bnd {α β : Type} (f : Pr α) (g : α → Pr β) : Pr β := fun S k => match f S k with | .error x => .error x | .ok (a, k1) => g a S k1
def ret {α : Type} (a : α) : Pr α := fun _ k => .ok (a, k)
def bad {α : Type} (c : Nat) : Pr α := fun _ k => .error (c, k)
/-- If the token stands next it is read, and f goes on; else g. -/
def opt {α : Type} (t : List UInt8) (f g : Pr α) : Pr α := fun S k => if has S k t then f S (k + t.length) else g S k
def look {α : Type} (t : List UInt8) (f g : Pr α) : Pr α := fun S k => if has S k t then f S k else g S k
def fits {α : Type} (p : UInt8 → Bool) (f g : Pr α) : Pr α := fun S k => if fitsAt S k p then f S k else g S k
def ended {α : Type} (f g : Pr α) : Pr α := fun S k => if S.length ≤ k then f S k else g S k
def tok (t : List UInt8) : Pr Unit := opt t (ret ()) (bad 2)

def gapsTo : Nat → List UInt8 → Nat → Res Nat
  | 0, _, _ => .error (0, 0)
  | f + 1, S, k =>
    if has S k [32] then gapsTo f S (k + 1)
    else if has S k [10] then gapsTo f S (k + 1)
    else if has S k [47, 42] then
      match pastAt S (k + 2) [42, 47] with
      | none => .error (2, k)
      | some e => gapsTo f S (e + 2)
    else .ok k

/-- Gaps; whether there are any. -/
def gaps : Pr Bool := fun S k => match gapsTo 4001 S k with | .error x => .error x | .ok k1 => .ok (decide (k < k1), k1)

def sname : Pr (List UInt8) := fun S k =>
  match nameTo S k with
  | .error x => .error x
  | .ok e => if 20 < (sub S k e).length then .error (2, k) else .ok (sub S k e, e)

def chars (p : UInt8 → Bool) : Pr (List UInt8) := fun S k => .ok (sub S k (whileEnd S k p), whileEnd S k p)

def word (ahead : List UInt8) : Pr (List UInt8) := fun S k =>
  match chars wordB S k with
  | .error x => .error x
  | .ok (u, k1) =>
    if u = [] then .error (2, k)
    else if 60 < ahead.length + u.length then .error (4, k)
    else bnd gaps (fun _ => ret (ahead ++ u)) S k1

def valueTo : Nat → List UInt8 → Pr (List UInt8)
  | 0, _ => bad 0
  | f + 1, v => fits wordB (bnd (word (v ++ [32])) (valueTo f)) (ret v)

def value : Pr (List UInt8) := bnd (word []) (valueTo 62)

def importantL : List UInt8 := [105, 109, 112, 111, 114, 116, 97, 110, 116]

def decl : Pr Dcl :=
  bnd sname fun n => bnd gaps fun _ => bnd (tok [58]) fun _ => bnd gaps fun _ => bnd value fun v =>
    opt [33] (bnd (tok importantL) fun _ => bnd gaps fun _ => ret ⟨n, v, true⟩) (ret ⟨n, v, false⟩)

def declsTo : Nat → List Dcl → Pr (List Dcl)
  | 0, _ => bad 0
  | f + 1, l =>
    ended (ret l) (look [125] (ret l)
      (bnd (if 20 ≤ l.length then fits letterB (bad 5) (ret ()) else ret ()) fun _ =>
        bnd decl fun d => opt [59] (bnd gaps fun _ => declsTo f (l ++ [d])) (ret (l ++ [d]))))

def decls : Pr (List Dcl) := bnd gaps fun _ => declsTo 22 []

def onlyDecls : Pr (List Dcl) := bnd decls fun l => ended (ret l) (bad 2)

def firstL : List UInt8 := [58, 102, 105, 114, 115, 116]

def hasPart (S : List UInt8) (k : Nat) : Bool := fitsAt S k letterB || has S k [42] || has S k [46] || has S k [35] || has S k [91] || has S k firstL

def aheadOfPart (n most : Nat) : Pr Unit := fun S k => if hasPart S k = false then .error (2, k) else if most ≤ n then .error (5, k) else .ok ((), k)

def attrTest : Pr Tst :=
  bnd sname fun n => if n = styleL then bad 1 else
    bnd (opt [61] (bnd sname fun v => ret (Tst.mk 5 n v)) (ret ⟨4, n, []⟩)) fun t => bnd (tok [93]) fun _ => ret t

def test : Pr Tst :=
  opt [46] (bnd sname fun n => ret ⟨2, n, []⟩) (opt [35] (bnd sname fun n => ret ⟨3, n, []⟩) (opt firstL (ret ⟨6, [], []⟩) (opt [91] attrTest (ret ⟨0, [], []⟩))))

def testsTo : Nat → List Tst → Pr (List Tst)
  | 0, _ => bad 0
  | f + 1, l => bnd test fun t => if t.kind = 0 then ret l else if 6 ≤ l.length then bad 5 else testsTo f (l ++ [t])

def partHead : Pr (List Tst) := opt [42] (ret []) (fits letterB (bnd sname fun n => ret [⟨1, n, []⟩]) (ret []))

def part (join : Nat) : Pr Prt := bnd partHead fun l => bnd (testsTo 8 l) fun l => ret ⟨join, l⟩

def join : Pr (Nat × Bool) :=
  bnd gaps fun g => opt [62] (bnd gaps fun _ => ret (2, true)) (opt [43] (bnd gaps fun _ => ret (3, true))
    (if g then look [44] (ret (0, false)) (look [123] (ret (0, false)) (ended (ret (0, false)) (ret (1, true)))) else ret (0, false)))

def selectorTo : Nat → Nat → List Prt → Pr (List Prt)
  | 0, _, _ => bad 0
  | f + 1, j, l => bnd (aheadOfPart l.length 6) fun _ => bnd (part j) fun p => bnd join fun q => if q.2 then selectorTo f q.1 (l ++ [p]) else ret (l ++ [p])

def selector : Pr (List Prt) := selectorTo 8 0 []

def selectorsTo : Nat → List (List Prt) → Pr (List (List Prt))
  | 0, _ => bad 0
  | f + 1, l => bnd (aheadOfPart l.length 8) fun _ => bnd selector fun p => opt [44] (bnd gaps fun _ => selectorsTo f (l ++ [p])) (ret (l ++ [p]))

def selectors : Pr (List (List Prt)) := selectorsTo 10 []

/-- A rule where n stand already: its selectors and its declarations. -/
def rule (n : Nat) : Pr (List (List Prt) × List Dcl) :=
  bnd (aheadOfPart n 60) fun _ => bnd selectors fun l => bnd (tok [123]) fun _ => bnd decls fun d => bnd (tok [125]) fun _ => ret (l, d)

def mediaL : List UInt8 := [64, 109, 101, 100, 105, 97]

/-- What stands behind the word, up to behind the brace. -/
def mediaHead : Pr (List UInt8) :=
  bnd gaps fun g => if g then bnd sname fun n => bnd gaps fun _ => bnd (tok [123]) fun _ => ret n else bad 2

/-- Rules, and what stands between: within media, or in none. -/
def rulesTo : Nat → List UInt8 → Nat → Option (List UInt8) → List Rl → Res (List Rl)
  | 0, _, _, _, _ => .error (0, 0)
  | f + 1, S, k, md, L =>
    match gaps S k with
    | .error x => .error x
    | .ok (_, k1) =>
      match md with
      | none =>
        if S.length ≤ k1 then .ok L
        else if has S k1 mediaL then
          match mediaHead S (k1 + 6) with
          | .error x => .error x
          | .ok (n, k2) => rulesTo f S k2 (some n) L
        else
          match rule L.length S k1 with
          | .error x => .error x
          | .ok (p, k2) => rulesTo f S k2 none (L ++ [⟨[], p.1, p.2, k1, k2⟩])
      | some n =>
        if has S k1 [125] then rulesTo f S (k1 + 1) none L
        else
          match rule L.length S k1 with
          | .error x => .error x
          | .ok (p, k2) => rulesTo f S k2 (some n) (L ++ [⟨n, p.1, p.2, k1, k2⟩])

def sheetAll (S : List UInt8) : Res (List Rl) := rulesTo 4001 S 0 none []
def sheetParse (S : List UInt8) : Res (List Rl) := if 4000 < S.length then .error (4, 0) else sheetAll S
def declsAll (S : List UInt8) : Res (List Dcl) := match onlyDecls S 0 with | .error x => .error x | .ok (l, _) => .ok l
def declsParse (S : List UInt8) : Res (List Dcl) := if 4000 < S.length then .error (4, 0) else declsAll S

def printOne (d : Dcl) : List UInt8 := d.name ++ [58, 32] ++ d.val ++ (if d.strong then [32, 33] ++ importantL else [])
/-- The declarations' text. -/
def printL : List Dcl → List UInt8
  | [] => []
  | [d] => printOne d
  | d :: e :: l => printOne d ++ [59, 32] ++ printL (e :: l)

end Go.Proofs.Ytanedepdhbdcgaa
