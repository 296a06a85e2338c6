/-
  The plain answer of package match, over lists: what an element, a test, a part and a selector are, which element is as a test asks, whom a selector means, what it weighs. No program's function is named here; no condition.
-/
import Derived.Lib.Split
import Derived.Lib.SlicesS
namespace Go.Proofs.YtlodblcmpebfkaaDoor

structure At where
  name : ByteArray
  val : ByteArray
  fr : Int
  to : Int
structure Nd where
  name : ByteArray
  parent : Int
  attrs : List At
  ne : Int
  fr : Int
  to : Int
structure Ts where
  kind : Int
  name : ByteArray
  val : ByteArray
structure Pt where
  join : Int
  tests : List Ts

def nd0 : Nd := ⟨⟨#[]⟩, 0, [], 0, 0, 0⟩
def pt0 : Pt := ⟨0, []⟩
def ndAt (l : List Nd) (k : Nat) : Nd := l.getD k nd0
def ptAt (s : List Pt) (k : Nat) : Pt := s.getD k pt0
def par (l : List Nd) (k : Nat) : Int := (ndAt l k).parent

def getA (name : ByteArray) : List At → Option ByteArray
  | [] => none
  | a :: l => if a.name.toList == name.toList then some a.val else getA name l

/-- The last one ahead of number k whose parent is p. -/
def aheadTo (l : List Nd) (p : Int) : Nat → Int
  | 0 => -1
  | k + 1 => if par l k = p then k else aheadTo l p k
def ahead (l : List Nd) (k : Nat) : Int := aheadTo l (par l k) k

def clsN : ByteArray := ⟨#[99, 108, 97, 115, 115]⟩
def idN : ByteArray := ⟨#[105, 100]⟩
def blank : ByteArray := ⟨#[32]⟩
def clsB (val name : ByteArray) : Bool := !name.toList.isEmpty && Lib.containsS (Lib.splitB blank 0 (Lib.countB val blank) val) name
def clsOf (l : List At) (name : ByteArray) : Bool := match getA clsN l with
  | none => false
  | some v => clsB v name
def attrB (l : List At) (name val : ByteArray) : Bool := match getA name l with
  | none => false
  | some v => v.toList == val.toList

def testB (l : List Nd) (k : Nat) (t : Ts) : Bool :=
  if t.kind = 1 then (ndAt l k).name.toList == t.name.toList
  else if t.kind = 2 then clsOf (ndAt l k).attrs t.name
  else if t.kind = 3 then attrB (ndAt l k).attrs idN t.name
  else if t.kind = 4 then (getA t.name (ndAt l k).attrs).isSome
  else if t.kind = 5 then attrB (ndAt l k).attrs t.name t.val
  else if t.kind = 6 then decide (ahead l k < 0)
  else false
def partB (l : List Nd) (k : Nat) (p : Pt) : Bool := p.tests.all (testB l k)

def aboves (l : List Nd) (k : Nat) : List Nat :=
  if _h : 0 ≤ par l k ∧ par l k < k then (par l k).toNat :: aboves l (par l k).toNat else []
termination_by k
decreasing_by omega

/-- Where a join that leads to one element at most leads. -/
def single (l : List Nd) (k : Nat) (j : Int) : Int := if j = 2 then par l k else if j = 3 then ahead l k else -1
def ups (l : List Nd) (k : Nat) (j : Int) : List Nat :=
  if j = 1 then aboves l k else if 0 ≤ single l k j ∧ single l k j < l.length then [(single l k j).toNat] else []

/-- Behind part i: the parts ahead of it. -/
def rest (l : List Nd) (s : List Pt) : Nat → Nat → Bool
  | 0, _ => true
  | i + 1, x => (ups l x (ptAt s (i + 1)).join).any fun y => partB l y (ptAt s i) && rest l s i y
def meansB (l : List Nd) (k : Nat) (s : List Pt) : Bool := partB l k (ptAt s (s.length - 1)) && rest l s (s.length - 1) k
def inB (l : List Nd) (k : Int) : Bool := decide (0 ≤ k) && decide (k < l.length)
def matchB (l : List Nd) (k : Int) (s : List Pt) : Bool := inB l k && decide (0 < s.length) && meansB l k.toNat s

theorem ndAt_eq {l : List Nd} {k : Nat} (h : k < l.length) : ndAt l k = l[k] := by simp [ndAt, List.getD, h]
theorem ptAt_eq {s : List Pt} {k : Nat} (h : k < s.length) : ptAt s k = s[k] := by simp [ptAt, List.getD, h]

theorem aheadTo_bd (l : List Nd) (p : Int) : ∀ k, -1 ≤ aheadTo l p k ∧ aheadTo l p k < k
  | 0 => by simp [aheadTo]
  | k + 1 => by
    have := aheadTo_bd l p k
    unfold aheadTo
    split <;> omega
theorem ahead_bd (l : List Nd) (k : Nat) : -1 ≤ ahead l k ∧ ahead l k < k := aheadTo_bd l _ k

theorem aboves_pos {l : List Nd} {k : Nat} (h0 : 0 ≤ par l k) (h1 : par l k < k) : aboves l k = (par l k).toNat :: aboves l (par l k).toNat := by
  rw [aboves, dif_pos ⟨h0, h1⟩]
theorem aboves_neg {l : List Nd} {k : Nat} (h : ¬ (0 ≤ par l k ∧ par l k < k)) : aboves l k = [] := by
  rw [aboves, dif_neg h]
theorem aboves_lt {l : List Nd} : ∀ {k x : Nat}, x ∈ aboves l k → x < k := by
  intro k
  induction k using Nat.strongRecOn with
  | _ k ih =>
    intro x hx
    rw [aboves] at hx
    split at hx
    · rename_i h
      rcases List.mem_cons.1 hx with rfl | hx
      · omega
      · have := ih (par l k).toNat (by omega) hx
        omega
    · cases hx
theorem ups_lt {l : List Nd} {k x : Nat} {j : Int} (hk : k < l.length) (h : x ∈ ups l k j) : x < l.length := by
  unfold ups at h
  split at h
  · have := aboves_lt h; omega
  · split at h
    · simp at h; omega
    · cases h

/-! ### weights -/
def k0 (k : Int) : Bool := k == 3
def k1 (k : Int) : Bool := k == 2 || k == 4 || k == 5 || k == 6
def k2 (k : Int) : Bool := k == 1
def cntT (f : Int → Bool) (l : List Ts) : Nat := l.countP fun t => f t.kind
def cnt (f : Int → Bool) (s : List Pt) : Nat := cntT f (s.flatMap (·.tests))
theorem cntT_snoc (f : Int → Bool) (l : List Ts) (t : Ts) : cntT f (l ++ [t]) = cntT f l + if f t.kind then 1 else 0 := by
  unfold cntT; rw [List.countP_append]; simp [List.countP_cons]
theorem cnt_snoc (f : Int → Bool) (s : List Pt) (p : Pt) : cnt f (s ++ [p]) = cnt f s + cntT f p.tests := by
  simp [cnt, cntT, List.flatMap_append, List.countP_append]
structure Wt where
  a : Int
  b : Int
  c : Int
def wts (s : List Pt) : Wt := ⟨cnt k0 s, cnt k1 s, cnt k2 s⟩
def cmp3 (x y : Wt) : Int :=
  if x.a < y.a then -1 else if y.a < x.a then 1 else if x.b < y.b then -1 else if y.b < x.b then 1 else if x.c < y.c then -1 else if y.c < x.c then 1 else 0
def w00 : Wt := ⟨0, 0, 0⟩
/-- The best weight of those that mean the element, from what was so far. -/
def bestTo (l : List Nd) (k : Int) : List (List Pt) → Wt × Bool → Wt × Bool
  | [], acc => acc
  | s :: r, acc => bestTo l k r (if matchB l k s then (if 0 < cmp3 (wts s) acc.1 then wts s else acc.1, true) else acc)

end Go.Proofs.YtlodblcmpebfkaaDoor
