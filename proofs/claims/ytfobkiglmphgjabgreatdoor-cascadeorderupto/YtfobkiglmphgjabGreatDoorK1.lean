/-
  The plain answers of packages match, props and cascade, over lists. No program is named here; no condition.
-/
import Derived.Lib.Split
import Derived.Lib.SlicesS
import Derived.Lib.SplitLaws
namespace Go.Proofs.YtfobkiglmphgjabGreatDoor

structure At where
  name : ByteArray
  val : ByteArray
  fr : Int
  to : Int
structure Nd where
  name : ByteArray
  parent : Int
  attrs : List At
  ne : Int
  fr : Int
  to : Int
structure Ts where
  kind : Int
  name : ByteArray
  val : ByteArray
structure Pt where
  join : Int
  tests : List Ts

def nd0 : Nd := ⟨⟨#[]⟩, 0, [], 0, 0, 0⟩
def pt0 : Pt := ⟨0, []⟩
def ndAt (l : List Nd) (k : Nat) : Nd := l.getD k nd0
def ptAt (s : List Pt) (k : Nat) : Pt := s.getD k pt0
def par (l : List Nd) (k : Nat) : Int := (ndAt l k).parent

def getA (name : ByteArray) : List At → Option ByteArray
  | [] => none
  | a :: l => if a.name.toList == name.toList then some a.val else getA name l

/-- The last one ahead of number k whose parent is p. -/
def aheadTo (l : List Nd) (p : Int) : Nat → Int
  | 0 => -1
  | k + 1 => if par l k = p then k else aheadTo l p k
def ahead (l : List Nd) (k : Nat) : Int := aheadTo l (par l k) k

def clsN : ByteArray := ⟨#[99, 108, 97, 115, 115]⟩
def idN : ByteArray := ⟨#[105, 100]⟩
def blank : ByteArray := ⟨#[32]⟩
def clsB (val name : ByteArray) : Bool := !name.toList.isEmpty && Lib.containsS (Lib.splitB blank 0 (Lib.countB val blank) val) name
def clsOf (l : List At) (name : ByteArray) : Bool := match getA clsN l with
  | none => false
  | some v => clsB v name
def attrB (l : List At) (name val : ByteArray) : Bool := match getA name l with
  | none => false
  | some v => v.toList == val.toList

def testB (l : List Nd) (k : Nat) (t : Ts) : Bool :=
  if t.kind = 1 then (ndAt l k).name.toList == t.name.toList
  else if t.kind = 2 then clsOf (ndAt l k).attrs t.name
  else if t.kind = 3 then attrB (ndAt l k).attrs idN t.name
  else if t.kind = 4 then (getA t.name (ndAt l k).attrs).isSome
  else if t.kind = 5 then attrB (ndAt l k).attrs t.name t.val
  else if t.kind = 6 then decide (ahead l k < 0)
  else false
def partB (l : List Nd) (k : Nat) (p : Pt) : Bool := p.tests.all (testB l k)

def aboves (l : List Nd) (k : Nat) : List Nat :=
  if _h : 0 ≤ par l k ∧ par l k < k then (par l k).toNat :: aboves l (par l k).toNat else []
termination_by k
decreasing_by omega

/-- Where a join that leads to one element at most leads. -/
def single (l : List Nd) (k : Nat) (j : Int) : Int := if j = 2 then par l k else if j = 3 then ahead l k else -1
def ups (l : List Nd) (k : Nat) (j : Int) : List Nat :=
  if j = 1 then aboves l k else if 0 ≤ single l k j ∧ single l k j < l.length then [(single l k j).toNat] else []

/-- Behind part i: the parts ahead of it. -/
def rest (l : List Nd) (s : List Pt) : Nat → Nat → Bool
  | 0, _ => true
  | i + 1, x => (ups l x (ptAt s (i + 1)).join).any fun y => partB l y (ptAt s i) && rest l s i y
def meansB (l : List Nd) (k : Nat) (s : List Pt) : Bool := partB l k (ptAt s (s.length - 1)) && rest l s (s.length - 1) k
def inB (l : List Nd) (k : Int) : Bool := decide (0 ≤ k) && decide (k < l.length)
def matchB (l : List Nd) (k : Int) (s : List Pt) : Bool := inB l k && decide (0 < s.length) && meansB l k.toNat s

theorem ndAt_eq {l : List Nd} {k : Nat} (h : k < l.length) : ndAt l k = l[k] := by simp [ndAt, List.getD, h]
theorem ptAt_eq {s : List Pt} {k : Nat} (h : k < s.length) : ptAt s k = s[k] := by simp [ptAt, List.getD, h]

theorem aheadTo_bd (l : List Nd) (p : Int) : ∀ k, -1 ≤ aheadTo l p k ∧ aheadTo l p k < k
  | 0 => by simp [aheadTo]
  | k + 1 => by
    have := aheadTo_bd l p k
    unfold aheadTo
    split <;> omega
theorem ahead_bd (l : List Nd) (k : Nat) : -1 ≤ ahead l k ∧ ahead l k < k := aheadTo_bd l _ k

theorem aboves_pos {l : List Nd} {k : Nat} (h0 : 0 ≤ par l k) (h1 : par l k < k) : aboves l k = (par l k).toNat :: aboves l (par l k).toNat := by
  rw [aboves, dif_pos ⟨h0, h1⟩]
theorem aboves_neg {l : List Nd} {k : Nat} (h : ¬ (0 ≤ par l k ∧ par l k < k)) : aboves l k = [] := by
  rw [aboves, dif_neg h]
theorem aboves_lt {l : List Nd} : ∀ {k x : Nat}, x ∈ aboves l k → x < k := by
  intro k
  induction k using Nat.strongRecOn with
  | _ k ih =>
    intro x hx
    rw [aboves] at hx
    split at hx
    · rename_i h
      rcases List.mem_cons.1 hx with rfl | hx
      · omega
      · have := ih (par l k).toNat (by omega) hx
        omega
    · cases hx
theorem ups_lt {l : List Nd} {k x : Nat} {j : Int} (hk : k < l.length) (h : x ∈ ups l k j) : x < l.length := by
  unfold ups at h
  split at h
  · have := aboves_lt h; omega
  · split at h
    · simp at h; omega
    · cases h

/-! ### weights -/
def k0 (k : Int) : Bool := k == 3
def k1 (k : Int) : Bool := k == 2 || k == 4 || k == 5 || k == 6
def k2 (k : Int) : Bool := k == 1
def cntT (f : Int → Bool) (l : List Ts) : Nat := l.countP fun t => f t.kind
def cnt (f : Int → Bool) (s : List Pt) : Nat := cntT f (s.flatMap (·.tests))
theorem cntT_snoc (f : Int → Bool) (l : List Ts) (t : Ts) : cntT f (l ++ [t]) = cntT f l + if f t.kind then 1 else 0 := by
  unfold cntT; rw [List.countP_append]; simp [List.countP_cons]
theorem cnt_snoc (f : Int → Bool) (s : List Pt) (p : Pt) : cnt f (s ++ [p]) = cnt f s + cntT f p.tests := by
  simp [cnt, cntT, List.flatMap_append, List.countP_append]
structure Wt where
  a : Int
  b : Int
  c : Int
def wts (s : List Pt) : Wt := ⟨cnt k0 s, cnt k1 s, cnt k2 s⟩
def cmp3 (x y : Wt) : Int :=
  if x.a < y.a then -1 else if y.a < x.a then 1 else if x.b < y.b then -1 else if y.b < x.b then 1 else if x.c < y.c then -1 else if y.c < x.c then 1 else 0
def w00 : Wt := ⟨0, 0, 0⟩
/-- The best weight of those that mean the element, from what was so far. -/
def bestTo (l : List Nd) (k : Int) : List (List Pt) → Wt × Bool → Wt × Bool
  | [], acc => acc
  | s :: r, acc => bestTo l k r (if matchB l k s then (if 0 < cmp3 (wts s) acc.1 then wts s else acc.1, true) else acc)

end Go.Proofs.YtfobkiglmphgjabGreatDoor

namespace Go.Proofs.YtfobkiglmphgjabGreatDoor

structure Dc where
  name : ByteArray
  val : ByteArray
  strong : Bool

def edgeN : ByteArray := ⟨#[101, 100, 103, 101]⟩
def sd0 : ByteArray := ⟨#[101, 100, 103, 101, 45, 116, 111, 112]⟩
def sd1 : ByteArray := ⟨#[101, 100, 103, 101, 45, 114, 105, 103, 104, 116]⟩
def sd2 : ByteArray := ⟨#[101, 100, 103, 101, 45, 98, 111, 116, 116, 111, 109]⟩
def sd3 : ByteArray := ⟨#[101, 100, 103, 101, 45, 108, 101, 102, 116]⟩

def isE (d : Dc) : Bool := d.name.toList == edgeN.toList
def cutB (v : ByteArray) : List ByteArray := Lib.splitB blank 0 (min 5 (v.size + 1) - 1) v
def v0 (l : List ByteArray) : ByteArray := l.getD 0 ⟨#[]⟩
def v1 (l : List ByteArray) : ByteArray := l.getD 1 (v0 l)
def v2 (l : List ByteArray) : ByteArray := l.getD 2 (v0 l)
def v3 (l : List ByteArray) : ByteArray := l.getD 3 (v1 l)
def fourB (st : Bool) (l : List ByteArray) : List Dc := [⟨sd0, v0 l, st⟩, ⟨sd1, v1 l, st⟩, ⟨sd2, v2 l, st⟩, ⟨sd3, v3 l, st⟩]
def expB (d : Dc) : Option (List Dc) := if isE d then (if 4 < (cutB d.val).length then none else some (fourB d.strong (cutB d.val))) else some [d]
def allB : List Dc → Option (List Dc)
  | [] => some []
  | d :: l => (expB d).bind fun x => (allB l).map (x ++ ·)

theorem allB_snoc : ∀ (l : List Dc) (d : Dc), allB (l ++ [d]) = (allB l).bind fun a => (expB d).map (a ++ ·)
  | [], d => by
    show (expB d).bind (fun x => (allB []).map (x ++ ·)) = _
    simp only [allB, Option.map_some, Option.bind_some]
    cases expB d <;> simp
  | c :: l, d => by
    show (expB c).bind (fun x => (allB (l ++ [d])).map (x ++ ·)) = ((expB c).bind fun x => (allB l).map (x ++ ·)).bind _
    rw [allB_snoc l d]
    cases expB c <;> cases allB l <;> cases expB d <;> simp
theorem allB_stop : ∀ (a b : List Dc) (d : Dc) , allB a ≠ none → expB d = none → allB (a ++ d :: b) = none
  | [], b, d, _, h => by show (expB d).bind _ = none; rw [h]; rfl
  | c :: a, b, d, h0, h => by
    show (expB c).bind (fun x => (allB (a ++ d :: b)).map (x ++ ·)) = none
    rw [allB_stop a b d (fun e => h0 (by show (expB c).bind (fun x => (allB a).map (x ++ ·)) = none; rw [e]; cases expB c <;> rfl)) h]
    cases expB c <;> rfl
theorem allB_next {l a : List Dc} {k : Nat} (hk : k < l.length) (h : allB (l.take k) = some a) : allB (l.take (k + 1)) = (expB l[k]).map (a ++ ·) := by
  rw [List.take_succ_eq_append_getElem hk, allB_snoc, h]; rfl
theorem allB_none {l a : List Dc} {k : Nat} (hk : k < l.length) (h : allB (l.take k) = some a) (hx : expB l[k] = none) : allB l = none := by
  have e : l = l.take k ++ l[k] :: l.drop (k + 1) := by rw [← List.drop_eq_getElem_cons hk, List.take_append_drop]
  rw [e]
  exact allB_stop _ _ _ (by rw [h]; simp) hx
theorem expB_len {d : Dc} {x : List Dc} (h : expB d = some x) : x.length ≤ 4 := by
  unfold expB at h
  split at h
  · split at h
    · cases h
    · injection h with h; rw [← h]; simp [fourB]
  · injection h with h; rw [← h]; simp
theorem allB_len : ∀ {l a : List Dc}, allB l = some a → a.length ≤ 4 * l.length
  | [], a, h => by injection h with h; rw [← h]; simp
  | d :: l, a, h => by
    change (expB d).bind (fun x => (allB l).map (x ++ ·)) = some a at h
    cases hx : expB d with
    | none => rw [hx] at h; cases h
    | some x =>
      cases hy : allB l with
      | none => rw [hx, hy] at h; cases h
      | some y =>
        rw [hx, hy] at h
        injection h with h
        have h1 := expB_len hx
        have h2 := allB_len hy
        rw [← h, List.length_append, List.length_cons]
        omega
theorem expB_plain {d : Dc} {x : List Dc} (h : expB d = some x) : ∀ y ∈ x, isE y = false ∧ y.strong = d.strong := by
  unfold expB at h
  split at h
  · split at h
    · cases h
    · injection h with h
      rw [← h]
      intro y hy
      simp [fourB] at hy
      rcases hy with rfl | rfl | rfl | rfl
      · exact ⟨show (sd0.toList == edgeN.toList) = false by decide +kernel, rfl⟩
      · exact ⟨show (sd1.toList == edgeN.toList) = false by decide +kernel, rfl⟩
      · exact ⟨show (sd2.toList == edgeN.toList) = false by decide +kernel, rfl⟩
      · exact ⟨show (sd3.toList == edgeN.toList) = false by decide +kernel, rfl⟩
  · rename_i hq
    injection h with h
    rw [← h]
    intro y hy
    simp at hy
    rw [hy]
    exact ⟨by simpa using hq, rfl⟩
theorem allB_plain : ∀ {l a : List Dc}, allB l = some a → ∀ y ∈ a, isE y = false
  | [], a, h => by injection h with h; rw [← h]; simp
  | d :: l, a, h => by
    change (expB d).bind (fun x => (allB l).map (x ++ ·)) = some a at h
    cases hx : expB d with
    | none => rw [hx] at h; cases h
    | some x =>
      cases hy : allB l with
      | none => rw [hx, hy] at h; cases h
      | some y =>
        rw [hx, hy] at h
        injection h with h
        rw [← h]
        intro z hz
        rcases List.mem_append.1 hz with hz | hz
        · exact (expB_plain hx z hz).1
        · exact allB_plain hy z hz
theorem plain_allB : ∀ {a : List Dc}, (∀ y ∈ a, isE y = false) → allB a = some a
  | [], _ => rfl
  | d :: l, h => by
    have hd := h d (List.mem_cons_self ..)
    show (expB d).bind (fun x => (allB l).map (x ++ ·)) = _
    rw [plain_allB (fun y hy => h y (List.mem_cons_of_mem _ hy))]
    unfold expB
    rw [hd]
    rfl
theorem allB_twice {l a : List Dc} (h : allB l = some a) : allB a = some a := plain_allB (allB_plain h)
theorem allB_each {l a : List Dc} (h : allB l = some a) {k : Nat} (hk : k < l.length) : ∃ x, expB l[k] = some x := by
  cases hx : expB l[k] with
  | some x => exact ⟨x, rfl⟩
  | none =>
    exfalso
    have e : l = l.take k ++ l[k] :: l.drop (k + 1) := by rw [← List.drop_eq_getElem_cons hk, List.take_append_drop]
    cases ht : allB (l.take k) with
    | some b => rw [allB_none hk ht hx] at h; cases h
    | none =>
      have : ∀ (a b : List Dc), allB a = none → allB (a ++ b) = none := fun a b => by
        induction a with
        | nil => intro h; cases h
        | cons c a ih =>
          intro h
          change (expB c).bind (fun x => (allB a).map (x ++ ·)) = none at h
          show (expB c).bind (fun x => (allB (a ++ b)).map (x ++ ·)) = none
          cases hc : expB c with
          | none => rfl
          | some x =>
            rw [hc] at h
            cases ha : allB a with
            | none => rw [ih ha]; rfl
            | some y => rw [ha] at h; cases h
      rw [e, this _ _ ht] at h
      cases h

/-! ### words -/
def glue (pre : List UInt8) : List (List UInt8) → List (List UInt8)
  | [] => [pre]
  | p :: ps => (pre ++ p) :: ps
def words : List UInt8 → List (List UInt8)
  | [] => [[]]
  | b :: l => if b = 32 then [] :: words l else glue [b] (words l)
theorem words_ne : ∀ l : List UInt8, words l ≠ []
  | [] => by simp [words]
  | b :: l => by
    unfold words
    split
    · simp
    · cases words l <;> simp [glue]
theorem glue_nil {l : List (List UInt8)} (h : l ≠ []) : glue [] l = l := by cases l with
  | nil => exact absurd rfl h
  | cons p ps => rfl
theorem glue_glue (a b : List UInt8) (l : List (List UInt8)) : glue a (glue b l) = glue (a ++ b) l := by cases l <;> simp [glue]
theorem glue_len {a : List UInt8} {l : List (List UInt8)} (h : l ≠ []) : (glue a l).length = l.length := by cases l with
  | nil => exact absurd rfl h
  | cons p ps => rfl
theorem words_app : ∀ (a b : List UInt8), words (a ++ 32 :: b) = words a ++ words b
  | [], b => by simp [words]
  | c :: a, b => by
    have ih := words_app a b
    rw [List.cons_append]
    by_cases hc : c = 32
    · simp [words, hc, ih]
    · simp only [words, if_neg hc, ih]
      cases h : words a with
      | nil => exact absurd h (words_ne a)
      | cons p ps => rfl
theorem words_one : ∀ {a : List UInt8}, (∀ b ∈ a, b ≠ 32) → words a = [a]
  | [], _ => rfl
  | b :: l, h => by
    have hb := h b (List.mem_cons_self ..)
    unfold words
    rw [if_neg hb, words_one (fun x hx => h x (List.mem_cons_of_mem _ hx))]
    rfl
theorem words_le : ∀ l : List UInt8, (words l).length ≤ l.length + 1
  | [] => by simp [words]
  | b :: l => by
    have ih := words_le l
    unfold words
    split
    · simp; omega
    · rw [glue_len (words_ne l)]; simp; omega
def cutW : Nat → List UInt8 → List (List UInt8)
  | 0, s => [s]
  | _ + 1, [] => [[]]
  | k + 1, b :: l => if b = 32 then [] :: cutW k l else glue [b] (cutW (k + 1) l)
theorem cutW_ne : ∀ (k : Nat) (l : List UInt8), cutW k l ≠ []
  | 0, l => by simp [cutW]
  | k + 1, [] => by simp [cutW]
  | k + 1, b :: l => by
    unfold cutW
    split
    · simp
    · cases cutW (k + 1) l <;> simp [glue]
theorem split_cut : ∀ (s : List UInt8) (k : Nat), Lib.splitK [32] 0 k s = cutW k s
  | s, 0 => by unfold cutW; rfl
  | [], k + 1 => rfl
  | b :: l, k + 1 => by
    have ih := split_cut l
    unfold cutW
    split
    · rename_i e
      subst e
      have e0 : Lib.index (32 :: l) [32] = 0 := by simp [Lib.index]
      rw [← ih]
      simp [Lib.splitK, e0]
    · rename_i hne
      rw [← ih]
      have e1 : Lib.index (b :: l) [32] = if Lib.index l [32] == -1 then -1 else Lib.index l [32] + 1 := by
        have : (32 == b) = false := by simp; exact fun h => hne h.symm
        simp [Lib.index, List.isPrefixOf, this]
      have hge := Lib.index_ge l [32]
      simp only [Lib.splitK, e1]
      cases hq : (Lib.index l [32] == -1)
      · have hq' : Lib.index l [32] ≠ -1 := by simpa using hq
        have e2 : (Lib.index l [32] + 1 == -1) = false := by simp; omega
        have e3 : (Lib.index l [32] + 1).toNat = (Lib.index l [32]).toNat + 1 := by omega
        simp [e2, e3, glue]
      · simp [glue]
theorem words_single : ∀ {s : List UInt8}, (words s).length ≤ 1 → words s = [s]
  | [], _ => rfl
  | b :: l, h => by
    unfold words at h ⊢
    split at h
    · have := words_ne l
      cases hw : words l with
      | nil => exact absurd hw this
      | cons p ps => rw [hw] at h; simp at h
    · rename_i hne
      rw [if_neg hne]
      rw [glue_len (words_ne l)] at h
      rw [words_single h]
      rfl
theorem cutW_words : ∀ (s : List UInt8) (k : Nat), (cutW k s).length = min (k + 1) (words s).length ∧ ((words s).length ≤ k + 1 → cutW k s = words s)
  | s, 0 => by
    have := List.length_pos_iff.2 (words_ne s)
    unfold cutW
    refine ⟨by simp; omega, fun h => (words_single (by omega)).symm⟩
  | [], k + 1 => by simp [cutW, words]
  | b :: l, k + 1 => by
    unfold cutW words
    split
    · obtain ⟨h1, h2⟩ := cutW_words l k
      refine ⟨by simp only [List.length_cons, h1]; omega, fun h => ?_⟩
      rw [h2 (by simp at h; omega)]
    · obtain ⟨h1, h2⟩ := cutW_words l (k + 1)
      rw [glue_len (words_ne l), glue_len (cutW_ne _ l)]
      exact ⟨h1, fun h => by rw [h2 h]⟩
theorem cut_data (v : ByteArray) : (cutB v).map (·.data.toList) = cutW (min 5 (v.size + 1) - 1) v.data.toList := by
  unfold cutB
  rw [Lib.splitB_data, ← split_cut]
  rfl
theorem cut_many (v : ByteArray) : 4 < (cutB v).length ↔ 4 < (words v.data.toList).length := by
  have h1 := congrArg List.length (cut_data v)
  rw [List.length_map, (cutW_words _ _).1] at h1
  have h2 := words_le v.data.toList
  rw [← Lib.size_eq] at h2
  omega
theorem cut_few (v : ByteArray) (h : ¬ 4 < (words v.data.toList).length) : (cutB v).map (·.data.toList) = words v.data.toList := by
  rw [cut_data]
  refine (cutW_words _ _).2 ?_
  have h2 := words_le v.data.toList
  rw [← Lib.size_eq] at h2
  omega
theorem cut_pos (v : ByteArray) : 0 < (cutB v).length := by
  have h1 := congrArg List.length (cut_data v)
  rw [List.length_map] at h1
  have := List.length_pos_iff.2 (cutW_ne (min 5 (v.size + 1) - 1) v.data.toList)
  omega
theorem cut_le (v : ByteArray) : (cutB v).length ≤ 5 := by
  have h1 := congrArg List.length (cut_data v)
  rw [List.length_map, (cutW_words _ _).1] at h1
  omega
theorem data_inj : ∀ {a b : List ByteArray}, a.map (·.data.toList) = b.map (·.data.toList) → a = b
  | [], [], _ => rfl
  | [], _ :: _, h => by cases h
  | _ :: _, [], h => by cases h
  | x :: a, y :: b, h => by
    injection h with h1 h2
    rw [ByteArray.ext (Array.toList_inj.1 h1), data_inj h2]
theorem cut_eq {v : ByteArray} {l : List ByteArray} (h : l.map (·.data.toList) = words v.data.toList) : (4 < l.length ↔ 4 < (cutB v).length) ∧ (¬ 4 < l.length → cutB v = l) := by
  have hl := congrArg List.length h
  rw [List.length_map] at hl
  refine ⟨by rw [cut_many, hl], fun h4 => data_inj ?_⟩
  rw [h, cut_few v (by omega)]

/-! ### properties -/
def cN : ByteArray := ⟨#[99, 111, 108, 111, 114]⟩
def fN : ByteArray := ⟨#[102, 111, 110, 116]⟩
def zN : ByteArray := ⟨#[115, 105, 122, 101]⟩
end Go.Proofs.YtfobkiglmphgjabGreatDoor

namespace Go.Proofs.YtfobkiglmphgjabGreatDoor

/-! ### which of two claims wins -/
structure Cl where
  d : Dc
  own : Bool
  w : Wt
def lessW (x y : Wt) : Bool := decide (x.a < y.a ∨ (x.a = y.a ∧ (x.b < y.b ∨ (x.b = y.b ∧ x.c < y.c))))
theorem lessW_cmp (x y : Wt) : lessW x y = decide (cmp3 x y < 0) := by
  unfold lessW cmp3
  repeat' split
  all_goals simp <;> omega
def beats (b a : Cl) : Bool := if a.d.strong == b.d.strong then (if a.own == b.own then !lessW b.w a.w else b.own) else b.d.strong
theorem beats_refl (a : Cl) : beats a a = true := by
  simp [beats, lessW]
theorem beats_trans {a b c : Cl} (h : beats b a = true) (k : beats c b = true) : beats c a = true := by
  obtain ⟨⟨_, _, s1⟩, o1, ⟨x1, y1, z1⟩⟩ := a
  obtain ⟨⟨_, _, s2⟩, o2, ⟨x2, y2, z2⟩⟩ := b
  obtain ⟨⟨_, _, s3⟩, o3, ⟨x3, y3, z3⟩⟩ := c
  unfold beats lessW at *
  simp only at h k ⊢
  cases s1 <;> cases s2 <;> cases s3 <;> cases o1 <;> cases o2 <;> cases o3 <;> simp_all <;> omega
theorem beats_total {a b : Cl} (h : beats b a = false) : beats a b = true := by
  obtain ⟨⟨_, _, s1⟩, o1, ⟨x1, y1, z1⟩⟩ := a
  obtain ⟨⟨_, _, s2⟩, o2, ⟨x2, y2, z2⟩⟩ := b
  unfold beats lessW at *
  simp only at h ⊢
  cases s1 <;> cases s2 <;> cases o1 <;> cases o2 <;> simp_all <;> omega

def merge : Option Cl → Option Cl → Option Cl
  | none, b => b
  | some a, none => some a
  | some a, some b => if beats b a then some b else some a
theorem merge_none (a : Option Cl) : merge a none = a := by cases a <;> rfl
theorem merge_assoc (a b c : Option Cl) : merge (merge a b) c = merge a (merge b c) := by
  cases a with
  | none => rfl
  | some a =>
    cases b with
    | none => rfl
    | some b =>
      cases c with
      | none => rw [merge_none, merge_none]
      | some c =>
        simp only [merge]
        by_cases h1 : beats b a = true <;> by_cases h2 : beats c b = true
        · have := beats_trans h1 h2
          simp [h1, h2, this]
        · simp [h1, h2]
        · by_cases h3 : beats c a = true <;> simp [h1, h2, h3]
        · have h2' : beats c b = false := by simpa using h2
          have h1' : beats b a = false := by simpa using h1
          have h3 : ¬ beats c a = true := fun h => by
            have h4 := beats_total h1'
            have h5 := beats_trans h4 h
            rw [h2'] at h5
            cases h5
          simp [h1, h2, h3]
theorem merge_self (a : Option Cl) : merge a a = a := by
  cases a with
  | none => rfl
  | some a => simp [merge]
theorem merge_twice (a b : Option Cl) : merge (merge a b) b = merge a b := by rw [merge_assoc, merge_self]

def nm (d : Dc) : List UInt8 := d.name.data.toList
def one (n : List UInt8) (c : Cl) : Option Cl := if nm c.d = n then some c else none
def win (n : List UInt8) : List Cl → Option Cl
  | [] => none
  | c :: cs => merge (one n c) (win n cs)
theorem win_append (n : List UInt8) : ∀ a b : List Cl, win n (a ++ b) = merge (win n a) (win n b)
  | [], b => rfl
  | c :: a, b => by
    show merge (one n c) (win n (a ++ b)) = merge (merge (one n c) (win n a)) (win n b)
    rw [win_append n a b, merge_assoc]
theorem win_name {n : List UInt8} : ∀ {cs : List Cl} {c : Cl}, win n cs = some c → c ∈ cs ∧ nm c.d = n
  | [], c, h => by cases h
  | x :: cs, c, h => by
    unfold win one at h
    by_cases hx : nm x.d = n
    · rw [if_pos hx] at h
      cases hw : win n cs with
      | none => rw [hw] at h; injection h with h; subst h; exact ⟨List.mem_cons_self .., hx⟩
      | some y =>
        rw [hw] at h
        simp only [merge] at h
        obtain ⟨h1, h2⟩ := win_name hw
        split at h
        · injection h with h; subst h; exact ⟨List.mem_cons_of_mem _ h1, h2⟩
        · injection h with h; subst h; exact ⟨List.mem_cons_self .., hx⟩
    · rw [if_neg hx] at h
      obtain ⟨h1, h2⟩ := win_name (show win n cs = some c from h)
      exact ⟨List.mem_cons_of_mem _ h1, h2⟩
/-- What wins beats every claim of that property. -/
theorem win_beats {n : List UInt8} : ∀ {cs : List Cl} {x : Cl}, x ∈ cs → nm x.d = n → ∃ c, win n cs = some c ∧ beats c x = true
  | [], x, h, _ => by cases h
  | y :: cs, x, h, hn => by
    show ∃ c, merge (one n y) (win n cs) = some c ∧ _
    rcases List.mem_cons.1 h with rfl | h
    · unfold one
      rw [if_pos hn]
      cases hw : win n cs with
      | none => exact ⟨x, rfl, beats_refl x⟩
      | some z =>
        simp only [merge]
        split
        · rename_i hb; exact ⟨z, rfl, hb⟩
        · exact ⟨x, rfl, beats_refl x⟩
    · obtain ⟨c, hc, hb⟩ := win_beats h hn
      rw [hc]
      unfold one
      split
      · simp only [merge]
        split
        · exact ⟨c, rfl, hb⟩
        · rename_i hq
          exact ⟨y, rfl, beats_trans hb (beats_total (by simpa using hq))⟩
      · exact ⟨c, rfl, hb⟩
/-- A winner that is strong where a strong one is claimed. -/
theorem beats_strong {c x : Cl} (h : beats c x = true) (hx : x.d.strong = true) : c.d.strong = true := by
  unfold beats at h
  split at h
  · rename_i e
    have : x.d.strong = c.d.strong := by simpa using e
    rw [← this]; exact hx
  · exact h

/-! ### what is declared: sorted by names, one for each property that is claimed -/
def lookF (cs : List Cl) (n : List UInt8) : Option Dc := (win n cs).map (·.d)
def IsLook (L : List Dc) (f : List UInt8 → Option Dc) : Prop := L.Pairwise (fun x y => nm x < nm y) ∧ ∀ n x, f n = some x ↔ x ∈ L ∧ nm x = n
theorem look_unique : ∀ {L M : List Dc}, L.Pairwise (fun x y => nm x < nm y) → M.Pairwise (fun x y => nm x < nm y) → (∀ x, x ∈ L ↔ x ∈ M) → L = M
  | [], [], _, _, _ => rfl
  | [], y :: M, _, _, h => absurd ((h y).2 (List.mem_cons_self ..)) (by simp)
  | x :: L, [], _, _, h => absurd ((h x).1 (List.mem_cons_self ..)) (by simp)
  | x :: L, y :: M, hL, hM, h => by
    obtain ⟨l1, l2⟩ := List.pairwise_cons.1 hL
    obtain ⟨m1, m2⟩ := List.pairwise_cons.1 hM
    have hxy : x = y := by
      rcases List.mem_cons.1 ((h x).1 (List.mem_cons_self ..)) with e | hx
      · exact e
      · rcases List.mem_cons.1 ((h y).2 (List.mem_cons_self ..)) with e | hy
        · exact e.symm
        · exact absurd (List.lt_trans (l1 y hy) (m1 x hx)) (List.lt_irrefl _)
    subst hxy
    rw [look_unique l2 m2 fun z => ?_]
    constructor
    · intro hz
      rcases List.mem_cons.1 ((h z).1 (List.mem_cons_of_mem _ hz)) with e | e
      · subst e; exact absurd (l1 z hz) (List.lt_irrefl _)
      · exact e
    · intro hz
      rcases List.mem_cons.1 ((h z).2 (List.mem_cons_of_mem _ hz)) with e | e
      · subst e; exact absurd (m1 z hz) (List.lt_irrefl _)
      · exact e
theorem IsLook.same {L M : List Dc} {f g : List UInt8 → Option Dc} (h : IsLook L f) (k : IsLook M g) (e : ∀ n, f n = g n) : L = M := by
  refine look_unique h.1 k.1 fun x => ?_
  have h1 := h.2 (nm x) x
  have k1 := k.2 (nm x) x
  rw [e] at h1
  constructor
  · intro hx; exact (k1.1 (h1.2 ⟨hx, rfl⟩)).1
  · intro hx; exact (h1.1 (k1.2 ⟨hx, rfl⟩)).1
end Go.Proofs.YtfobkiglmphgjabGreatDoor

namespace Go.Proofs.YtfobkiglmphgjabGreatDoor

structure Ru where
  media : ByteArray
  sels : List (List Pt)
  decls : List Dc
  rf : Int
  rt : Int
def bestB (l : List Nd) (k : Int) (ss : List (List Pt)) : Wt × Bool := bestTo l k ss (w00, false)
def counts (md : ByteArray) (media : List ByteArray) : Bool := md.toList.isEmpty || media.any fun m => m.toList == md.toList
def asC (own : Bool) (w : Wt) (ds : List Dc) : List Cl := ds.map fun d => ⟨d, own, w⟩
def ruleC (l : List Nd) (k : Int) (media : List ByteArray) (r : Ru) : Option (List Cl) :=
  if counts r.media media && (bestB l k r.sels).2 then (allB r.decls).map (asC false (bestB l k r.sels).1) else some []
def rulesC (l : List Nd) (k : Int) (media : List ByteArray) : List Ru → Option (List Cl)
  | [] => some []
  | r :: rs => (ruleC l k media r).bind fun x => (rulesC l k media rs).map (x ++ ·)
theorem rulesC_append (l : List Nd) (k : Int) (media : List ByteArray) : ∀ a b : List Ru, rulesC l k media (a ++ b) = (rulesC l k media a).bind fun x => (rulesC l k media b).map (x ++ ·)
  | [], b => by
    show rulesC l k media b = (some []).bind _
    simp
  | r :: a, b => by
    show (ruleC l k media r).bind (fun x => (rulesC l k media (a ++ b)).map (x ++ ·)) = ((ruleC l k media r).bind fun x => (rulesC l k media a).map (x ++ ·)).bind _
    rw [rulesC_append l k media a b]
    cases ruleC l k media r <;> cases rulesC l k media a <;> cases rulesC l k media b <;> simp

def styleN : ByteArray := ⟨#[115, 116, 121, 108, 101]⟩
section
variable (sty : ByteArray → Except Int (List Dc))
def ownC (x : Nd) : Except Int (List Cl) := match sty ((getA styleN x.attrs).getD ⟨#[]⟩) with
  | .error e => .error e
  | .ok d => match allB d with
    | none => .error 5
    | some a => .ok (asC true w00 a)
def claimsB (l : List Nd) (k : Int) (rules : List Ru) (media : List ByteArray) : Except Int (List Cl) :=
  if inB l k then match rulesC l k media rules with
    | none => .error 5
    | some a => match ownC sty (ndAt l k.toNat) with
      | .error e => .error e
      | .ok b => .ok (a ++ b)
  else .error 6
/-- The same error, or the same to be seen. -/
def Alike : Except Int (List Cl) → Except Int (List Cl) → Prop
  | .error a, .error b => a = b
  | .ok a, .ok b => ∀ n, lookF a n = lookF b n
  | _, _ => False
theorem Alike.refl (x : Except Int (List Cl)) : Alike x x := by
  cases x with
  | error a => exact rfl
  | ok a => exact fun _ => rfl
/-- Rules' claims that are alike. -/
def AlikeR : Option (List Cl) → Option (List Cl) → Prop
  | none, none => True
  | some a, some b => ∀ n, win n a = win n b
  | _, _ => False
theorem claims_alike {l : List Nd} {k : Int} {r1 r2 : List Ru} {m1 m2 : List ByteArray} (h : AlikeR (rulesC l k m1 r1) (rulesC l k m2 r2)) : Alike (claimsB sty l k r1 m1) (claimsB sty l k r2 m2) := by
  unfold claimsB
  split
  · cases h1 : rulesC l k m1 r1 with
    | none =>
      cases h2 : rulesC l k m2 r2 with
      | none => exact rfl
      | some b => rw [h1, h2] at h; exact h.elim
    | some a =>
      cases h2 : rulesC l k m2 r2 with
      | none => rw [h1, h2] at h; exact h.elim
      | some b =>
        rw [h1, h2] at h
        simp only
        cases ownC sty (ndAt l k.toNat) with
        | error e => exact rfl
        | ok c =>
          intro n
          unfold lookF
          rw [win_append, win_append, h n]
  · exact rfl
end

/-! ### told twice is told once; one that means another element is nothing -/
theorem rules_twice (l : List Nd) (k : Int) (media : List ByteArray) (A B : List Ru) (r : Ru) : AlikeR (rulesC l k media (A ++ r :: B)) (rulesC l k media ((A ++ [r]) ++ r :: B)) := by
  rw [rulesC_append, rulesC_append l k media (A ++ [r]), rulesC_append l k media A [r]]
  have e1 : rulesC l k media (r :: B) = (ruleC l k media r).bind fun x => (rulesC l k media B).map (x ++ ·) := rfl
  have e2 : rulesC l k media [r] = ruleC l k media r := by
    show (ruleC l k media r).bind (fun x => (some []).map (x ++ ·)) = _
    cases ruleC l k media r <;> simp
  rw [e1, e2]
  cases rulesC l k media A with
  | none => exact trivial
  | some a =>
    cases ruleC l k media r with
    | none => exact trivial
    | some x =>
      cases rulesC l k media B with
      | none => exact trivial
      | some b =>
        intro n
        simp only [win_append]
        rw [← merge_assoc (merge (win n a) (win n x)), merge_twice, merge_assoc]
theorem rules_drop {l : List Nd} {k : Int} {media : List ByteArray} (A B : List Ru) {r : Ru} (h : (bestB l k r.sels).2 = false) : rulesC l k media (A ++ r :: B) = rulesC l k media (A ++ B) := by
  rw [rulesC_append, rulesC_append]
  have e1 : rulesC l k media (r :: B) = (ruleC l k media r).bind fun x => (rulesC l k media B).map (x ++ ·) := rfl
  have e2 : ruleC l k media r = some [] := by unfold ruleC; rw [h]; simp
  rw [e1, e2]
  simp

/-! ### media that no rule names are no matter -/
theorem rules_media {l : List Nd} {k : Int} {media : List ByteArray} {more : ByteArray} : ∀ {rules : List Ru}, (∀ r ∈ rules, (r.media.toList == more.toList) = false) → rulesC l k (media ++ [more]) rules = rulesC l k media rules
  | [], _ => rfl
  | r :: rs, h => by
    show (ruleC l k (media ++ [more]) r).bind (fun x => (rulesC l k (media ++ [more]) rs).map (x ++ ·)) = (ruleC l k media r).bind fun x => (rulesC l k media rs).map (x ++ ·)
    rw [rules_media (fun q hq => h q (List.mem_cons_of_mem _ hq))]
    have hr := h r (List.mem_cons_self ..)
    have e : counts r.media (media ++ [more]) = counts r.media media := by
      unfold counts
      rw [List.any_append]
      have : (more.toList == r.media.toList) = false := by
        rw [Bool.eq_false_iff] at hr ⊢
        intro c
        exact hr (by rw [beq_iff_eq] at c ⊢; exact c.symm)
      simp [this]
    unfold ruleC
    rw [e]

/-! ### who is strong wins -/
theorem rules_mem {l : List Nd} {k : Int} {media : List ByteArray} : ∀ {rules : List Ru} {cs : List Cl} {r : Ru}, rulesC l k media rules = some cs → r ∈ rules → r.media.toList.isEmpty = true → (bestB l k r.sels).2 = true → ∃ D, allB r.decls = some D ∧ ∀ x ∈ D, ⟨x, false, (bestB l k r.sels).1⟩ ∈ cs
  | [], cs, r, _, hr, _, _ => by cases hr
  | q :: rs, cs, r, h, hr, hm, hb => by
    change (ruleC l k media q).bind (fun x => (rulesC l k media rs).map (x ++ ·)) = some cs at h
    cases hq : ruleC l k media q with
    | none => rw [hq] at h; cases h
    | some x =>
      cases hs : rulesC l k media rs with
      | none => rw [hq, hs] at h; cases h
      | some y =>
        rw [hq, hs] at h
        injection h with h
        rcases List.mem_cons.1 hr with rfl | hr
        · unfold ruleC counts at hq
          rw [hm, hb] at hq
          simp only [Bool.true_or, Bool.and_self, if_true] at hq
          cases hd : allB r.decls with
          | none => rw [hd] at hq; cases hq
          | some D =>
            rw [hd] at hq
            injection hq with hq
            refine ⟨D, rfl, fun z hz => ?_⟩
            rw [← h, ← hq]
            exact List.mem_append_left _ (List.mem_map.2 ⟨z, hz, rfl⟩)
        · obtain ⟨D, hD, hx⟩ := rules_mem hs hr hm hb
          exact ⟨D, hD, fun z hz => by rw [← h]; exact List.mem_append_right _ (hx z hz)⟩
theorem strong_wins {cs : List Cl} {L : List Dc} (hL : IsLook L (lookF cs)) {x : Cl} (hx : x ∈ cs) : ∃ y ∈ L, nm y = nm x.d ∧ (y.strong || !x.d.strong) = true := by
  obtain ⟨c, hc, hb⟩ := win_beats hx rfl
  have := (hL.2 (nm x.d) c.d).1 (by unfold lookF; rw [hc]; rfl)
  refine ⟨c.d, this.1, this.2, ?_⟩
  cases hs : x.d.strong
  · simp
  · rw [beats_strong hb hs]; rfl

/-! ### a rule of two selectors is two rules -/
def splitR (r : Ru) : List Ru := r.sels.map fun s => ⟨r.media, [s], r.decls, 0, 0⟩
def mergeD : Option Dc → Option Dc → Option Dc
  | none, b => b
  | some a, none => some a
  | some a, some b => if (if a.strong == b.strong then true else b.strong) then some b else some a
def pick (n : List UInt8) : List Dc → Option Dc
  | [] => none
  | d :: l => mergeD (if nm d = n then some d else none) (pick n l)
theorem win_asC (n : List UInt8) (own : Bool) (w : Wt) : ∀ D : List Dc, win n (asC own w D) = (pick n D).map fun d => ⟨d, own, w⟩
  | [] => rfl
  | d :: D => by
    show merge (one n ⟨d, own, w⟩) (win n (asC own w D)) = _
    rw [win_asC n own w D]
    show merge (one n ⟨d, own, w⟩) _ = (mergeD (if nm d = n then some d else none) (pick n D)).map _
    unfold one
    have hl : lessW w w = false := by simp [lessW]
    split
    · cases pick n D with
      | none => rfl
      | some e =>
        simp only [Option.map_some, merge, mergeD, beats, hl, beq_self_eq_true, if_true, Bool.not_false]
        cases (d.strong == e.strong) <;> cases e.strong <;> rfl
    · cases pick n D <;> rfl
theorem lessW_irr (x : Wt) : lessW x x = false := by simp [lessW]
def maxW (x y : Wt) : Wt := if lessW y x then x else y
theorem merge_asC (n : List UInt8) (D : List Dc) (x y : Wt) : merge (win n (asC false x D)) (win n (asC false y D)) = win n (asC false (maxW x y) D) := by
  rw [win_asC, win_asC, win_asC]
  cases pick n D with
  | none => rfl
  | some d =>
    simp only [Option.map_some, merge, beats, beq_self_eq_true, if_true, maxW]
    cases lessW y x <;> rfl
theorem cmp_max (x y : Wt) : (if 0 < cmp3 y x then y else x) = maxW x y := by
  obtain ⟨a, b, c⟩ := x
  obtain ⟨d, e, f⟩ := y
  unfold maxW lessW cmp3
  simp only
  repeat' split
  all_goals first | rfl | omega | (simp_all; omega) | (simp at *; (try congr 1) <;> omega)
theorem wts_max (s : List Pt) : maxW w00 (wts s) = wts s := by
  unfold maxW lessW w00 wts
  simp
  omega
/-- What a rule's selectors claim one by one. -/
def eachC (l : List Nd) (k : Int) (D : List Dc) : List (List Pt) → List Cl
  | [] => []
  | s :: ss => (if matchB l k s then asC false (wts s) D else []) ++ eachC l k D ss
theorem each_win (l : List Nd) (k : Int) (D : List Dc) (n : List UInt8) : ∀ (ss : List (List Pt)) (w : Wt) (b : Bool), (b = false → w = w00) →
    merge (if b then win n (asC false w D) else none) (win n (eachC l k D ss)) = (if (bestTo l k ss (w, b)).2 then win n (asC false (bestTo l k ss (w, b)).1 D) else none)
  | [], w, b, _ => by
    show merge _ none = _
    rw [merge_none]
    rfl
  | s :: ss, w, b, hb => by
    show merge _ (win n ((if matchB l k s then asC false (wts s) D else []) ++ eachC l k D ss)) = _
    rw [win_append, ← merge_assoc]
    unfold bestTo
    cases hm : matchB l k s
    · simp only [Bool.false_eq_true, if_false]
      have : merge (if b = true then win n (asC false w D) else none) (win n []) = (if b = true then win n (asC false w D) else none) := merge_none _
      rw [this]
      exact each_win l k D n ss w b hb
    · simp only [if_true]
      rw [cmp_max]
      rw [← each_win l k D n ss (maxW w (wts s)) true (fun h => by cases h)]
      congr 1
      cases b
      · rw [hb rfl, wts_max]
        rfl
      · simp only [if_true]
        exact merge_asC n D w (wts s)
theorem bestTo_one (l : List Nd) (k : Int) (s : List Pt) : bestB l k [s] = (if matchB l k s then (wts s, true) else (w00, false)) := by
  unfold bestB
  simp only [bestTo]
  split
  · rw [cmp_max, wts_max]
  · rfl
theorem bestTo_any (l : List Nd) (k : Int) : ∀ (ss : List (List Pt)) (acc : Wt × Bool), (bestTo l k ss acc).2 = (acc.2 || ss.any (matchB l k))
  | [], acc => by simp [bestTo]
  | s :: ss, acc => by
    unfold bestTo
    rw [bestTo_any l k ss]
    cases hm : matchB l k s <;> simp [hm]
theorem split_rule (l : List Nd) (k : Int) (media : List ByteArray) (r : Ru) : AlikeR (ruleC l k media r) (rulesC l k media (splitR r)) := by
  cases hc : counts r.media media
  · have e1 : ruleC l k media r = some [] := by unfold ruleC; rw [hc]; rfl
    have e2 : ∀ ss : List (List Pt), rulesC l k media (ss.map fun s => ⟨r.media, [s], r.decls, 0, 0⟩) = some [] := fun ss => by
      induction ss with
      | nil => rfl
      | cons s ss ih =>
        show (ruleC l k media ⟨r.media, [s], r.decls, 0, 0⟩).bind (fun x => (rulesC l k media (ss.map _)).map (x ++ ·)) = _
        rw [ih]
        unfold ruleC
        simp only [hc, Bool.false_and, Bool.false_eq_true, if_false]
        rfl
    rw [e1]
    unfold splitR
    rw [e2]
    exact fun _ => rfl
  · cases hd : allB r.decls with
    | none =>
      have e1 : ruleC l k media r = if r.sels.any (matchB l k) then none else some [] := by
        unfold ruleC bestB
        rw [hc, bestTo_any, hd]
        simp
      have e2 : ∀ ss : List (List Pt), rulesC l k media (ss.map fun s => ⟨r.media, [s], r.decls, 0, 0⟩) = if ss.any (matchB l k) then none else some [] := fun ss => by
        induction ss with
        | nil => rfl
        | cons s ss ih =>
          show (ruleC l k media ⟨r.media, [s], r.decls, 0, 0⟩).bind (fun x => (rulesC l k media (ss.map _)).map (x ++ ·)) = _
          rw [ih]
          unfold ruleC
          simp only [hc, bestTo_one, hd, Bool.true_and, List.any_cons]
          by_cases h1 : matchB l k s = true <;> by_cases h2 : ss.any (matchB l k) = true <;> simp [h1, h2]
      unfold splitR
      rw [e1, e2]
      cases r.sels.any (matchB l k)
      · exact fun _ => rfl
      · exact trivial
    | some D =>
      have e1 : ruleC l k media r = some (if (bestB l k r.sels).2 then asC false (bestB l k r.sels).1 D else []) := by
        unfold ruleC
        rw [hc, hd]
        cases (bestB l k r.sels).2 <;> rfl
      have e2 : ∀ ss : List (List Pt), rulesC l k media (ss.map fun s => ⟨r.media, [s], r.decls, 0, 0⟩) = some (eachC l k D ss) := fun ss => by
        induction ss with
        | nil => rfl
        | cons s ss ih =>
          show (ruleC l k media ⟨r.media, [s], r.decls, 0, 0⟩).bind (fun x => (rulesC l k media (ss.map _)).map (x ++ ·)) = _
          rw [ih]
          show _ = some ((if matchB l k s then asC false (wts s) D else []) ++ eachC l k D ss)
          unfold ruleC
          simp only [hc, bestTo_one, hd, Bool.true_and]
          cases matchB l k s <;> rfl
      unfold splitR
      rw [e1, e2]
      intro n
      have h := each_win l k D n r.sels w00 false (fun _ => rfl)
      have h0 : merge (if false = true then win n (asC false w00 D) else none) (win n (eachC l k D r.sels)) = win n (eachC l k D r.sels) := rfl
      rw [h0] at h
      rw [h]
      unfold bestB
      cases (bestTo l k r.sels (w00, false)).2 <;> rfl
theorem split_rules (l : List Nd) (k : Int) (media : List ByteArray) : ∀ rules : List Ru, AlikeR (rulesC l k media rules) (rulesC l k media (rules.flatMap splitR))
  | [] => fun _ => rfl
  | r :: rs => by
    have ih := split_rules l k media rs
    have h1 := split_rule l k media r
    rw [List.flatMap_cons, rulesC_append]
    show AlikeR ((ruleC l k media r).bind fun x => (rulesC l k media rs).map (x ++ ·)) _
    cases a1 : ruleC l k media r <;> cases a2 : rulesC l k media (splitR r) <;> cases b1 : rulesC l k media rs <;> cases b2 : rulesC l k media (rs.flatMap splitR) <;> rw [a1, a2] at h1 <;> rw [b1, b2] at ih <;> first | exact trivial | exact h1.elim | exact ih.elim | skip
    intro n
    rw [win_append, win_append, h1 n, ih n]
end Go.Proofs.YtfobkiglmphgjabGreatDoor

namespace Go.Proofs.YtfobkiglmphgjabGreatDoor

theorem win_snoc (n : List UInt8) (cs : List Cl) (c : Cl) : win n (cs ++ [c]) = merge (win n cs) (one n c) := by
  rw [win_append]
  show merge _ (merge (one n c) none) = _
  rw [merge_none]
/-- One claim more, at its own property: it is laid where there is none, or where it beats what is there. -/
theorem win_put (cs : List Cl) (c : Cl) : win (nm c.d) (cs ++ [c]) = match win (nm c.d) cs with
    | none => some c
    | some a => if beats c a then some c else some a := by
  rw [win_snoc]
  unfold one
  rw [if_pos rfl]
  cases win (nm c.d) cs <;> rfl
theorem win_other {n : List UInt8} (cs : List Cl) {c : Cl} (h : nm c.d ≠ n) : win n (cs ++ [c]) = win n cs := by
  rw [win_snoc]
  unfold one
  rw [if_neg h, merge_none]
/-- From the keys, rising, to what is declared. -/
theorem look_of_keys {f : List UInt8 → Option Dc} (hf : ∀ n x, f n = some x → nm x = n) : ∀ {ks : List (List UInt8)}, ks.Pairwise (· < ·) → (∀ n, (f n).isSome = true ↔ n ∈ ks) → IsLook (ks.filterMap f) f := by
  intro ks hp hk
  refine ⟨?_, fun n x => ?_⟩
  · rw [List.pairwise_filterMap]
    refine hp.imp ?_
    intro a b hab x hx y hy
    rw [hf _ _ hx, hf _ _ hy]
    exact hab
  · constructor
    · intro h
      exact ⟨List.mem_filterMap.2 ⟨n, (hk n).1 (by rw [h]; rfl), h⟩, hf _ _ h⟩
    · rintro ⟨h, rfl⟩
      obtain ⟨m, _, hm⟩ := List.mem_filterMap.1 h
      rw [hf _ _ hm]
      exact hm
theorem lookF_name (cs : List Cl) (n : List UInt8) (x : Dc) (h : lookF cs n = some x) : nm x = n := by
  unfold lookF at h
  cases hw : win n cs with
  | none => rw [hw] at h; cases h
  | some c =>
    rw [hw] at h
    injection h with h
    rw [← h]
    exact (win_name hw).2

section
variable (sty : ByteArray → Except Int (List Dc)) (inh : ByteArray → Bool) (ini : ByteArray → ByteArray)
def valueB (l : List Nd) (rules : List Ru) (media : List ByteArray) (name : ByteArray) (k : Nat) : Except Int ByteArray :=
  match claimsB sty l k rules media with
  | .error e => .error e
  | .ok cs => match lookF cs name.data.toList with
    | some d => .ok d.val
    | none => if _h : inh name = true ∧ 0 ≤ par l k ∧ par l k < k then valueB l rules media name (par l k).toNat else .ok (ini name)
termination_by k
decreasing_by omega
theorem value_err {l : List Nd} {rules : List Ru} {media : List ByteArray} {name : ByteArray} {k : Nat} {e : Int} (h : claimsB sty l k rules media = .error e) : valueB sty inh ini l rules media name k = .error e := by
  rw [valueB, h]
theorem value_there {l : List Nd} {rules : List Ru} {media : List ByteArray} {name : ByteArray} {k : Nat} {cs : List Cl} {d : Dc} (h : claimsB sty l k rules media = .ok cs) (hd : lookF cs name.data.toList = some d) : valueB sty inh ini l rules media name k = .ok d.val := by
  rw [valueB, h]
  simp only [hd]
theorem value_up {l : List Nd} {rules : List Ru} {media : List ByteArray} {name : ByteArray} {k : Nat} {cs : List Cl} (h : claimsB sty l k rules media = .ok cs) (hd : lookF cs name.data.toList = none) (hi : inh name = true) (h0 : 0 ≤ par l k) (h1 : par l k < k) :
    valueB sty inh ini l rules media name k = valueB sty inh ini l rules media name (par l k).toNat := by
  rw [valueB, h]
  simp only [hd]
  rw [dif_pos ⟨hi, h0, h1⟩]
theorem value_end {l : List Nd} {rules : List Ru} {media : List ByteArray} {name : ByteArray} {k : Nat} {cs : List Cl} (h : claimsB sty l k rules media = .ok cs) (hd : lookF cs name.data.toList = none) (hn : ¬ (inh name = true ∧ 0 ≤ par l k ∧ par l k < k)) :
    valueB sty inh ini l rules media name k = .ok (ini name) := by
  rw [valueB, h]
  simp only [hd]
  rw [dif_neg hn]
end
end Go.Proofs.YtfobkiglmphgjabGreatDoor
