/-
  How elements, tests, parts and selectors lie in memory, and that they lie so still where only new memory was written. No program's function is named here; no condition.
-/
import Derived.Test.YtlodblcmpebfkaaDoorMSpec
import Derived.Test.YtlodblcmpebfkaaDoorProg
import Derived.WalkKit
import Derived.WalkSpells
import Derived.BigQuiet
import Derived.Deep.AppendLies
import Derived.Deep.RegionLaw
import Derived.Deep.LoopGhost
import Derived.Deep.CutRange
import Derived.Deep.DeepFit
namespace Go.Proofs.YtlodblcmpebfkaaDoor
open Go.RowKit

theorem hid {p : Prop} (h : p) : Hid p := h

/-- What a cell held it holds still. -/
def Ext (w w' : World) : Prop := ∀ (b o : Nat) (v : Value), w.cell? ⟨b, o, none⟩ = some v → w'.cell? ⟨b, o, none⟩ = some v
theorem lt_of_cell {w : World} {b o : Nat} {v : Value} (h : w.cell? ⟨b, o, none⟩ = some v) : b < w.heap.size := by
  by_cases hb : b < w.heap.size
  · exact hb
  · have : w.heap[b]? = none := by simp; omega
    simp [World.cell?, this] at h
theorem Ext.refl (w : World) : Ext w w := fun _ _ _ h => h
theorem Ext.trans {a b c : World} (h : Ext a b) (k : Ext b c) : Ext a c := fun x o v hv => k x o v (h x o v hv)
theorem Ext.below {w w' : World} (h : Below w.heap.size w w') : Ext w w' := fun b o v hv => by
  rw [h.cell (p := ⟨b, o, none⟩) (lt_of_cell hv)]; exact hv

/-- A row of elements: each at its cells. -/
def Sl {α : Type} (w : World) (sz : Nat) (E : (Nat → Option Value) → α → Prop) (v : Value) (l : List α) : Prop :=
  ∃ a cap, v = .slice a l.length cap ∧ (a = none → cap = 0) ∧ ∀ i (h : i < l.length), ∃ b off, a = some ⟨b, off, none⟩ ∧ E (fun j => w.cell? ⟨b, off + i * sz + j, none⟩) l[i]

theorem Sl.mono {α : Type} {w w' : World} {sz : Nat} {E E' : (Nat → Option Value) → α → Prop} {v : Value} {l : List α} (h : Sl w sz E v l)
    (hE : ∀ b o x, E (fun j => w.cell? ⟨b, o + j, none⟩) x → E' (fun j => w'.cell? ⟨b, o + j, none⟩) x) : Sl w' sz E' v l := by
  obtain ⟨a, cap, rfl, hn, h⟩ := h
  refine ⟨a, cap, rfl, hn, fun i hi => ?_⟩
  obtain ⟨b, off, rfl, he⟩ := h i hi
  exact ⟨b, off, rfl, hE b (off + i * sz) _ he⟩
theorem Sl.form {α : Type} {w : World} {sz : Nat} {E : (Nat → Option Value) → α → Prop} {v : Value} {l : List α} (h : Sl w sz E v l) : ∃ a cap, v = .slice a l.length cap := by
  obtain ⟨a, cap, rfl, _⟩ := h; exact ⟨a, cap, rfl⟩
theorem Sl.nil {α : Type} {w : World} {sz : Nat} {E : (Nat → Option Value) → α → Prop} {n cap : Nat} {l : List α} (h : Sl w sz E (.slice none n cap) l) : n = 0 ∧ cap = 0 ∧ l = [] := by
  obtain ⟨a', cap', e, hn, h⟩ := h
  injection e with e1 e2 e3
  subst e1 e2 e3
  have hl : l.length = 0 := by
    by_cases h0 : 0 < l.length
    · obtain ⟨b, off, hb, _⟩ := h 0 h0; cases hb
    · omega
  exact ⟨hl, hn rfl, List.length_eq_zero_iff.1 hl⟩
theorem Sl.at {α : Type} {w : World} {sz : Nat} {E : (Nat → Option Value) → α → Prop} {a : Option Addr} {n cap : Nat} {l : List α} (h : Sl w sz E (.slice a n cap) l) {i : Nat} (hi : i < l.length) :
    ∃ b off, a = some ⟨b, off, none⟩ ∧ E (fun j => w.cell? ⟨b, off + i * sz + j, none⟩) l[i] := by
  obtain ⟨a', cap', e, _, h⟩ := h
  injection e with e1 e2 e3
  subst e1
  exact h i hi

def eA (c : Nat → Option Value) (x : At) : Prop := c 0 = some (.string x.name) ∧ c 1 = some (.string x.val) ∧ c 2 = some (.int .i64 x.fr) ∧ c 3 = some (.int .i64 x.to)
def AtsAt (w : World) (v : Value) (l : List At) : Prop := Sl w 4 eA v l
def eN (w : World) (c : Nat → Option Value) (x : Nd) : Prop := c 0 = some (.string x.name) ∧ c 1 = some (.int .i64 x.parent) ∧ (∃ v, c 2 = some v ∧ AtsAt w v x.attrs) ∧ c 3 = some (.int .i64 x.ne) ∧ c 4 = some (.int .i64 x.fr) ∧ c 5 = some (.int .i64 x.to)
def NdsAt (w : World) (v : Value) (l : List Nd) : Prop := Sl w 6 (eN w) v l
def eT (c : Nat → Option Value) (x : Ts) : Prop := c 0 = some (.int .i64 x.kind) ∧ c 1 = some (.string x.name) ∧ c 2 = some (.string x.val)
def TsAt (w : World) (v : Value) (l : List Ts) : Prop := Sl w 3 eT v l
def eP (w : World) (c : Nat → Option Value) (x : Pt) : Prop := c 0 = some (.int .i64 x.join) ∧ ∃ v, c 1 = some v ∧ TsAt w v x.tests
def PsAt (w : World) (v : Value) (l : List Pt) : Prop := Sl w 2 (eP w) v l
def eS (w : World) (c : Nat → Option Value) (x : List Pt) : Prop := ∃ v, c 0 = some v ∧ PsAt w v x
def SsAt (w : World) (v : Value) (l : List (List Pt)) : Prop := Sl w 1 (eS w) v l
def eI (c : Nat → Option Value) (x : Nat) : Prop := c 0 = some (.int .i64 (x : Int))
def IsAt (w : World) (v : Value) (l : List Nat) : Prop := Sl w 1 eI v l

variable {w w' : World} {v : Value}
theorem AtsAt.ext {l : List At} (h : AtsAt w v l) (e : Ext w w') : AtsAt w' v l :=
  Sl.mono h fun _ _ _ ⟨h0, h1, h2, h3⟩ => ⟨e _ _ _ h0, e _ _ _ h1, e _ _ _ h2, e _ _ _ h3⟩
theorem NdsAt.ext {l : List Nd} (h : NdsAt w v l) (e : Ext w w') : NdsAt w' v l :=
  Sl.mono h fun _ _ _ ⟨h0, h1, ⟨x, h2, h2'⟩, h3, h4, h5⟩ => ⟨e _ _ _ h0, e _ _ _ h1, ⟨x, e _ _ _ h2, h2'.ext e⟩, e _ _ _ h3, e _ _ _ h4, e _ _ _ h5⟩
theorem TsAt.ext {l : List Ts} (h : TsAt w v l) (e : Ext w w') : TsAt w' v l :=
  Sl.mono h fun _ _ _ ⟨h0, h1, h2⟩ => ⟨e _ _ _ h0, e _ _ _ h1, e _ _ _ h2⟩
theorem PsAt.ext {l : List Pt} (h : PsAt w v l) (e : Ext w w') : PsAt w' v l :=
  Sl.mono h fun _ _ _ ⟨h0, ⟨x, h1, h2⟩⟩ => ⟨e _ _ _ h0, ⟨x, e _ _ _ h1, h2.ext e⟩⟩
theorem SsAt.ext {l : List (List Pt)} (h : SsAt w v l) (e : Ext w w') : SsAt w' v l :=
  Sl.mono h fun _ _ _ ⟨x, h1, h2⟩ => ⟨x, e _ _ _ h1, h2.ext e⟩
theorem IsAt.ext {l : List Nat} (h : IsAt w v l) (e : Ext w w') : IsAt w' v l :=
  Sl.mono h fun _ _ _ h0 => e _ _ _ h0

/-- Of everything at most 2^20. -/
def lim : Nat := 1048576
structure SmN (x : Nd) : Prop where
  attrs : x.attrs.length ≤ lim
  vals : ∀ a ∈ x.attrs, a.val.size ≤ lim
def SmNs (l : List Nd) : Prop := l.length ≤ lim ∧ ∀ x ∈ l, SmN x
def SmS (s : List Pt) : Prop := s.length ≤ lim ∧ (s.flatMap (·.tests)).length ≤ lim

theorem SmS.part {s : List Pt} (h : SmS s) {p : Pt} (hp : p ∈ s) : p.tests.length ≤ lim := by
  refine Nat.le_trans ?_ h.2
  obtain ⟨a, b, rfl⟩ := List.append_of_mem hp
  rw [List.flatMap_append, List.flatMap_cons, List.length_append, List.length_append]
  omega

/-- The world holds a number where the library keeps MaxLen. -/
def Mx (w : World) : Prop := ∃ m : Int, w.cell? ⟨0, 0, none⟩ = some (.int .i64 m)
theorem Mx.ext (h : Mx w) (e : Ext w w') : Mx w' := by obtain ⟨m, hm⟩ := h; exact ⟨m, e _ _ _ hm⟩

theorem own_form {base : Nat} {e : TypeId} {size n : Nat} {xs : List Value} (h : w.ownsRow base e size v n xs) : ∃ a cap, v = .slice a n cap := by
  rcases h.2 with ⟨h1, h2⟩ | ⟨g, cap, cur, h0, _⟩
  · exact ⟨none, 0, by rw [h1, h2]⟩
  · exact ⟨_, _, h0⟩
theorem own_cell {base : Nat} {e : TypeId} {size : Nat} {a : Option Addr} {cap n : Nat} {xs : List Value} (h : w.ownsRow base e size (.slice a n cap) n xs) {j : Nat} (hj : j < n * size) : ∃ g, a = some ⟨g, 0, none⟩ ∧ w.cell? ⟨g, j, none⟩ = xs[j]? := by
  rcases h.2 with ⟨h1, h2⟩ | ⟨g, cap', cur, h0, hb, h1, h2, h3, h4, h5⟩
  · subst h2; simp at hj
  · injection h0 with h0 _ _
    refine ⟨g, h0, ?_⟩
    rw [← h5, List.getElem?_take, if_pos hj]
    simp [World.cell?, h1]
def encI (x : Nat) : Value := .int .i64 (x : Int)
theorem IsAt.own {base : Nat} {l : List Nat} (h : w.ownsRow base 3 1 v l.length (l.map encI)) : IsAt w v l := by
  have hn : ∀ a cap, v = .slice a l.length cap → a = none → cap = 0 := by
    rintro a cap rfl rfl
    rcases h.2 with ⟨h1, _⟩ | ⟨g, cap, cur, h0, _⟩
    · injection h1
    · cases h0
  obtain ⟨a, cap, rfl⟩ := own_form h
  refine ⟨a, cap, rfl, hn a cap rfl, fun i hi => ?_⟩
  obtain ⟨g, rfl, hg⟩ := own_cell h (j := i) (by omega)
  refine ⟨g, 0, rfl, ?_⟩
  show w.cell? ⟨g, 0 + i * 1 + 0, none⟩ = _
  rw [show 0 + i * 1 + 0 = i by omega, hg]
  simp [hi, encI]

theorem own_ext {base : Nat} {e : TypeId} {size n : Nat} {xs : List Value} (h : w.ownsRow base e size v n xs) (hb : Below w.heap.size w w') : w'.ownsRow base e size v n xs := by
  refine ⟨h.1, ?_⟩
  rcases h.2 with h | ⟨g, cap, cur, h0, hg, h1, h2⟩
  · exact .inl h
  · refine .inr ⟨g, cap, cur, h0, hg, ?_, h2⟩
    rw [hb.block g (Array.getElem?_eq_some_iff.1 h1).1]
    exact h1
theorem below_trans {B : Nat} {a b c : World} (h : Below B a b) (k : Below b.heap.size b c) (hB : B ≤ a.heap.size) : Below B a c := h.trans (k.mono (Nat.le_trans hB h.size))
theorem below_dN {B : Nat} {a w : World} (h : Below B a w) (n : Nat) : Below B a (w.drewN n) := ⟨h.os, h.tape, h.output, h.size, h.block⟩

end Go.Proofs.YtlodblcmpebfkaaDoor
