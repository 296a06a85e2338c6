/-
  How declarations and texts lie in memory, and that they lie so still where only new memory was written; rows of declarations, appended to one another. No function of the program is named here; no condition.
-/
import Derived.Test.YtnigckmaklbiaabDoorPSpec
import Derived.Test.YtnigckmaklbiaabDoorProg
import Derived.WalkKit
import Derived.WalkSpells
import Derived.BigQuiet
import Derived.Deep.AppendLies
import Derived.Deep.RegionLaw
import Derived.Deep.LoopGhost
import Derived.Deep.CutRange
import Derived.Deep.DeepFit
import Derived.Deep.RegionHeld3
import Derived.Deep.Slices
import Derived.Laws.StructEq
namespace Go.Proofs.YtnigckmaklbiaabDoor
open Go.RowKit

theorem hid {p : Prop} (h : p) : Hid p := h

/-- What a cell held it holds still. -/
def Ext (w w' : World) : Prop := ∀ (b o : Nat) (v : Value), w.cell? ⟨b, o, none⟩ = some v → w'.cell? ⟨b, o, none⟩ = some v
theorem lt_of_cell {w : World} {b o : Nat} {v : Value} (h : w.cell? ⟨b, o, none⟩ = some v) : b < w.heap.size := by
  by_cases hb : b < w.heap.size
  · exact hb
  · have : w.heap[b]? = none := by simp; omega
    simp [World.cell?, this] at h
theorem Ext.refl (w : World) : Ext w w := fun _ _ _ h => h
theorem Ext.trans {a b c : World} (h : Ext a b) (k : Ext b c) : Ext a c := fun x o v hv => k x o v (h x o v hv)
theorem Ext.below {w w' : World} (h : Below w.heap.size w w') : Ext w w' := fun b o v hv => by
  rw [h.cell (p := ⟨b, o, none⟩) (lt_of_cell hv)]; exact hv

/-- A row of elements: each at its cells. -/
def Sl {α : Type} (w : World) (sz : Nat) (E : (Nat → Option Value) → α → Prop) (v : Value) (l : List α) : Prop :=
  ∃ a cap, v = .slice a l.length cap ∧ (a = none → cap = 0) ∧ ∀ i (h : i < l.length), ∃ b off, a = some ⟨b, off, none⟩ ∧ E (fun j => w.cell? ⟨b, off + i * sz + j, none⟩) l[i]

theorem Sl.mono {α : Type} {w w' : World} {sz : Nat} {E E' : (Nat → Option Value) → α → Prop} {v : Value} {l : List α} (h : Sl w sz E v l)
    (hE : ∀ b o x, E (fun j => w.cell? ⟨b, o + j, none⟩) x → E' (fun j => w'.cell? ⟨b, o + j, none⟩) x) : Sl w' sz E' v l := by
  obtain ⟨a, cap, rfl, hn, h⟩ := h
  refine ⟨a, cap, rfl, hn, fun i hi => ?_⟩
  obtain ⟨b, off, rfl, he⟩ := h i hi
  exact ⟨b, off, rfl, hE b (off + i * sz) _ he⟩
theorem Sl.form {α : Type} {w : World} {sz : Nat} {E : (Nat → Option Value) → α → Prop} {v : Value} {l : List α} (h : Sl w sz E v l) : ∃ a cap, v = .slice a l.length cap := by
  obtain ⟨a, cap, rfl, _⟩ := h; exact ⟨a, cap, rfl⟩
theorem Sl.nil {α : Type} {w : World} {sz : Nat} {E : (Nat → Option Value) → α → Prop} {n cap : Nat} {l : List α} (h : Sl w sz E (.slice none n cap) l) : n = 0 ∧ cap = 0 ∧ l = [] := by
  obtain ⟨a', cap', e, hn, h⟩ := h
  injection e with e1 e2 e3
  subst e1 e2 e3
  have hl : l.length = 0 := by
    by_cases h0 : 0 < l.length
    · obtain ⟨b, off, hb, _⟩ := h 0 h0; cases hb
    · omega
  exact ⟨hl, hn rfl, List.length_eq_zero_iff.1 hl⟩
theorem Sl.at {α : Type} {w : World} {sz : Nat} {E : (Nat → Option Value) → α → Prop} {a : Option Addr} {n cap : Nat} {l : List α} (h : Sl w sz E (.slice a n cap) l) {i : Nat} (hi : i < l.length) :
    ∃ b off, a = some ⟨b, off, none⟩ ∧ E (fun j => w.cell? ⟨b, off + i * sz + j, none⟩) l[i] := by
  obtain ⟨a', cap', e, _, h⟩ := h
  injection e with e1 e2 e3
  subst e1
  exact h i hi

def eD (c : Nat → Option Value) (x : Dc) : Prop := c 0 = some (.string x.name) ∧ c 1 = some (.string x.val) ∧ c 2 = some (.bool x.strong)
def DsAt (w : World) (v : Value) (l : List Dc) : Prop := Sl w 3 eD v l
def eB (c : Nat → Option Value) (x : ByteArray) : Prop := c 0 = some (.string x)
def BsAt (w : World) (v : Value) (l : List ByteArray) : Prop := Sl w 1 eB v l

variable {w w' : World} {v : Value}
theorem DsAt.ext {l : List Dc} (h : DsAt w v l) (e : Ext w w') : DsAt w' v l :=
  Sl.mono h fun _ _ _ ⟨h0, h1, h2⟩ => ⟨e _ _ _ h0, e _ _ _ h1, e _ _ _ h2⟩
theorem BsAt.ext {l : List ByteArray} (h : BsAt w v l) (e : Ext w w') : BsAt w' v l :=
  Sl.mono h fun _ _ _ h0 => e _ _ _ h0
theorem eD.cells {w : World} {b o : Nat} {x : Dc} (h : eD (fun j => w.cell? ⟨b, o + j, none⟩) x) : w.cell? ⟨b, o, none⟩ = some (.string x.name) ∧ w.cell? ⟨b, o + 1, none⟩ = some (.string x.val) ∧ w.cell? ⟨b, o + 2, none⟩ = some (.bool x.strong) := h
theorem eB.cells {w : World} {b o : Nat} {x : ByteArray} (h : eB (fun j => w.cell? ⟨b, o + j, none⟩) x) : w.cell? ⟨b, o, none⟩ = some (.string x) := h

/-- Of everything at most 2^20. -/
def lim : Nat := 1048576
def SmD (x : Dc) : Prop := x.name.size ≤ lim ∧ x.val.size ≤ lim
def SmDs (l : List Dc) : Prop := l.length ≤ lim ∧ ∀ x ∈ l, SmD x

theorem own_form {base : Nat} {e : TypeId} {size n : Nat} {xs : List Value} (h : w.ownsRow base e size v n xs) : ∃ a cap, v = .slice a n cap := by
  rcases h.2 with ⟨h1, h2⟩ | ⟨g, cap, cur, h0, _⟩
  · exact ⟨none, 0, by rw [h1, h2]⟩
  · exact ⟨_, _, h0⟩
theorem own_cell {base : Nat} {e : TypeId} {size : Nat} {a : Option Addr} {cap n : Nat} {xs : List Value} (h : w.ownsRow base e size (.slice a n cap) n xs) {j : Nat} (hj : j < n * size) : ∃ g, a = some ⟨g, 0, none⟩ ∧ w.cell? ⟨g, j, none⟩ = xs[j]? := by
  rcases h.2 with ⟨h1, h2⟩ | ⟨g, cap', cur, h0, hb, h1, h2, h3, h4, h5⟩
  · subst h2; simp at hj
  · injection h0 with h0 _ _
    refine ⟨g, h0, ?_⟩
    rw [← h5, List.getElem?_take, if_pos hj]
    simp [World.cell?, h1]
theorem own_ext {base : Nat} {e : TypeId} {size n : Nat} {xs : List Value} (h : w.ownsRow base e size v n xs) (hb : Below w.heap.size w w') : w'.ownsRow base e size v n xs := by
  refine ⟨h.1, ?_⟩
  rcases h.2 with h | ⟨g, cap, cur, h0, hg, h1, h2⟩
  · exact .inl h
  · refine .inr ⟨g, cap, cur, h0, hg, ?_, h2⟩
    rw [hb.block g (Array.getElem?_eq_some_iff.1 h1).1]
    exact h1
theorem below_trans {B : Nat} {a b c : World} (h : Below B a b) (k : Below b.heap.size b c) (hB : B ≤ a.heap.size) : Below B a c := h.trans (k.mono (Nat.le_trans hB h.size))
theorem below_dN {B : Nat} {a w : World} (h : Below B a w) (n : Nat) : Below B a (w.drewN n) := ⟨h.os, h.tape, h.output, h.size, h.block⟩

/-- A slice value that is read from: m elements, these cells. -/
def Src (w : World) (u : Value) (m : Nat) (news : List Value) : Prop :=
  (u = .slice none 0 0 ∧ m = 0 ∧ news = []) ∨ ∃ ad c, u = .slice (some ad) m c ∧ ∀ j e, news[j]? = some e → w.cell? (ad.add j) = some e
theorem addr_add (g o j : Nat) : (⟨g, o, none⟩ : Addr).add j = ⟨g, o + j, none⟩ := by unfold Addr.add; split <;> simp_all
theorem Ext.any {w w' : World} (h : Ext w w') {p : Addr} {v : Value} (hp : w.cell? p = some v) : w'.cell? p = some v := by
  obtain ⟨b, o, sp⟩ := p
  cases sp with
  | none => exact h b o v hp
  | some x =>
    unfold World.cell? at hp
    split at hp
    · simp at hp
    · cases hp
theorem Src.ext {w w' : World} {u : Value} {m : Nat} {news : List Value} (h : Src w u m news) (e : Ext w w') : Src w' u m news := by
  rcases h with h | ⟨ad, c, h1, h2⟩
  · exact .inl h
  · exact .inr ⟨ad, c, h1, fun j x hx => e.any (h2 j x hx)⟩

theorem wp_app {w : World} {o : Oper} {a : Act} {K : Act → World → Prop} {Q : Exit → Act → World → Prop} (s x : Operand) (t : TypeId)
    (ho : o.op = .call { callee := .builtin .append, args := #[s, x], argTypes := #[t, t] })
    (base : Nat) (e : TypeId) (z : Value) (size bytes : Nat) (ht : Tryd.prog.underlying t = some (.slice e)) (hin : (Tryd.prog.info? e).map (fun i => (i.zero, i.size, i.bytes)) = some (some z, size, bytes)) (hzs : z.cells.size = size) (hsz : 0 < size)
    (v : Value) (n : Nat) (xs : List Value) (hs : a.eval s = v) (hown : w.ownsRow base e size v n xs)
    (u : Value) (m : Nat) (news : List Value) (hx : a.eval x = u) (hsrc : Src w u m news) (hl : news.length = m * size) (h1 : ∀ u ∈ news, u.oneCell' = true)
    (h63 : n + m ≤ maxLen) (hbytes : (n + m) * bytes ≤ 140737488355328) (hbase : base ≤ w.heap.size)
    (h : ∀ v' w', w'.ownsRow base e size v' (n + m) (xs ++ news) → w.grownBy w' v.ownBlock → K (a.put o.dst v') w') : o.wp Tryd.prog a w K Q := by
  obtain ⟨i0, hi, hz0, hz1, hz2⟩ := info_parts hin
  rcases hsrc with ⟨h2, rfl, rfl⟩ | ⟨ad, c, h2, h3⟩
  · have hrun := run_append_owned_none (P := Tryd.prog) (w := w) base t o.type e i0 size ht hi v n xs hown
    unfold Oper.wp
    rw [h2] at hx
    simp [execOp, ho, resolve, invoke, builtin, hs, hx, hrun, Result.andThen]
    exact h v w (by simpa using hown) ⟨rfl, rfl, rfl, Nat.le_refl _, fun _ _ _ => rfl⟩
  · exact wp_append_own w s x t ho base e i0 z size bytes ht hi hz0 hz1 hz2 hzs hsz v n xs hs hown ad m c news (by rw [hx, h2]) hl h3 h1 h63 hbytes hbase (fun v' w' h3 h4 _ => h v' w' h3 h4)
theorem wpList_app {w : World} {ops : Array Oper} {rest : List Oper} {o : Oper} {a : Act} {Q : Exit → Act → World → Prop} (hgd : o.guard = none) (s x : Operand) (t : TypeId)
    (ho : o.op = .call { callee := .builtin .append, args := #[s, x], argTypes := #[t, t] })
    (base : Nat) (e : TypeId) (z : Value) (size bytes : Nat) (ht : Tryd.prog.underlying t = some (.slice e)) (hin : (Tryd.prog.info? e).map (fun i => (i.zero, i.size, i.bytes)) = some (some z, size, bytes)) (hzs : z.cells.size = size) (hsz : 0 < size)
    (v : Value) (n : Nat) (xs : List Value) (hs : a.eval s = v) (hown : w.ownsRow base e size v n xs)
    (u : Value) (m : Nat) (news : List Value) (hx : a.eval x = u) (hsrc : Src w u m news) (hl : news.length = m * size) (h1 : ∀ u ∈ news, u.oneCell' = true)
    (h63 : n + m ≤ maxLen) (hbytes : (n + m) * bytes ≤ 140737488355328) (hbase : base ≤ w.heap.size)
    (h : ∀ v' w', w'.ownsRow base e size v' (n + m) (xs ++ news) → w.grownBy w' v.ownBlock → wpList Tryd.prog ops Q rest (a.put o.dst v') w') : wpList Tryd.prog ops Q (o :: rest) a w :=
  wpList_plain hgd fun _ hK => wp_app s x t ho base e z size bytes ht hin hzs hsz v n xs hs hown u m news hx hsrc hl h1 h63 hbytes hbase fun v' w' h2 h3 => hK _ _ (h v' w' h2 h3)
theorem step_app {w : World} {ops : Array Oper} {o : Oper} {a : Act} {K : Act → World → Prop} {Q : Exit → Act → World → Prop} {E : Prop} (hgd : o.guard = none) (s x : Operand) (t : TypeId)
    (ho : o.op = .call { callee := .builtin .append, args := #[s, x], argTypes := #[t, t] })
    (base : Nat) (e : TypeId) (z : Value) (size bytes : Nat) (ht : Tryd.prog.underlying t = some (.slice e)) (hin : (Tryd.prog.info? e).map (fun i => (i.zero, i.size, i.bytes)) = some (some z, size, bytes)) (hzs : z.cells.size = size) (hsz : 0 < size)
    (v : Value) (n : Nat) (xs : List Value) (hs : a.eval s = v) (hown : w.ownsRow base e size v n xs)
    (u : Value) (m : Nat) (news : List Value) (hx : a.eval x = u) (hsrc : Src w u m news) (hl : news.length = m * size) (h1 : ∀ u ∈ news, u.oneCell' = true)
    (h63 : n + m ≤ maxLen) (hbytes : (n + m) * bytes ≤ 140737488355328) (hbase : base ≤ w.heap.size)
    (h : ∀ v' w', w'.ownsRow base e size v' (n + m) (xs ++ news) → w.grownBy w' v.ownBlock → K (a.put o.dst v') w') :
    if Region.wanted o (yielded ops a.tmps) = true then Oper.wp Tryd.prog o a w K Q else E := by
  rw [if_pos (by simp [Region.wanted, hgd])]
  exact wp_app s x t ho base e z size bytes ht hin hzs hsz v n xs hs hown u m news hx hsrc hl h1 h63 hbytes hbase h

def encD (d : Dc) : List Value := [.string d.name, .string d.val, .bool d.strong]
def encB (x : ByteArray) : List Value := [.string x]
theorem Tryd.infoD : (Tryd.prog.info? 52).map (fun i => (i.zero, i.size, i.bytes)) = some (some (.agg #[.string ⟨#[]⟩, .string ⟨#[]⟩, .bool false]), 3, 40) := by kernel_rfl
theorem Tryd.infoS : (Tryd.prog.info? 9).map (fun i => (i.zero, i.size, i.bytes)) = some (some (.string ⟨#[]⟩), 1, 16) := by kernel_rfl
theorem flat_len {α β : Type} (n : Nat) (f : α → List β) (hf : ∀ x, (f x).length = n) : ∀ l : List α, (l.flatMap f).length = l.length * n
  | [] => by simp
  | a :: l => by rw [List.flatMap_cons, List.length_append, hf, flat_len n f hf l, List.length_cons, Nat.add_mul]; omega
theorem flat_get {α β : Type} (n : Nat) (f : α → List β) (hf : ∀ x, (f x).length = n) : ∀ (l : List α) (i j : Nat) (hi : i < l.length), j < n → (l.flatMap f)[i * n + j]? = (f l[i])[j]?
  | [], _, _, hi, _ => absurd hi (Nat.not_lt_zero _)
  | a :: l, 0, j, _, hj => by
    rw [List.flatMap_cons, List.getElem?_append_left (by rw [hf]; omega)]
    simp
  | a :: l, i + 1, j, hi, hj => by
    rw [List.flatMap_cons, List.getElem?_append_right (by rw [hf, Nat.add_mul]; omega), hf]
    have := flat_get n f hf l i j (by simpa using hi) hj
    rw [show (i + 1) * n + j - n = i * n + j by rw [Nat.add_mul]; omega, this]
    simp
/-- From each element's cells to the row's. -/
theorem src_of {α : Type} {w : World} {sz : Nat} (h0 : 0 < sz) (f : α → List Value) (hf : ∀ x, (f x).length = sz) {a : Option Addr} {cap : Nat} {l : List α} (hn : a = none → cap = 0)
    (h : ∀ i (hi : i < l.length), ∃ b off, a = some ⟨b, off, none⟩ ∧ ∀ j, j < sz → w.cell? ⟨b, off + i * sz + j, none⟩ = (f l[i])[j]?) : Src w (.slice a l.length cap) l.length (l.flatMap f) := by
  cases a with
  | none =>
    have hl : l.length = 0 := by
      by_cases h1 : 0 < l.length
      · obtain ⟨b, off, hb, _⟩ := h 0 h1; cases hb
      · omega
    obtain rfl := List.length_eq_zero_iff.1 hl
    rw [hn rfl]
    exact .inl ⟨rfl, rfl, rfl⟩
  | some ad =>
    by_cases h1 : 0 < l.length
    · obtain ⟨b, off, hb, _⟩ := h 0 h1
      injection hb with hb
      subst hb
      refine .inr ⟨⟨b, off, none⟩, cap, rfl, fun j e he => ?_⟩
      rw [addr_add]
      have hj : j < l.length * sz := by
        have := (List.getElem?_eq_some_iff.1 he).1
        rwa [flat_len sz f hf] at this
      have hi : j / sz < l.length := Nat.div_lt_of_lt_mul (by rw [Nat.mul_comm]; exact hj)
      have hm : j % sz < sz := Nat.mod_lt _ h0
      have hd : j = j / sz * sz + j % sz := by rw [Nat.mul_comm]; exact (Nat.div_add_mod j sz).symm
      obtain ⟨b', off', hb, hc⟩ := h (j / sz) hi
      injection hb with hb
      injection hb with hb1 hb2
      subst hb1 hb2
      have := hc (j % sz) hm
      rw [← flat_get sz f hf l (j / sz) (j % sz) hi hm, ← hd, he, Nat.add_assoc, ← hd] at this
      exact this
    · have hl : l.length = 0 := by omega
      obtain rfl := List.length_eq_zero_iff.1 hl
      exact .inr ⟨ad, cap, rfl, fun j e he => by cases he⟩

theorem DsAt.src {w : World} {a : Option Addr} {n cap : Nat} {ds : List Dc} (h : DsAt w (.slice a n cap) ds) : Src w (.slice a ds.length cap) ds.length (ds.flatMap encD) := by
  obtain ⟨a', cap', e, hn, h⟩ := h
  injection e with e1 e2 e3
  subst e1 e3
  refine src_of (sz := 3) (by decide) encD (fun _ => rfl) hn fun i hi => ?_
  obtain ⟨b, off, rfl, h0, h1, h2⟩ := h i hi
  refine ⟨b, off, rfl, fun j hj => ?_⟩
  match j, hj with
  | 0, _ => exact h0
  | 1, _ => exact h1
  | 2, _ => exact h2
theorem own_at {α : Type} {w : World} {base : Nat} {e : TypeId} {sz : Nat} {f : α → List Value} (hf : ∀ x, (f x).length = sz) (h0 : 0 < sz) {v : Value} {l : List α} (h : w.ownsRow base e sz v l.length (l.flatMap f)) :
    ∃ a cap, v = .slice a l.length cap ∧ (a = none → cap = 0) ∧ ∀ i (hi : i < l.length), ∃ b off, a = some ⟨b, off, none⟩ ∧ ∀ j, j < sz → w.cell? ⟨b, off + i * sz + j, none⟩ = (f l[i])[j]? := by
  have hn : ∀ a cap, v = .slice a l.length cap → a = none → cap = 0 := by
    rintro a cap rfl rfl
    rcases h.2 with ⟨h1, _⟩ | ⟨g, cap, cur, h0, _⟩
    · injection h1
    · cases h0
  obtain ⟨a, cap, rfl⟩ := own_form h
  refine ⟨a, cap, rfl, hn a cap rfl, fun i hi => ?_⟩
  have key : ∀ j, j < sz → i * sz + j < l.length * sz := fun j hj => by
    have : (i + 1) * sz ≤ l.length * sz := Nat.mul_le_mul_right _ hi
    rw [Nat.add_mul, Nat.one_mul] at this
    omega
  obtain ⟨g, rfl, _⟩ := own_cell h (j := i * sz + 0) (key 0 h0)
  refine ⟨g, 0, rfl, fun j hj => ?_⟩
  obtain ⟨g', hg, hc⟩ := own_cell h (j := i * sz + j) (key j hj)
  injection hg with hg
  injection hg with hg
  subst hg
  rw [Nat.zero_add, hc, flat_get sz f hf l i j hi hj]
theorem DsAt.own {w : World} {base : Nat} {v : Value} {l : List Dc} (h : w.ownsRow base 52 3 v l.length (l.flatMap encD)) : DsAt w v l := by
  obtain ⟨a, cap, rfl, hn, hc⟩ := own_at (sz := 3) (f := encD) (fun _ => rfl) (by decide) h
  refine ⟨a, cap, rfl, hn, fun i hi => ?_⟩
  obtain ⟨b, off, rfl, hh⟩ := hc i hi
  exact ⟨b, off, rfl, hh 0 (by decide), hh 1 (by decide), hh 2 (by decide)⟩
theorem BsAt.own {w : World} {base : Nat} {v : Value} {l : List ByteArray} (h : w.ownsRow base 9 1 v l.length (l.flatMap encB)) : BsAt w v l := by
  obtain ⟨a, cap, rfl, hn, hc⟩ := own_at (sz := 1) (f := encB) (fun _ => rfl) (by decide) h
  refine ⟨a, cap, rfl, hn, fun i hi => ?_⟩
  obtain ⟨b, off, rfl, hh⟩ := hc i hi
  exact ⟨b, off, rfl, hh 0 (by decide)⟩
theorem cell_new (w : World) (cs : Array Value) (t : TypeId) (j : Nat) : (w.alloc (.cells cs t)).cell? ⟨w.heap.size, j, none⟩ = cs[j]? := by
  unfold World.cell?
  rw [heap_alloc_new]
  rfl
theorem ext_alloc (w : World) (o : Obj) : Ext w (w.alloc o) := Ext.below ((Below.refl _ _).alloc (Nat.le_refl _) _)
theorem ret_bool {a b : Bool} (h : a = b) : Ending.returned (.bool a) = .returned (.bool b) := by rw [h]
theorem ret_str {a b : ByteArray} (h : a = b) : Ending.returned (.string a) = .returned (.string b) := by rw [h]
theorem setCell_size (w : World) (a : Addr) (v : Value) : (w.setCell a v).heap.size = w.heap.size := by simp [World.setCell]
/-- One declaration in a new block. -/
theorem ds_new (w : World) (d : Dc) : DsAt (w.alloc (.cells #[.string d.name, .string d.val, .bool d.strong] 52)) (.slice (some ⟨w.heap.size, 0, none⟩) 1 1) [d] := by
  refine ⟨_, 1, rfl, nofun, fun i hi => ⟨w.heap.size, 0, rfl, ?_⟩⟩
  obtain rfl : i = 0 := by simp at hi; omega
  exact ⟨by show World.cell? _ ⟨_, 0, none⟩ = _; rw [cell_new]; rfl, by show World.cell? _ ⟨_, 1, none⟩ = _; rw [cell_new]; rfl, by show World.cell? _ ⟨_, 2, none⟩ = _; rw [cell_new]; rfl⟩
theorem ds_nil (w : World) : DsAt w (.slice none 0 0) [] := ⟨none, 0, rfl, fun _ => rfl, fun _ hi => absurd hi (Nat.not_lt_zero _)⟩
/-- One more cell row: what is appended is one declaration in a new block. -/
theorem src_one {w : World} {b : Nat} {d : Dc} (h0 : w.cell? ⟨b, 0, none⟩ = some (.string d.name)) (h1 : w.cell? ⟨b, 1, none⟩ = some (.string d.val)) (h2 : w.cell? ⟨b, 2, none⟩ = some (.bool d.strong)) (c : Nat) : Src w (.slice (some ⟨b, 0, none⟩) 1 c) 1 (encD d) := by
  refine .inr ⟨⟨b, 0, none⟩, c, rfl, fun j e he => ?_⟩
  rw [addr_add, Nat.zero_add]
  match j with
  | 0 => simp [encD] at he; rw [h0, he]
  | 1 => simp [encD] at he; rw [h1, he]
  | 2 => simp [encD] at he; rw [h2, he]
  | j + 3 => simp [encD] at he

/-! ### declarations are equal where their fields are -/
theorem us52 : Tryd.prog.underlying 52 = some (.struct (Tryd.prog.fieldsOf 52)) := by kernel_rfl
theorem st52 : Tryd.prog.stoodInHeld 52 = false := by kernel_rfl
theorem fs52 : (Tryd.prog.fieldsOf 52).toList.map (fun f => (f.name, f.type, f.offset)) = [("Name", 9, 0), ("Val", 9, 1), ("Strong", 4, 2)] := by kernel_rfl
theorem eg52 : Tryd.prog.eqGuardType Tryd.prog.depth 52 = false := by kernel_rfl
/-- Two aggregates whose fields are equal one by one are equal. -/
theorem fields_eq (P : Program) (d : Nat) (xs ys : Array Value) (w : World) : ∀ fs : List Field, (∀ f ∈ fs, ∃ a b, (Go.part f.type xs f.offset).run P w = .ok a w ∧ (Go.part f.type ys f.offset).run P w = .ok b w ∧ (Op.equalIn d f.type a b).run P w = .ok true w) → (Op.eqFields d xs ys fs).run P w = .ok true w
  | [], _ => by simp [Op.eqFields]
  | f :: fs, h => by
    obtain ⟨a, b, h1, h2, h3⟩ := h f (List.mem_cons_self ..)
    have ih := fields_eq P d xs ys w fs (fun g hg => h g (List.mem_cons_of_mem _ hg))
    simp only [Op.eqFields]
    split
    · simp [Sem.run_bind, h1, h2, h3, ih]
    · exact ih

theorem seq52 (d : Nat) (a b : ByteArray) (t : Bool) (w : World) : (Op.equalIn (d + 2) 52 (.agg #[.string a, .string b, .bool t]) (.agg #[.string a, .string b, .bool t])).run Tryd.prog w = .ok true w := by
  rw [run_equalIn_struct w (d + 1) 52 _ _ us52 st52]
  refine fields_eq _ _ _ _ _ _ fun g hg => ?_
  have hm : (g.name, g.type, g.offset) ∈ [("Name", 9, 0), ("Val", 9, 1), ("Strong", 4, 2)] := by rw [← fs52]; exact List.mem_map_of_mem hg
  simp at hm
  rcases hm with ⟨_, h1, h2⟩ | ⟨_, h1, h2⟩ | ⟨_, h1, h2⟩
  · rw [h1, h2]
    refine ⟨.string a, .string a, by simp [Go.part, go_sem], by simp [Go.part, go_sem], ?_⟩
    rw [run_equalIn_string w d 9 a a Tryd.underlying9]; simp
  · rw [h1, h2]
    refine ⟨.string b, .string b, by simp [Go.part, go_sem], by simp [Go.part, go_sem], ?_⟩
    rw [run_equalIn_string w d 9 b b Tryd.underlying9]; simp
  · rw [h1, h2]
    refine ⟨.bool t, .bool t, by simp [Go.part, go_sem], by simp [Go.part, go_sem], ?_⟩
    rw [run_equalIn_bool' w d 4 t t Tryd.underlying4]; simp
theorem sneq52 (a b : ByteArray) (t : Bool) (w : World) : (binOp .neq 52 (.agg #[.string a, .string b, .bool t]) (.agg #[.string a, .string b, .bool t])).run Tryd.prog w = .ok (.bool false) w := by
  rw [run_neq_struct, seq52 9998]; rfl
end Go.Proofs.YtnigckmaklbiaabDoor
