/-
  What was handed in, opened: elements, selectors and tests that are read lie in memory as the walks ask, and are no more than the reading's bulk. No function of the program is named here; no condition.
-/
import Derived.Test.YtlodblcmpebfkaaDoorMMem
import Derived.Test.YtlodblcmpebfkaaDoorRows
import Derived.ProofKit
import Derived.Deep.Slices
namespace Go.Proofs.YtlodblcmpebfkaaDoor
open Go.RowKit

theorem bulk_one {H : Type} (d : DataW H) : 1 ≤ Rows.uptoBulk d := by
  cases d with
  | lit l => cases l <;> simp [Rows.uptoBulk]
  | nil => simp [Rows.uptoBulk]
  | ptr d => simp [Rows.uptoBulk]
  | slice elems spare => simp [Rows.uptoBulk]
  | agg parts => simp [Rows.uptoBulk]
  | iface t d => simp [Rows.uptoBulk]
  | map entries => simp [Rows.uptoBulk]
  | held h => simp [Rows.uptoBulk]
theorem bulk_mem {H : Type} {d : DataW H} {l : List (DataW H)} (h : d ∈ l) : Rows.uptoBulk d ≤ Rows.uptoBulkAll l := by
  induction l with
  | nil => cases h
  | cons x r ih =>
    simp only [Rows.uptoBulkAll]
    cases List.mem_cons.1 h with
    | inl e => subst e; omega
    | inr e => have := ih e; omega
theorem bulk_len {H : Type} (l : List (DataW H)) : l.length ≤ Rows.uptoBulkAll l := by
  induction l with
  | nil => simp [Rows.uptoBulkAll]
  | cons x r ih => have := bulk_one x; simp only [Rows.uptoBulkAll, List.length_cons]; omega
theorem bulk_map {H α : Type} (μ : α → Nat) (D : Nat → DataW H) : ∀ (l : List α) (k : Nat), (∀ i (h : i < l.length), μ l[i] ≤ Rows.uptoBulk (D (k + i))) → (l.map μ).sum ≤ Rows.uptoBulkAll ((List.range l.length).map fun i => D (k + i))
  | [], _, _ => by simp
  | a :: l, k, h => by
    have h0 : μ a ≤ Rows.uptoBulk (D (k + 0)) := h 0 (by simp)
    have ih := bulk_map μ D l (k + 1) (fun i hi => by
      have := h (i + 1) (by simpa using hi)
      simpa [Nat.add_assoc, Nat.add_comm, Nat.add_left_comm] using this)
    rw [List.length_cons, List.range_succ_eq_map, List.map_cons, List.map_cons, List.map_map, List.sum_cons]
    simp only [Rows.uptoBulkAll]
    have e : (List.range l.length).map ((fun i => D (k + i)) ∘ Nat.succ) = (List.range l.length).map fun i => D (k + 1 + i) := by
      apply List.map_congr_left
      intro i _
      show D (k + (i + 1)) = D (k + 1 + i)
      congr 1; omega
    rw [e]
    omega

section
variable {H : Type} {enc : TypeId × Value → H} {w : World} {held : Bool}

/-- The cells by number, from the reader's row of cells. -/
theorem cells_at {b off k n : Nat} {cs : List Value} (h : w.cells? 0 ((⟨b, off, none⟩ : Addr).add k) n = some cs) : cs.length = n ∧ ∀ j, j < n → w.cell? ⟨b, off + k + j, none⟩ = cs[j]? := by
  obtain ⟨_, hl, hc⟩ := World.cells?_some h
  refine ⟨hl, fun j hj => ?_⟩
  rw [← hc j hj, Deep.add_add, Go.WideShapes.add_plain, Nat.add_assoc]
theorem spot_none {a : Addr} {n : Nat} {cs : List Value} (h : w.cells? 0 (a.add 0) n = some cs) (hn : 0 < n) : ∃ b off, a = ⟨b, off, none⟩ := by
  obtain ⟨_, hl, hc⟩ := World.cells?_some h
  obtain ⟨b, off, sp⟩ := a
  have := hc 0 hn
  rw [List.getElem?_eq_getElem (by omega)] at this
  have hs := World.cell?_spot this
  simp [Addr.add] at hs
  subst hs
  exact ⟨b, off, rfl⟩

/-- A slice, opened: its elements as the walks ask; no more than its bulk. -/
theorem open_sl {α : Type} {t e : TypeId} {sz : Nat} (ht : Tryd.prog.underlying t = some (.slice e)) (hsz : Tryd.prog.cellsOf e = sz) (h0 : 0 < sz) (E : (Nat → Option Value) → α → Prop) (μ : α → Nat) (Q : α → Prop)
    (hE : ∀ fuel (cs : List Value) x, cs.length = sz → DataW.trod enc Tryd.prog w 0 (fun _ => true) held fuel e cs = some x → ∃ y, (∀ c : Nat → Option Value, (∀ j, j < sz → c j = cs[j]?) → E c y) ∧ μ y ≤ Rows.uptoBulk x.1 ∧ (Rows.uptoBulk x.1 ≤ lim → Q y))
    {fuel : Nat} {cs : List Value} {x : DataW H × List MemPlace} (h : DataW.trod enc Tryd.prog w 0 (fun _ => true) held fuel t cs = some x) :
    ∃ v l, cs = [v] ∧ Sl w sz E v l ∧ (l.map μ).sum ≤ Rows.uptoBulk x.1 ∧ l.length ≤ Rows.uptoBulk x.1 ∧ (Rows.uptoBulk x.1 ≤ lim → ∀ y ∈ l, Q y) := by
  rcases Deep.open_slice ht h with ⟨rfl, rfl⟩ | ⟨a, len, cap, m, n, D, Pl, rfl, _, hlc, _, hm, rfl, hx⟩
  · exact ⟨_, [], rfl, ⟨none, 0, rfl, fun _ => rfl, fun _ hi => absurd hi (Nat.not_lt_zero _)⟩, by simp, by simp, fun _ y hy => by cases hy⟩
  · rw [hsz] at hx
    have hlm : len ≤ m := by rw [hm]; simpa using hlc
    have each : ∀ i, i < len → ∃ cs', w.cells? 0 (a.add (i * sz)) sz = some cs' ∧ ∃ y, (∀ c : Nat → Option Value, (∀ j, j < sz → c j = cs'[j]?) → E c y) ∧ μ y ≤ Rows.uptoBulk (D i) ∧ (Rows.uptoBulk (D i) ≤ lim → Q y) := fun i hi => by
      obtain ⟨cs', h1, h2⟩ := hx i (by omega)
      exact ⟨cs', h1, hE n cs' _ (World.cells?_some h1).2.1 h2⟩
    by_cases hl0 : len = 0
    · subst hl0
      exact ⟨_, [], rfl, ⟨some a, cap, rfl, nofun, fun _ hi => absurd hi (Nat.not_lt_zero _)⟩, by simp, by simp, fun _ y hy => by cases hy⟩
    · obtain ⟨cs0, hc0, y0, _⟩ := each 0 (by omega)
      rw [Nat.zero_mul] at hc0
      obtain ⟨b, off, rfl⟩ := spot_none hc0 h0
      have : Inhabited α := ⟨y0⟩
      have ex : ∃ f : Nat → α, ∀ i, i < len → E (fun j => w.cell? ⟨b, off + i * sz + j, none⟩) (f i) ∧ μ (f i) ≤ Rows.uptoBulk (D i) ∧ (Rows.uptoBulk (D i) ≤ lim → Q (f i)) :=
        Deep.choose_lt (p := fun i y => E (fun j => w.cell? ⟨b, off + i * sz + j, none⟩) y ∧ μ y ≤ Rows.uptoBulk (D i) ∧ (Rows.uptoBulk (D i) ≤ lim → Q y)) fun i hi => by
          obtain ⟨cs', h1, y, h2, h3⟩ := each i hi
          exact ⟨y, h2 _ (cells_at h1).2, h3⟩
      obtain ⟨f, hf⟩ := ex
      have hlen : ((List.range len).map f).length = len := by simp
      have hsum : (((List.range len).map f).map μ).sum ≤ Rows.uptoBulkAll ((List.range len).map D) := by
        have := bulk_map μ D ((List.range len).map f) 0 (fun i hi => by
          have hi' : i < len := by simpa using hi
          simpa using (hf i hi').2.1)
        simpa using this
      have hbl : Rows.uptoBulkAll ((List.range len).map D) ≤ Rows.uptoBulk (.slice ((List.range len).map D) ((List.range (m - len)).map fun j => D (len + j)) : DataW H) := by
        simp only [Rows.uptoBulk]; omega
      refine ⟨_, (List.range len).map f, rfl, ⟨some ⟨b, off, none⟩, cap, by rw [hlen], nofun, fun i hi => ⟨b, off, rfl, ?_⟩⟩, Nat.le_trans hsum hbl, ?_, fun hb y hy => ?_⟩
      · have hi' : i < len := by simpa using hi
        simpa using (hf i hi').1
      · rw [hlen]
        have := bulk_len ((List.range len).map D)
        rw [List.length_map, List.length_range] at this
        exact Nat.le_trans this hbl
      · obtain ⟨i, hi, rfl⟩ := List.mem_map.1 hy
        have hi' : i < len := by simpa using hi
        refine (hf i hi').2.2 (Nat.le_trans ?_ (Nat.le_trans hbl hb))
        exact bulk_mem (List.mem_map.2 ⟨i, hi, rfl⟩)

/-- A struct, opened: its fields by number. -/
theorem open_st {t : TypeId} {L : List (TypeId × Nat)} (ht : Tryd.prog.underlying t = some (.struct (Tryd.prog.fieldsOf t))) (hf : (Tryd.prog.fieldsOf t).toList.map (fun f => (f.type, f.offset)) = L)
    {fuel : Nat} {cs : List Value} {x : DataW H × List MemPlace} (h : DataW.trod enc Tryd.prog w 0 (fun _ => true) held fuel t cs = some x) :
    ∃ (xs : List (DataW H × List MemPlace)) (n : Nat), x.1 = .agg (xs.map (·.1)) ∧ cs.length = Tryd.prog.cellsOf t ∧ xs.length = L.length ∧ ∀ (i : Nat) (ty : TypeId) (off : Nat), L[i]? = some (ty, off) → DataW.trod enc Tryd.prog w 0 (fun _ => true) held n ty ((cs.drop off).take (Tryd.prog.cellsOf ty)) = xs[i]? := by
  obtain ⟨xs, n, _, rfl, hl, hlen, hx⟩ := DataW.trod_struct ht h
  refine ⟨xs, n, rfl, hl, by rw [hlen, ← hf]; simp, fun i ty off hi => ?_⟩
  rw [← hf, List.getElem?_map] at hi
  obtain ⟨f, h1, h2⟩ := Option.map_eq_some_iff.1 hi
  have := hx i f (by rw [← Array.getElem?_toList]; exact h1)
  simp at h2
  rw [← h2.1, ← h2.2]
  exact this

theorem cl3 : Tryd.prog.cellsOf 3 = 1 := by kernel_rfl
theorem cl9 : Tryd.prog.cellsOf 9 = 1 := by kernel_rfl
theorem cl26 : Tryd.prog.cellsOf 26 = 2 := by kernel_rfl
theorem cl41 : Tryd.prog.cellsOf 41 = 3 := by kernel_rfl
theorem cl43 : Tryd.prog.cellsOf 43 = 1 := by kernel_rfl
theorem cl45 : Tryd.prog.cellsOf 45 = 2 := by kernel_rfl
theorem cl49 : Tryd.prog.cellsOf 49 = 1 := by kernel_rfl
theorem cl51 : Tryd.prog.cellsOf 51 = 6 := by kernel_rfl
theorem cl68 : Tryd.prog.cellsOf 68 = 4 := by kernel_rfl
theorem st26 : Tryd.prog.underlying 26 = some (.struct (Tryd.prog.fieldsOf 26)) := by kernel_rfl
theorem st41 : Tryd.prog.underlying 41 = some (.struct (Tryd.prog.fieldsOf 41)) := by kernel_rfl
theorem st45 : Tryd.prog.underlying 45 = some (.struct (Tryd.prog.fieldsOf 45)) := by kernel_rfl
theorem st51 : Tryd.prog.underlying 51 = some (.struct (Tryd.prog.fieldsOf 51)) := by kernel_rfl
theorem st68 : Tryd.prog.underlying 68 = some (.struct (Tryd.prog.fieldsOf 68)) := by kernel_rfl
theorem fl26 : (Tryd.prog.fieldsOf 26).toList.map (fun f => (f.type, f.offset)) = [(3, 0), (3, 1)] := by kernel_rfl
theorem fl41 : (Tryd.prog.fieldsOf 41).toList.map (fun f => (f.type, f.offset)) = [(3, 0), (9, 1), (9, 2)] := by kernel_rfl
theorem fl45 : (Tryd.prog.fieldsOf 45).toList.map (fun f => (f.type, f.offset)) = [(3, 0), (43, 1)] := by kernel_rfl
theorem fl51 : (Tryd.prog.fieldsOf 51).toList.map (fun f => (f.type, f.offset)) = [(9, 0), (3, 1), (49, 2), (3, 3), (26, 4)] := by kernel_rfl
theorem fl68 : (Tryd.prog.fieldsOf 68).toList.map (fun f => (f.type, f.offset)) = [(9, 0), (9, 1), (26, 2)] := by kernel_rfl

theorem get_some {α : Type} {l : List α} {i : Nat} {o : Option α} (h : o = l[i]?) (hi : i < l.length) : ∃ y, o = some y ∧ y ∈ l := ⟨l[i], by rw [h, List.getElem?_eq_getElem hi], List.getElem_mem hi⟩

/-- A test. -/
theorem open_test (fuel : Nat) (cs : List Value) (x : DataW H × List MemPlace) (hl : cs.length = 3) (h : DataW.trod enc Tryd.prog w 0 (fun _ => true) held fuel 41 cs = some x) :
    ∃ y : Ts, cs = [.int .i64 y.kind, .string y.name, .string y.val] ∧ 4 ≤ Rows.uptoBulk x.1 := by
  obtain ⟨xs, n, hx, _, hxl, hf⟩ := open_st st41 fl41 h
  match cs, hl with
  | [c0, c1, c2], _ =>
    obtain ⟨y0, h0, _⟩ := get_some (hf 0 3 0 rfl) (by rw [hxl]; decide)
    obtain ⟨y1, h1, _⟩ := get_some (hf 1 9 1 rfl) (by rw [hxl]; decide)
    obtain ⟨y2, h2, _⟩ := get_some (hf 2 9 2 rfl) (by rw [hxl]; decide)
    rw [cl3] at h0
    rw [cl9] at h1 h2
    obtain ⟨k, e0, _⟩ := DataW.trod_int Tryd.underlying3 h0
    obtain ⟨a, e1, _⟩ := DataW.trod_string Tryd.underlying9 h1
    obtain ⟨b, e2, _⟩ := DataW.trod_string Tryd.underlying9 h2
    simp at e0 e1 e2
    refine ⟨⟨k, a, b⟩, by rw [e0, e1, e2], ?_⟩
    rw [hx]
    simp only [Rows.uptoBulk]
    have := bulk_len (xs.map (·.1))
    rw [List.length_map, hxl] at this
    simp at this
    omega
/-- Tests. -/
theorem open_tests (fuel : Nat) (cs : List Value) (x : DataW H × List MemPlace) (h : DataW.trod enc Tryd.prog w 0 (fun _ => true) held fuel 43 cs = some x) :
    ∃ v l, cs = [v] ∧ TsAt w v l ∧ l.length ≤ Rows.uptoBulk x.1 := by
  obtain ⟨v, l, h1, h2, _, h3, _⟩ := open_sl (sz := 3) Tryd.underlying43 cl41 (by decide) eT (fun _ => 0) (fun _ => True) (fun fuel cs x hl h => by
    obtain ⟨y, hy, _⟩ := open_test fuel cs x hl h
    subst hy
    exact ⟨y, fun c hc => ⟨hc 0 (by decide), hc 1 (by decide), hc 2 (by decide)⟩, Nat.zero_le _, fun _ => trivial⟩) h
  exact ⟨v, l, h1, h2, h3⟩
/-- A part. -/
theorem open_part (fuel : Nat) (cs : List Value) (x : DataW H × List MemPlace) (hl : cs.length = 2) (h : DataW.trod enc Tryd.prog w 0 (fun _ => true) held fuel 45 cs = some x) :
    ∃ (y : Pt) (v : Value), cs = [.int .i64 y.join, v] ∧ TsAt w v y.tests ∧ y.tests.length ≤ Rows.uptoBulk x.1 := by
  obtain ⟨xs, n, hx, _, hxl, hf⟩ := open_st st45 fl45 h
  match cs, hl with
  | [c0, c1], _ =>
    obtain ⟨y0, h0, _⟩ := get_some (hf 0 3 0 rfl) (by rw [hxl]; decide)
    obtain ⟨y1, h1, m1⟩ := get_some (hf 1 43 1 rfl) (by rw [hxl]; decide)
    rw [cl3] at h0
    rw [cl43] at h1
    obtain ⟨k, e0, _⟩ := DataW.trod_int Tryd.underlying3 h0
    obtain ⟨v, l, e1, h2, h3⟩ := open_tests _ _ _ h1
    simp at e0 e1
    refine ⟨⟨k, l⟩, v, by rw [e0, e1], h2, ?_⟩
    rw [hx]
    simp only [Rows.uptoBulk]
    have := bulk_mem (List.mem_map_of_mem (f := (·.1)) m1)
    omega
/-- A selector. -/
theorem open_parts (fuel : Nat) (cs : List Value) (x : DataW H × List MemPlace) (h : DataW.trod enc Tryd.prog w 0 (fun _ => true) held fuel 30 cs = some x) :
    ∃ v s, cs = [v] ∧ PsAt w v s ∧ (s.flatMap (·.tests)).length ≤ Rows.uptoBulk x.1 ∧ s.length ≤ Rows.uptoBulk x.1 := by
  obtain ⟨v, l, h1, h2, h3, h4, _⟩ := open_sl (sz := 2) Tryd.underlying30 cl45 (by decide) (eP w) (fun p => p.tests.length) (fun _ => True) (fun fuel cs x hl h => by
    obtain ⟨y, v, hy, hv, hb⟩ := open_part fuel cs x hl h
    subst hy
    exact ⟨y, fun c hc => ⟨hc 0 (by decide), v, hc 1 (by decide), hv⟩, hb, fun _ => trivial⟩) h
  refine ⟨v, l, h1, h2, ?_, h4⟩
  rw [List.length_flatMap]
  exact h3
theorem open_span (fuel : Nat) (cs : List Value) (x : DataW H × List MemPlace) (hl : cs.length = 2) (h : DataW.trod enc Tryd.prog w 0 (fun _ => true) held fuel 26 cs = some x) :
    ∃ a b : Int, cs = [.int .i64 a, .int .i64 b] := by
  obtain ⟨xs, n, hx, _, hxl, hf⟩ := open_st st26 fl26 h
  match cs, hl with
  | [c0, c1], _ =>
    obtain ⟨y0, h0, _⟩ := get_some (hf 0 3 0 rfl) (by rw [hxl]; decide)
    obtain ⟨y1, h1, _⟩ := get_some (hf 1 3 1 rfl) (by rw [hxl]; decide)
    rw [cl3] at h0 h1
    obtain ⟨k, e0, _⟩ := DataW.trod_int Tryd.underlying3 h0
    obtain ⟨k', e1, _⟩ := DataW.trod_int Tryd.underlying3 h1
    simp at e0 e1
    exact ⟨k, k', by rw [e0, e1]⟩
/-- An attribute. -/
theorem open_attr (fuel : Nat) (cs : List Value) (x : DataW H × List MemPlace) (hl : cs.length = 4) (h : DataW.trod enc Tryd.prog w 0 (fun _ => true) held fuel 68 cs = some x) :
    ∃ y : At, cs = [.string y.name, .string y.val, .int .i64 y.fr, .int .i64 y.to] ∧ y.val.size ≤ Rows.uptoBulk x.1 := by
  obtain ⟨xs, n, hx, _, hxl, hf⟩ := open_st st68 fl68 h
  match cs, hl with
  | [c0, c1, c2, c3], _ =>
    obtain ⟨y0, h0, _⟩ := get_some (hf 0 9 0 rfl) (by rw [hxl]; decide)
    obtain ⟨y1, h1, m1⟩ := get_some (hf 1 9 1 rfl) (by rw [hxl]; decide)
    obtain ⟨y2, h2, _⟩ := get_some (hf 2 26 2 rfl) (by rw [hxl]; decide)
    rw [cl9] at h0 h1
    rw [cl26] at h2
    obtain ⟨a, e0, _⟩ := DataW.trod_string Tryd.underlying9 h0
    obtain ⟨b, e1, e1', _⟩ := DataW.trod_string Tryd.underlying9 h1
    obtain ⟨k, k', e2⟩ := open_span _ _ _ (by simp) h2
    simp at e0 e1 e2
    refine ⟨⟨a, b, k, k'⟩, by rw [e0, e1, e2.1, e2.2], ?_⟩
    rw [hx]
    simp only [Rows.uptoBulk]
    have := bulk_mem (List.mem_map_of_mem (f := (·.1)) m1)
    rw [e1'] at this
    simp only [Rows.uptoBulk] at this
    rw [Lib.size_eq]
    omega
/-- Attributes. -/
theorem open_attrs (fuel : Nat) (cs : List Value) (x : DataW H × List MemPlace) (h : DataW.trod enc Tryd.prog w 0 (fun _ => true) held fuel 49 cs = some x) :
    ∃ v l, cs = [v] ∧ AtsAt w v l ∧ l.length ≤ Rows.uptoBulk x.1 ∧ (Rows.uptoBulk x.1 ≤ lim → ∀ a ∈ l, a.val.size ≤ lim) := by
  obtain ⟨v, l, h1, h2, _, h3, h4⟩ := open_sl (sz := 4) Tryd.underlying49 cl68 (by decide) eA (fun _ => 0) (fun a => a.val.size ≤ lim) (fun fuel cs x hl h => by
    obtain ⟨y, hy, hb⟩ := open_attr fuel cs x hl h
    subst hy
    exact ⟨y, fun c hc => ⟨hc 0 (by decide), hc 1 (by decide), hc 2 (by decide), hc 3 (by decide)⟩, Nat.zero_le _, fun hq => Nat.le_trans hb hq⟩) h
  exact ⟨v, l, h1, h2, h3, h4⟩
/-- An element. -/
theorem open_node (fuel : Nat) (cs : List Value) (x : DataW H × List MemPlace) (hl : cs.length = 6) (h : DataW.trod enc Tryd.prog w 0 (fun _ => true) held fuel 51 cs = some x) :
    ∃ (y : Nd) (v : Value), cs = [.string y.name, .int .i64 y.parent, v, .int .i64 y.ne, .int .i64 y.fr, .int .i64 y.to] ∧ AtsAt w v y.attrs ∧ (Rows.uptoBulk x.1 ≤ lim → SmN y) := by
  obtain ⟨xs, n, hx, _, hxl, hf⟩ := open_st st51 fl51 h
  match cs, hl with
  | [c0, c1, c2, c3, c4, c5], _ =>
    obtain ⟨y0, h0, _⟩ := get_some (hf 0 9 0 rfl) (by rw [hxl]; decide)
    obtain ⟨y1, h1, _⟩ := get_some (hf 1 3 1 rfl) (by rw [hxl]; decide)
    obtain ⟨y2, h2, m2⟩ := get_some (hf 2 49 2 rfl) (by rw [hxl]; decide)
    obtain ⟨y3, h3, _⟩ := get_some (hf 3 3 3 rfl) (by rw [hxl]; decide)
    obtain ⟨y4, h4, _⟩ := get_some (hf 4 26 4 rfl) (by rw [hxl]; decide)
    rw [cl9] at h0
    rw [cl3] at h1 h3
    rw [cl49] at h2
    rw [cl26] at h4
    obtain ⟨a, e0, _⟩ := DataW.trod_string Tryd.underlying9 h0
    obtain ⟨k, e1, _⟩ := DataW.trod_int Tryd.underlying3 h1
    obtain ⟨v, l, e2, g1, g2, g3⟩ := open_attrs _ _ _ h2
    obtain ⟨k3, e3, _⟩ := DataW.trod_int Tryd.underlying3 h3
    obtain ⟨k4, k5, e4⟩ := open_span _ _ _ (by simp) h4
    simp at e0 e1 e2 e3 e4
    refine ⟨⟨a, k, l, k3, k4, k5⟩, v, by rw [e0, e1, e2, e3, e4.1, e4.2], g1, fun hq => ?_⟩
    rw [hx] at hq
    simp only [Rows.uptoBulk] at hq
    have := bulk_mem (List.mem_map_of_mem (f := (·.1)) m2)
    exact ⟨by show l.length ≤ lim; omega, g3 (by omega)⟩
/-- Elements. -/
theorem open_nodes (fuel : Nat) (cs : List Value) (x : DataW H × List MemPlace) (h : DataW.trod enc Tryd.prog w 0 (fun _ => true) held fuel 22 cs = some x) :
    ∃ v l, cs = [v] ∧ NdsAt w v l ∧ (Rows.uptoBulk x.1 ≤ lim → SmNs l) := by
  obtain ⟨v, l, h1, h2, _, h3, h4⟩ := open_sl (sz := 6) Tryd.underlying22 cl51 (by decide) (eN w) (fun _ => 0) SmN (fun fuel cs x hl h => by
    obtain ⟨y, v, hy, hv, hb⟩ := open_node fuel cs x hl h
    subst hy
    exact ⟨y, fun c hc => ⟨hc 0 (by decide), hc 1 (by decide), ⟨v, hc 2 (by decide), hv⟩, hc 3 (by decide), hc 4 (by decide), hc 5 (by decide)⟩, Nat.zero_le _, hb⟩) h
  exact ⟨v, l, h1, h2, fun hq => ⟨Nat.le_trans h3 hq, h4 hq⟩⟩
end
end Go.Proofs.YtlodblcmpebfkaaDoor
