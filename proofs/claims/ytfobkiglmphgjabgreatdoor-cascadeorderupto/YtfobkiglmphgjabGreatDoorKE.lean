/-
  What was handed in, opened: it lies in memory as the walks ask, and is no more than the reading asks. No function of the program is named here.
-/
import Derived.Test.YtfobkiglmphgjabGreatDoorK2
import Derived.Test.YtfobkiglmphgjabGreatDoorRows
import Derived.ProofKit
import Derived.Deep.Slices
import Derived.Test.YtfobkiglmphgjabGreatDoorK5
import Derived.OpenShut
import Derived.FnData
import Derived.MakeChecks
import Derived.Test.YtfobkiglmphgjabGreatDoorKB
namespace Go.Proofs.YtfobkiglmphgjabGreatDoor
open Go.RowKit

theorem bulk_one {H : Type} (d : DataW H) : 1 ≤ Rows.uptoBulk d := by
  cases d with
  | lit l => cases l <;> simp [Rows.uptoBulk]
  | nil => simp [Rows.uptoBulk]
  | ptr d => simp [Rows.uptoBulk]
  | slice elems spare => simp [Rows.uptoBulk]
  | agg parts => simp [Rows.uptoBulk]
  | iface t d => simp [Rows.uptoBulk]
  | map entries => simp [Rows.uptoBulk]
  | held h => simp [Rows.uptoBulk]
theorem bulk_mem {H : Type} {d : DataW H} {l : List (DataW H)} (h : d ∈ l) : Rows.uptoBulk d ≤ Rows.uptoBulkAll l := by
  induction l with
  | nil => cases h
  | cons x r ih =>
    simp only [Rows.uptoBulkAll]
    cases List.mem_cons.1 h with
    | inl e => subst e; omega
    | inr e => have := ih e; omega
theorem bulk_len {H : Type} (l : List (DataW H)) : l.length ≤ Rows.uptoBulkAll l := by
  induction l with
  | nil => simp [Rows.uptoBulkAll]
  | cons x r ih => have := bulk_one x; simp only [Rows.uptoBulkAll, List.length_cons]; omega
theorem bulk_map {H α : Type} (μ : α → Nat) (D : Nat → DataW H) : ∀ (l : List α) (k : Nat), (∀ i (h : i < l.length), μ l[i] ≤ Rows.uptoBulk (D (k + i))) → (l.map μ).sum ≤ Rows.uptoBulkAll ((List.range l.length).map fun i => D (k + i))
  | [], _, _ => by simp
  | a :: l, k, h => by
    have h0 : μ a ≤ Rows.uptoBulk (D (k + 0)) := h 0 (by simp)
    have ih := bulk_map μ D l (k + 1) (fun i hi => by
      have := h (i + 1) (by simpa using hi)
      simpa [Nat.add_assoc, Nat.add_comm, Nat.add_left_comm] using this)
    rw [List.length_cons, List.range_succ_eq_map, List.map_cons, List.map_cons, List.map_map, List.sum_cons]
    simp only [Rows.uptoBulkAll]
    have e : (List.range l.length).map ((fun i => D (k + i)) ∘ Nat.succ) = (List.range l.length).map fun i => D (k + 1 + i) := by
      apply List.map_congr_left
      intro i _
      show D (k + (i + 1)) = D (k + 1 + i)
      congr 1; omega
    rw [e]
    omega

section
variable {H : Type} {enc : TypeId × Value → H} {w : World} {held : Bool}

/-- The cells by number, from the reader's row of cells. -/
theorem cells_at {b off k n : Nat} {cs : List Value} (h : w.cells? 0 ((⟨b, off, none⟩ : Addr).add k) n = some cs) : cs.length = n ∧ ∀ j, j < n → w.cell? ⟨b, off + k + j, none⟩ = cs[j]? := by
  obtain ⟨_, hl, hc⟩ := World.cells?_some h
  refine ⟨hl, fun j hj => ?_⟩
  rw [← hc j hj, Deep.add_add, Go.WideShapes.add_plain, Nat.add_assoc]
theorem spot_none {a : Addr} {n : Nat} {cs : List Value} (h : w.cells? 0 (a.add 0) n = some cs) (hn : 0 < n) : ∃ b off, a = ⟨b, off, none⟩ := by
  obtain ⟨_, hl, hc⟩ := World.cells?_some h
  obtain ⟨b, off, sp⟩ := a
  have := hc 0 hn
  rw [List.getElem?_eq_getElem (by omega)] at this
  have hs := World.cell?_spot this
  simp [Addr.add] at hs
  subst hs
  exact ⟨b, off, rfl⟩

set_option maxRecDepth 100000 in
/-- A slice, opened: its elements as the walks ask; no more than its bulk. -/
theorem open_sl {α : Type} {t e : TypeId} {sz : Nat} (ht : Tryz.prog.underlying t = some (.slice e)) (hsz : Tryz.prog.cellsOf e = sz) (h0 : 0 < sz) (E : (Nat → Option Value) → α → Prop) (μ : α → Nat) (Q : α → Prop)
    (hE : ∀ fuel (cs : List Value) x, cs.length = sz → DataW.trod enc Tryz.prog w 0 (fun _ => true) held fuel e cs = some x → ∃ y, (∀ c : Nat → Option Value, (∀ j, j < sz → c j = cs[j]?) → E c y) ∧ μ y ≤ Rows.uptoBulk x.1 ∧ (Rows.uptoBulk x.1 ≤ lim → Q y))
    {fuel : Nat} {cs : List Value} {x : DataW H × List MemPlace} (h : DataW.trod enc Tryz.prog w 0 (fun _ => true) held fuel t cs = some x) :
    ∃ v l, cs = [v] ∧ Sl w sz E v l ∧ (l.map μ).sum ≤ Rows.uptoBulk x.1 ∧ l.length ≤ Rows.uptoBulk x.1 ∧ (Rows.uptoBulk x.1 ≤ lim → ∀ y ∈ l, Q y) := by
  rcases Deep.open_slice ht h with ⟨rfl, rfl⟩ | ⟨a, len, cap, m, n, D, Pl, rfl, _, hlc, _, hm, rfl, hx⟩
  · exact ⟨_, [], rfl, ⟨none, 0, rfl, fun _ => rfl, fun _ hi => absurd hi (Nat.not_lt_zero _)⟩, by simp, by simp, fun _ y hy => by cases hy⟩
  · rw [hsz] at hx
    have hlm : len ≤ m := by rw [hm]; simpa using hlc
    have each : ∀ i, i < len → ∃ cs', w.cells? 0 (a.add (i * sz)) sz = some cs' ∧ ∃ y, (∀ c : Nat → Option Value, (∀ j, j < sz → c j = cs'[j]?) → E c y) ∧ μ y ≤ Rows.uptoBulk (D i) ∧ (Rows.uptoBulk (D i) ≤ lim → Q y) := fun i hi => by
      obtain ⟨cs', h1, h2⟩ := hx i (by omega)
      exact ⟨cs', h1, hE n cs' _ (World.cells?_some h1).2.1 h2⟩
    by_cases hl0 : len = 0
    · subst hl0
      exact ⟨_, [], rfl, ⟨some a, cap, rfl, nofun, fun _ hi => absurd hi (Nat.not_lt_zero _)⟩, by simp, by simp, fun _ y hy => by cases hy⟩
    · obtain ⟨cs0, hc0, y0, _⟩ := each 0 (by omega)
      rw [Nat.zero_mul] at hc0
      obtain ⟨b, off, rfl⟩ := spot_none hc0 h0
      have : Inhabited α := ⟨y0⟩
      have ex : ∃ f : Nat → α, ∀ i, i < len → E (fun j => w.cell? ⟨b, off + i * sz + j, none⟩) (f i) ∧ μ (f i) ≤ Rows.uptoBulk (D i) ∧ (Rows.uptoBulk (D i) ≤ lim → Q (f i)) :=
        Deep.choose_lt (p := fun i y => E (fun j => w.cell? ⟨b, off + i * sz + j, none⟩) y ∧ μ y ≤ Rows.uptoBulk (D i) ∧ (Rows.uptoBulk (D i) ≤ lim → Q y)) fun i hi => by
          obtain ⟨cs', h1, y, h2, h3⟩ := each i hi
          exact ⟨y, h2 _ (cells_at h1).2, h3⟩
      obtain ⟨f, hf⟩ := ex
      have hlen : ((List.range len).map f).length = len := by simp
      have hsum : (((List.range len).map f).map μ).sum ≤ Rows.uptoBulkAll ((List.range len).map D) := by
        have := bulk_map μ D ((List.range len).map f) 0 (fun i hi => by
          have hi' : i < len := by simpa using hi
          simpa using (hf i hi').2.1)
        simpa using this
      have hbl : Rows.uptoBulkAll ((List.range len).map D) ≤ Rows.uptoBulk (.slice ((List.range len).map D) ((List.range (m - len)).map fun j => D (len + j)) : DataW H) := by
        simp only [Rows.uptoBulk]; omega
      refine ⟨_, (List.range len).map f, rfl, ⟨some ⟨b, off, none⟩, cap, by rw [hlen], nofun, fun i hi => ⟨b, off, rfl, ?_⟩⟩, Nat.le_trans hsum hbl, ?_, fun hb y hy => ?_⟩
      · have hi' : i < len := by simpa using hi
        simpa using (hf i hi').1
      · rw [hlen]
        have := bulk_len ((List.range len).map D)
        rw [List.length_map, List.length_range] at this
        exact Nat.le_trans this hbl
      · obtain ⟨i, hi, rfl⟩ := List.mem_map.1 hy
        have hi' : i < len := by simpa using hi
        refine (hf i hi').2.2 (Nat.le_trans ?_ (Nat.le_trans hbl hb))
        exact bulk_mem (List.mem_map.2 ⟨i, hi, rfl⟩)

set_option maxRecDepth 100000 in
/-- A struct, opened: its fields by number. -/
theorem open_st {t : TypeId} {L : List (TypeId × Nat)} (ht : Tryz.prog.underlying t = some (.struct (Tryz.prog.fieldsOf t))) (hf : (Tryz.prog.fieldsOf t).toList.map (fun f => (f.type, f.offset)) = L)
    {fuel : Nat} {cs : List Value} {x : DataW H × List MemPlace} (h : DataW.trod enc Tryz.prog w 0 (fun _ => true) held fuel t cs = some x) :
    ∃ (xs : List (DataW H × List MemPlace)) (n : Nat), x.1 = .agg (xs.map (·.1)) ∧ cs.length = Tryz.prog.cellsOf t ∧ xs.length = L.length ∧ ∀ (i : Nat) (ty : TypeId) (off : Nat), L[i]? = some (ty, off) → DataW.trod enc Tryz.prog w 0 (fun _ => true) held n ty ((cs.drop off).take (Tryz.prog.cellsOf ty)) = xs[i]? := by
  obtain ⟨xs, n, _, rfl, hl, hlen, hx⟩ := DataW.trod_struct ht h
  refine ⟨xs, n, rfl, hl, by rw [hlen, ← hf]; simp, fun i ty off hi => ?_⟩
  rw [← hf, List.getElem?_map] at hi
  obtain ⟨f, h1, h2⟩ := Option.map_eq_some_iff.1 hi
  have := hx i f (by rw [← Array.getElem?_toList]; exact h1)
  simp at h2
  rw [← h2.1, ← h2.2]
  exact this

theorem cl3 : Tryz.prog.cellsOf 3 = 1 := by kernel_rfl
theorem cl9 : Tryz.prog.cellsOf 9 = 1 := by kernel_rfl
theorem cl38 : Tryz.prog.cellsOf 38 = 2 := by kernel_rfl
theorem cl109 : Tryz.prog.cellsOf 109 = 3 := by kernel_rfl
theorem cl110 : Tryz.prog.cellsOf 110 = 1 := by kernel_rfl
theorem cl112 : Tryz.prog.cellsOf 112 = 2 := by kernel_rfl
theorem cl52 : Tryz.prog.cellsOf 52 = 1 := by kernel_rfl
theorem cl54 : Tryz.prog.cellsOf 54 = 6 := by kernel_rfl
theorem cl101 : Tryz.prog.cellsOf 101 = 4 := by kernel_rfl
theorem st38 : Tryz.prog.underlying 38 = some (.struct (Tryz.prog.fieldsOf 38)) := by kernel_rfl
theorem st109 : Tryz.prog.underlying 109 = some (.struct (Tryz.prog.fieldsOf 109)) := by kernel_rfl
theorem st112 : Tryz.prog.underlying 112 = some (.struct (Tryz.prog.fieldsOf 112)) := by kernel_rfl
theorem st54 : Tryz.prog.underlying 54 = some (.struct (Tryz.prog.fieldsOf 54)) := by kernel_rfl
theorem st101 : Tryz.prog.underlying 101 = some (.struct (Tryz.prog.fieldsOf 101)) := by kernel_rfl
theorem fl38 : (Tryz.prog.fieldsOf 38).toList.map (fun f => (f.type, f.offset)) = [(3, 0), (3, 1)] := by kernel_rfl
theorem fl109 : (Tryz.prog.fieldsOf 109).toList.map (fun f => (f.type, f.offset)) = [(3, 0), (9, 1), (9, 2)] := by kernel_rfl
theorem fl112 : (Tryz.prog.fieldsOf 112).toList.map (fun f => (f.type, f.offset)) = [(3, 0), (110, 1)] := by kernel_rfl
theorem fl54 : (Tryz.prog.fieldsOf 54).toList.map (fun f => (f.type, f.offset)) = [(9, 0), (3, 1), (52, 2), (3, 3), (38, 4)] := by kernel_rfl
theorem fl101 : (Tryz.prog.fieldsOf 101).toList.map (fun f => (f.type, f.offset)) = [(9, 0), (9, 1), (38, 2)] := by kernel_rfl

theorem get_some {α : Type} {l : List α} {i : Nat} {o : Option α} (h : o = l[i]?) (hi : i < l.length) : ∃ y, o = some y ∧ y ∈ l := ⟨l[i], by rw [h, List.getElem?_eq_getElem hi], List.getElem_mem hi⟩

set_option maxRecDepth 100000 in
/-- A test. -/
theorem open_test (fuel : Nat) (cs : List Value) (x : DataW H × List MemPlace) (hl : cs.length = 3) (h : DataW.trod enc Tryz.prog w 0 (fun _ => true) held fuel 109 cs = some x) :
    ∃ y : Ts, cs = [.int .i64 y.kind, .string y.name, .string y.val] ∧ 4 ≤ Rows.uptoBulk x.1 := by
  obtain ⟨xs, n, hx, _, hxl, hf⟩ := open_st st109 fl109 h
  match cs, hl with
  | [c0, c1, c2], _ =>
    obtain ⟨y0, h0, _⟩ := get_some (hf 0 3 0 rfl) (by rw [hxl]; decide)
    obtain ⟨y1, h1, _⟩ := get_some (hf 1 9 1 rfl) (by rw [hxl]; decide)
    obtain ⟨y2, h2, _⟩ := get_some (hf 2 9 2 rfl) (by rw [hxl]; decide)
    rw [cl3] at h0
    rw [cl9] at h1 h2
    obtain ⟨k, e0, _⟩ := DataW.trod_int Tryz.underlying3 h0
    obtain ⟨a, e1, _⟩ := DataW.trod_string Tryz.underlying9 h1
    obtain ⟨b, e2, _⟩ := DataW.trod_string Tryz.underlying9 h2
    simp at e0 e1 e2
    refine ⟨⟨k, a, b⟩, by rw [e0, e1, e2], ?_⟩
    rw [hx]
    simp only [Rows.uptoBulk]
    have := bulk_len (xs.map (·.1))
    rw [List.length_map, hxl] at this
    simp at this
    omega
set_option maxRecDepth 100000 in
/-- Tests. -/
theorem open_tests (fuel : Nat) (cs : List Value) (x : DataW H × List MemPlace) (h : DataW.trod enc Tryz.prog w 0 (fun _ => true) held fuel 110 cs = some x) :
    ∃ v l, cs = [v] ∧ TsAt w v l ∧ l.length ≤ Rows.uptoBulk x.1 := by
  obtain ⟨v, l, h1, h2, _, h3, _⟩ := open_sl (sz := 3) Tryz.underlying110 cl109 (by decide) eT (fun _ => 0) (fun _ => True) (fun fuel cs x hl h => by
    obtain ⟨y, hy, _⟩ := open_test fuel cs x hl h
    subst hy
    exact ⟨y, fun c hc => ⟨hc 0 (by decide), hc 1 (by decide), hc 2 (by decide)⟩, Nat.zero_le _, fun _ => trivial⟩) h
  exact ⟨v, l, h1, h2, h3⟩
set_option maxRecDepth 100000 in
/-- A part. -/
theorem open_part (fuel : Nat) (cs : List Value) (x : DataW H × List MemPlace) (hl : cs.length = 2) (h : DataW.trod enc Tryz.prog w 0 (fun _ => true) held fuel 112 cs = some x) :
    ∃ (y : Pt) (v : Value), cs = [.int .i64 y.join, v] ∧ TsAt w v y.tests ∧ y.tests.length ≤ Rows.uptoBulk x.1 := by
  obtain ⟨xs, n, hx, _, hxl, hf⟩ := open_st st112 fl112 h
  match cs, hl with
  | [c0, c1], _ =>
    obtain ⟨y0, h0, _⟩ := get_some (hf 0 3 0 rfl) (by rw [hxl]; decide)
    obtain ⟨y1, h1, m1⟩ := get_some (hf 1 110 1 rfl) (by rw [hxl]; decide)
    rw [cl3] at h0
    rw [cl110] at h1
    obtain ⟨k, e0, _⟩ := DataW.trod_int Tryz.underlying3 h0
    obtain ⟨v, l, e1, h2, h3⟩ := open_tests _ _ _ h1
    simp at e0 e1
    refine ⟨⟨k, l⟩, v, by rw [e0, e1], h2, ?_⟩
    rw [hx]
    simp only [Rows.uptoBulk]
    have := bulk_mem (List.mem_map_of_mem (f := (·.1)) m1)
    omega
set_option maxRecDepth 100000 in
/-- A selector. -/
theorem open_parts (fuel : Nat) (cs : List Value) (x : DataW H × List MemPlace) (h : DataW.trod enc Tryz.prog w 0 (fun _ => true) held fuel 58 cs = some x) :
    ∃ v s, cs = [v] ∧ PsAt w v s ∧ (s.flatMap (·.tests)).length ≤ Rows.uptoBulk x.1 ∧ s.length ≤ Rows.uptoBulk x.1 := by
  obtain ⟨v, l, h1, h2, h3, h4, _⟩ := open_sl (sz := 2) Tryz.underlying58 cl112 (by decide) (eP w) (fun p => p.tests.length) (fun _ => True) (fun fuel cs x hl h => by
    obtain ⟨y, v, hy, hv, hb⟩ := open_part fuel cs x hl h
    subst hy
    exact ⟨y, fun c hc => ⟨hc 0 (by decide), v, hc 1 (by decide), hv⟩, hb, fun _ => trivial⟩) h
  refine ⟨v, l, h1, h2, ?_, h4⟩
  rw [List.length_flatMap]
  exact h3
set_option maxRecDepth 100000 in
theorem open_span (fuel : Nat) (cs : List Value) (x : DataW H × List MemPlace) (hl : cs.length = 2) (h : DataW.trod enc Tryz.prog w 0 (fun _ => true) held fuel 38 cs = some x) :
    ∃ a b : Int, cs = [.int .i64 a, .int .i64 b] := by
  obtain ⟨xs, n, hx, _, hxl, hf⟩ := open_st st38 fl38 h
  match cs, hl with
  | [c0, c1], _ =>
    obtain ⟨y0, h0, _⟩ := get_some (hf 0 3 0 rfl) (by rw [hxl]; decide)
    obtain ⟨y1, h1, _⟩ := get_some (hf 1 3 1 rfl) (by rw [hxl]; decide)
    rw [cl3] at h0 h1
    obtain ⟨k, e0, _⟩ := DataW.trod_int Tryz.underlying3 h0
    obtain ⟨k', e1, _⟩ := DataW.trod_int Tryz.underlying3 h1
    simp at e0 e1
    exact ⟨k, k', by rw [e0, e1]⟩
set_option maxRecDepth 100000 in
/-- An attribute. -/
theorem open_attr (fuel : Nat) (cs : List Value) (x : DataW H × List MemPlace) (hl : cs.length = 4) (h : DataW.trod enc Tryz.prog w 0 (fun _ => true) held fuel 101 cs = some x) :
    ∃ y : At, cs = [.string y.name, .string y.val, .int .i64 y.fr, .int .i64 y.to] ∧ y.val.size ≤ Rows.uptoBulk x.1 := by
  obtain ⟨xs, n, hx, _, hxl, hf⟩ := open_st st101 fl101 h
  match cs, hl with
  | [c0, c1, c2, c3], _ =>
    obtain ⟨y0, h0, _⟩ := get_some (hf 0 9 0 rfl) (by rw [hxl]; decide)
    obtain ⟨y1, h1, m1⟩ := get_some (hf 1 9 1 rfl) (by rw [hxl]; decide)
    obtain ⟨y2, h2, _⟩ := get_some (hf 2 38 2 rfl) (by rw [hxl]; decide)
    rw [cl9] at h0 h1
    rw [cl38] at h2
    obtain ⟨a, e0, _⟩ := DataW.trod_string Tryz.underlying9 h0
    obtain ⟨b, e1, e1', _⟩ := DataW.trod_string Tryz.underlying9 h1
    obtain ⟨k, k', e2⟩ := open_span _ _ _ (by simp) h2
    simp at e0 e1 e2
    refine ⟨⟨a, b, k, k'⟩, by rw [e0, e1, e2.1, e2.2], ?_⟩
    rw [hx]
    simp only [Rows.uptoBulk]
    have := bulk_mem (List.mem_map_of_mem (f := (·.1)) m1)
    rw [e1'] at this
    simp only [Rows.uptoBulk] at this
    rw [Lib.size_eq]
    omega
set_option maxRecDepth 100000 in
/-- Attributes. -/
theorem open_attrs (fuel : Nat) (cs : List Value) (x : DataW H × List MemPlace) (h : DataW.trod enc Tryz.prog w 0 (fun _ => true) held fuel 52 cs = some x) :
    ∃ v l, cs = [v] ∧ AtsAt w v l ∧ l.length ≤ Rows.uptoBulk x.1 ∧ (Rows.uptoBulk x.1 ≤ lim → ∀ a ∈ l, a.val.size ≤ lim) := by
  obtain ⟨v, l, h1, h2, _, h3, h4⟩ := open_sl (sz := 4) Tryz.underlying52 cl101 (by decide) eA (fun _ => 0) (fun a => a.val.size ≤ lim) (fun fuel cs x hl h => by
    obtain ⟨y, hy, hb⟩ := open_attr fuel cs x hl h
    subst hy
    exact ⟨y, fun c hc => ⟨hc 0 (by decide), hc 1 (by decide), hc 2 (by decide), hc 3 (by decide)⟩, Nat.zero_le _, fun hq => Nat.le_trans hb hq⟩) h
  exact ⟨v, l, h1, h2, h3, h4⟩
set_option maxRecDepth 100000 in
/-- An element. -/
theorem open_node (fuel : Nat) (cs : List Value) (x : DataW H × List MemPlace) (hl : cs.length = 6) (h : DataW.trod enc Tryz.prog w 0 (fun _ => true) held fuel 54 cs = some x) :
    ∃ (y : Nd) (v : Value), cs = [.string y.name, .int .i64 y.parent, v, .int .i64 y.ne, .int .i64 y.fr, .int .i64 y.to] ∧ AtsAt w v y.attrs ∧ (Rows.uptoBulk x.1 ≤ lim → SmN y) := by
  obtain ⟨xs, n, hx, _, hxl, hf⟩ := open_st st54 fl54 h
  match cs, hl with
  | [c0, c1, c2, c3, c4, c5], _ =>
    obtain ⟨y0, h0, _⟩ := get_some (hf 0 9 0 rfl) (by rw [hxl]; decide)
    obtain ⟨y1, h1, _⟩ := get_some (hf 1 3 1 rfl) (by rw [hxl]; decide)
    obtain ⟨y2, h2, m2⟩ := get_some (hf 2 52 2 rfl) (by rw [hxl]; decide)
    obtain ⟨y3, h3, _⟩ := get_some (hf 3 3 3 rfl) (by rw [hxl]; decide)
    obtain ⟨y4, h4, _⟩ := get_some (hf 4 38 4 rfl) (by rw [hxl]; decide)
    rw [cl9] at h0
    rw [cl3] at h1 h3
    rw [cl52] at h2
    rw [cl38] at h4
    obtain ⟨a, e0, _⟩ := DataW.trod_string Tryz.underlying9 h0
    obtain ⟨k, e1, _⟩ := DataW.trod_int Tryz.underlying3 h1
    obtain ⟨v, l, e2, g1, g2, g3⟩ := open_attrs _ _ _ h2
    obtain ⟨k3, e3, _⟩ := DataW.trod_int Tryz.underlying3 h3
    obtain ⟨k4, k5, e4⟩ := open_span _ _ _ (by simp) h4
    simp at e0 e1 e2 e3 e4
    refine ⟨⟨a, k, l, k3, k4, k5⟩, v, by rw [e0, e1, e2, e3, e4.1, e4.2], g1, fun hq => ?_⟩
    rw [hx] at hq
    simp only [Rows.uptoBulk] at hq
    have := bulk_mem (List.mem_map_of_mem (f := (·.1)) m2)
    exact ⟨by show l.length ≤ lim; omega, g3 (by omega)⟩
set_option maxRecDepth 100000 in
/-- Elements. -/
theorem open_nodes (fuel : Nat) (cs : List Value) (x : DataW H × List MemPlace) (h : DataW.trod enc Tryz.prog w 0 (fun _ => true) held fuel 22 cs = some x) :
    ∃ v l, cs = [v] ∧ NdsAt w v l ∧ (Rows.uptoBulk x.1 ≤ lim → SmNs l) := by
  obtain ⟨v, l, h1, h2, _, h3, h4⟩ := open_sl (sz := 6) Tryz.underlying22 cl54 (by decide) (eN w) (fun _ => 0) SmN (fun fuel cs x hl h => by
    obtain ⟨y, v, hy, hv, hb⟩ := open_node fuel cs x hl h
    subst hy
    exact ⟨y, fun c hc => ⟨hc 0 (by decide), hc 1 (by decide), ⟨v, hc 2 (by decide), hv⟩, hc 3 (by decide), hc 4 (by decide), hc 5 (by decide)⟩, Nat.zero_le _, hb⟩) h
  exact ⟨v, l, h1, h2, fun hq => ⟨Nat.le_trans h3 hq, h4 hq⟩⟩
end
end Go.Proofs.YtfobkiglmphgjabGreatDoor

namespace Go.Proofs.YtfobkiglmphgjabGreatDoor
open Go.RowKit

theorem cl58 : Tryz.prog.cellsOf 58 = 1 := by kernel_rfl
theorem cl35 : Tryz.prog.cellsOf 35 = 1 := by kernel_rfl
theorem cl36 : Tryz.prog.cellsOf 36 = 1 := by kernel_rfl
theorem cl40 : Tryz.prog.cellsOf 40 = 5 := by kernel_rfl
theorem st40 : Tryz.prog.underlying 40 = some (.struct (Tryz.prog.fieldsOf 40)) := by kernel_rfl
theorem fl40 : (Tryz.prog.fieldsOf 40).toList.map (fun f => (f.type, f.offset)) = [(9, 0), (35, 1), (36, 2), (38, 3)] := by kernel_rfl

section
variable {H : Type} {enc : TypeId × Value → H} {w : World} {held : Bool}

set_option maxRecDepth 100000 in
/-- Selectors. -/
theorem open_sels (fuel : Nat) (cs : List Value) (x : DataW H × List MemPlace) (h : DataW.trod enc Tryz.prog w 0 (fun _ => true) held fuel 35 cs = some x) :
    ∃ v ss, cs = [v] ∧ SsAt w v ss ∧ (Rows.uptoBulk x.1 ≤ lim → ss.length ≤ lim ∧ ∀ s ∈ ss, SmS s) := by
  obtain ⟨v, l, h1, h2, _, h3, h4⟩ := open_sl (sz := 1) Tryz.underlying35 cl58 (by decide) (eS w) (fun _ => 0) SmS (fun fuel cs x hl h => by
    obtain ⟨v, s, hv, hp, hb1, hb2⟩ := open_parts fuel cs x h
    subst hv
    exact ⟨s, fun c hc => ⟨v, hc 0 (by decide), hp⟩, Nat.zero_le _, fun hq => ⟨Nat.le_trans hb2 hq, Nat.le_trans hb1 hq⟩⟩) h
  exact ⟨v, l, h1, h2, fun hq => ⟨Nat.le_trans h3 hq, h4 hq⟩⟩
set_option maxRecDepth 100000 in
/-- A rule. -/
theorem open_rule (fuel : Nat) (cs : List Value) (x : DataW H × List MemPlace) (hl : cs.length = 5) (h : DataW.trod enc Tryz.prog w 0 (fun _ => true) held fuel 40 cs = some x) :
    ∃ (md : ByteArray) (ss : List (List Pt)) (ssv : Value) (da : Option Addr) (dn dc : Nat) (rf rt : Int), cs = [.string md, ssv, .slice da dn dc, .int .i64 rf, .int .i64 rt] ∧ SsAt w ssv ss ∧ (Rows.uptoBulk x.1 ≤ lim → ss.length ≤ lim ∧ ∀ s ∈ ss, SmS s) := by
  obtain ⟨xs, n, hx, _, hxl, hf⟩ := open_st st40 fl40 h
  match cs, hl with
  | [c0, c1, c2, c3, c4], _ =>
    obtain ⟨y0, h0, _⟩ := get_some (hf 0 9 0 rfl) (by rw [hxl]; decide)
    obtain ⟨y1, h1, m1⟩ := get_some (hf 1 35 1 rfl) (by rw [hxl]; decide)
    obtain ⟨y2, h2, _⟩ := get_some (hf 2 36 2 rfl) (by rw [hxl]; decide)
    obtain ⟨y3, h3, _⟩ := get_some (hf 3 38 3 rfl) (by rw [hxl]; decide)
    rw [cl9] at h0
    rw [cl35] at h1
    rw [cl36] at h2
    rw [cl38] at h3
    obtain ⟨md, e0, _⟩ := DataW.trod_string Tryz.underlying9 h0
    obtain ⟨v, ss, e1, g1, g2⟩ := open_sels _ _ _ h1
    obtain ⟨k4, k5, e3⟩ := open_span _ _ _ (by simp) h3
    obtain ⟨da, dn, dc, e2⟩ : ∃ da dn dc, c2 = .slice da dn dc := by
      rcases DataW.trod_slice Tryz.underlying36 h2 with ⟨e, _⟩ | ⟨a, len, cap, _, _, _, _, e, _⟩
      · simp at e; exact ⟨_, _, _, e⟩
      · simp at e; exact ⟨_, _, _, e⟩
    simp at e0 e1 e3
    refine ⟨md, ss, v, da, dn, dc, k4, k5, by rw [e0, e1, e2, e3.1, e3.2], g1, fun hq => g2 ?_⟩
    rw [hx] at hq
    simp only [Rows.uptoBulk] at hq
    have := bulk_mem (List.mem_map_of_mem (f := (·.1)) m1)
    omega
end
end Go.Proofs.YtfobkiglmphgjabGreatDoor

namespace Go.Proofs.YtfobkiglmphgjabGreatDoor
open Go.RowKit

section
variable {H : Type} {enc : TypeId × Value → H} {w : World} {held : Bool}

theorem cl4 : Tryz.prog.cellsOf 4 = 1 := by kernel_rfl
theorem cl49 : Tryz.prog.cellsOf 49 = 3 := by kernel_rfl
theorem cl115 : Tryz.prog.cellsOf 115 = 4 := by kernel_rfl
theorem cl159 : Tryz.prog.cellsOf 159 = 4 := by kernel_rfl
theorem fl49 : (Tryz.prog.fieldsOf 49).toList.map (fun f => (f.type, f.offset)) = [(9, 0), (9, 1), (4, 2)] := by kernel_rfl
set_option maxRecDepth 100000 in
set_option maxRecDepth 100000 in
/-- A declaration. -/
theorem open_decl (fuel : Nat) (cs : List Value) (x : DataW H × List MemPlace) (hl : cs.length = 3) (h : DataW.trod enc Tryz.prog w 0 (fun _ => true) held fuel 49 cs = some x) :
    ∃ y : Dc, cs = [.string y.name, .string y.val, .bool y.strong] ∧ 4 ≤ Rows.uptoBulk x.1 ∧ y.name.size ≤ Rows.uptoBulk x.1 ∧ y.val.size ≤ Rows.uptoBulk x.1 := by
  obtain ⟨xs, n, hx, _, hxl, hf⟩ := open_st us49 fl49 h
  match cs, hl with
  | [c0, c1, c2], _ =>
    obtain ⟨y0, h0, m0⟩ := get_some (hf 0 9 0 rfl) (by rw [hxl]; decide)
    obtain ⟨y1, h1, m1⟩ := get_some (hf 1 9 1 rfl) (by rw [hxl]; decide)
    obtain ⟨y2, h2, _⟩ := get_some (hf 2 4 2 rfl) (by rw [hxl]; decide)
    rw [cl9] at h0 h1
    rw [cl4] at h2
    obtain ⟨a, e0, e0', _⟩ := DataW.trod_string Tryz.underlying9 h0
    obtain ⟨b, e1, e1', _⟩ := DataW.trod_string Tryz.underlying9 h1
    obtain ⟨c, e2, _⟩ := DataW.trod_bool Tryz.underlying4 h2
    simp at e0 e1 e2
    refine ⟨⟨a, b, c⟩, by rw [e0, e1, e2], ?_⟩
    rw [hx]
    simp only [Rows.uptoBulk]
    have hb := bulk_len (xs.map (·.1))
    rw [List.length_map, hxl] at hb
    simp at hb
    have q0 := bulk_mem (List.mem_map_of_mem (f := (·.1)) m0)
    have q1 := bulk_mem (List.mem_map_of_mem (f := (·.1)) m1)
    rw [e0'] at q0
    rw [e1'] at q1
    simp only [Rows.uptoBulk] at q0 q1
    rw [Lib.size_eq a, Lib.size_eq b]
    omega
theorem four_sum : ∀ l : List Dc, (l.map fun _ => 4).sum = 4 * l.length
  | [] => rfl
  | a :: l => by rw [List.map_cons, List.sum_cons, four_sum l, List.length_cons]; omega
set_option maxRecDepth 100000 in
/-- Declarations. -/
theorem open_decls (fuel : Nat) (cs : List Value) (x : DataW H × List MemPlace) (h : DataW.trod enc Tryz.prog w 0 (fun _ => true) held fuel 36 cs = some x) :
    ∃ v l, cs = [v] ∧ DsAt w v l ∧ 4 * l.length ≤ Rows.uptoBulk x.1 ∧ (Rows.uptoBulk x.1 ≤ lim → ∀ y ∈ l, SmD y) := by
  obtain ⟨v, l, h1, h2, h3, _, h4⟩ := open_sl (sz := 3) Tryz.underlying36 cl49 (by decide) eD (fun _ => 4) SmD (fun fuel cs x hl h => by
    obtain ⟨y, hy, b0, b1, b2⟩ := open_decl fuel cs x hl h
    subst hy
    exact ⟨y, fun c hc => ⟨hc 0 (by decide), hc 1 (by decide), hc 2 (by decide)⟩, b0, fun hq => ⟨Nat.le_trans b1 hq, Nat.le_trans b2 hq⟩⟩) h
  refine ⟨v, l, h1, h2, ?_, h4⟩
  rw [← four_sum]
  exact h3
set_option maxRecDepth 100000 in
/-- Texts. -/
theorem open_texts (fuel : Nat) (cs : List Value) (x : DataW H × List MemPlace) (h : DataW.trod enc Tryz.prog w 0 (fun _ => true) held fuel 24 cs = some x) :
    ∃ v l, cs = [v] ∧ BsAt w v l ∧ (l.map (fun y : ByteArray => y.size + 1)).sum ≤ Rows.uptoBulk x.1 ∧ l.length ≤ Rows.uptoBulk x.1 := by
  obtain ⟨v, l, h1, h2, h3, h4, _⟩ := open_sl (sz := 1) Tryz.underlying24 cl9 (by decide) eB (fun y : ByteArray => y.size + 1) (fun _ => True) (fun fuel cs x hl h => by
    obtain ⟨y, hy, hy', _⟩ := DataW.trod_string Tryz.underlying9 h
    refine ⟨y, fun c hc => ?_, ?_, fun _ => trivial⟩
    · show c 0 = _
      rw [hc 0 (by decide), hy]
      rfl
    · rw [hy']
      simp only [Rows.uptoBulk]
      rw [Lib.size_eq y]
      omega) h
  exact ⟨v, l, h1, h2, h3, h4⟩
end

/-! ### the two tables -/
theorem gS : Tryz.prog.globalNamed "inkwell/props.sides" = some 0 := by kernel_rfl
theorem gI : Tryz.prog.globalNamed "inkwell/props.instead" = some 1 := by kernel_rfl
theorem tS : (Tryz.prog.globals[0]?).map (·.type) = some 115 := by kernel_rfl
theorem tI : (Tryz.prog.globals[1]?).map (·.type) = some 159 := by kernel_rfl
set_option maxRecDepth 100000 in
set_option maxRecDepth 100000 in
theorem arr4 {W : World} {fuel : Nat} {cs : List Value} {p : List MemPlace} {a b c d : List UInt8}
    (h : DataW.trod (fun _ => ()) Tryz.prog W 0 (fun _ => true) false fuel 115 cs = some (.agg [.lit (.string a), .lit (.string b), .lit (.string c), .lit (.string d)], p)) :
    cs = [.string ⟨⟨a⟩⟩, .string ⟨⟨b⟩⟩, .string ⟨⟨c⟩⟩, .string ⟨⟨d⟩⟩] := by
  obtain ⟨xs, m, rfl, hx, hl, hn, hel⟩ := DataW.trod_array Tryz.underlying115 h
  rw [cl115] at hl
  rw [cl9] at hel
  simp only [Prod.mk.injEq, DataW.agg.injEq] at hx
  match cs, hl, xs, hn, hx with
  | [c0, c1, c2, c3], _, [x0, x1, x2, x3], _, hx =>
    simp only [List.map_cons, List.map_nil, List.cons.injEq, and_true] at hx
    obtain ⟨⟨q0, q1, q2, q3⟩, _⟩ := hx
    have one : ∀ {v : Value} {x : DataW Unit × List MemPlace} {z : List UInt8}, DataW.trod (fun _ => ()) Tryz.prog W 0 (fun _ => true) false m 9 [v] = some x → (DataW.lit (.string z) : DataW Unit) = x.1 → v = .string ⟨⟨z⟩⟩ := fun {v x z} h e => by
      obtain ⟨y, hy, hy', _⟩ := DataW.trod_string Tryz.underlying9 h
      rw [hy'] at e
      simp only [DataW.lit.injEq, Lit.string.injEq] at e
      injection hy with hy _
      rw [hy, e]
    rw [one (hel 0 (by decide)) q0, one (hel 1 (by decide)) q1, one (hel 2 (by decide)) q2, one (hel 3 (by decide)) q3]
set_option maxRecDepth 100000 in
set_option maxRecDepth 100000 in
theorem arr4i {W : World} {fuel : Nat} {cs : List Value} {p : List MemPlace} {a b c d : Int}
    (h : DataW.trod (fun _ => ()) Tryz.prog W 0 (fun _ => true) false fuel 159 cs = some (.agg [.lit (.int .i64 a), .lit (.int .i64 b), .lit (.int .i64 c), .lit (.int .i64 d)], p)) :
    cs = [.int .i64 a, .int .i64 b, .int .i64 c, .int .i64 d] := by
  obtain ⟨xs, m, rfl, hx, hl, hn, hel⟩ := DataW.trod_array Tryz.underlying159 h
  rw [cl159] at hl
  rw [cl3] at hel
  simp only [Prod.mk.injEq, DataW.agg.injEq] at hx
  match cs, hl, xs, hn, hx with
  | [c0, c1, c2, c3], _, [x0, x1, x2, x3], _, hx =>
    simp only [List.map_cons, List.map_nil, List.cons.injEq, and_true] at hx
    obtain ⟨⟨q0, q1, q2, q3⟩, _⟩ := hx
    have one : ∀ {v : Value} {x : DataW Unit × List MemPlace} {z : Int}, DataW.trod (fun _ => ()) Tryz.prog W 0 (fun _ => true) false m 3 [v] = some x → (DataW.lit (.int .i64 z) : DataW Unit) = x.1 → v = .int .i64 z := fun {v x z} h e => by
      obtain ⟨y, hy, hy', _⟩ := DataW.trod_int Tryz.underlying3 h
      rw [hy'] at e
      simp only [DataW.lit.injEq, Lit.int.injEq, true_and] at e
      injection hy with hy _
      rw [hy, e]
    rw [one (hel 0 (by decide)) q0, one (hel 1 (by decide)) q1, one (hel 2 (by decide)) q2, one (hel 3 (by decide)) q3]
set_option maxRecDepth 100000 in
theorem tab_of {W : World} (h : laidMetH Tryz.prog [("unicode/utf8.acceptRanges", Rows.laid_unicode_utf8_acceptRanges), ("inkwell/props.sides", Rows.laid_inkwell_props_sides), ("inkwell/props.instead", Rows.laid_inkwell_props_instead), ("unicode/utf8.first", Rows.laid_unicode_utf8_first)] W)
    (hm : ∃ m : Int, W.cell? ⟨2, 0, none⟩ = some (.int .i64 m)) : Tab W := by
  rw [MakeChecks.laidMetH_plain _ _ _ (by kernel_rfl)] at h
  obtain ⟨ps, ⟨_, _, _, _, _, _, _, _, _, _, ⟨g0, t0, cs0, f0, p0, q0, hg0, ht0, hv0, hd0, ⟨g1, t1, cs1, f1, p1, q1, hg1, ht1, hv1, hd1, _, _⟩, _⟩, _⟩, _, _⟩ := h
  obtain rfl := Option.some.inj (gS.symm.trans hg0)
  obtain rfl := Option.some.inj (gI.symm.trans hg1)
  obtain rfl := Option.some.inj (tS.symm.trans ht0)
  obtain rfl := Option.some.inj (tI.symm.trans ht1)
  have e0 := arr4 hd0
  have e1 := arr4i hd1
  have c0 : ∀ i, W.cell? ⟨0, i, none⟩ = cs0.toList[i]? := fun i => by rw [World.var?_cell hg0 hv0 i]; simp
  have c1 : ∀ i, W.cell? ⟨1, i, none⟩ = cs1.toList[i]? := fun i => by rw [World.var?_cell hg1 hv1 i]; simp
  rw [e0] at c0
  rw [e1] at c1
  exact ⟨c0 0, c0 1, c0 2, c0 3, c1 0, c1 1, c1 2, c1 3, hm⟩
end Go.Proofs.YtfobkiglmphgjabGreatDoor

namespace Go.Proofs.YtfobkiglmphgjabGreatDoor
open Go.RowKit

section
variable {H : Type} {enc : TypeId × Value → H} {w : World} {held : Bool}

set_option maxRecDepth 100000 in
/-- Selectors, and how many. -/
theorem open_selsN (fuel : Nat) (cs : List Value) (x : DataW H × List MemPlace) (h : DataW.trod enc Tryz.prog w 0 (fun _ => true) held fuel 35 cs = some x) :
    ∃ v ss, cs = [v] ∧ SsAt w v ss ∧ ss.length ≤ Rows.uptoBulk x.1 ∧ (Rows.uptoBulk x.1 ≤ lim → ∀ s ∈ ss, SmS s) := by
  obtain ⟨v, l, h1, h2, _, h3, h4⟩ := open_sl (sz := 1) Tryz.underlying35 cl58 (by decide) (eS w) (fun _ => 0) SmS (fun fuel cs x hl h => by
    obtain ⟨v, s, hv, hp, hb1, hb2⟩ := open_parts fuel cs x h
    subst hv
    exact ⟨s, fun c hc => ⟨v, hc 0 (by decide), hp⟩, Nat.zero_le _, fun hq => ⟨Nat.le_trans hb2 hq, Nat.le_trans hb1 hq⟩⟩) h
  exact ⟨v, l, h1, h2, h3, h4⟩
set_option maxRecDepth 100000 in
/-- A rule. -/
theorem open_ru (fuel : Nat) (cs : List Value) (x : DataW H × List MemPlace) (hl : cs.length = 5) (h : DataW.trod enc Tryz.prog w 0 (fun _ => true) held fuel 40 cs = some x) :
    ∃ (y : Ru) (sv dv : Value), cs = [.string y.media, sv, dv, .int .i64 y.rf, .int .i64 y.rt] ∧ SsAt w sv y.sels ∧ DsAt w dv y.decls ∧ y.sels.length + 4 * y.decls.length ≤ Rows.uptoBulk x.1 ∧ (Rows.uptoBulk x.1 ≤ lim → SmR y) := by
  obtain ⟨xs, n, hx, _, hxl, hf⟩ := open_st st40 fl40 h
  match cs, hl, xs, hxl with
  | [c0, c1, c2, c3, c4], _, [z0, z1, z2, z3], _ =>
    have h0 := hf 0 9 0 rfl
    have h1 := hf 1 35 1 rfl
    have h2 := hf 2 36 2 rfl
    have h3 := hf 3 38 3 rfl
    rw [cl9] at h0
    rw [cl35] at h1
    rw [cl36] at h2
    rw [cl38] at h3
    simp only [List.getElem?_cons_zero, List.getElem?_cons_succ] at h0 h1 h2 h3
    obtain ⟨md, e0, _⟩ := DataW.trod_string Tryz.underlying9 h0
    obtain ⟨v, ss, e1, g1, g2, g3⟩ := open_selsN _ _ _ h1
    obtain ⟨u, ds, e2, q1, q2, q3⟩ := open_decls _ _ _ h2
    obtain ⟨k4, k5, e3⟩ := open_span _ _ _ (by simp) h3
    simp at e0 e1 e2 e3
    refine ⟨⟨md, ss, ds, k4, k5⟩, v, u, by rw [e0, e1, e2, e3.1, e3.2], g1, q1, ?_, fun hq => ?_⟩
    · rw [hx]
      simp only [List.map_cons, List.map_nil, Rows.uptoBulk, Rows.uptoBulkAll]
      show ss.length + 4 * ds.length ≤ _
      omega
    · rw [hx] at hq
      simp only [List.map_cons, List.map_nil, Rows.uptoBulk, Rows.uptoBulkAll] at hq
      exact ⟨⟨by show ss.length ≤ lim; omega, g3 (by omega)⟩, ⟨by show ds.length ≤ lim; omega, q3 (by omega)⟩⟩
/-- What one walk more asks of rules: few selectors in all, no rule with too many declarations. -/
structure FewR (l : List Ru) : Prop where
  len : l.length ≤ lim
  decls : (l.flatMap (·.decls)).length ≤ lim
  sels : (l.flatMap (·.sels)).length ≤ lim
  each : ∀ r ∈ l, 4 * r.decls.length ≤ lim
theorem sum_two (l : List Ru) : (l.map fun r => r.sels.length + 4 * r.decls.length).sum = (l.map fun r => r.sels.length).sum + 4 * (l.map fun r => r.decls.length).sum := by
  induction l with
  | nil => rfl
  | cons r l ih => simp only [List.map_cons, List.sum_cons]; omega
theorem FewR.sm {l : List Ru} (h : FewR l) (he : ∀ r ∈ l, SmR r) : SmRs l := ⟨by have := h.len; unfold lim at this; omega, by have := h.decls; unfold lim at this; omega, he⟩
set_option maxRecDepth 100000 in
/-- Rules. -/
theorem open_rules (fuel : Nat) (cs : List Value) (x : DataW H × List MemPlace) (h : DataW.trod enc Tryz.prog w 0 (fun _ => true) held fuel 23 cs = some x) :
    ∃ v l, cs = [v] ∧ RusAt w v l ∧ (Rows.uptoBulk x.1 ≤ lim → FewR l ∧ ∀ r ∈ l, SmR r) := by
  obtain ⟨v, l, h1, h2, h3, h4, h5⟩ := open_sl (sz := 5) Tryz.underlying23 cl40 (by decide) (eR w) (fun r => r.sels.length + 4 * r.decls.length) (fun r => SmR r ∧ 4 * r.decls.length ≤ lim) (fun fuel cs x hl h => by
    obtain ⟨y, sv, dv, hy, hs, hd, hb, hq⟩ := open_ru fuel cs x hl h
    subst hy
    exact ⟨y, fun c hc => ⟨hc 0 (by decide), ⟨sv, hc 1 (by decide), hs⟩, ⟨dv, hc 2 (by decide), hd⟩, hc 3 (by decide), hc 4 (by decide)⟩, hb, fun hq' => ⟨hq hq', by omega⟩⟩) h
  rw [sum_two] at h3
  refine ⟨v, l, h1, h2, fun hq => ⟨⟨Nat.le_trans h4 hq, ?_, ?_, fun r hr => (h5 hq r hr).2⟩, fun r hr => (h5 hq r hr).1⟩⟩
  · rw [List.length_flatMap]; omega
  · rw [List.length_flatMap]; omega
end
end Go.Proofs.YtfobkiglmphgjabGreatDoor
