/-
  What was handed in, opened: declarations and texts that are read lie in memory as the walks ask, and are no more than the reading's bulk; the two listed tables of package props hold what their texts say. No function of the program is named here; no condition.
-/
import Derived.Test.YtnigckmaklbiaabDoorP1
import Derived.Test.YtnigckmaklbiaabDoorRows
import Derived.ProofKit
import Derived.Deep.Slices
import Derived.OpenShut
import Derived.FnData
import Derived.MakeChecks
namespace Go.Proofs.YtnigckmaklbiaabDoor
open Go.RowKit

theorem bulk_one {H : Type} (d : DataW H) : 1 ≤ Rows.uptoBulk d := by
  cases d with
  | lit l => cases l <;> simp [Rows.uptoBulk]
  | nil => simp [Rows.uptoBulk]
  | ptr d => simp [Rows.uptoBulk]
  | slice elems spare => simp [Rows.uptoBulk]
  | agg parts => simp [Rows.uptoBulk]
  | iface t d => simp [Rows.uptoBulk]
  | map entries => simp [Rows.uptoBulk]
  | held h => simp [Rows.uptoBulk]
theorem bulk_mem {H : Type} {d : DataW H} {l : List (DataW H)} (h : d ∈ l) : Rows.uptoBulk d ≤ Rows.uptoBulkAll l := by
  induction l with
  | nil => cases h
  | cons x r ih =>
    simp only [Rows.uptoBulkAll]
    cases List.mem_cons.1 h with
    | inl e => subst e; omega
    | inr e => have := ih e; omega
theorem bulk_len {H : Type} (l : List (DataW H)) : l.length ≤ Rows.uptoBulkAll l := by
  induction l with
  | nil => simp [Rows.uptoBulkAll]
  | cons x r ih => have := bulk_one x; simp only [Rows.uptoBulkAll, List.length_cons]; omega
theorem bulk_map {H α : Type} (μ : α → Nat) (D : Nat → DataW H) : ∀ (l : List α) (k : Nat), (∀ i (h : i < l.length), μ l[i] ≤ Rows.uptoBulk (D (k + i))) → (l.map μ).sum ≤ Rows.uptoBulkAll ((List.range l.length).map fun i => D (k + i))
  | [], _, _ => by simp
  | a :: l, k, h => by
    have h0 : μ a ≤ Rows.uptoBulk (D (k + 0)) := h 0 (by simp)
    have ih := bulk_map μ D l (k + 1) (fun i hi => by
      have := h (i + 1) (by simpa using hi)
      simpa [Nat.add_assoc, Nat.add_comm, Nat.add_left_comm] using this)
    rw [List.length_cons, List.range_succ_eq_map, List.map_cons, List.map_cons, List.map_map, List.sum_cons]
    simp only [Rows.uptoBulkAll]
    have e : (List.range l.length).map ((fun i => D (k + i)) ∘ Nat.succ) = (List.range l.length).map fun i => D (k + 1 + i) := by
      apply List.map_congr_left
      intro i _
      show D (k + (i + 1)) = D (k + 1 + i)
      congr 1; omega
    rw [e]
    omega

section
variable {H : Type} {enc : TypeId × Value → H} {w : World} {held : Bool}

/-- The cells by number, from the reader's row of cells. -/
theorem cells_at {b off k n : Nat} {cs : List Value} (h : w.cells? 0 ((⟨b, off, none⟩ : Addr).add k) n = some cs) : cs.length = n ∧ ∀ j, j < n → w.cell? ⟨b, off + k + j, none⟩ = cs[j]? := by
  obtain ⟨_, hl, hc⟩ := World.cells?_some h
  refine ⟨hl, fun j hj => ?_⟩
  rw [← hc j hj, Deep.add_add, Go.WideShapes.add_plain, Nat.add_assoc]
theorem spot_none {a : Addr} {n : Nat} {cs : List Value} (h : w.cells? 0 (a.add 0) n = some cs) (hn : 0 < n) : ∃ b off, a = ⟨b, off, none⟩ := by
  obtain ⟨_, hl, hc⟩ := World.cells?_some h
  obtain ⟨b, off, sp⟩ := a
  have := hc 0 hn
  rw [List.getElem?_eq_getElem (by omega)] at this
  have hs := World.cell?_spot this
  simp [Addr.add] at hs
  subst hs
  exact ⟨b, off, rfl⟩

/-- A slice, opened: its elements as the walks ask; no more than its bulk. -/
theorem open_sl {α : Type} {t e : TypeId} {sz : Nat} (ht : Tryd.prog.underlying t = some (.slice e)) (hsz : Tryd.prog.cellsOf e = sz) (h0 : 0 < sz) (E : (Nat → Option Value) → α → Prop) (μ : α → Nat) (Q : α → Prop)
    (hE : ∀ fuel (cs : List Value) x, cs.length = sz → DataW.trod enc Tryd.prog w 0 (fun _ => true) held fuel e cs = some x → ∃ y, (∀ c : Nat → Option Value, (∀ j, j < sz → c j = cs[j]?) → E c y) ∧ μ y ≤ Rows.uptoBulk x.1 ∧ (Rows.uptoBulk x.1 ≤ lim → Q y))
    {fuel : Nat} {cs : List Value} {x : DataW H × List MemPlace} (h : DataW.trod enc Tryd.prog w 0 (fun _ => true) held fuel t cs = some x) :
    ∃ v l, cs = [v] ∧ Sl w sz E v l ∧ (l.map μ).sum ≤ Rows.uptoBulk x.1 ∧ l.length ≤ Rows.uptoBulk x.1 ∧ (Rows.uptoBulk x.1 ≤ lim → ∀ y ∈ l, Q y) := by
  rcases Deep.open_slice ht h with ⟨rfl, rfl⟩ | ⟨a, len, cap, m, n, D, Pl, rfl, _, hlc, _, hm, rfl, hx⟩
  · exact ⟨_, [], rfl, ⟨none, 0, rfl, fun _ => rfl, fun _ hi => absurd hi (Nat.not_lt_zero _)⟩, by simp, by simp, fun _ y hy => by cases hy⟩
  · rw [hsz] at hx
    have hlm : len ≤ m := by rw [hm]; simpa using hlc
    have each : ∀ i, i < len → ∃ cs', w.cells? 0 (a.add (i * sz)) sz = some cs' ∧ ∃ y, (∀ c : Nat → Option Value, (∀ j, j < sz → c j = cs'[j]?) → E c y) ∧ μ y ≤ Rows.uptoBulk (D i) ∧ (Rows.uptoBulk (D i) ≤ lim → Q y) := fun i hi => by
      obtain ⟨cs', h1, h2⟩ := hx i (by omega)
      exact ⟨cs', h1, hE n cs' _ (World.cells?_some h1).2.1 h2⟩
    by_cases hl0 : len = 0
    · subst hl0
      exact ⟨_, [], rfl, ⟨some a, cap, rfl, nofun, fun _ hi => absurd hi (Nat.not_lt_zero _)⟩, by simp, by simp, fun _ y hy => by cases hy⟩
    · obtain ⟨cs0, hc0, y0, _⟩ := each 0 (by omega)
      rw [Nat.zero_mul] at hc0
      obtain ⟨b, off, rfl⟩ := spot_none hc0 h0
      have : Inhabited α := ⟨y0⟩
      have ex : ∃ f : Nat → α, ∀ i, i < len → E (fun j => w.cell? ⟨b, off + i * sz + j, none⟩) (f i) ∧ μ (f i) ≤ Rows.uptoBulk (D i) ∧ (Rows.uptoBulk (D i) ≤ lim → Q (f i)) :=
        Deep.choose_lt (p := fun i y => E (fun j => w.cell? ⟨b, off + i * sz + j, none⟩) y ∧ μ y ≤ Rows.uptoBulk (D i) ∧ (Rows.uptoBulk (D i) ≤ lim → Q y)) fun i hi => by
          obtain ⟨cs', h1, y, h2, h3⟩ := each i hi
          exact ⟨y, h2 _ (cells_at h1).2, h3⟩
      obtain ⟨f, hf⟩ := ex
      have hlen : ((List.range len).map f).length = len := by simp
      have hsum : (((List.range len).map f).map μ).sum ≤ Rows.uptoBulkAll ((List.range len).map D) := by
        have := bulk_map μ D ((List.range len).map f) 0 (fun i hi => by
          have hi' : i < len := by simpa using hi
          simpa using (hf i hi').2.1)
        simpa using this
      have hbl : Rows.uptoBulkAll ((List.range len).map D) ≤ Rows.uptoBulk (.slice ((List.range len).map D) ((List.range (m - len)).map fun j => D (len + j)) : DataW H) := by
        simp only [Rows.uptoBulk]; omega
      refine ⟨_, (List.range len).map f, rfl, ⟨some ⟨b, off, none⟩, cap, by rw [hlen], nofun, fun i hi => ⟨b, off, rfl, ?_⟩⟩, Nat.le_trans hsum hbl, ?_, fun hb y hy => ?_⟩
      · have hi' : i < len := by simpa using hi
        simpa using (hf i hi').1
      · rw [hlen]
        have := bulk_len ((List.range len).map D)
        rw [List.length_map, List.length_range] at this
        exact Nat.le_trans this hbl
      · obtain ⟨i, hi, rfl⟩ := List.mem_map.1 hy
        have hi' : i < len := by simpa using hi
        refine (hf i hi').2.2 (Nat.le_trans ?_ (Nat.le_trans hbl hb))
        exact bulk_mem (List.mem_map.2 ⟨i, hi, rfl⟩)

/-- A struct, opened: its fields by number. -/
theorem open_st {t : TypeId} {L : List (TypeId × Nat)} (ht : Tryd.prog.underlying t = some (.struct (Tryd.prog.fieldsOf t))) (hf : (Tryd.prog.fieldsOf t).toList.map (fun f => (f.type, f.offset)) = L)
    {fuel : Nat} {cs : List Value} {x : DataW H × List MemPlace} (h : DataW.trod enc Tryd.prog w 0 (fun _ => true) held fuel t cs = some x) :
    ∃ (xs : List (DataW H × List MemPlace)) (n : Nat), x.1 = .agg (xs.map (·.1)) ∧ cs.length = Tryd.prog.cellsOf t ∧ xs.length = L.length ∧ ∀ (i : Nat) (ty : TypeId) (off : Nat), L[i]? = some (ty, off) → DataW.trod enc Tryd.prog w 0 (fun _ => true) held n ty ((cs.drop off).take (Tryd.prog.cellsOf ty)) = xs[i]? := by
  obtain ⟨xs, n, _, rfl, hl, hlen, hx⟩ := DataW.trod_struct ht h
  refine ⟨xs, n, rfl, hl, by rw [hlen, ← hf]; simp, fun i ty off hi => ?_⟩
  rw [← hf, List.getElem?_map] at hi
  obtain ⟨f, h1, h2⟩ := Option.map_eq_some_iff.1 hi
  have := hx i f (by rw [← Array.getElem?_toList]; exact h1)
  simp at h2
  rw [← h2.1, ← h2.2]
  exact this

theorem cl3 : Tryd.prog.cellsOf 3 = 1 := by kernel_rfl
theorem cl4 : Tryd.prog.cellsOf 4 = 1 := by kernel_rfl
theorem cl9 : Tryd.prog.cellsOf 9 = 1 := by kernel_rfl
theorem cl52 : Tryd.prog.cellsOf 52 = 3 := by kernel_rfl
theorem cl84 : Tryd.prog.cellsOf 84 = 4 := by kernel_rfl
theorem cl93 : Tryd.prog.cellsOf 93 = 4 := by kernel_rfl
theorem fl52 : (Tryd.prog.fieldsOf 52).toList.map (fun f => (f.type, f.offset)) = [(9, 0), (9, 1), (4, 2)] := by kernel_rfl
theorem get_some {α : Type} {l : List α} {i : Nat} {o : Option α} (h : o = l[i]?) (hi : i < l.length) : ∃ y, o = some y ∧ y ∈ l := ⟨l[i], by rw [h, List.getElem?_eq_getElem hi], List.getElem_mem hi⟩

set_option maxRecDepth 100000 in
/-- A declaration. -/
theorem open_decl (fuel : Nat) (cs : List Value) (x : DataW H × List MemPlace) (hl : cs.length = 3) (h : DataW.trod enc Tryd.prog w 0 (fun _ => true) held fuel 52 cs = some x) :
    ∃ y : Dc, cs = [.string y.name, .string y.val, .bool y.strong] ∧ 4 ≤ Rows.uptoBulk x.1 ∧ y.name.size ≤ Rows.uptoBulk x.1 ∧ y.val.size ≤ Rows.uptoBulk x.1 := by
  obtain ⟨xs, n, hx, _, hxl, hf⟩ := open_st us52 fl52 h
  match cs, hl with
  | [c0, c1, c2], _ =>
    obtain ⟨y0, h0, m0⟩ := get_some (hf 0 9 0 rfl) (by rw [hxl]; decide)
    obtain ⟨y1, h1, m1⟩ := get_some (hf 1 9 1 rfl) (by rw [hxl]; decide)
    obtain ⟨y2, h2, _⟩ := get_some (hf 2 4 2 rfl) (by rw [hxl]; decide)
    rw [cl9] at h0 h1
    rw [cl4] at h2
    obtain ⟨a, e0, e0', _⟩ := DataW.trod_string Tryd.underlying9 h0
    obtain ⟨b, e1, e1', _⟩ := DataW.trod_string Tryd.underlying9 h1
    obtain ⟨c, e2, _⟩ := DataW.trod_bool Tryd.underlying4 h2
    simp at e0 e1 e2
    refine ⟨⟨a, b, c⟩, by rw [e0, e1, e2], ?_⟩
    rw [hx]
    simp only [Rows.uptoBulk]
    have hb := bulk_len (xs.map (·.1))
    rw [List.length_map, hxl] at hb
    simp at hb
    have q0 := bulk_mem (List.mem_map_of_mem (f := (·.1)) m0)
    have q1 := bulk_mem (List.mem_map_of_mem (f := (·.1)) m1)
    rw [e0'] at q0
    rw [e1'] at q1
    simp only [Rows.uptoBulk] at q0 q1
    rw [Lib.size_eq a, Lib.size_eq b]
    omega
theorem four_sum : ∀ l : List Dc, (l.map fun _ => 4).sum = 4 * l.length
  | [] => rfl
  | a :: l => by rw [List.map_cons, List.sum_cons, four_sum l, List.length_cons]; omega
/-- Declarations. -/
theorem open_decls (fuel : Nat) (cs : List Value) (x : DataW H × List MemPlace) (h : DataW.trod enc Tryd.prog w 0 (fun _ => true) held fuel 33 cs = some x) :
    ∃ v l, cs = [v] ∧ DsAt w v l ∧ 4 * l.length ≤ Rows.uptoBulk x.1 ∧ (Rows.uptoBulk x.1 ≤ lim → ∀ y ∈ l, SmD y) := by
  obtain ⟨v, l, h1, h2, h3, _, h4⟩ := open_sl (sz := 3) Tryd.underlying33 cl52 (by decide) eD (fun _ => 4) SmD (fun fuel cs x hl h => by
    obtain ⟨y, hy, b0, b1, b2⟩ := open_decl fuel cs x hl h
    subst hy
    exact ⟨y, fun c hc => ⟨hc 0 (by decide), hc 1 (by decide), hc 2 (by decide)⟩, b0, fun hq => ⟨Nat.le_trans b1 hq, Nat.le_trans b2 hq⟩⟩) h
  refine ⟨v, l, h1, h2, ?_, h4⟩
  rw [← four_sum]
  exact h3
/-- Texts. -/
theorem open_texts (fuel : Nat) (cs : List Value) (x : DataW H × List MemPlace) (h : DataW.trod enc Tryd.prog w 0 (fun _ => true) held fuel 56 cs = some x) :
    ∃ v l, cs = [v] ∧ BsAt w v l ∧ (l.map (fun y : ByteArray => y.size + 1)).sum ≤ Rows.uptoBulk x.1 ∧ l.length ≤ Rows.uptoBulk x.1 := by
  obtain ⟨v, l, h1, h2, h3, h4, _⟩ := open_sl (sz := 1) Tryd.underlying56 cl9 (by decide) eB (fun y : ByteArray => y.size + 1) (fun _ => True) (fun fuel cs x hl h => by
    obtain ⟨y, hy, hy', _⟩ := DataW.trod_string Tryd.underlying9 h
    refine ⟨y, fun c hc => ?_, ?_, fun _ => trivial⟩
    · show c 0 = _
      rw [hc 0 (by decide), hy]
      rfl
    · rw [hy']
      simp only [Rows.uptoBulk]
      rw [Lib.size_eq y]
      omega) h
  exact ⟨v, l, h1, h2, h3, h4⟩
end

/-! ### the two tables -/
theorem gS : Tryd.prog.globalNamed "inkwell/props.sides" = some 0 := by kernel_rfl
theorem gI : Tryd.prog.globalNamed "inkwell/props.instead" = some 1 := by kernel_rfl
theorem tS : (Tryd.prog.globals[0]?).map (·.type) = some 84 := by kernel_rfl
theorem tI : (Tryd.prog.globals[1]?).map (·.type) = some 93 := by kernel_rfl
set_option maxRecDepth 100000 in
theorem arr4 {W : World} {fuel : Nat} {cs : List Value} {p : List MemPlace} {a b c d : List UInt8}
    (h : DataW.trod (fun _ => ()) Tryd.prog W 0 (fun _ => true) false fuel 84 cs = some (.agg [.lit (.string a), .lit (.string b), .lit (.string c), .lit (.string d)], p)) :
    cs = [.string ⟨⟨a⟩⟩, .string ⟨⟨b⟩⟩, .string ⟨⟨c⟩⟩, .string ⟨⟨d⟩⟩] := by
  obtain ⟨xs, m, rfl, hx, hl, hn, hel⟩ := DataW.trod_array Tryd.underlying84 h
  rw [cl84] at hl
  rw [cl9] at hel
  simp only [Prod.mk.injEq, DataW.agg.injEq] at hx
  match cs, hl, xs, hn, hx with
  | [c0, c1, c2, c3], _, [x0, x1, x2, x3], _, hx =>
    simp only [List.map_cons, List.map_nil, List.cons.injEq, and_true] at hx
    obtain ⟨⟨q0, q1, q2, q3⟩, _⟩ := hx
    have one : ∀ {v : Value} {x : DataW Unit × List MemPlace} {z : List UInt8}, DataW.trod (fun _ => ()) Tryd.prog W 0 (fun _ => true) false m 9 [v] = some x → (DataW.lit (.string z) : DataW Unit) = x.1 → v = .string ⟨⟨z⟩⟩ := fun {v x z} h e => by
      obtain ⟨y, hy, hy', _⟩ := DataW.trod_string Tryd.underlying9 h
      rw [hy'] at e
      simp only [DataW.lit.injEq, Lit.string.injEq] at e
      injection hy with hy _
      rw [hy, e]
    rw [one (hel 0 (by decide)) q0, one (hel 1 (by decide)) q1, one (hel 2 (by decide)) q2, one (hel 3 (by decide)) q3]
set_option maxRecDepth 100000 in
theorem arr4i {W : World} {fuel : Nat} {cs : List Value} {p : List MemPlace} {a b c d : Int}
    (h : DataW.trod (fun _ => ()) Tryd.prog W 0 (fun _ => true) false fuel 93 cs = some (.agg [.lit (.int .i64 a), .lit (.int .i64 b), .lit (.int .i64 c), .lit (.int .i64 d)], p)) :
    cs = [.int .i64 a, .int .i64 b, .int .i64 c, .int .i64 d] := by
  obtain ⟨xs, m, rfl, hx, hl, hn, hel⟩ := DataW.trod_array Tryd.underlying93 h
  rw [cl93] at hl
  rw [cl3] at hel
  simp only [Prod.mk.injEq, DataW.agg.injEq] at hx
  match cs, hl, xs, hn, hx with
  | [c0, c1, c2, c3], _, [x0, x1, x2, x3], _, hx =>
    simp only [List.map_cons, List.map_nil, List.cons.injEq, and_true] at hx
    obtain ⟨⟨q0, q1, q2, q3⟩, _⟩ := hx
    have one : ∀ {v : Value} {x : DataW Unit × List MemPlace} {z : Int}, DataW.trod (fun _ => ()) Tryd.prog W 0 (fun _ => true) false m 3 [v] = some x → (DataW.lit (.int .i64 z) : DataW Unit) = x.1 → v = .int .i64 z := fun {v x z} h e => by
      obtain ⟨y, hy, hy', _⟩ := DataW.trod_int Tryd.underlying3 h
      rw [hy'] at e
      simp only [DataW.lit.injEq, Lit.int.injEq, true_and] at e
      injection hy with hy _
      rw [hy, e]
    rw [one (hel 0 (by decide)) q0, one (hel 1 (by decide)) q1, one (hel 2 (by decide)) q2, one (hel 3 (by decide)) q3]
theorem tab_of {W : World} (h : laidMetH Tryd.prog [("unicode/utf8.acceptRanges", Rows.laid_unicode_utf8_acceptRanges), ("inkwell/props.sides", Rows.laid_inkwell_props_sides), ("inkwell/props.instead", Rows.laid_inkwell_props_instead), ("unicode/utf8.first", Rows.laid_unicode_utf8_first)] W)
    (hm : ∃ m : Int, W.cell? ⟨2, 0, none⟩ = some (.int .i64 m)) : Tab W := by
  rw [MakeChecks.laidMetH_plain _ _ _ (by kernel_rfl)] at h
  obtain ⟨ps, ⟨_, _, _, _, _, _, _, _, _, _, ⟨g0, t0, cs0, f0, p0, q0, hg0, ht0, hv0, hd0, ⟨g1, t1, cs1, f1, p1, q1, hg1, ht1, hv1, hd1, _, _⟩, _⟩, _⟩, _, _⟩ := h
  obtain rfl := Option.some.inj (gS.symm.trans hg0)
  obtain rfl := Option.some.inj (gI.symm.trans hg1)
  obtain rfl := Option.some.inj (tS.symm.trans ht0)
  obtain rfl := Option.some.inj (tI.symm.trans ht1)
  have e0 := arr4 hd0
  have e1 := arr4i hd1
  have c0 : ∀ i, W.cell? ⟨0, i, none⟩ = cs0.toList[i]? := fun i => by rw [World.var?_cell hg0 hv0 i]; simp
  have c1 : ∀ i, W.cell? ⟨1, i, none⟩ = cs1.toList[i]? := fun i => by rw [World.var?_cell hg1 hv1 i]; simp
  rw [e0] at c0
  rw [e1] at c1
  exact ⟨c0 0, c0 1, c0 2, c0 3, c1 0, c1 1, c1 2, c1 3, hm⟩
end Go.Proofs.YtnigckmaklbiaabDoor
