/- Texts that the statement's proof stands on: Page9, MMem, M1, M2, M3, M4. -/
import Derived.Test.YtblkldfokeeaeacGreatDoorA17
import Derived.Test.YtblkldfokeeaeacGreatDoorA05
import Derived.Test.YtblkldfokeeaeacGreatDoorProg
import Derived.WalkKit
import Derived.WalkSpells
import Derived.BigQuiet
import Derived.Deep.AppendLies
import Derived.Deep.RegionLaw
import Derived.Deep.LoopGhost
import Derived.Deep.CutRange
import Derived.Deep.DeepFit
import Derived.Test.YtblkldfokeeaeacGreatDoorA10
import Derived.Lib.SplitLaws
namespace Go.Proofs.YtblkldfokeeaeacGreatDoor.Sh
open Go.RowKit
theorem NdsAt.lower {w : World} {base base' : Nat} {nv : Value} {L : List Nd} (h : NdsAt w base nv L) (hb : base' ≤ base) : NdsAt w base' nv L := by
  obtain ⟨LV, h1, h2, h3⟩ := h
  refine ⟨LV, h1, ⟨h2.1, ?_⟩, h3⟩
  rcases h2.2 with h | ⟨g, cap, cur, h0, hg, hr⟩
  · exact .inl h
  · exact .inr ⟨g, cap, cur, h0, by omega, hr⟩
set_option maxRecDepth 100000 in
set_option maxHeartbeats 2000000 in
theorem read_any (s : ByteArray) (mx : Int) (w : World) (R : Ending → World → Prop) (hl : s.size ≤ 6000) (hmx : w.cell? ⟨2, 0, none⟩ = some (.int .i64 mx))
    (hok : Hid (∀ L nv w', readAll s.data.toList = .ok L → NdsAt w' w.heap.size nv L → Below w.heap.size w w' → L.length ≤ 120 → R (.returned (.tuple #[nv, .agg #[.int .i64 0, .int .i64 0]])) w'))
    (hbad : Hid (∀ (x : Nat × Nat) w', readAll s.data.toList = .error x → Below w.heap.size w w' → R (.returned (.tuple #[.slice none 0 0, .agg #[.int .i64 x.1, .int .i64 x.2]])) w')) :
    Calls Tryz.prog 49 #[.string s] w R := by
  have hmf : ∀ (fn : Fn) (first cap : Array Value) (w : World), (Instr.makeFunc fn first cap).run Tryz.prog w = .ok (.func fn first cap) w := fun _ _ _ _ => rfl
  have h0 := lt_of_cell hmx
  go_enter_defers Tryz.func49, Tryz.ntmps49
  go_wp2_with (first | (go_at_call 84; refine (new_any _ _).mono ?_; rintro e w1 ⟨rfl, hb1⟩))
  have hbW : Below w.heap.size w w1 := ((((Below.refl _ _).alloc (Nat.le_refl _) _).alloc (by simp) _).trans (hb1.mono (by simp; omega)))
  have L1 := (hb1.block w.heap.size (by simp; omega)).trans (block_two0 w #[.slice none 0 0] 28)
  have F1 := (hb1.block (w.heap.size + 1) (by simp)).trans (block_two1 w #[.int .i64 0, .int .i64 0] 25)
  have s1 : w.heap.size + 2 ≤ w1.heap.size := by have := hb1.size; simpa using this
  have hr0 : Rd (w1.alloc (.cells #[.string s, .int .i64 0, .slice none 0 0] 167)) w1.heap.size s 0 (.slice none 0 0) := heap_alloc_new w1 _
  have m0 : (w1.alloc (.cells #[.string s, .int .i64 0, .slice none 0 0] 167)).cell? ⟨2, 0, none⟩ = some (.int .i64 mx) := cell_alloc ((hbW.cell (p := ⟨2, 0, none⟩) h0).trans hmx) _
  have L2 := (Below.heap_alloc w1 (.cells #[.string s, .int .i64 0, .slice none 0 0] 167) _ (by omega)).trans L1
  have F2 := (Below.heap_alloc w1 (.cells #[.string s, .int .i64 0, .slice none 0 0] 167) _ (by omega)).trans F1
  have hbX : Below w.heap.size w (w1.alloc (.cells #[.string s, .int .i64 0, .slice none 0 0] 167)) := hbW.alloc (by omega) _
  refine page_any w1.heap.size s (w1.heap.size + 1) mx (.slice none 0 0) _ _ hl (by omega) (by simp) (by omega) m0 hr0 ⟨[], rfl, World.ownsRow_nil _ _ _ _, by simp⟩ ?_ ?_
  · intro L nv w2 k' he hr2 hn2 hst hL
    have c2 := hr2.c2
    have L3 := (hst.kp.block w.heap.size (by simp; omega) (by simp [Value.ownBlock]; omega)).trans L2
    have F3 := (hst.kp.block (w.heap.size + 1) (by simp; omega) (by simp [Value.ownBlock]; omega)).trans F2
    have l0 := cell_of L3 0
    have lz := fz_of L3 0
    have f0 := cell_of F3 0
    have f1 := cell_of F3 1
    have fz0 := fz_of F3 0
    have fz1 := fz_of F3 1
    simp at l0 f0 f1
    obtain ⟨na, ncap, rfl⟩ := hn2.form
    have HN := hid hn2
    have EX := hid he
    have HL := hid L3
    have HF := hid F3
    have hbY : Below w.heap.size w w2 := hbX.trans ⟨hst.kp.os, hst.kp.tape, hst.kp.output, hst.kp.size, fun j hj => hst.kp.block j (by simp; omega) (by simp [Value.ownBlock]; omega)⟩
    have UN := hid hbY
    clear he hn2 hst L3 F3 L1 F1 L2 F2 hb1 hbW hbX hbY m0 hr0
    go_wp2_with fail
    have kk : Kp (fun j => j = w.heap.size ∨ j = w.heap.size + 1) w2 (((w2.setCell ⟨w.heap.size, 0, none⟩ (.slice na L.length ncap)).setCell ⟨w.heap.size + 1, 0, none⟩ (.int .i64 0)).setCell ⟨w.heap.size + 1, 1, none⟩ (.int .i64 0)) :=
      (((Kp.set w2 w.heap.size 0 (.slice na L.length ncap)).weaken (fun _ h => .inl h)).trans ((Kp.set _ (w.heap.size + 1) 0 (.int .i64 0)).weaken (fun _ h => .inr h))).trans ((Kp.set _ (w.heap.size + 1) 1 (.int .i64 0)).weaken (fun _ h => .inr h))
    refine leaves_cons (f := 83) (args := #[.pointer (some ⟨w.heap.size, 0, none⟩), .pointer (some ⟨w.heap.size + 1, 0, none⟩)]) (by simp) (by simp [go_sem]) ?_
    refine (catch_idle w.heap.size (w.heap.size + 1) _).mono ?_
    rintro e u' w'' ⟨rfl, rfl, o, rfl⟩
    have z2 : w.heap.size + 1 < w2.heap.size := (Array.getElem?_eq_some_iff.1 HF.out).1
    have L4 : ((((w2.setCell ⟨w.heap.size, 0, none⟩ (.slice na L.length ncap)).setCell ⟨w.heap.size + 1, 0, none⟩ (.int .i64 0)).setCell ⟨w.heap.size + 1, 1, none⟩ (.int .i64 0)).alloc o).heap[w.heap.size]? = some (.cells #[.slice na L.length ncap] 28 (0, 0)) := by
      rw [Below.heap_alloc _ _ _ (by simp [World.setCell]; omega), Below.heap_setCell _ _ _ _ (by simp), Below.heap_setCell _ _ _ _ (by simp), heap_set HL.out]
      simp
    have F4 : ((((w2.setCell ⟨w.heap.size, 0, none⟩ (.slice na L.length ncap)).setCell ⟨w.heap.size + 1, 0, none⟩ (.int .i64 0)).setCell ⟨w.heap.size + 1, 1, none⟩ (.int .i64 0)).alloc o).heap[w.heap.size + 1]? = some (.cells #[.int .i64 0, .int .i64 0] 25 (0, 0)) := by
      have := heap_set (heap_set ((Below.heap_setCell w2 ⟨w.heap.size, 0, none⟩ (.slice na L.length ncap) (w.heap.size + 1) (by simp)).trans HF.out) 0 (.int .i64 0)) 1 (.int .i64 0)
      rw [Below.heap_alloc _ _ _ (by simp [World.setCell]; omega), this]
      simp
    have ka : Kp (fun j => j = w.heap.size ∨ j = w.heap.size + 1) w2 ((((w2.setCell ⟨w.heap.size, 0, none⟩ (.slice na L.length ncap)).setCell ⟨w.heap.size + 1, 0, none⟩ (.int .i64 0)).setCell ⟨w.heap.size + 1, 1, none⟩ (.int .i64 0)).alloc o) := kk.trans (Kp.alloc _ o)
    have ub : Below w.heap.size w ((((w2.setCell ⟨w.heap.size, 0, none⟩ (.slice na L.length ncap)).setCell ⟨w.heap.size + 1, 0, none⟩ (.int .i64 0)).setCell ⟨w.heap.size + 1, 1, none⟩ (.int .i64 0)).alloc o) := (((UN.out.setCell (by simp) _).setCell (by simp) _).setCell (by simp) _).alloc (by simp [World.setCell]; omega) _
    have q0 := cell_of L4 0
    have q1 := cell_of F4 0
    have q2 := cell_of F4 1
    simp at q0 q1 q2
    have nd := NdsAt.lower (HN.out.of ka (by
      rintro j (rfl | rfl) cur fz
      · rw [HL.out]; simp
      · rw [HF.out]; simp)) (base' := w.heap.size) (by omega)
    have fin := hok.out L (.slice na L.length ncap) _ EX.out nd ub hL
    generalize ((((w2.setCell ⟨w.heap.size, 0, none⟩ (.slice na L.length ncap)).setCell ⟨w.heap.size + 1, 0, none⟩ (.int .i64 0)).setCell ⟨w.heap.size + 1, 1, none⟩ (.int .i64 0)).alloc o) = W3 at q0 q1 q2 fin ⊢
    simp [Leaves, settle, results, Tryz.results49, go_sem, q0, q1, q2]
    exact fin
  · intro x w2 he hbl
    have L3 := (hbl.block w.heap.size (by omega)).trans L2
    have F3 := (hbl.block (w.heap.size + 1) (by omega)).trans F2
    have l0 := cell_of L3 0
    have lz := fz_of L3 0
    have f0 := cell_of F3 0
    have f1 := cell_of F3 1
    have fz0 := fz_of F3 0
    have fz1 := fz_of F3 1
    simp at l0 f0 f1
    have UN : Below w.heap.size w w2 := hbX.trans (hbl.mono (by omega))
    refine leaves_cons (f := 83) (args := #[.pointer (some ⟨w.heap.size, 0, none⟩), .pointer (some ⟨w.heap.size + 1, 0, none⟩)]) (by simp) (by simp [go_sem]) ?_
    refine (catch_panicking w.heap.size (w.heap.size + 1) x.1 x.2 [] _ _ _ _ l0 f0 f1 lz fz0 fz1 (by omega)).mono ?_
    rintro e u' w'' ⟨rfl, rfl, n, o, rfl⟩
    have z2 : w.heap.size + 1 < w2.heap.size := (Array.getElem?_eq_some_iff.1 F3).1
    have L4 : (((((w2.setCell ⟨w.heap.size, 0, none⟩ (.slice none 0 0)).setCell ⟨w.heap.size + 1, 0, none⟩ (.int .i64 x.1)).setCell ⟨w.heap.size + 1, 1, none⟩ (.int .i64 x.2)).alloc o).drewN n).heap[w.heap.size]? = some (.cells #[.slice none 0 0] 28 (0, 0)) := by
      show ((((w2.setCell ⟨w.heap.size, 0, none⟩ (.slice none 0 0)).setCell ⟨w.heap.size + 1, 0, none⟩ (.int .i64 x.1)).setCell ⟨w.heap.size + 1, 1, none⟩ (.int .i64 x.2)).alloc o).heap[w.heap.size]? = _
      rw [Below.heap_alloc _ _ _ (by simp [World.setCell]; omega), Below.heap_setCell _ _ _ _ (by simp), Below.heap_setCell _ _ _ _ (by simp), heap_set L3]
      simp
    have F4 : (((((w2.setCell ⟨w.heap.size, 0, none⟩ (.slice none 0 0)).setCell ⟨w.heap.size + 1, 0, none⟩ (.int .i64 x.1)).setCell ⟨w.heap.size + 1, 1, none⟩ (.int .i64 x.2)).alloc o).drewN n).heap[w.heap.size + 1]? = some (.cells #[.int .i64 x.1, .int .i64 x.2] 25 (0, 0)) := by
      have := heap_set (heap_set ((Below.heap_setCell w2 ⟨w.heap.size, 0, none⟩ (.slice none 0 0) (w.heap.size + 1) (by simp)).trans F3) 0 (.int .i64 x.1)) 1 (.int .i64 x.2)
      show ((((w2.setCell ⟨w.heap.size, 0, none⟩ (.slice none 0 0)).setCell ⟨w.heap.size + 1, 0, none⟩ (.int .i64 x.1)).setCell ⟨w.heap.size + 1, 1, none⟩ (.int .i64 x.2)).alloc o).heap[w.heap.size + 1]? = _
      rw [Below.heap_alloc _ _ _ (by simp [World.setCell]; omega), this]
      simp
    have ub : Below w.heap.size w (((((w2.setCell ⟨w.heap.size, 0, none⟩ (.slice none 0 0)).setCell ⟨w.heap.size + 1, 0, none⟩ (.int .i64 x.1)).setCell ⟨w.heap.size + 1, 1, none⟩ (.int .i64 x.2)).alloc o).drewN n) := below_drewN' ((((UN.setCell (by simp) _).setCell (by simp) _).setCell (by simp) _).alloc (by simp [World.setCell]; omega) _) _
    have q0 := cell_of L4 0
    have q1 := cell_of F4 0
    have q2 := cell_of F4 1
    simp only [List.getElem?_toArray, List.getElem?_cons_zero, List.getElem?_cons_succ] at q0 q1 q2
    have fin := hbad.out x _ he ub
    generalize (((((w2.setCell ⟨w.heap.size, 0, none⟩ (.slice none 0 0)).setCell ⟨w.heap.size + 1, 0, none⟩ (.int .i64 x.1)).setCell ⟨w.heap.size + 1, 1, none⟩ (.int .i64 x.2)).alloc o).drewN n) = W3 at q0 q1 q2 fin ⊢
    simp [Leaves, settle, results, Tryz.results49, go_sem, q0, q1, q2]
    exact fin
theorem parse_any (s : ByteArray) (mx : Int) (w : World) (R : Ending → World → Prop) (hmx : w.cell? ⟨2, 0, none⟩ = some (.int .i64 mx)) (hsz : s.size ≤ 9223372036854775807)
    (hok : Hid (∀ L nv w', parse s.data.toList = .ok L → NdsAt w' w.heap.size nv L → Below w.heap.size w w' → L.length ≤ 120 → R (.returned (.tuple #[nv, .agg #[.int .i64 0, .int .i64 0]])) w'))
    (hbad : Hid (∀ (x : Nat × Nat) w', parse s.data.toList = .error x → Below w.heap.size w w' → R (.returned (.tuple #[.slice none 0 0, .agg #[.int .i64 x.1, .int .i64 x.2]])) w')) :
    Calls Tryz.prog 26 #[.string s] w R := by
  have hS : s.size = s.data.toList.length := Lib.size_eq s
  by_cases hbig : 6000 < s.size
  · have EX : Hid (parse s.data.toList = .error (4, 0)) := by
      show parse s.data.toList = .error (4, 0)
      unfold parse
      rw [if_pos (by omega)]
    clear hS
    go_enter Tryz.func26, Tryz.ntmps26
    go_wp2_with fail
    refine bodyPost_ret (v := .tuple #[.slice none 0 0, .agg #[.int .i64 4, .int .i64 0]]) (by simp [results, Tryz.results26, go_sem]) rfl ?_
    exact hbad.out (4, 0) _ EX.out ((Below.refl _ _).alloc (Nat.le_refl _) _)
  · have hl : s.size ≤ 6000 := by omega
    have PE : Hid (parse s.data.toList = readAll s.data.toList) := by
      show parse s.data.toList = readAll s.data.toList
      unfold parse
      rw [if_neg (by omega)]
    have hmx' := cell_alloc hmx
    have h0 := lt_of_cell hmx
    clear hS
    go_enter Tryz.func26, Tryz.ntmps26
    go_wp2_with fail
    refine read_any s mx _ _ hl (hmx' _) ?_ ?_
    · intro L nv w1 he hn hb hL
      have F1 := (hb.block w.heap.size (by simp)).trans (heap_alloc_new w (.cells #[.int .i64 0, .int .i64 0] 25))
      have f0 := cell_of F1 0
      have f1 := cell_of F1 1
      have z0 := fz_of F1 0
      have z1 := fz_of F1 1
      simp at f0 f1
      obtain ⟨na, ncap, rfl⟩ := hn.form
      have HN := hid hn
      have HF := hid F1
      have UN : Hid (Below w.heap.size w w1) := (((Below.refl _ _).alloc (Nat.le_refl _) _).trans (hb.mono (by simp)))
      have EX : Hid (parse s.data.toList = .ok L) := PE.out.trans he
      have z2 : w.heap.size < w1.heap.size := (Array.getElem?_eq_some_iff.1 F1).1
      clear hn F1 he hb
      go_wp2_with fail
      refine bodyPost_ret (v := .tuple #[.slice na L.length ncap, .agg #[.int .i64 0, .int .i64 0]]) (by simp [results, Tryz.results26, go_sem, f0, f1]) rfl ?_
      refine hok.out L _ _ EX.out (NdsAt.lower (HN.out.of ((Kp.set w1 w.heap.size 0 _).trans (Kp.set _ w.heap.size 1 _)) ?_) (by simp)) ((UN.out.setCell (by simp) _).setCell (by simp) _) hL
      rintro j rfl cur fz
      rw [HF.out]; simp
    · intro x w1 he hb
      have F1 := (hb.block w.heap.size (by simp)).trans (heap_alloc_new w (.cells #[.int .i64 0, .int .i64 0] 25))
      have f0 := cell_of F1 0
      have f1 := cell_of F1 1
      have z0 := fz_of F1 0
      have z1 := fz_of F1 1
      simp at f0 f1
      have UN : Hid (Below w.heap.size w w1) := (((Below.refl _ _).alloc (Nat.le_refl _) _).trans (hb.mono (by simp)))
      have EX : Hid (parse s.data.toList = .error x) := PE.out.trans he
      clear F1 he hb
      go_wp2_with fail
      refine bodyPost_ret (v := .tuple #[.slice none 0 0, .agg #[.int .i64 x.1, .int .i64 x.2]]) (by simp [results, Tryz.results26, go_sem, f0, f1]) rfl ?_
      exact hbad.out x _ EX.out ((UN.out.setCell (by simp) _).setCell (by simp) _)
end Go.Proofs.YtblkldfokeeaeacGreatDoor.Sh
namespace Go.Proofs.YtblkldfokeeaeacGreatDoor
open Go.RowKit
theorem hid {p : Prop} (h : p) : Hid p := h
def Ext (w w' : World) : Prop := ∀ (b o : Nat) (v : Value), w.cell? ⟨b, o, none⟩ = some v → w'.cell? ⟨b, o, none⟩ = some v
theorem lt_of_cell {w : World} {b o : Nat} {v : Value} (h : w.cell? ⟨b, o, none⟩ = some v) : b < w.heap.size := by
  by_cases hb : b < w.heap.size
  · exact hb
  · have : w.heap[b]? = none := by simp; omega
    simp [World.cell?, this] at h
theorem Ext.refl (w : World) : Ext w w := fun _ _ _ h => h
theorem Ext.trans {a b c : World} (h : Ext a b) (k : Ext b c) : Ext a c := fun x o v hv => k x o v (h x o v hv)
theorem Ext.below {w w' : World} (h : Below w.heap.size w w') : Ext w w' := fun b o v hv => by
  rw [h.cell (p := ⟨b, o, none⟩) (lt_of_cell hv)]; exact hv
def Sl {α : Type} (w : World) (sz : Nat) (E : (Nat → Option Value) → α → Prop) (v : Value) (l : List α) : Prop :=
  ∃ a cap, v = .slice a l.length cap ∧ (a = none → cap = 0) ∧ ∀ i (h : i < l.length), ∃ b off, a = some ⟨b, off, none⟩ ∧ E (fun j => w.cell? ⟨b, off + i * sz + j, none⟩) l[i]
theorem Sl.mono {α : Type} {w w' : World} {sz : Nat} {E E' : (Nat → Option Value) → α → Prop} {v : Value} {l : List α} (h : Sl w sz E v l)
    (hE : ∀ b o x, E (fun j => w.cell? ⟨b, o + j, none⟩) x → E' (fun j => w'.cell? ⟨b, o + j, none⟩) x) : Sl w' sz E' v l := by
  obtain ⟨a, cap, rfl, hn, h⟩ := h
  refine ⟨a, cap, rfl, hn, fun i hi => ?_⟩
  obtain ⟨b, off, rfl, he⟩ := h i hi
  exact ⟨b, off, rfl, hE b (off + i * sz) _ he⟩
theorem Sl.form {α : Type} {w : World} {sz : Nat} {E : (Nat → Option Value) → α → Prop} {v : Value} {l : List α} (h : Sl w sz E v l) : ∃ a cap, v = .slice a l.length cap := by
  obtain ⟨a, cap, rfl, _⟩ := h; exact ⟨a, cap, rfl⟩
theorem Sl.nil {α : Type} {w : World} {sz : Nat} {E : (Nat → Option Value) → α → Prop} {n cap : Nat} {l : List α} (h : Sl w sz E (.slice none n cap) l) : n = 0 ∧ cap = 0 ∧ l = [] := by
  obtain ⟨a', cap', e, hn, h⟩ := h
  injection e with e1 e2 e3
  subst e1 e2 e3
  have hl : l.length = 0 := by
    by_cases h0 : 0 < l.length
    · obtain ⟨b, off, hb, _⟩ := h 0 h0; cases hb
    · omega
  exact ⟨hl, hn rfl, List.length_eq_zero_iff.1 hl⟩
theorem Sl.at {α : Type} {w : World} {sz : Nat} {E : (Nat → Option Value) → α → Prop} {a : Option Addr} {n cap : Nat} {l : List α} (h : Sl w sz E (.slice a n cap) l) {i : Nat} (hi : i < l.length) :
    ∃ b off, a = some ⟨b, off, none⟩ ∧ E (fun j => w.cell? ⟨b, off + i * sz + j, none⟩) l[i] := by
  obtain ⟨a', cap', e, _, h⟩ := h
  injection e with e1 e2 e3
  subst e1
  exact h i hi
def eA (c : Nat → Option Value) (x : At) : Prop := c 0 = some (.string x.name) ∧ c 1 = some (.string x.val) ∧ c 2 = some (.int .i64 x.fr) ∧ c 3 = some (.int .i64 x.to)
def AtsAt (w : World) (v : Value) (l : List At) : Prop := Sl w 4 eA v l
def eN (w : World) (c : Nat → Option Value) (x : Nd) : Prop := c 0 = some (.string x.name) ∧ c 1 = some (.int .i64 x.parent) ∧ (∃ v, c 2 = some v ∧ AtsAt w v x.attrs) ∧ c 3 = some (.int .i64 x.ne) ∧ c 4 = some (.int .i64 x.fr) ∧ c 5 = some (.int .i64 x.to)
def NdsAt (w : World) (v : Value) (l : List Nd) : Prop := Sl w 6 (eN w) v l
def eT (c : Nat → Option Value) (x : Ts) : Prop := c 0 = some (.int .i64 x.kind) ∧ c 1 = some (.string x.name) ∧ c 2 = some (.string x.val)
def TsAt (w : World) (v : Value) (l : List Ts) : Prop := Sl w 3 eT v l
def eP (w : World) (c : Nat → Option Value) (x : Pt) : Prop := c 0 = some (.int .i64 x.join) ∧ ∃ v, c 1 = some v ∧ TsAt w v x.tests
def PsAt (w : World) (v : Value) (l : List Pt) : Prop := Sl w 2 (eP w) v l
def eS (w : World) (c : Nat → Option Value) (x : List Pt) : Prop := ∃ v, c 0 = some v ∧ PsAt w v x
def SsAt (w : World) (v : Value) (l : List (List Pt)) : Prop := Sl w 1 (eS w) v l
def eI (c : Nat → Option Value) (x : Nat) : Prop := c 0 = some (.int .i64 (x : Int))
def IsAt (w : World) (v : Value) (l : List Nat) : Prop := Sl w 1 eI v l
variable {w w' : World} {v : Value}
theorem AtsAt.ext {l : List At} (h : AtsAt w v l) (e : Ext w w') : AtsAt w' v l :=
  Sl.mono h fun _ _ _ ⟨h0, h1, h2, h3⟩ => ⟨e _ _ _ h0, e _ _ _ h1, e _ _ _ h2, e _ _ _ h3⟩
theorem NdsAt.ext {l : List Nd} (h : NdsAt w v l) (e : Ext w w') : NdsAt w' v l :=
  Sl.mono h fun _ _ _ ⟨h0, h1, ⟨x, h2, h2'⟩, h3, h4, h5⟩ => ⟨e _ _ _ h0, e _ _ _ h1, ⟨x, e _ _ _ h2, h2'.ext e⟩, e _ _ _ h3, e _ _ _ h4, e _ _ _ h5⟩
theorem TsAt.ext {l : List Ts} (h : TsAt w v l) (e : Ext w w') : TsAt w' v l :=
  Sl.mono h fun _ _ _ ⟨h0, h1, h2⟩ => ⟨e _ _ _ h0, e _ _ _ h1, e _ _ _ h2⟩
theorem PsAt.ext {l : List Pt} (h : PsAt w v l) (e : Ext w w') : PsAt w' v l :=
  Sl.mono h fun _ _ _ ⟨h0, ⟨x, h1, h2⟩⟩ => ⟨e _ _ _ h0, ⟨x, e _ _ _ h1, h2.ext e⟩⟩
theorem SsAt.ext {l : List (List Pt)} (h : SsAt w v l) (e : Ext w w') : SsAt w' v l :=
  Sl.mono h fun _ _ _ ⟨x, h1, h2⟩ => ⟨x, e _ _ _ h1, h2.ext e⟩
theorem IsAt.ext {l : List Nat} (h : IsAt w v l) (e : Ext w w') : IsAt w' v l :=
  Sl.mono h fun _ _ _ h0 => e _ _ _ h0
def lim : Nat := 1048576
structure SmN (x : Nd) : Prop where
  attrs : x.attrs.length ≤ lim
  vals : ∀ a ∈ x.attrs, a.val.size ≤ lim
def SmNs (l : List Nd) : Prop := l.length ≤ lim ∧ ∀ x ∈ l, SmN x
def SmS (s : List Pt) : Prop := s.length ≤ lim ∧ (s.flatMap (·.tests)).length ≤ lim
theorem SmS.part {s : List Pt} (h : SmS s) {p : Pt} (hp : p ∈ s) : p.tests.length ≤ lim := by
  refine Nat.le_trans ?_ h.2
  obtain ⟨a, b, rfl⟩ := List.append_of_mem hp
  rw [List.flatMap_append, List.flatMap_cons, List.length_append, List.length_append]
  omega
def Mx (w : World) : Prop := ∃ m : Int, w.cell? ⟨2, 0, none⟩ = some (.int .i64 m)
theorem Mx.ext (h : Mx w) (e : Ext w w') : Mx w' := by obtain ⟨m, hm⟩ := h; exact ⟨m, e _ _ _ hm⟩
theorem own_form {base : Nat} {e : TypeId} {size n : Nat} {xs : List Value} (h : w.ownsRow base e size v n xs) : ∃ a cap, v = .slice a n cap := by
  rcases h.2 with ⟨h1, h2⟩ | ⟨g, cap, cur, h0, _⟩
  · exact ⟨none, 0, by rw [h1, h2]⟩
  · exact ⟨_, _, h0⟩
theorem own_cell {base : Nat} {e : TypeId} {size : Nat} {a : Option Addr} {cap n : Nat} {xs : List Value} (h : w.ownsRow base e size (.slice a n cap) n xs) {j : Nat} (hj : j < n * size) : ∃ g, a = some ⟨g, 0, none⟩ ∧ w.cell? ⟨g, j, none⟩ = xs[j]? := by
  rcases h.2 with ⟨h1, h2⟩ | ⟨g, cap', cur, h0, hb, h1, h2, h3, h4, h5⟩
  · subst h2; simp at hj
  · injection h0 with h0 _ _
    refine ⟨g, h0, ?_⟩
    rw [← h5, List.getElem?_take, if_pos hj]
    simp [World.cell?, h1]
def encI (x : Nat) : Value := .int .i64 (x : Int)
theorem IsAt.own {base : Nat} {l : List Nat} (h : w.ownsRow base 3 1 v l.length (l.map encI)) : IsAt w v l := by
  have hn : ∀ a cap, v = .slice a l.length cap → a = none → cap = 0 := by
    rintro a cap rfl rfl
    rcases h.2 with ⟨h1, _⟩ | ⟨g, cap, cur, h0, _⟩
    · injection h1
    · cases h0
  obtain ⟨a, cap, rfl⟩ := own_form h
  refine ⟨a, cap, rfl, hn a cap rfl, fun i hi => ?_⟩
  obtain ⟨g, rfl, hg⟩ := own_cell h (j := i) (by omega)
  refine ⟨g, 0, rfl, ?_⟩
  show w.cell? ⟨g, 0 + i * 1 + 0, none⟩ = _
  rw [show 0 + i * 1 + 0 = i by omega, hg]
  simp [hi, encI]
theorem own_ext {base : Nat} {e : TypeId} {size n : Nat} {xs : List Value} (h : w.ownsRow base e size v n xs) (hb : Below w.heap.size w w') : w'.ownsRow base e size v n xs := by
  refine ⟨h.1, ?_⟩
  rcases h.2 with h | ⟨g, cap, cur, h0, hg, h1, h2⟩
  · exact .inl h
  · refine .inr ⟨g, cap, cur, h0, hg, ?_, h2⟩
    rw [hb.block g (Array.getElem?_eq_some_iff.1 h1).1]
    exact h1
theorem below_trans {B : Nat} {a b c : World} (h : Below B a b) (k : Below b.heap.size b c) (hB : B ≤ a.heap.size) : Below B a c := h.trans (k.mono (Nat.le_trans hB h.size))
theorem below_dN {B : Nat} {a w : World} (h : Below B a w) (n : Nat) : Below B a (w.drewN n) := ⟨h.os, h.tape, h.output, h.size, h.block⟩
end Go.Proofs.YtblkldfokeeaeacGreatDoor
namespace Go.Proofs.YtblkldfokeeaeacGreatDoor
open Go.RowKit
theorem ret_bool {a b : Bool} (h : a = b) : Ending.returned (.bool a) = .returned (.bool b) := by rw [h]
theorem ret_int {k : IntKind} {a b : Int} (h : a = b) : Ending.returned (.int k a) = .returned (.int k b) := by rw [h]
theorem has_any (lv : Value) (l : List Nd) (k : Int) (w : World) (hl : NdsAt w lv l) :
    Calls Tryz.prog 166 #[lv, .int .i64 k] w fun e w' => e = .returned (.bool (inB l k)) ∧ w' = w := by
  obtain ⟨a, cap, rfl⟩ := Sl.form hl
  clear hl
  by_cases h0 : 0 ≤ k
  · have E : Hid (inB l k = decide (k < (l.length : Int))) := by show inB l k = _; simp [inB, h0]
    go_enter Tryz.func166, Tryz.ntmps166
    go_wp2
    all_goals go_ret
    all_goals exact ⟨ret_bool E.out.symm, rfl⟩
  · have E : Hid (inB l k = false) := by show inB l k = _; simp [inB, h0]
    go_enter Tryz.func166, Tryz.ntmps166
    go_wp2
    all_goals go_ret
    all_goals exact ⟨ret_bool E.out.symm, rfl⟩
theorem eN.c1 {w : World} {b o : Nat} {x : Nd} (h : eN w (fun j => w.cell? ⟨b, o + j, none⟩) x) : w.cell? ⟨b, o + 1, none⟩ = some (.int .i64 x.parent) := h.2.1
set_option maxHeartbeats 1000000 in
theorem ahead_any (lv : Value) (l : List Nd) (k : Nat) (w : World) (hl : NdsAt w lv l) (hs : l.length ≤ lim) (hk : k < l.length) :
    Calls Tryz.prog 219 #[lv, .int .i64 (k : Int)] w fun e w' => e = .returned (.int .i64 (ahead l k)) ∧ ∃ n, w' = w.drewN n := by
  obtain ⟨a, cap, rfl⟩ := Sl.form hl
  unfold lim at hs
  have HL := hid hl
  obtain ⟨b, off, rfl, hc⟩ := Sl.at hl hk
  have c1 := hc.c1
  clear hl hc
  have hp : par l k = l[k].parent := by simp [par, ndAt_eq hk]
  rw [← hp] at c1
  clear hp
  have E0 : Hid (ahead l k = aheadTo l (par l k) k) := rfl
  generalize ahead l k = A at *
  generalize par l k = p at *
  have hk2 : decide (l.length ≤ k) = false := by simp; omega
  go_enter Tryz.func219, Tryz.ntmps219
  go_wp2_with fail
  go_loopg [5] k (fun n i wr => ∃ j : Nat, n = j ∧ j ≤ k ∧ i = .int .i64 ((j : Int) - 1) ∧ A = aheadTo l p j ∧ ∃ m, wr = w.drewN m)
  case atStart => exact ⟨k, rfl, Nat.le_refl _, rfl, E0.out, 0, rfl⟩
  case round =>
    obtain ⟨j, hn, hj, rfl, hA, m, rfl⟩ := hrel
    have GK := hid hn
    have GA := hid hA
    clear hn hA
    cases j with
    | zero => 
      go_wp2_with fail
      go_ret
      exact ⟨ret_int GA.out.symm, m, rfl⟩
    | succ j =>
      obtain ⟨b', off', hb, hd⟩ := Sl.at HL.out (show j < l.length by omega)
      injection hb with hb
      injection hb with hb1 hb2 
      subst hb1 hb2
      have d1 := hd.c1
      have hp : par l j = l[j].parent := by simp [par, ndAt_eq (show j < l.length by omega)]
      rw [← hp] at d1
      clear hp hd
      have e1 : ((j + 1 : Nat) : Int) - 1 = j := by omega
      rw [e1]
      clear e1
      have GE : Hid (A = if par l j = p then (j : Int) else aheadTo l p j) := GA.out
      generalize par l j = q at *
      have hjl : j < l.length := by omega
      by_cases hq : q = p
      · have hq' : (q == p) = true := by simp [hq]
        have GX : Hid (A = j) := by have := GE.out; rw [if_pos hq] at this; exact this
        clear hq
        go_wp2_with fail
        go_quiet (fail)
        go_wp2_with fail
        go_ret
        exact ⟨ret_int GX.out.symm, _, World.drewN_drewN _ _ _⟩
      · have hq' : (q == p) = false := by simp [hq]
        have GX : Hid (A = aheadTo l p j) := by have := GE.out; rw [if_neg hq] at this; exact this
        clear hq
        go_wp2_with fail
        go_quiet (fail)
        go_wp2_with fail
        go_roundg j
        case measure => have := GK.out; omega
        case rel => exact ⟨j, rfl, by omega, by go_num, GX.out, _, rfl⟩
theorem single_any (lv : Value) (l : List Nd) (k : Nat) (j : Int) (w : World) (hl : NdsAt w lv l) (hs : l.length ≤ lim) (hk : k < l.length) :
    Calls Tryz.prog 205 #[lv, .int .i64 (k : Int), .int .i64 j] w fun e w' => e = .returned (.int .i64 (single l k j)) ∧ ∃ n, w' = w.drewN n := by
  obtain ⟨a, cap, rfl⟩ := Sl.form hl
  have HL := hid hl
  have HS := hid hs
  unfold lim at hs
  obtain ⟨b, off, rfl, hc⟩ := Sl.at hl hk
  have c1 := hc.c1
  clear hl hc
  have hp : par l k = l[k].parent := by simp [par, ndAt_eq hk]
  rw [← hp] at c1
  clear hp
  by_cases h2 : j = 2
  · subst h2
    have E : Hid (single l k 2 = par l k) := by show single l k 2 = par l k; simp [single]
    generalize single l k 2 = x at *
    generalize par l k = p at *
    go_enter Tryz.func205, Tryz.ntmps205
    go_wp2_with fail
    go_ret
    exact ⟨ret_int E.out.symm, 0, rfl⟩
  · by_cases h3 : j = 3
    · subst h3
      have E : Hid (single l k 3 = ahead l k) := by show single l k 3 = ahead l k; simp [single]
      generalize single l k 3 = x at *
      go_enter Tryz.func205, Tryz.ntmps205
      go_wp2_with (go_at_call 219; refine (ahead_any _ l k _ HL.out HS.out hk).mono ?_; rintro e w' ⟨rfl, n, rfl⟩)
      go_ret
      exact ⟨ret_int E.out.symm, n, rfl⟩
    · have E : Hid (single l k j = -1) := by show single l k j = -1; simp [single, h2, h3]
      generalize single l k j = x at *
      go_enter Tryz.func205, Tryz.ntmps205
      go_wp2_with fail
      go_ret
      exact ⟨ret_int E.out.symm, 0, rfl⟩
end Go.Proofs.YtblkldfokeeaeacGreatDoor
namespace Go.Proofs.YtblkldfokeeaeacGreatDoor
open Go.RowKit
def nodeV (x : Nd) (av : Value) : Value := .agg #[.string x.name, .int .i64 x.parent, av, .int .i64 x.ne, .int .i64 x.fr, .int .i64 x.to]
def getV (o : Option ByteArray) : Value := .tuple #[.string (o.getD ⟨#[]⟩), .bool o.isSome]
theorem eA.cells {w : World} {b o : Nat} {x : At} (h : eA (fun j => w.cell? ⟨b, o + j, none⟩) x) : w.cell? ⟨b, o, none⟩ = some (.string x.name) ∧ w.cell? ⟨b, o + 1, none⟩ = some (.string x.val) ∧ w.cell? ⟨b, o + 2, none⟩ = some (.int .i64 x.fr) ∧ w.cell? ⟨b, o + 3, none⟩ = some (.int .i64 x.to) := h
set_option maxHeartbeats 1000000 in
theorem get_any (x : Nd) (av : Value) (name : ByteArray) (w : World) (hA : AtsAt w av x.attrs) (hs : SmN x) :
    Calls Tryz.prog 51 #[nodeV x av, .string name] w fun e w' => e = .returned (getV (getA name x.attrs)) ∧ Below w.heap.size w w' := by
  obtain ⟨a, cap, rfl⟩ := Sl.form hA
  obtain ⟨nm, pr, l, ne, fr, tt⟩ := x
  obtain ⟨hl, hv⟩ := hs
  simp only at hA hl hv
  have HV := hid hv
  have HL := hid hA
  unfold lim at hl
  clear hA hv
  simp only [nodeV]
  go_enter Tryz.func51, Tryz.ntmps51
  go_wp2_with fail
  go_loopg [11] l.length (fun n i wr => ∃ k : Nat, n = l.length - k ∧ k ≤ l.length ∧ i = .int .i64 (k : Int) ∧ getA name l = getA name (l.drop k) ∧ Below w.heap.size w wr)
  case atStart => exact ⟨0, rfl, Nat.zero_le _, rfl, rfl, (Below.refl _ _).alloc (Nat.le_refl _) _⟩
  case round =>
    obtain ⟨k, hn, hk, rfl, hG, hB⟩ := hrel
    have GK := hid hn
    have HB := hid hB
    have HG := hid hG
    clear hn hB hG
    by_cases hlt : k < l.length
    · obtain ⟨b, off, rfl, he⟩ := Sl.at (AtsAt.ext HL.out (Ext.below HB.out)) hlt
      obtain ⟨c0, c1, c2, c3⟩ := he.cells
      have hv := HV.out l[k] (List.getElem_mem hlt)
      have HG2 : Hid (getA name l = if l[k].name.toList == name.toList then some l[k].val else getA name (l.drop (k + 1))) := by
        show getA name l = _
        rw [HG.out, List.drop_eq_getElem_cons hlt]; rfl
      clear he
      generalize l[k] = x at *
      obtain ⟨xn, xv, xf, xt⟩ := x
      simp only at c0 c1 c2 c3 hv HG2
      unfold lim at hv
      cases hq : (xn.toList == name.toList)
      · have HG3 : Hid (getA name l = getA name (l.drop (k + 1))) := by have := HG2.out; rw [hq] at this; exact this
        clear HG2
        go_wp2_with fail
        go_roundg (l.length - (k + 1))
        case measure => have := GK.out; omega
        case rel => exact ⟨k + 1, rfl, by omega, by go_num, HG3.out, HB.out.alloc HB.out.size _⟩
      · have HG3 : Hid (getA name l = some xv) := by have := HG2.out; rw [hq] at this; exact this
        clear HG2
        go_wp2_with (first | (go_at_call 114; refine (Tryz.stringslite_Clone _ _ (by omega)).mono ?_; rintro e w' ⟨rfl, hb⟩) | go_in)
        go_ret2
        exact ⟨by rw [HG3.out]; rfl, below_trans (HB.out.alloc HB.out.size _) hb (Nat.le_refl _)⟩
    · have HG3 : Hid (getA name l = none) := by
        show getA name l = none
        rw [HG.out, List.drop_eq_nil_of_le (by omega)]; rfl
      go_wp2_with fail
      go_ret2
      exact ⟨by rw [HG3.out]; rfl, HB.out⟩
end Go.Proofs.YtblkldfokeeaeacGreatDoor
namespace Go.Proofs.YtblkldfokeeaeacGreatDoor
open Go.RowKit
set_option maxHeartbeats 1000000 in
theorem isAttr_any (x : Nd) (av : Value) (name val : ByteArray) (w : World) (hA : AtsAt w av x.attrs) (hs : SmN x) :
    Calls Tryz.prog 225 #[nodeV x av, .string name, .string val] w fun e w' => e = .returned (.bool (attrB x.attrs name val)) ∧ Below w.heap.size w w' := by
  obtain ⟨sa, sc, rfl⟩ := Sl.form hA
  have HA := hid hA
  have HS := hid hs
  clear hA hs
  have hb0 : ∀ o, Hid (Below w.heap.size w (w.alloc o)) := fun o => (Below.refl _ _).alloc (Nat.le_refl _) o
  have HE : Hid (attrB x.attrs name val = match getA name x.attrs with | none => false | some v => v.toList == val.toList) := rfl
  cases hg : getA name x.attrs with
  | none =>
    simp only [nodeV]
    go_enter Tryz.func225, Tryz.ntmps225
    go_wp2_with (go_at_call 51; refine (get_any x _ name _ (HA.out.ext (Ext.below (hb0 _).out)) HS.out).mono ?_; rintro e w' ⟨rfl, hb⟩; rw [hg]; simp only [getV, Option.getD, Option.isSome])
    go_ret
    refine ⟨ret_bool ?_, below_trans (hb0 _).out hb (Nat.le_refl _)⟩
    rw [HE.out, hg]
  | some v =>
    simp only [nodeV]
    go_enter Tryz.func225, Tryz.ntmps225
    go_wp2_with (go_at_call 51; refine (get_any x _ name _ (HA.out.ext (Ext.below (hb0 _).out)) HS.out).mono ?_; rintro e w' ⟨rfl, hb⟩; rw [hg]; simp only [getV, Option.getD, Option.isSome])
    go_ret
    refine ⟨ret_bool ?_, below_trans (hb0 _).out hb (Nat.le_refl _)⟩
    rw [HE.out, hg]
theorem cell_new (w : World) (cs : Array Value) (t : TypeId) (j : Nat) : (w.alloc (.cells cs t)).cell? ⟨w.heap.size, j, none⟩ = cs[j]? := by
  unfold World.cell?
  rw [heap_alloc_new]
  rfl
theorem getA_small {name : ByteArray} : ∀ {l : List At} {v : ByteArray}, getA name l = some v → ∃ a ∈ l, a.val = v
  | [], v, h => by cases h
  | a :: l, v, h => by
    unfold getA at h
    split at h
    · injection h with h; exact ⟨a, List.mem_cons_self .., h⟩
    · obtain ⟨b, hb, e⟩ := getA_small h; exact ⟨b, List.mem_cons_of_mem _ hb, e⟩
set_option maxHeartbeats 1000000 in
theorem hasClass_any (x : Nd) (av : Value) (name : ByteArray) (w : World) (hA : AtsAt w av x.attrs) (hs : SmN x) (hm : Mx w) :
    Calls Tryz.prog 224 #[nodeV x av, .string name] w fun e w' => e = .returned (.bool (clsOf x.attrs name)) ∧ Below w.heap.size w w' := by
  obtain ⟨sa, sc, rfl⟩ := Sl.form hA
  have HA := hid hA
  have HS := hid hs
  have HM := hid hm
  clear hA hs hm
  have hb0 : ∀ o, Hid (Below w.heap.size w (w.alloc o)) := fun o => (Below.refl _ _).alloc (Nat.le_refl _) o
  have HE : Hid (clsOf x.attrs name = match getA clsN x.attrs with | none => false | some v => clsB v name) := rfl
  cases hg : getA clsN x.attrs with
  | none =>
    simp only [nodeV]
    go_enter Tryz.func224, Tryz.ntmps224
    go_wp2_with (go_at_call 51; refine (get_any x _ clsN _ (HA.out.ext (Ext.below (hb0 _).out)) HS.out).mono ?_; rintro e w' ⟨rfl, hb⟩; rw [hg]; simp only [getV, Option.getD, Option.isSome])
    go_ret
    refine ⟨ret_bool ?_, below_trans (hb0 _).out hb (Nat.le_refl _)⟩
    rw [HE.out, hg]
  | some v =>
    have hv : v.size ≤ lim := by obtain ⟨a, ha, e⟩ := getA_small hg; rw [← e]; exact HS.out.vals a ha
    unfold lim at hv
    have HG := hid hg
    clear hg
    simp only [nodeV]
    go_enter Tryz.func224, Tryz.ntmps224
    cases hq : name.toList.isEmpty
    · go_wp2_with (go_at_call 51; refine (get_any x _ clsN _ (HA.out.ext (Ext.below (hb0 _).out)) HS.out).mono ?_; rintro e w2 ⟨rfl, hb⟩; rw [HG.out]; simp only [getV, Option.getD, Option.isSome])
      have HB2 := hid (below_trans (hb0 _).out hb (Nat.le_refl _))
      obtain ⟨m, hm⟩ := HM.out.ext (Ext.below HB2.out)
      clear hb
      refine (Tryz.strings_Split v blank m w2 (by omega) hm (by decide)).mono ?_
      rintro e w3 ⟨rfl, rfl⟩
      clear hm
      have hlen := Lib.splitB_all blank (by decide) 0 (Lib.countB v blank) v rfl
      have HC : Hid (clsB v name = Lib.containsS (Lib.splitB blank 0 (Lib.countB v blank) v) name) := by
        show clsB v name = _
        unfold clsB; rw [hq]; rfl
      have hcb : Lib.countB v blank ≤ v.size + 1 := Nat.le_succ_of_le (Lib.countB_le blank (by decide) _ v (Nat.le_refl _))
      have HX := hid hlen
      generalize Lib.splitB blank 0 (Lib.countB v blank) v = zs at *
      generalize Lib.countB v blank = n at *
      clear hlen
      go_wp2_with fail
      refine (Tryz.slices_Contains_string _ 0 _ _ zs name _ (by rw [HX.out]; exact Nat.le_refl _) (by omega) ?_).mono ?_
      · intro j hj
        rw [Nat.zero_add, cell_new, List.getElem?_toArray, List.getElem?_map, List.getElem?_eq_getElem hj]
        simp [List.getD, hj]
      rintro e w3 ⟨rfl, rfl⟩
      go_wp2_with fail
      go_ret
      refine ⟨ret_bool ?_, HB2.out.alloc HB2.out.size _⟩
      rw [HE.out, HG.out]
      simp only
      rw [HC.out, List.take_of_length_le (by rw [HX.out]; exact Nat.le_refl _)]
    · have HC : Hid (clsB v name = false) := by
        show clsB v name = _
        unfold clsB; rw [hq]; rfl
      go_wp2_with (go_at_call 51; refine (get_any x _ clsN _ (HA.out.ext (Ext.below (hb0 _).out)) HS.out).mono ?_; rintro e w2 ⟨rfl, hb⟩; rw [HG.out]; simp only [getV, Option.getD, Option.isSome])
      go_ret
      refine ⟨ret_bool ?_, below_trans (hb0 _).out hb (Nat.le_refl _)⟩
      rw [HE.out, HG.out]
      exact HC.out.symm
end Go.Proofs.YtblkldfokeeaeacGreatDoor
namespace Go.Proofs.YtblkldfokeeaeacGreatDoor
open Go.RowKit
def testV (t : Ts) : Value := .agg #[.int .i64 t.kind, .string t.name, .string t.val]
def partV (p : Pt) (v : Value) : Value := .agg #[.int .i64 p.join, v]
theorem eN.cells {w : World} {b o : Nat} {x : Nd} (h : eN w (fun j => w.cell? ⟨b, o + j, none⟩) x) : ∃ a cap, w.cell? ⟨b, o, none⟩ = some (.string x.name) ∧ w.cell? ⟨b, o + 1, none⟩ = some (.int .i64 x.parent) ∧ w.cell? ⟨b, o + 2, none⟩ = some (.slice a x.attrs.length cap) ∧
    w.cell? ⟨b, o + 3, none⟩ = some (.int .i64 x.ne) ∧ w.cell? ⟨b, o + 4, none⟩ = some (.int .i64 x.fr) ∧ w.cell? ⟨b, o + 5, none⟩ = some (.int .i64 x.to) ∧ AtsAt w (.slice a x.attrs.length cap) x.attrs := by
  obtain ⟨h0, h1, ⟨v, h2, h2'⟩, h3, h4, h5⟩ := h
  obtain ⟨a, cap, rfl⟩ := Sl.form h2'
  exact ⟨a, cap, h0, h1, h2, h3, h4, h5, h2'⟩
theorem eT.cells {w : World} {b o : Nat} {x : Ts} (h : eT (fun j => w.cell? ⟨b, o + j, none⟩) x) : w.cell? ⟨b, o, none⟩ = some (.int .i64 x.kind) ∧ w.cell? ⟨b, o + 1, none⟩ = some (.string x.name) ∧ w.cell? ⟨b, o + 2, none⟩ = some (.string x.val) := h
set_option maxHeartbeats 2000000 in
theorem isAsTest_any (lv : Value) (l : List Nd) (k : Nat) (t : Ts) (w : World) (hl : NdsAt w lv l) (hs : SmNs l) (hk : k < l.length) (hm : Mx w) :
    Calls Tryz.prog 218 #[lv, .int .i64 (k : Int), testV t] w fun e w' => e = .returned (.bool (testB l k t)) ∧ Below w.heap.size w w' := by
  obtain ⟨a, cap, rfl⟩ := Sl.form hl
  obtain ⟨b, off, rfl, he⟩ := Sl.at hl hk
  obtain ⟨sa, sc, c0, c1, c2, c3, c4, c5, hA⟩ := he.cells
  have hbs := lt_of_cell c0
  have hlen := hs.1
  unfold lim at hlen
  have HS := hid (hs.2 l[k] (List.getElem_mem hk))
  have HA := hid hA
  have HL := hid hl
  have HN := hid hs.1
  have HM := hid hm
  have hkl : (k : Int) < (l.length : Int) := by omega
  clear he hA hl hs hm
  obtain ⟨kd, nm, vl⟩ := t
  have HT : Hid (testB l k ⟨kd, nm, vl⟩ = if kd = 1 then l[k].name.toList == nm.toList else if kd = 2 then clsOf l[k].attrs nm else if kd = 3 then attrB l[k].attrs idN nm else if kd = 4 then (getA nm l[k].attrs).isSome
    else if kd = 5 then attrB l[k].attrs nm vl else if kd = 6 then decide (ahead l k < 0) else false) := by
    show testB _ _ _ = _
    simp only [testB, ndAt_eq hk]
  have hb0 : ∀ o o', Hid (Below w.heap.size w ((w.alloc o).alloc o')) := fun o o' => ((Below.refl _ _).alloc (Nat.le_refl _) o).alloc (by simp) o'
  generalize l[k] = x at *
  simp only [testV]
  by_cases h1 : kd = 1
  · subst h1
    go_enter Tryz.func218, Tryz.ntmps218
    go_wp2_with fail
    go_ret
    exact ⟨ret_bool (by rw [HT.out]; rfl), (hb0 _ _).out⟩
  by_cases h2 : kd = 2
  · subst h2
    go_enter Tryz.func218, Tryz.ntmps218
    go_wp2_with (go_at_call 224; refine (hasClass_any x _ nm _ (HA.out.ext (Ext.below (hb0 _ _).out)) HS.out (HM.out.ext (Ext.below (hb0 _ _).out))).mono ?_; rintro e w' ⟨rfl, hb⟩)
    go_ret
    exact ⟨ret_bool (by rw [HT.out]; rfl), below_trans (hb0 _ _).out hb (Nat.le_refl _)⟩
  by_cases h3 : kd = 3
  · subst h3
    go_enter Tryz.func218, Tryz.ntmps218
    go_wp2_with (go_at_call 225; refine (isAttr_any x _ idN nm _ (HA.out.ext (Ext.below (hb0 _ _).out)) HS.out).mono ?_; rintro e w' ⟨rfl, hb⟩)
    go_ret
    exact ⟨ret_bool (by rw [HT.out]; rfl), below_trans (hb0 _ _).out hb (Nat.le_refl _)⟩
  by_cases h4 : kd = 4
  · subst h4
    go_enter Tryz.func218, Tryz.ntmps218
    go_wp2_with (go_at_call 51; refine (get_any x _ nm _ (HA.out.ext (Ext.below (hb0 _ _).out)) HS.out).mono ?_; rintro e w' ⟨rfl, hb⟩; simp only [getV])
    go_ret
    exact ⟨ret_bool (by rw [HT.out]; rfl), below_trans (hb0 _ _).out hb (Nat.le_refl _)⟩
  by_cases h5 : kd = 5
  · subst h5
    go_enter Tryz.func218, Tryz.ntmps218
    go_wp2_with (go_at_call 225; refine (isAttr_any x _ nm vl _ (HA.out.ext (Ext.below (hb0 _ _).out)) HS.out).mono ?_; rintro e w' ⟨rfl, hb⟩)
    go_ret
    exact ⟨ret_bool (by rw [HT.out]; rfl), below_trans (hb0 _ _).out hb (Nat.le_refl _)⟩
  by_cases h6 : kd = 6
  · subst h6
    go_enter Tryz.func218, Tryz.ntmps218
    go_wp2_with (go_at_call 219; refine (ahead_any _ l k _ (HL.out.ext (Ext.below (hb0 _ _).out)) HN.out hk).mono ?_; rintro e w' ⟨rfl, n, rfl⟩)
    go_ret
    exact ⟨ret_bool (by rw [HT.out]; rfl), below_dN (hb0 _ _).out n⟩
  · have HT2 : Hid (testB l k ⟨kd, nm, vl⟩ = false) := by
      have := HT.out
      rw [if_neg h1, if_neg h2, if_neg h3, if_neg h4, if_neg h5, if_neg h6] at this
      exact this
    go_enter Tryz.func218, Tryz.ntmps218
    go_wp2_with fail
    go_ret
    exact ⟨ret_bool (by rw [HT2.out]), (hb0 _ _).out⟩
set_option maxHeartbeats 1000000 in
theorem isAsPart_any (lv : Value) (l : List Nd) (k : Nat) (p : Pt) (tv : Value) (w : World) (hl : NdsAt w lv l) (hs : SmNs l) (hk : k < l.length) (hm : Mx w) (ht : TsAt w tv p.tests) (hts : p.tests.length ≤ lim) :
    Calls Tryz.prog 203 #[lv, .int .i64 (k : Int), partV p tv] w fun e w' => e = .returned (.bool (partB l k p)) ∧ Below w.heap.size w w' := by
  obtain ⟨a, cap, rfl⟩ := Sl.form ht
  obtain ⟨jn, ts⟩ := p
  simp only at ht hts
  have HT := hid ht
  have HL := hid hl
  have HS := hid hs
  have HM := hid hm
  have HK := hid hk
  unfold lim at hts
  have HE : Hid (partB l k ⟨jn, ts⟩ = ts.all (testB l k)) := rfl
  generalize partB l k ⟨jn, ts⟩ = R at *
  clear ht hl hs hm hk
  simp only [partV]
  go_enter Tryz.func203, Tryz.ntmps203
  go_wp2_with fail
  go_loopg [12] ts.length (fun n i wr => ∃ j : Nat, n = ts.length - j ∧ j ≤ ts.length ∧ i = .int .i64 (j : Int) ∧ R = (ts.drop j).all (testB l k) ∧ Below w.heap.size w wr)
  case atStart => exact ⟨0, rfl, Nat.zero_le _, rfl, HE.out, (Below.refl _ _).alloc (Nat.le_refl _) _⟩
  case round =>
    obtain ⟨j, hn, hj, rfl, hR, hB⟩ := hrel
    have GK := hid hn
    have HB := hid hB
    have HR := hid hR
    clear hn hB hR
    by_cases hlt : j < ts.length
    · obtain ⟨b, off, rfl, he⟩ := Sl.at (TsAt.ext HT.out (Ext.below HB.out)) hlt
      obtain ⟨c0, c1, c2⟩ := he.cells
      have HR2 : Hid (R = (testB l k ts[j] && (ts.drop (j + 1)).all (testB l k))) := by
        show R = _
        rw [HR.out, List.drop_eq_getElem_cons hlt]; rfl
      clear he
      generalize ts[j] = t at *
      have HB3 : ∀ o, Hid (Below w.heap.size w (wr.alloc o)) := fun o => HB.out.alloc HB.out.size o
      go_wp2_with (go_at_call 218; refine (isAsTest_any lv l k t _ (HL.out.ext (Ext.below (HB3 _).out)) HS.out HK.out (HM.out.ext (Ext.below (HB3 _).out))).mono ?_; rintro e w' ⟨rfl, hb⟩; have HB4 := hid (below_trans (HB3 _).out hb (Nat.le_refl _)); clear hb; rcases htb : testB l k t)
      · have HR3 : Hid (R = false) := by have := HR2.out; rw [htb] at this; exact this
        go_ret
        exact ⟨ret_bool HR3.out.symm, HB4.out⟩
      · have HR3 : Hid (R = (ts.drop (j + 1)).all (testB l k)) := by have := HR2.out; rw [htb] at this; exact this
        go_roundg (ts.length - (j + 1))
        case measure => have := GK.out; omega
        case rel => exact ⟨j + 1, rfl, by omega, by go_num, HR3.out, HB4.out⟩
    · have HR3 : Hid (R = true) := by
        show R = true
        rw [HR.out, List.drop_eq_nil_of_le (by omega)]; rfl
      go_wp2_with fail
      go_ret
      exact ⟨ret_bool HR3.out.symm, HB.out⟩
end Go.Proofs.YtblkldfokeeaeacGreatDoor
