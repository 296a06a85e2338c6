/-
  What read and Parse of package page do: the plain answer of the Spec text, in new memory. Conditions: the cell of internal/bytealg.MaxLen holds some int; the text is shorter than 2 to the 63.
-/
import Derived.Test.YtanedepdhbdcgaaPage8
namespace Go.Proofs.Ytanedepdhbdcgaa
open Go.RowKit

theorem NdsAt.lower {w : World} {base base' : Nat} {nv : Value} {L : List Nd} (h : NdsAt w base nv L) (hb : base' ≤ base) : NdsAt w base' nv L := by
  obtain ⟨LV, h1, h2, h3⟩ := h
  refine ⟨LV, h1, ⟨h2.1, ?_⟩, h3⟩
  rcases h2.2 with h | ⟨g, cap, cur, h0, hg, hr⟩
  · exact .inl h
  · exact .inr ⟨g, cap, cur, h0, by omega, hr⟩

set_option maxHeartbeats 2000000 in
theorem read_any (s : ByteArray) (mx : Int) (w : World) (R : Ending → World → Prop) (hl : s.size ≤ 6000) (hmx : w.cell? ⟨0, 0, none⟩ = some (.int .i64 mx))
    (hok : Hid (∀ L nv w', readAll s.data.toList = .ok L → NdsAt w' w.heap.size nv L → Below w.heap.size w w' → L.length ≤ 120 → R (.returned (.tuple #[nv, .agg #[.int .i64 0, .int .i64 0]])) w'))
    (hbad : Hid (∀ (x : Nat × Nat) w', readAll s.data.toList = .error x → Below w.heap.size w w' → R (.returned (.tuple #[.slice none 0 0, .agg #[.int .i64 x.1, .int .i64 x.2]])) w')) :
    Calls Try.prog 32 #[.string s] w R := by
  have hmf : ∀ (fn : Fn) (first cap : Array Value) (w : World), (Instr.makeFunc fn first cap).run Try.prog w = .ok (.func fn first cap) w := fun _ _ _ _ => rfl
  have h0 := lt_of_cell hmx
  go_enter_defers Try.func32, Try.ntmps32
  go_wp2_with (first | (go_at_call 50; refine (new_any _ _).mono ?_; rintro e w1 ⟨rfl, hb1⟩))
  have hbW : Below w.heap.size w w1 := ((((Below.refl _ _).alloc (Nat.le_refl _) _).alloc (by simp) _).trans (hb1.mono (by simp; omega)))
  have L1 := (hb1.block w.heap.size (by simp; omega)).trans (block_two0 w #[.slice none 0 0] 22)
  have F1 := (hb1.block (w.heap.size + 1) (by simp)).trans (block_two1 w #[.int .i64 0, .int .i64 0] 25)
  have s1 : w.heap.size + 2 ≤ w1.heap.size := by have := hb1.size; simpa using this
  have hr0 : Rd (w1.alloc (.cells #[.string s, .int .i64 0, .slice none 0 0] 93)) w1.heap.size s 0 (.slice none 0 0) := heap_alloc_new w1 _
  have m0 : (w1.alloc (.cells #[.string s, .int .i64 0, .slice none 0 0] 93)).cell? ⟨0, 0, none⟩ = some (.int .i64 mx) := cell_alloc ((hbW.cell (p := ⟨0, 0, none⟩) h0).trans hmx) _
  have L2 := (Below.heap_alloc w1 (.cells #[.string s, .int .i64 0, .slice none 0 0] 93) _ (by omega)).trans L1
  have F2 := (Below.heap_alloc w1 (.cells #[.string s, .int .i64 0, .slice none 0 0] 93) _ (by omega)).trans F1
  have hbX : Below w.heap.size w (w1.alloc (.cells #[.string s, .int .i64 0, .slice none 0 0] 93)) := hbW.alloc (by omega) _
  refine page_any w1.heap.size s (w1.heap.size + 1) mx (.slice none 0 0) _ _ hl (by omega) (by simp) (by omega) m0 hr0 ⟨[], rfl, World.ownsRow_nil _ _ _ _, by simp⟩ ?_ ?_
  · intro L nv w2 k' he hr2 hn2 hst hL
    have c2 := hr2.c2
    have L3 := (hst.kp.block w.heap.size (by simp; omega) (by simp [Value.ownBlock]; omega)).trans L2
    have F3 := (hst.kp.block (w.heap.size + 1) (by simp; omega) (by simp [Value.ownBlock]; omega)).trans F2
    have l0 := cell_of L3 0
    have lz := fz_of L3 0
    have f0 := cell_of F3 0
    have f1 := cell_of F3 1
    have fz0 := fz_of F3 0
    have fz1 := fz_of F3 1
    simp at l0 f0 f1
    obtain ⟨na, ncap, rfl⟩ := hn2.form
    have HN := hid hn2
    have EX := hid he
    have HL := hid L3
    have HF := hid F3
    have hbY : Below w.heap.size w w2 := hbX.trans ⟨hst.kp.os, hst.kp.tape, hst.kp.output, hst.kp.size, fun j hj => hst.kp.block j (by simp; omega) (by simp [Value.ownBlock]; omega)⟩
    have UN := hid hbY
    clear he hn2 hst L3 F3 L1 F1 L2 F2 hb1 hbW hbX hbY m0 hr0
    go_wp2_with fail
    have kk : Kp (fun j => j = w.heap.size ∨ j = w.heap.size + 1) w2 (((w2.setCell ⟨w.heap.size, 0, none⟩ (.slice na L.length ncap)).setCell ⟨w.heap.size + 1, 0, none⟩ (.int .i64 0)).setCell ⟨w.heap.size + 1, 1, none⟩ (.int .i64 0)) :=
      (((Kp.set w2 w.heap.size 0 (.slice na L.length ncap)).weaken (fun _ h => .inl h)).trans ((Kp.set _ (w.heap.size + 1) 0 (.int .i64 0)).weaken (fun _ h => .inr h))).trans ((Kp.set _ (w.heap.size + 1) 1 (.int .i64 0)).weaken (fun _ h => .inr h))
    refine leaves_cons (f := 49) (args := #[.pointer (some ⟨w.heap.size, 0, none⟩), .pointer (some ⟨w.heap.size + 1, 0, none⟩)]) (by simp) (by simp [go_sem]) ?_
    refine (catch_idle w.heap.size (w.heap.size + 1) _).mono ?_
    rintro e u' w'' ⟨rfl, rfl, o, rfl⟩
    have z2 : w.heap.size + 1 < w2.heap.size := (Array.getElem?_eq_some_iff.1 HF.out).1
    have L4 : ((((w2.setCell ⟨w.heap.size, 0, none⟩ (.slice na L.length ncap)).setCell ⟨w.heap.size + 1, 0, none⟩ (.int .i64 0)).setCell ⟨w.heap.size + 1, 1, none⟩ (.int .i64 0)).alloc o).heap[w.heap.size]? = some (.cells #[.slice na L.length ncap] 22 (0, 0)) := by
      rw [Below.heap_alloc _ _ _ (by simp [World.setCell]; omega), Below.heap_setCell _ _ _ _ (by simp), Below.heap_setCell _ _ _ _ (by simp), heap_set HL.out]
      simp
    have F4 : ((((w2.setCell ⟨w.heap.size, 0, none⟩ (.slice na L.length ncap)).setCell ⟨w.heap.size + 1, 0, none⟩ (.int .i64 0)).setCell ⟨w.heap.size + 1, 1, none⟩ (.int .i64 0)).alloc o).heap[w.heap.size + 1]? = some (.cells #[.int .i64 0, .int .i64 0] 25 (0, 0)) := by
      have := heap_set (heap_set ((Below.heap_setCell w2 ⟨w.heap.size, 0, none⟩ (.slice na L.length ncap) (w.heap.size + 1) (by simp)).trans HF.out) 0 (.int .i64 0)) 1 (.int .i64 0)
      rw [Below.heap_alloc _ _ _ (by simp [World.setCell]; omega), this]
      simp
    have ka : Kp (fun j => j = w.heap.size ∨ j = w.heap.size + 1) w2 ((((w2.setCell ⟨w.heap.size, 0, none⟩ (.slice na L.length ncap)).setCell ⟨w.heap.size + 1, 0, none⟩ (.int .i64 0)).setCell ⟨w.heap.size + 1, 1, none⟩ (.int .i64 0)).alloc o) := kk.trans (Kp.alloc _ o)
    have ub : Below w.heap.size w ((((w2.setCell ⟨w.heap.size, 0, none⟩ (.slice na L.length ncap)).setCell ⟨w.heap.size + 1, 0, none⟩ (.int .i64 0)).setCell ⟨w.heap.size + 1, 1, none⟩ (.int .i64 0)).alloc o) := (((UN.out.setCell (by simp) _).setCell (by simp) _).setCell (by simp) _).alloc (by simp [World.setCell]; omega) _
    have q0 := cell_of L4 0
    have q1 := cell_of F4 0
    have q2 := cell_of F4 1
    simp at q0 q1 q2
    have nd := NdsAt.lower (HN.out.of ka (by
      rintro j (rfl | rfl) cur fz
      · rw [HL.out]; simp
      · rw [HF.out]; simp)) (base' := w.heap.size) (by omega)
    have fin := hok.out L (.slice na L.length ncap) _ EX.out nd ub hL
    generalize ((((w2.setCell ⟨w.heap.size, 0, none⟩ (.slice na L.length ncap)).setCell ⟨w.heap.size + 1, 0, none⟩ (.int .i64 0)).setCell ⟨w.heap.size + 1, 1, none⟩ (.int .i64 0)).alloc o) = W3 at q0 q1 q2 fin ⊢
    simp [Leaves, settle, results, Try.results32, go_sem, q0, q1, q2]
    exact fin
  · intro x w2 he hbl
    have L3 := (hbl.block w.heap.size (by omega)).trans L2
    have F3 := (hbl.block (w.heap.size + 1) (by omega)).trans F2
    have l0 := cell_of L3 0
    have lz := fz_of L3 0
    have f0 := cell_of F3 0
    have f1 := cell_of F3 1
    have fz0 := fz_of F3 0
    have fz1 := fz_of F3 1
    simp at l0 f0 f1
    have UN : Below w.heap.size w w2 := hbX.trans (hbl.mono (by omega))
    refine leaves_cons (f := 49) (args := #[.pointer (some ⟨w.heap.size, 0, none⟩), .pointer (some ⟨w.heap.size + 1, 0, none⟩)]) (by simp) (by simp [go_sem]) ?_
    refine (catch_panicking w.heap.size (w.heap.size + 1) x.1 x.2 [] _ _ _ _ l0 f0 f1 lz fz0 fz1 (by omega)).mono ?_
    rintro e u' w'' ⟨rfl, rfl, n, o, rfl⟩
    have z2 : w.heap.size + 1 < w2.heap.size := (Array.getElem?_eq_some_iff.1 F3).1
    have L4 : (((((w2.setCell ⟨w.heap.size, 0, none⟩ (.slice none 0 0)).setCell ⟨w.heap.size + 1, 0, none⟩ (.int .i64 x.1)).setCell ⟨w.heap.size + 1, 1, none⟩ (.int .i64 x.2)).alloc o).drewN n).heap[w.heap.size]? = some (.cells #[.slice none 0 0] 22 (0, 0)) := by
      show ((((w2.setCell ⟨w.heap.size, 0, none⟩ (.slice none 0 0)).setCell ⟨w.heap.size + 1, 0, none⟩ (.int .i64 x.1)).setCell ⟨w.heap.size + 1, 1, none⟩ (.int .i64 x.2)).alloc o).heap[w.heap.size]? = _
      rw [Below.heap_alloc _ _ _ (by simp [World.setCell]; omega), Below.heap_setCell _ _ _ _ (by simp), Below.heap_setCell _ _ _ _ (by simp), heap_set L3]
      simp
    have F4 : (((((w2.setCell ⟨w.heap.size, 0, none⟩ (.slice none 0 0)).setCell ⟨w.heap.size + 1, 0, none⟩ (.int .i64 x.1)).setCell ⟨w.heap.size + 1, 1, none⟩ (.int .i64 x.2)).alloc o).drewN n).heap[w.heap.size + 1]? = some (.cells #[.int .i64 x.1, .int .i64 x.2] 25 (0, 0)) := by
      have := heap_set (heap_set ((Below.heap_setCell w2 ⟨w.heap.size, 0, none⟩ (.slice none 0 0) (w.heap.size + 1) (by simp)).trans F3) 0 (.int .i64 x.1)) 1 (.int .i64 x.2)
      show ((((w2.setCell ⟨w.heap.size, 0, none⟩ (.slice none 0 0)).setCell ⟨w.heap.size + 1, 0, none⟩ (.int .i64 x.1)).setCell ⟨w.heap.size + 1, 1, none⟩ (.int .i64 x.2)).alloc o).heap[w.heap.size + 1]? = _
      rw [Below.heap_alloc _ _ _ (by simp [World.setCell]; omega), this]
      simp
    have ub : Below w.heap.size w (((((w2.setCell ⟨w.heap.size, 0, none⟩ (.slice none 0 0)).setCell ⟨w.heap.size + 1, 0, none⟩ (.int .i64 x.1)).setCell ⟨w.heap.size + 1, 1, none⟩ (.int .i64 x.2)).alloc o).drewN n) := below_drewN' ((((UN.setCell (by simp) _).setCell (by simp) _).setCell (by simp) _).alloc (by simp [World.setCell]; omega) _) _
    have q0 := cell_of L4 0
    have q1 := cell_of F4 0
    have q2 := cell_of F4 1
    simp only [List.getElem?_toArray, List.getElem?_cons_zero, List.getElem?_cons_succ] at q0 q1 q2
    have fin := hbad.out x _ he ub
    generalize (((((w2.setCell ⟨w.heap.size, 0, none⟩ (.slice none 0 0)).setCell ⟨w.heap.size + 1, 0, none⟩ (.int .i64 x.1)).setCell ⟨w.heap.size + 1, 1, none⟩ (.int .i64 x.2)).alloc o).drewN n) = W3 at q0 q1 q2 fin ⊢
    simp [Leaves, settle, results, Try.results32, go_sem, q0, q1, q2]
    exact fin

theorem parse_any (s : ByteArray) (mx : Int) (w : World) (R : Ending → World → Prop) (hmx : w.cell? ⟨0, 0, none⟩ = some (.int .i64 mx)) (hsz : s.size ≤ 9223372036854775807)
    (hok : Hid (∀ L nv w', parse s.data.toList = .ok L → NdsAt w' w.heap.size nv L → Below w.heap.size w w' → L.length ≤ 120 → R (.returned (.tuple #[nv, .agg #[.int .i64 0, .int .i64 0]])) w'))
    (hbad : Hid (∀ (x : Nat × Nat) w', parse s.data.toList = .error x → Below w.heap.size w w' → R (.returned (.tuple #[.slice none 0 0, .agg #[.int .i64 x.1, .int .i64 x.2]])) w')) :
    Calls Try.prog 13 #[.string s] w R := by
  have hS : s.size = s.data.toList.length := Lib.size_eq s
  by_cases hbig : 6000 < s.size
  · have EX : Hid (parse s.data.toList = .error (4, 0)) := by
      show parse s.data.toList = .error (4, 0)
      unfold parse
      rw [if_pos (by omega)]
    clear hS
    go_enter Try.func13, Try.ntmps13
    go_wp2_with fail
    refine bodyPost_ret (v := .tuple #[.slice none 0 0, .agg #[.int .i64 4, .int .i64 0]]) (by simp [results, Try.results13, go_sem]) rfl ?_
    exact hbad.out (4, 0) _ EX.out ((Below.refl _ _).alloc (Nat.le_refl _) _)
  · have hl : s.size ≤ 6000 := by omega
    have PE : Hid (parse s.data.toList = readAll s.data.toList) := by
      show parse s.data.toList = readAll s.data.toList
      unfold parse
      rw [if_neg (by omega)]
    have hmx' := cell_alloc hmx
    have h0 := lt_of_cell hmx
    clear hS
    go_enter Try.func13, Try.ntmps13
    go_wp2_with fail
    refine read_any s mx _ _ hl (hmx' _) ?_ ?_
    · intro L nv w1 he hn hb hL
      have F1 := (hb.block w.heap.size (by simp)).trans (heap_alloc_new w (.cells #[.int .i64 0, .int .i64 0] 25))
      have f0 := cell_of F1 0
      have f1 := cell_of F1 1
      have z0 := fz_of F1 0
      have z1 := fz_of F1 1
      simp at f0 f1
      obtain ⟨na, ncap, rfl⟩ := hn.form
      have HN := hid hn
      have HF := hid F1
      have UN : Hid (Below w.heap.size w w1) := (((Below.refl _ _).alloc (Nat.le_refl _) _).trans (hb.mono (by simp)))
      have EX : Hid (parse s.data.toList = .ok L) := PE.out.trans he
      have z2 : w.heap.size < w1.heap.size := (Array.getElem?_eq_some_iff.1 F1).1
      clear hn F1 he hb
      go_wp2_with fail
      refine bodyPost_ret (v := .tuple #[.slice na L.length ncap, .agg #[.int .i64 0, .int .i64 0]]) (by simp [results, Try.results13, go_sem, f0, f1]) rfl ?_
      refine hok.out L _ _ EX.out (NdsAt.lower (HN.out.of ((Kp.set w1 w.heap.size 0 _).trans (Kp.set _ w.heap.size 1 _)) ?_) (by simp)) ((UN.out.setCell (by simp) _).setCell (by simp) _) hL
      rintro j rfl cur fz
      rw [HF.out]; simp
    · intro x w1 he hb
      have F1 := (hb.block w.heap.size (by simp)).trans (heap_alloc_new w (.cells #[.int .i64 0, .int .i64 0] 25))
      have f0 := cell_of F1 0
      have f1 := cell_of F1 1
      have z0 := fz_of F1 0
      have z1 := fz_of F1 1
      simp at f0 f1
      have UN : Hid (Below w.heap.size w w1) := (((Below.refl _ _).alloc (Nat.le_refl _) _).trans (hb.mono (by simp)))
      have EX : Hid (parse s.data.toList = .error x) := PE.out.trans he
      clear F1 he hb
      go_wp2_with fail
      refine bodyPost_ret (v := .tuple #[.slice none 0 0, .agg #[.int .i64 x.1, .int .i64 x.2]]) (by simp [results, Try.results13, go_sem, f0, f1]) rfl ?_
      exact hbad.out x _ EX.out ((UN.out.setCell (by simp) _).setCell (by simp) _)
end Go.Proofs.Ytanedepdhbdcgaa
