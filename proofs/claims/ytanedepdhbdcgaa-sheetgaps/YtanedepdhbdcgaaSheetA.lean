/-
  What read, of declarations, and Decls of package sheet do: the plain answer of the SheetSpec text, in new memory. Conditions: the cell of internal/bytealg.MaxLen holds some int; the text is shorter than 2 to the 63.
-/
import Derived.Test.YtanedepdhbdcgaaSheet9
namespace Go.Proofs.Ytanedepdhbdcgaa
open Go.RowKit

set_option maxHeartbeats 1000000 in
theorem dcatch_panicking (q : Nat) (er at_ : Int) (older : List PanicEntry) (w : World) (e0 a0 : Int) (hf0 : w.cell? ⟨q, 0, none⟩ = some (.int .i64 e0)) (hf1 : w.cell? ⟨q, 1, none⟩ = some (.int .i64 a0))
    (z0 : w.frozen? ⟨q, 0, none⟩ = false) (z1 : w.frozen? ⟨q, 1, none⟩ = false) :
    CallsD Try.prog 69 #[.pointer (some ⟨q, 0, none⟩)] (.panicking ({ v := .iface 87 (.agg #[.int .i64 er, .int .i64 at_]), recovered := false } :: older)) w fun e u' w' =>
      e = .returned (.tuple #[]) ∧ u' = .panicking ({ v := .iface 87 (.agg #[.int .i64 er, .int .i64 at_]), recovered := true } :: older) ∧
      ∃ n o, w' = (((w.setCell ⟨q, 0, none⟩ (.int .i64 er)).setCell ⟨q, 1, none⟩ (.int .i64 at_)).alloc o).drewN n := by
  have hta : ∀ w : World, (Instr.typeAssert (.iface 87 (.agg #[.int .i64 er, .int .i64 at_])) 20 87 true).run Try.prog w = .ok (.tuple #[.agg #[.int .i64 er, .int .i64 at_], .bool true]) w := fun _ => by kernel_rfl
  refine callsD_of_wpS Try.func69 rfl fun c₀ cs hu => ?_
  apply wpS_seq
  apply wpS_region
  simp [wpOpsS, go_sem, recoverD, hu, Try.ntmps69, Exit.thenS, hta]
  refine wpS_of_wp ?_
  simp only [← List.toArray_replicate, List.replicate, List.setIfInBounds_toArray, List.set_cons_zero, List.set_cons_succ, List.append_toArray, List.cons_append, List.nil_append]
  have hq : q < w.heap.size := lt_of_cell hf0
  have g3 : ¬ q = w.heap.size := by omega
  have g4 : ¬ w.heap.size = q := by omega
  have c2 := cell_alloc hf0
  have c3 := cell_alloc hf1
  have d2 := frozen_alloc' hq z0
  have d3 := frozen_alloc' hq z1
  go_wp2_with fail
  refine (?_ : bodyPostS _ _ _ _ _ _ _ _ _)
  simp [bodyPostS, results, Try.results69]
  exact ⟨0, _, rfl⟩

set_option maxHeartbeats 1000000 in
theorem dcatch_idle (q : Nat) (w : World) :
    CallsD Try.prog 69 #[.pointer (some ⟨q, 0, none⟩)] .returning w fun e u' w' => e = .returned (.tuple #[]) ∧ u' = .returning ∧ ∃ o, w' = w.alloc o := by
  have hta : ∀ w : World, (Instr.typeAssert .nilIface 20 87 true).run Try.prog w = .ok (.tuple #[.agg #[.int .i64 0, .int .i64 0], .bool false]) w := fun _ => by kernel_rfl
  refine callsD_of_wpS Try.func69 rfl fun c₀ cs hu => ?_
  apply wpS_seq
  apply wpS_region
  simp [wpOpsS, go_sem, recoverD, hu, Try.ntmps69, Exit.thenS, hta]
  refine wpS_of_wp ?_
  simp only [← List.toArray_replicate, List.replicate, List.setIfInBounds_toArray, List.set_cons_zero, List.set_cons_succ, List.append_toArray, List.cons_append, List.nil_append]
  go_wp2_with fail
  simp [bodyPostS, results, Try.results69]
  refine ⟨.returning, ?_, rfl, _, rfl⟩
  cases c₀
  simp only at hu
  rw [hu]

set_option maxHeartbeats 2000000 in
theorem read_decls (s : ByteArray) (w : World) (R : Ending → World → Prop) (hsz : s.size ≤ 9223372036854776907) (hmx : Mx w)
    (hok : Hid (∀ L nv w', declsParse s.data.toList = .ok L → DsAt w' nv L → Below w.heap.size w w' → R (.returned (.tuple #[nv, .agg #[.int .i64 0, .int .i64 0]])) w'))
    (hbad : Hid (∀ (x : Nat × Nat) w', declsParse s.data.toList = .error x → Below w.heap.size w w' → R (.returned (.tuple #[.slice none 0 0, .agg #[.int .i64 x.1, .int .i64 x.2]])) w')) :
    Calls Try.prog 44 #[.string s, .func (.func 45) #[] #[]] w R := by
  have hmf : ∀ (fn : Fn) (first cap : Array Value) (w : World), (Instr.makeFunc fn first cap).run Try.prog w = .ok (.func fn first cap) w := fun _ _ _ _ => rfl
  have hS : s.size = s.data.toList.length := Lib.size_eq s
  have h0 : 0 < w.heap.size := by obtain ⟨mx, h⟩ := hmx; exact lt_of_cell h
  by_cases hbig : 4000 < s.size
  · have EX : Hid (declsParse s.data.toList = .error (4, 0)) := by
      show declsParse s.data.toList = .error (4, 0)
      unfold declsParse
      rw [if_pos (by omega)]
    have hbI : (4000 : Int) < (s.size : Int) := by omega
    have hbB : decide ((4000 : Int) < (s.size : Int)) = true := decide_eq_true hbI
    clear hS
    go_enter_defers Try.func44, Try.ntmps44
    go_wp2_with fail
    simp [bodyPostD, Leaves, results, Try.results44, go_sem]
    exact hbad.out (4, 0) _ EX.out ((Below.refl _ _).alloc (Nat.le_refl _) _)
  have hl : s.size ≤ 4000 := by omega
  have PE : Hid (declsParse s.data.toList = declsAll s.data.toList) := by
    show declsParse s.data.toList = declsAll s.data.toList
    unfold declsParse
    rw [if_neg (by omega)]
  have hbB : decide ((4000 : Int) < (s.size : Int)) = false := decide_eq_false (by omega)
  clear hS
  go_enter_defers Try.func44, Try.ntmps44
  go_wp2_with (first | (go_at_call 50; refine (snew_any _ _).mono ?_; rintro e w1 ⟨rfl, hb1⟩))
  have hbW : Below w.heap.size w w1 := ((Below.refl _ _).alloc (Nat.le_refl _) _).trans (hb1.mono (by simp))
  have F1 := (hb1.block w.heap.size (by simp)).trans (heap_alloc_new w (.cells #[.int .i64 0, .int .i64 0] 25))
  have s1 : w.heap.size + 1 ≤ w1.heap.size := by have := hb1.size; simpa using this
  have hr0 : Rs (w1.alloc (.cells #[.string s, .int .i64 0, .slice none 0 0] 96)) w1.heap.size s 0 (.slice none 0 0) := heap_alloc_new w1 _
  have m0 : Mx (w1.alloc (.cells #[.string s, .int .i64 0, .slice none 0 0] 96)) := by
    obtain ⟨mx, h⟩ := hmx
    exact ⟨mx, cell_alloc ((hbW.cell (p := ⟨0, 0, none⟩) h0).trans h) _⟩
  have F2 := (Below.heap_alloc w1 (.cells #[.string s, .int .i64 0, .slice none 0 0] 96) _ (by omega)).trans F1
  have hbX : Below w.heap.size w (w1.alloc (.cells #[.string s, .int .i64 0, .slice none 0 0] 96)) := hbW.alloc (by omega) _
  refine onlyDecls_any w1.heap.size s 0 (.slice none 0 0) _ _ hl (Nat.zero_le _) (by omega) m0 hr0 (hid ⟨?_, ?_⟩)
  · intro L k' nv w2 he0 _ _ _ hkp hn2
    have he : declsAll s.data.toList = .ok L := by unfold declsAll; rw [he0]
    have F3 := (hkp.block w.heap.size (by simp; omega) (by omega)).trans F2
    have f0 := cell_of F3 0
    have f1 := cell_of F3 1
    have fz0 := fz_of F3 0
    have fz1 := fz_of F3 1
    simp at f0 f1
    obtain ⟨na, ncap, rfl⟩ := own_form hn2
    have HN := hid hn2
    have EX := hid he
    have HF := hid F3
    have hbY : Below w.heap.size w w2 := hbX.trans ⟨hkp.os, hkp.tape, hkp.output, hkp.size, fun j hj => hkp.block j (by simp; omega) (by omega)⟩
    have UN := hid hbY
    clear he he0 hn2 hkp F3 F1 F2 hb1 hbW hbX hbY m0 hr0
    go_wp2_with fail
    have kk : Kp (· = w.heap.size) w2 ((w2.setCell ⟨w.heap.size, 0, none⟩ (.int .i64 0)).setCell ⟨w.heap.size, 1, none⟩ (.int .i64 0)) := (Kp.set w2 w.heap.size 0 (.int .i64 0)).trans (Kp.set _ w.heap.size 1 (.int .i64 0))
    refine leaves_cons (f := 69) (args := #[.pointer (some ⟨w.heap.size, 0, none⟩)]) (by simp) (by simp [go_sem]) ?_
    refine (dcatch_idle w.heap.size _).mono ?_
    rintro e u' w'' ⟨rfl, rfl, o, rfl⟩
    have z2 : w.heap.size < w2.heap.size := (Array.getElem?_eq_some_iff.1 HF.out).1
    have F4 : (((w2.setCell ⟨w.heap.size, 0, none⟩ (.int .i64 0)).setCell ⟨w.heap.size, 1, none⟩ (.int .i64 0)).alloc o).heap[w.heap.size]? = some (.cells #[.int .i64 0, .int .i64 0] 25 (0, 0)) := by
      have := heap_set (heap_set HF.out 0 (.int .i64 0)) 1 (.int .i64 0)
      rw [Below.heap_alloc _ _ _ (by simp [World.setCell]; omega), this]
      simp
    have ka : Kp (· = w.heap.size) w2 (((w2.setCell ⟨w.heap.size, 0, none⟩ (.int .i64 0)).setCell ⟨w.heap.size, 1, none⟩ (.int .i64 0)).alloc o) := kk.trans (Kp.alloc _ o)
    have ub : Below w.heap.size w (((w2.setCell ⟨w.heap.size, 0, none⟩ (.int .i64 0)).setCell ⟨w.heap.size, 1, none⟩ (.int .i64 0)).alloc o) := ((UN.out.setCell (by simp) _).setCell (by simp) _).alloc (by simp [World.setCell]; omega) _
    have q1 := cell_of F4 0
    have q2 := cell_of F4 1
    simp at q1 q2
    have nd : DsAt _ (.slice na L.length ncap) L := DsAt.keeps HN.out (Keeps.ofKp (Ts := (· ≠ 25)) ka (by
      rintro j rfl cur U fz hU hc
      rw [HF.out] at hc
      injection hc with hc
      injection hc with _ h2 _
      exact hU h2.symm)) (by decide)
    have fin := hok.out L (.slice na L.length ncap) _ (PE.out.trans EX.out) nd ub
    generalize (((w2.setCell ⟨w.heap.size, 0, none⟩ (.int .i64 0)).setCell ⟨w.heap.size, 1, none⟩ (.int .i64 0)).alloc o) = W3 at q1 q2 fin ⊢
    simp [Leaves, settle, results, Try.results44, go_sem, q1, q2]
    exact fin
  · intro x w2 he0 hbl
    have he : declsAll s.data.toList = .error x := by unfold declsAll; rw [he0]
    have F3 := (hbl.block w.heap.size (by omega)).trans F2
    have f0 := cell_of F3 0
    have f1 := cell_of F3 1
    have fz0 := fz_of F3 0
    have fz1 := fz_of F3 1
    simp at f0 f1
    have UN : Below w.heap.size w w2 := hbX.trans (hbl.mono (by omega))
    refine leaves_cons (f := 69) (args := #[.pointer (some ⟨w.heap.size, 0, none⟩)]) (by simp) (by simp [go_sem]) ?_
    refine (dcatch_panicking w.heap.size x.1 x.2 [] _ _ _ f0 f1 fz0 fz1).mono ?_
    rintro e u' w'' ⟨rfl, rfl, n, o, rfl⟩
    have z2 : w.heap.size < w2.heap.size := (Array.getElem?_eq_some_iff.1 F3).1
    have F4 : ((((w2.setCell ⟨w.heap.size, 0, none⟩ (.int .i64 x.1)).setCell ⟨w.heap.size, 1, none⟩ (.int .i64 x.2)).alloc o).drewN n).heap[w.heap.size]? = some (.cells #[.int .i64 x.1, .int .i64 x.2] 25 (0, 0)) := by
      have := heap_set (heap_set F3 0 (.int .i64 x.1)) 1 (.int .i64 x.2)
      show (((w2.setCell ⟨w.heap.size, 0, none⟩ (.int .i64 x.1)).setCell ⟨w.heap.size, 1, none⟩ (.int .i64 x.2)).alloc o).heap[w.heap.size]? = _
      rw [Below.heap_alloc _ _ _ (by simp [World.setCell]; omega), this]
      simp
    have ub : Below w.heap.size w ((((w2.setCell ⟨w.heap.size, 0, none⟩ (.int .i64 x.1)).setCell ⟨w.heap.size, 1, none⟩ (.int .i64 x.2)).alloc o).drewN n) := below_drewN' (((UN.setCell (by simp) _).setCell (by simp) _).alloc (by simp [World.setCell]; omega) _) _
    have q1 := cell_of F4 0
    have q2 := cell_of F4 1
    simp only [List.getElem?_toArray, List.getElem?_cons_zero, List.getElem?_cons_succ] at q1 q2
    have fin := hbad.out x _ (PE.out.trans he) ub
    generalize ((((w2.setCell ⟨w.heap.size, 0, none⟩ (.int .i64 x.1)).setCell ⟨w.heap.size, 1, none⟩ (.int .i64 x.2)).alloc o).drewN n) = W3 at q1 q2 fin ⊢
    simp [Leaves, settle, results, Try.results44, go_sem, q1, q2]
    exact fin

set_option maxHeartbeats 1000000 in
theorem dparse_any (s : ByteArray) (w : World) (R : Ending → World → Prop) (hsz : s.size ≤ 9223372036854776907) (hmx : Mx w)
    (hok : Hid (∀ L nv w', declsParse s.data.toList = .ok L → DsAt w' nv L → Below w.heap.size w w' → R (.returned (.tuple #[nv, .agg #[.int .i64 0, .int .i64 0]])) w'))
    (hbad : Hid (∀ (x : Nat × Nat) w', declsParse s.data.toList = .error x → Below w.heap.size w w' → R (.returned (.tuple #[.slice none 0 0, .agg #[.int .i64 x.1, .int .i64 x.2]])) w')) :
    Calls Try.prog 26 #[.string s] w R := by
  go_enter Try.func26, Try.ntmps26
  go_wp2_with fail
  refine read_decls s _ _ hsz (hmx.alloc _) ?_ ?_
  · intro L nv w1 he hn hb
    have F1 := (hb.block w.heap.size (by simp)).trans (heap_alloc_new w (.cells #[.int .i64 0, .int .i64 0] 25))
    have f0 := cell_of F1 0
    have f1 := cell_of F1 1
    have z0 := fz_of F1 0
    have z1 := fz_of F1 1
    simp at f0 f1
    obtain ⟨na, ncap, rfl⟩ := own_form hn
    have HN := hid hn
    have HF := hid F1
    have UN : Hid (Below w.heap.size w w1) := (((Below.refl _ _).alloc (Nat.le_refl _) _).trans (hb.mono (by simp)))
    have EX := hid he
    clear hn F1 he hb
    go_wp2_with fail
    refine bodyPost_ret (v := .tuple #[.slice na L.length ncap, .agg #[.int .i64 0, .int .i64 0]]) (by simp [results, Try.results26, go_sem, f0, f1]) rfl ?_
    refine hok.out L _ _ EX.out (DsAt.keeps HN.out (Keeps.ofKp (Ts := (· ≠ 25)) ((Kp.set w1 w.heap.size 0 _).trans (Kp.set _ w.heap.size 1 _)) ?_) (by decide)) ((UN.out.setCell (by simp) _).setCell (by simp) _)
    rintro j rfl cur U fz hU hc
    rw [HF.out] at hc
    injection hc with hc
    injection hc with _ h2 _
    exact hU h2.symm
  · intro x w1 he hb
    have F1 := (hb.block w.heap.size (by simp)).trans (heap_alloc_new w (.cells #[.int .i64 0, .int .i64 0] 25))
    have f0 := cell_of F1 0
    have f1 := cell_of F1 1
    have z0 := fz_of F1 0
    have z1 := fz_of F1 1
    simp at f0 f1
    have UN : Hid (Below w.heap.size w w1) := (((Below.refl _ _).alloc (Nat.le_refl _) _).trans (hb.mono (by simp)))
    have EX := hid he
    clear F1 he hb
    go_wp2_with fail
    refine bodyPost_ret (v := .tuple #[.slice none 0 0, .agg #[.int .i64 x.1, .int .i64 x.2]]) (by simp [results, Try.results26, go_sem, f0, f1]) rfl ?_
    exact hbad.out x _ EX.out ((UN.out.setCell (by simp) _).setCell (by simp) _)
end Go.Proofs.Ytanedepdhbdcgaa
