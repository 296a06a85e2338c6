/-
  What the reader's page, New of package scan, and the closure that recovers do: the plain answer of the Spec text, or its fault, which becomes an answer. Conditions: the text has at most 6000 bytes; the cell of internal/bytealg.MaxLen holds some int.
-/
import Derived.Test.YtanedepdhbdcgaaPage7
import Derived.Defers
import Derived.Recover
import Derived.Laws.Pointers
namespace Go.Proofs.Ytanedepdhbdcgaa
open Go.RowKit

theorem lt_of_cell {w : World} {b o : Nat} {v : Value} (h : w.cell? ⟨b, o, none⟩ = some v) : b < w.heap.size := by
  by_cases hb : b < w.heap.size
  · exact hb
  · have : w.heap[b]? = none := by simp; omega
    simp [World.cell?, this] at h

set_option maxHeartbeats 1000000 in
theorem catch_panicking (p q : Nat) (er at_ : Int) (older : List PanicEntry) (w : World) (lv : Value) (e0 a0 : Int) (hl : w.cell? ⟨p, 0, none⟩ = some lv) (hf0 : w.cell? ⟨q, 0, none⟩ = some (.int .i64 e0)) (hf1 : w.cell? ⟨q, 1, none⟩ = some (.int .i64 a0))
    (zl : w.frozen? ⟨p, 0, none⟩ = false) (z0 : w.frozen? ⟨q, 0, none⟩ = false) (z1 : w.frozen? ⟨q, 1, none⟩ = false) (hpq : p ≠ q) :
    CallsD Try.prog 49 #[.pointer (some ⟨p, 0, none⟩), .pointer (some ⟨q, 0, none⟩)] (.panicking ({ v := .iface 87 (.agg #[.int .i64 er, .int .i64 at_]), recovered := false } :: older)) w fun e u' w' =>
      e = .returned (.tuple #[]) ∧ u' = .panicking ({ v := .iface 87 (.agg #[.int .i64 er, .int .i64 at_]), recovered := true } :: older) ∧
      ∃ n o, w' = ((((w.setCell ⟨p, 0, none⟩ (.slice none 0 0)).setCell ⟨q, 0, none⟩ (.int .i64 er)).setCell ⟨q, 1, none⟩ (.int .i64 at_)).alloc o).drewN n := by
  have hta : ∀ w : World, (Instr.typeAssert (.iface 87 (.agg #[.int .i64 er, .int .i64 at_])) 20 87 true).run Try.prog w = .ok (.tuple #[.agg #[.int .i64 er, .int .i64 at_], .bool true]) w := fun _ => by kernel_rfl
  refine callsD_of_wpS Try.func49 rfl fun c₀ cs hu => ?_
  apply wpS_seq
  apply wpS_region
  simp [wpOpsS, go_sem, recoverD, hu, Try.ntmps49, Exit.thenS, hta]
  refine wpS_of_wp ?_
  simp only [← List.toArray_replicate, List.replicate, List.setIfInBounds_toArray, List.set_cons_zero, List.set_cons_succ, List.append_toArray, List.cons_append, List.nil_append]
  have hp : p < w.heap.size := lt_of_cell hl
  have hq : q < w.heap.size := lt_of_cell hf0
  have g1 : ¬ p = w.heap.size := by omega
  have g2 : ¬ w.heap.size = p := by omega
  have g3 : ¬ q = w.heap.size := by omega
  have g4 : ¬ w.heap.size = q := by omega
  have g5 : ¬ q = p := fun h => hpq h.symm
  have g6 : ¬ p = q := hpq
  have c1 := cell_alloc hl
  have c2 := cell_alloc hf0
  have c3 := cell_alloc hf1
  have d1 := frozen_alloc' hp zl
  have d2 := frozen_alloc' hq z0
  have d3 := frozen_alloc' hq z1
  go_wp2_with fail
  go_region
  refine (?_ : bodyPostS _ _ _ _ _ _ _ _ _)
  simp [bodyPostS, results, Try.results49]
  exact ⟨1, _, rfl⟩

set_option maxHeartbeats 1000000 in
theorem catch_idle (p q : Nat) (w : World) :
    CallsD Try.prog 49 #[.pointer (some ⟨p, 0, none⟩), .pointer (some ⟨q, 0, none⟩)] .returning w fun e u' w' => e = .returned (.tuple #[]) ∧ u' = .returning ∧ ∃ o, w' = w.alloc o := by
  have hta : ∀ w : World, (Instr.typeAssert .nilIface 20 87 true).run Try.prog w = .ok (.tuple #[.agg #[.int .i64 0, .int .i64 0], .bool false]) w := fun _ => by kernel_rfl
  refine callsD_of_wpS Try.func49 rfl fun c₀ cs hu => ?_
  apply wpS_seq
  apply wpS_region
  simp [wpOpsS, go_sem, recoverD, hu, Try.ntmps49, Exit.thenS, hta]
  refine wpS_of_wp ?_
  simp only [← List.toArray_replicate, List.replicate, List.setIfInBounds_toArray, List.set_cons_zero, List.set_cons_succ, List.append_toArray, List.cons_append, List.nil_append]
  go_wp2_with fail
  simp [bodyPostS, results, Try.results49]
  refine ⟨.returning, ?_, rfl, _, rfl⟩
  cases c₀
  simp only at hu
  rw [hu]

set_option maxHeartbeats 1000000 in
theorem page_any (b : Nat) (s : ByteArray) (base : Nat) (mx : Int) (nv : Value) (w : World) (R : Ending → World → Prop)
    (hl : s.size ≤ 6000) (hb : b < base) (hba : base ≤ w.heap.size) (hb0 : 0 < b) (hmx : w.cell? ⟨0, 0, none⟩ = some (.int .i64 mx)) (hr : Rd w b s 0 nv) (hn : NdsAt w base nv [])
    (hok : Hid (∀ L' nv' w' k', readAll s.data.toList = .ok L' → Rd w' b s k' nv' → NdsAt w' base nv' L' → Step b nv w nv' w' → L'.length ≤ 120 → R (.returned (.tuple #[])) w'))
    (hbad : Hid (∀ (x : Nat × Nat) w', readAll s.data.toList = .error x → Below b w w' → R (.panicked [{ v := .iface 87 (.agg #[.int .i64 x.1, .int .i64 x.2]), recovered := false }]) w')) :
    Calls Try.prog 51 #[.pointer (some ⟨b, 0, none⟩)] w R := by
  have hS : s.size = s.data.toList.length := Lib.size_eq s
  have HS := hid hS
  have hlt := hr.lt
  have hrow : ∀ g, nv.ownBlock = some g → base ≤ g := by
    obtain ⟨LV, _, q, _⟩ := hn
    exact fun g h => (q.lt g h).1
  clear hS
  go_enter Try.func51, Try.ntmps51
  go_wp2_with fail
  refine items_any b s base mx hl 6001 0 (-1) 1 [] nv w _ (by omega) (by omega) (by omega) (by simp) hb hba hb0 hmx hr hn ?_ ?_
  rotate_left
  · intro x w' he hbl
    exact ⟨rfl, hbad.out x _ (by simp only [readAll, he]) hbl⟩
  intro k' L' nv' w' he hr' hn' hst hL hle1 hle2
  have h0 := hr'.c0
  have h1 := hr'.c1
  by_cases hk : s.size ≤ k'
  · have EX : Hid (readAll s.data.toList = .ok L') := by
      show readAll s.data.toList = .ok L'
      simp only [readAll, he]
      rw [if_neg (by rw [← HS.out]; omega)]
    clear he
    go_wp2_with (first | (go_at_call 60; refine (ended_yes b s k' _ hk h0 h1).mono ?_; rintro e w' ⟨rfl, n, rfl⟩))
    go_end0
    exact hok.out L' nv' _ k' EX.out (hr'.drewN _) hn' (hst.trans (Step.ofKp ((Kp.refl _ _).drewN _))) hL
  · have EX : Hid (readAll s.data.toList = .error (2, k')) := by
      show readAll s.data.toList = .error (2, k')
      simp only [readAll, he]
      rw [if_pos (by rw [← HS.out]; omega)]
    have hk2 : k' < s.size := by omega
    clear he
    go_wp2_with (first | (go_at_call 60; refine (ended_no b s k' _ hk2 h0 h1).mono ?_; rintro e w' ⟨rfl, n, rfl⟩) | (go_at_call 72; refine (at_any b k' _ ?_).mono ?_; exact h1; rintro e w' ⟨rfl, rfl⟩) | (go_at_call 71; refine (throw_any _ _ _).mono ?_; rintro e w' ⟨rfl, rfl⟩))
    exact ⟨rfl, hbad.out (2, k') _ EX.out (below_drewN' (hst.under hlt (fun g h => by have := hrow g h; omega)) _)⟩

set_option maxHeartbeats 1000000 in
theorem new_any (s : ByteArray) (w : World) :
    Calls Try.prog 50 #[.string s] w fun e w' => e = .returned (.agg #[.string s, .int .i64 0]) ∧ Below w.heap.size w w' := by
  go_enter Try.func50, Try.ntmps50
  go_wp2_with fail
  exact bodyPost_ret (v := .agg #[.string s, .int .i64 0]) (by simp [results, Try.results50, go_sem]) rfl ⟨rfl, (Below.refl _ _).alloc (Nat.le_refl _) _⟩

end Go.Proofs.Ytanedepdhbdcgaa
