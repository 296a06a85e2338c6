/- Texts that the statement's proof stands on: Sheet9, SheetUpd, Page1, Page2. -/
import Derived.Test.YtblkldfokeeaeacGreatDoorA14
import Derived.Defers
import Derived.Recover
import Derived.Laws.Pointers
import Derived.Test.YtblkldfokeeaeacGreatDoorA05
import Derived.Test.YtblkldfokeeaeacGreatDoorA11
namespace Go.Proofs.YtblkldfokeeaeacGreatDoor.Sh
open Go.RowKit
set_option maxHeartbeats 2000000 in
theorem sheet_any (b : Nat) (s : ByteArray) (base : Nat) (nv : Value) (w : World) (R : Ending → World → Prop) (hl : s.size ≤ 4000) (hb : b < base) (hba : base ≤ w.heap.size) (hb0 : 2 < b) (hmx : Mx w) (hr : Rs w b s 0 nv) (hn : RsIn w base nv [])
    (hok : Hid (∀ L nv' w', sheetAll s.data.toList = .ok L → RsIn w' base nv' L → Stp b nv w nv' w' → L.length ≤ 60 → R (.returned nv') w'))
    (hbad : Hid (∀ (x : Nat × Nat) w', sheetAll s.data.toList = .error x → Below b w w' → R (.panicked [{ v := .iface 161 (.agg #[.int .i64 x.1, .int .i64 x.2]), recovered := false }]) w')) :
    Calls Tryz.prog 93 #[.pointer (some ⟨b, 0, none⟩)] w R := by
  have hlt := hr.lt
  have HS : Hid (s.size = s.data.toList.length) := Lib.size_eq s
  have row0 := hid hn.row
  go_enter Tryz.func93, Tryz.ntmps93
  go_wp2_with fail
  refine gaps_any b s 0 nv _ _ hl (Nat.zero_le _) hb0 hmx hr (hid ⟨?_, ?_⟩)
  rotate_left
  · intro x w1 e1 hbl
    exact ⟨rfl, hbad.out x _ (by unfold sheetAll; rw [rulesTo_err e1]) hbl⟩
  intro g k1 v w1 e1 hk1 hk2 hr1 kp1 hv
  subst hv
  have E1 : Hid (stepTo 4000 s.data.toList k1 none [] = sheetAll s.data.toList) := by
    show _ = sheetAll s.data.toList
    unfold sheetAll
    rw [rulesTo_ok e1]
  clear e1
  have n1 := hn.keeps (rd_keeps hr kp1) (by decide)
  go_wp2_with fail
  go_loopg [] 4000 (fun g wr => ∃ (k' : Nat) (L' : List Rl) (nv' : Value), s.size - k' ≤ g ∧ k' ≤ s.size ∧ L'.length ≤ 60 ∧ Rs wr b s k' nv' ∧ RsIn wr base nv' L' ∧ Stp b nv w nv' wr ∧ stepTo g s.data.toList k' none L' = sheetAll s.data.toList)
  case atStart => exact ⟨k1, [], nv, by omega, hk2, by simp, hr1, n1, Stp.ofKp kp1, E1.out⟩
  case round =>
    clear hr1 n1 kp1 E1
    obtain ⟨k', L', nv', hf', hk12, hL', hr', hn', hst, hE⟩ := hrel
    have E := hid hE
    clear hE
    have zw : w.heap.size ≤ wr.heap.size := hst.kp.size
    have MM := hid (hmx.stp hst hn hb0 hb)
    have UN := hid (hst.under hlt (fun g h => by have := row0.out g h; omega))
    have lt' := hr'.lt
    have h0 := hr'.c0
    have h1 := hr'.c1
    have h2 := hr'.c2
    obtain ⟨nx, ncap, rfl⟩ := NAt.form hn'
    go_wp2_with fail
    by_cases hend : s.size ≤ k'
    · refine (ended_yes b s k' _ hend h0 h1).mono ?_
      rintro e w2 ⟨rfl, n, rfl⟩
      have EX : Hid (sheetAll s.data.toList = .ok L') := by
        show sheetAll s.data.toList = .ok L'
        rw [← E.out]; simp only [stepTo]; rw [if_pos (by rw [← HS.out]; exact hend)]
      go_wp2_with fail
      exact hok.out L' _ _ EX.out hn' (hst.trans (Stp.ofKp ((Kp.refl _ _).drewN _))) hL'
    refine (ended_no b s k' _ (by omega) h0 h1).mono ?_
    rintro e w2 ⟨rfl, n2, rfl⟩
    clear h0 h1 h2
    have E2 : Hid ((if has s.data.toList k' mediaL then
      match mediaHead s.data.toList (k' + 6) with
      | .error x => .error x
      | .ok (n, k2) => rulesTo gk s.data.toList k2 (some n) L'
    else
      match rule L'.length s.data.toList k' with
      | .error x => .error x
      | .ok (p, k2) => rulesTo gk s.data.toList k2 none (L' ++ [⟨[], p.1, p.2, k', k2⟩])) = sheetAll s.data.toList) := by
      show _ = sheetAll s.data.toList
      rw [← E.out]; simp only [stepTo]; rw [if_neg (show ¬ s.data.toList.length ≤ k' by rw [← HS.out]; exact hend)]
      rfl
    clear E
    have hr2 := hr'.drewN n2
    have nn2 : RsIn (wr.drewN n2) base (.slice nx L'.length ncap) L' := hn'
    have st2 : Stp b nv w (.slice nx L'.length ncap) (wr.drewN n2) := hst.trans (Stp.ofKp ((Kp.refl _ _).drewN _))
    have M2' : Mx (wr.drewN n2) := MM.out
    have U2' : Below b w (wr.drewN n2) := below_drewN' UN.out _
    have z2 : wr.heap.size ≤ (wr.drewN n2).heap.size := Nat.le_refl _
    generalize wr.drewN n2 = w2 at hr2 nn2 st2 M2' U2' z2 ⊢
    have M2 := hid M2'
    have U2 := hid U2'
    clear M2' U2' hn' hst hr' MM UN
    go_wp2_with fail
    cases t1 : has s.data.toList k' [64, 109, 101, 100, 105, 97] with
    | true =>
      have l1 := has_le t1 (by rw [← HS.out]; exact hk12)
      rw [← HS.out] at l1
      have l1' : k' + 6 ≤ s.size := l1
      clear l1
      refine (take_yes b s ⟨#[64, 109, 101, 100, 105, 97]⟩ k' _ _ hk12 (by omega) (by show (6 : Nat) ≤ 6000; omega) hr2 t1).mono ?_
      rintro e w3 ⟨rfl, hr3, hkp3⟩
      have E3 : Hid ((match mediaHead s.data.toList (k' + 6) with
        | .error x => .error x
        | .ok (n, k2) => rulesTo gk s.data.toList k2 (some n) L') = sheetAll s.data.toList) := by
        have := E2.out
        rw [if_pos (show has s.data.toList k' mediaL = true from t1)] at this
        exact this
      clear t1 E2
      have n3 := nn2.keeps (rd_keeps hr2 hkp3) (by decide)
      have st3 := st2.trans (Stp.ofKp hkp3)
      have z3 := hkp3.size
      have M3 := hid (hmx.stp st3 hn hb0 hb)
      have U3 := hid (st3.under hlt (fun g h => by have := row0.out g h; omega))
      clear st2 hkp3 nn2 hr2 M2 U2
      go_wp2_with fail
      refine media_any (sheetAll s.data.toList) gk b s base (k' + 6) L' _ _ _ hl l1' (by omega) hL' hb (by omega) hb0 M3.out hr3 n3 E3.out ?_ ?_
      rotate_left
      · intro x w4 e4 hbl
        exact ⟨rfl, hbad.out x _ e4 (U3.out.trans hbl)⟩
      intro f4 k4 L4 nv4 w4 e4 hf4 hf5 hk13 hk14 hL4 hr4 hn4 hst4
      obtain ⟨g0, rfl⟩ : ∃ g0, f4 = g0 + 1 := ⟨f4 - 1, by omega⟩
      have E4 := hid e4
      clear e4 E3
      have st4 := st3.trans hst4
      have M4 := hid (hmx.stp st4 hn hb0 hb)
      have U4 := hid (st4.under hlt (fun g h => by have := row0.out g h; omega))
      go_wp2_with fail
      refine gaps_any b s k4 nv4 _ _ hl hk14 hb0 M4.out hr4 (hid ⟨?_, ?_⟩)
      rotate_left
      · intro x w5 e5 hbl
        exact ⟨rfl, hbad.out x _ (by have := E4.out; rw [rulesTo_err e5] at this; exact this.symm) (U4.out.trans hbl)⟩
      intro g5 k5 v w5 e5 hk15 hk16 hr5 hkp5 hv
      subst hv
      have E5 : Hid (stepTo g0 s.data.toList k5 none L4 = sheetAll s.data.toList) := by
        have := E4.out
        rw [rulesTo_ok e5] at this
        exact this
      clear e5 E4
      have n5 := hn4.keeps (rd_keeps hr4 hkp5) (by decide)
      go_wp2_with fail
      go_roundg g0
      case measure => omega
      case rel => exact ⟨k5, L4, nv4, by omega, hk16, hL4, hr5, n5, st4.trans (Stp.ofKp hkp5), E5.out⟩
    | false =>
    refine (take_no b s ⟨#[64, 109, 101, 100, 105, 97]⟩ k' _ _ hk12 hr2 t1).mono ?_
    rintro e w3 ⟨rfl, n3, rfl⟩
    have E3 : Hid ((match rule L'.length s.data.toList k' with
      | .error x => .error x
      | .ok (p, k2) => rulesTo gk s.data.toList k2 none (L' ++ [⟨[], p.1, p.2, k', k2⟩])) = sheetAll s.data.toList) := by
      have := E2.out
      rw [if_neg (by rw [show has s.data.toList k' mediaL = false from t1]; decide)] at this
      exact this
    clear t1 E2
    have hr3 := hr2.drewN n3
    have nn3 : RsIn (w2.drewN n3) base (.slice nx L'.length ncap) L' := nn2
    have st3 : Stp b nv w (.slice nx L'.length ncap) (w2.drewN n3) := st2.trans (Stp.ofKp ((Kp.refl _ _).drewN _))
    have M3' : Mx (w2.drewN n3) := M2.out
    have U3' : Below b w (w2.drewN n3) := below_drewN' U2.out _
    have z3 : w2.heap.size ≤ (w2.drewN n3).heap.size := Nat.le_refl _
    generalize w2.drewN n3 = w3 at hr3 nn3 st3 M3' U3' z3 ⊢
    have M3 := hid M3'
    have U3 := hid U3'
    clear M3' U3' st2 nn2 hr2 M2 U2
    go_wp2_with fail
    refine rule_any [] b s base k' L' _ _ _ hl hk12 hL' (by omega) hb0 M3.out hr3 nn3 ?_ ?_
    rotate_left
    · intro x w7 e7 hbl
      exact ⟨rfl, hbad.out x _ (by rw [← E3.out, e7]) (U3.out.trans hbl)⟩
    intro p k7 nv7 w7 e7 hk13 hk14 hr7 hn7 hst7 h59
    have E4 : Hid (rulesTo gk s.data.toList k7 none (L' ++ [⟨[], p.1, p.2, k', k7⟩]) = sheetAll s.data.toList) := by
      show _ = sheetAll s.data.toList
      rw [← E3.out, e7]
    clear e7 E3
    obtain ⟨g0, hg0⟩ : ∃ g0, gk = g0 + 1 := ⟨gk - 1, by omega⟩
    have st7 := st3.trans hst7
    have M8 := hid (hmx.stp st7 hn hb0 hb)
    have U8 := hid (st7.under hlt (fun g h => by have := row0.out g h; omega))
    have G0 := hid hg0
    clear hg0
    go_wp2_with fail
    refine gaps_any b s k7 nv7 _ _ hl hk14 hb0 M8.out hr7 (hid ⟨?_, ?_⟩)
    rotate_left
    · intro x w8 e8 hbl
      exact ⟨rfl, hbad.out x _ (by have := E4.out; rw [G0.out, rulesTo_err e8] at this; exact this.symm) (U8.out.trans hbl)⟩
    intro g8 k8 v w8 e8 hk15 hk16 hr8 hkp8 hv
    subst hv
    have E5 : Hid (stepTo g0 s.data.toList k8 none (L' ++ [⟨[], p.1, p.2, k', k7⟩]) = sheetAll s.data.toList) := by
      have := E4.out
      rw [G0.out, rulesTo_ok e8] at this
      exact this
    clear e8 E4
    have n8 := hn7.keeps (rd_keeps hr7 hkp8) (by decide)
    go_wp2_with fail
    go_roundg g0
    case measure => have := G0.out; omega
    case rel => exact ⟨k8, L' ++ [⟨[], p.1, p.2, k', k7⟩], nv7, by have := G0.out; omega, hk16, by simp; omega, hr8, n8, st7.trans (Stp.ofKp hkp8), E5.out⟩
set_option maxHeartbeats 1000000 in
theorem snew_any (s : ByteArray) (w : World) :
    Calls Tryz.prog 84 #[.string s] w fun e w' => e = .returned (.agg #[.string s, .int .i64 0]) ∧ Below w.heap.size w w' := by
  go_enter Tryz.func84, Tryz.ntmps84
  go_wp2_with fail
  exact bodyPost_ret (v := .agg #[.string s, .int .i64 0]) (by simp [results, Tryz.results84, go_sem]) rfl ⟨rfl, (Below.refl _ _).alloc (Nat.le_refl _) _⟩
set_option maxHeartbeats 1000000 in
theorem scatch_panicking (q : Nat) (er at_ : Int) (older : List PanicEntry) (w : World) (e0 a0 : Int) (hf0 : w.cell? ⟨q, 0, none⟩ = some (.int .i64 e0)) (hf1 : w.cell? ⟨q, 1, none⟩ = some (.int .i64 a0))
    (z0 : w.frozen? ⟨q, 0, none⟩ = false) (z1 : w.frozen? ⟨q, 1, none⟩ = false) :
    CallsD Tryz.prog 126 #[.pointer (some ⟨q, 0, none⟩)] (.panicking ({ v := .iface 161 (.agg #[.int .i64 er, .int .i64 at_]), recovered := false } :: older)) w fun e u' w' =>
      e = .returned (.tuple #[]) ∧ u' = .panicking ({ v := .iface 161 (.agg #[.int .i64 er, .int .i64 at_]), recovered := true } :: older) ∧
      ∃ n o, w' = (((w.setCell ⟨q, 0, none⟩ (.int .i64 er)).setCell ⟨q, 1, none⟩ (.int .i64 at_)).alloc o).drewN n := by
  have hta : ∀ w : World, (Instr.typeAssert (.iface 161 (.agg #[.int .i64 er, .int .i64 at_])) 20 161 true).run Tryz.prog w = .ok (.tuple #[.agg #[.int .i64 er, .int .i64 at_], .bool true]) w := fun _ => by kernel_rfl
  refine callsD_of_wpS Tryz.func126 rfl fun c₀ cs hu => ?_
  apply wpS_seq
  apply wpS_region
  simp [wpOpsS, go_sem, recoverD, hu, Tryz.ntmps126, Exit.thenS, hta]
  refine wpS_of_wp ?_
  simp only [← List.toArray_replicate, List.replicate, List.setIfInBounds_toArray, List.set_cons_zero, List.set_cons_succ, List.append_toArray, List.cons_append, List.nil_append]
  have hq : q < w.heap.size := lt_of_cell hf0
  have g3 : ¬ q = w.heap.size := by omega
  have g4 : ¬ w.heap.size = q := by omega
  have c2 := cell_alloc hf0
  have c3 := cell_alloc hf1
  have d2 := frozen_alloc' hq z0
  have d3 := frozen_alloc' hq z1
  go_wp2_with fail
  refine (?_ : bodyPostS _ _ _ _ _ _ _ _ _)
  simp [bodyPostS, results, Tryz.results126]
  exact ⟨0, _, rfl⟩
set_option maxHeartbeats 1000000 in
theorem scatch_idle (q : Nat) (w : World) :
    CallsD Tryz.prog 126 #[.pointer (some ⟨q, 0, none⟩)] .returning w fun e u' w' => e = .returned (.tuple #[]) ∧ u' = .returning ∧ ∃ o, w' = w.alloc o := by
  have hta : ∀ w : World, (Instr.typeAssert .nilIface 20 161 true).run Tryz.prog w = .ok (.tuple #[.agg #[.int .i64 0, .int .i64 0], .bool false]) w := fun _ => by kernel_rfl
  refine callsD_of_wpS Tryz.func126 rfl fun c₀ cs hu => ?_
  apply wpS_seq
  apply wpS_region
  simp [wpOpsS, go_sem, recoverD, hu, Tryz.ntmps126, Exit.thenS, hta]
  refine wpS_of_wp ?_
  simp only [← List.toArray_replicate, List.replicate, List.setIfInBounds_toArray, List.set_cons_zero, List.set_cons_succ, List.append_toArray, List.cons_append, List.nil_append]
  go_wp2_with fail
  simp [bodyPostS, results, Tryz.results126]
  refine ⟨.returning, ?_, rfl, _, rfl⟩
  cases c₀
  simp only at hu
  rw [hu]
set_option maxHeartbeats 2000000 in
theorem read_rules (s : ByteArray) (w : World) (R : Ending → World → Prop) (hsz : s.size ≤ 9223372036854775807) (hmx : Mx w)
    (hok : Hid (∀ L nv w', sheetParse s.data.toList = .ok L → RsIn w' w.heap.size nv L → Below w.heap.size w w' → L.length ≤ 60 → R (.returned (.tuple #[nv, .agg #[.int .i64 0, .int .i64 0]])) w'))
    (hbad : Hid (∀ (x : Nat × Nat) w', sheetParse s.data.toList = .error x → Below w.heap.size w w' → R (.returned (.tuple #[.slice none 0 0, .agg #[.int .i64 x.1, .int .i64 x.2]])) w')) :
    Calls Tryz.prog 92 #[.string s, .func (.func 93) #[] #[]] w R := by
  have hmf : ∀ (fn : Fn) (first cap : Array Value) (w : World), (Instr.makeFunc fn first cap).run Tryz.prog w = .ok (.func fn first cap) w := fun _ _ _ _ => rfl
  have hS : s.size = s.data.toList.length := Lib.size_eq s
  have h0 : 2 < w.heap.size := by obtain ⟨mx, h⟩ := hmx; exact lt_of_cell h
  by_cases hbig : 4000 < s.size
  · have EX : Hid (sheetParse s.data.toList = .error (4, 0)) := by
      show sheetParse s.data.toList = .error (4, 0)
      unfold sheetParse
      rw [if_pos (by omega)]
    have hbI : (4000 : Int) < (s.size : Int) := by omega
    have hbB : decide ((4000 : Int) < (s.size : Int)) = true := decide_eq_true hbI
    clear hS
    go_enter_defers Tryz.func92, Tryz.ntmps92
    go_wp2_with fail
    simp [bodyPostD, Leaves, results, Tryz.results92, go_sem]
    exact hbad.out (4, 0) _ EX.out ((Below.refl _ _).alloc (Nat.le_refl _) _)
  have hl : s.size ≤ 4000 := by omega
  have PE : Hid (sheetParse s.data.toList = sheetAll s.data.toList) := by
    show sheetParse s.data.toList = sheetAll s.data.toList
    unfold sheetParse
    rw [if_neg (by omega)]
  have hbB : decide ((4000 : Int) < (s.size : Int)) = false := decide_eq_false (by omega)
  clear hS
  go_enter_defers Tryz.func92, Tryz.ntmps92
  go_wp2_with (first | (go_at_call 84; refine (snew_any _ _).mono ?_; rintro e w1 ⟨rfl, hb1⟩))
  have hbW : Below w.heap.size w w1 := ((Below.refl _ _).alloc (Nat.le_refl _) _).trans (hb1.mono (by simp))
  have F1 := (hb1.block w.heap.size (by simp)).trans (heap_alloc_new w (.cells #[.int .i64 0, .int .i64 0] 25))
  have s1 : w.heap.size + 1 ≤ w1.heap.size := by have := hb1.size; simpa using this
  have hr0 : Rs (w1.alloc (.cells #[.string s, .int .i64 0, .slice none 0 0] 215)) w1.heap.size s 0 (.slice none 0 0) := heap_alloc_new w1 _
  have m0 : Mx (w1.alloc (.cells #[.string s, .int .i64 0, .slice none 0 0] 215)) := by
    obtain ⟨mx, h⟩ := hmx
    exact ⟨mx, cell_alloc ((hbW.cell (p := ⟨2, 0, none⟩) h0).trans h) _⟩
  have F2 := (Below.heap_alloc w1 (.cells #[.string s, .int .i64 0, .slice none 0 0] 215) _ (by omega)).trans F1
  have hbX : Below w.heap.size w (w1.alloc (.cells #[.string s, .int .i64 0, .slice none 0 0] 215)) := hbW.alloc (by omega) _
  refine sheet_any w1.heap.size s (w1.heap.size + 1) (.slice none 0 0) _ _ hl (by omega) (by simp) (by omega) m0 hr0 (NAt.nil _ _ _ _ _ _) ?_ ?_
  · intro L nv w2 he hn2 hst hL
    have F3 := (hst.kp.block w.heap.size (by simp; omega) (by simp [Value.ownBlock]; omega)).trans F2
    have f0 := cell_of F3 0
    have f1 := cell_of F3 1
    have fz0 := fz_of F3 0
    have fz1 := fz_of F3 1
    simp at f0 f1
    obtain ⟨na, ncap, rfl⟩ := NAt.form hn2
    have HN := hid hn2
    have EX := hid he
    have HF := hid F3
    have hbY : Below w.heap.size w w2 := hbX.trans ⟨hst.kp.os, hst.kp.tape, hst.kp.output, hst.kp.size, fun j hj => hst.kp.block j (by simp; omega) (by simp [Value.ownBlock]; omega)⟩
    have UN := hid hbY
    clear he hn2 hst F3 F1 F2 hb1 hbW hbX hbY m0 hr0
    go_wp2_with fail
    have kk : Kp (· = w.heap.size) w2 ((w2.setCell ⟨w.heap.size, 0, none⟩ (.int .i64 0)).setCell ⟨w.heap.size, 1, none⟩ (.int .i64 0)) := (Kp.set w2 w.heap.size 0 (.int .i64 0)).trans (Kp.set _ w.heap.size 1 (.int .i64 0))
    refine leaves_cons (f := 126) (args := #[.pointer (some ⟨w.heap.size, 0, none⟩)]) (by simp) (by simp [go_sem]) ?_
    refine (scatch_idle w.heap.size _).mono ?_
    rintro e u' w'' ⟨rfl, rfl, o, rfl⟩
    have z2 : w.heap.size < w2.heap.size := (Array.getElem?_eq_some_iff.1 HF.out).1
    have F4 : (((w2.setCell ⟨w.heap.size, 0, none⟩ (.int .i64 0)).setCell ⟨w.heap.size, 1, none⟩ (.int .i64 0)).alloc o).heap[w.heap.size]? = some (.cells #[.int .i64 0, .int .i64 0] 25 (0, 0)) := by
      have := heap_set (heap_set HF.out 0 (.int .i64 0)) 1 (.int .i64 0)
      rw [Below.heap_alloc _ _ _ (by simp [World.setCell]; omega), this]
      simp
    have ka : Kp (· = w.heap.size) w2 (((w2.setCell ⟨w.heap.size, 0, none⟩ (.int .i64 0)).setCell ⟨w.heap.size, 1, none⟩ (.int .i64 0)).alloc o) := kk.trans (Kp.alloc _ o)
    have ub : Below w.heap.size w (((w2.setCell ⟨w.heap.size, 0, none⟩ (.int .i64 0)).setCell ⟨w.heap.size, 1, none⟩ (.int .i64 0)).alloc o) := ((UN.out.setCell (by simp) _).setCell (by simp) _).alloc (by simp [World.setCell]; omega) _
    have q1 := cell_of F4 0
    have q2 := cell_of F4 1
    simp at q1 q2
    have nd : RsIn _ w.heap.size (.slice na L.length ncap) L := NAt.lower (RsIn.keeps HN.out (Keeps.ofKp (Ts := (· ≠ 25)) ka (by
      rintro j rfl cur U fz hU hc
      rw [HF.out] at hc
      injection hc with hc
      injection hc with _ h2 _
      exact hU h2.symm)) (by decide)) (by omega)
    have fin := hok.out L (.slice na L.length ncap) _ (PE.out.trans EX.out) nd ub hL
    generalize (((w2.setCell ⟨w.heap.size, 0, none⟩ (.int .i64 0)).setCell ⟨w.heap.size, 1, none⟩ (.int .i64 0)).alloc o) = W3 at q1 q2 fin ⊢
    simp [Leaves, settle, results, Tryz.results92, go_sem, q1, q2]
    exact fin
  · intro x w2 he hbl
    have F3 := (hbl.block w.heap.size (by omega)).trans F2
    have f0 := cell_of F3 0
    have f1 := cell_of F3 1
    have fz0 := fz_of F3 0
    have fz1 := fz_of F3 1
    simp at f0 f1
    have UN : Below w.heap.size w w2 := hbX.trans (hbl.mono (by omega))
    refine leaves_cons (f := 126) (args := #[.pointer (some ⟨w.heap.size, 0, none⟩)]) (by simp) (by simp [go_sem]) ?_
    refine (scatch_panicking w.heap.size x.1 x.2 [] _ _ _ f0 f1 fz0 fz1).mono ?_
    rintro e u' w'' ⟨rfl, rfl, n, o, rfl⟩
    have z2 : w.heap.size < w2.heap.size := (Array.getElem?_eq_some_iff.1 F3).1
    have F4 : ((((w2.setCell ⟨w.heap.size, 0, none⟩ (.int .i64 x.1)).setCell ⟨w.heap.size, 1, none⟩ (.int .i64 x.2)).alloc o).drewN n).heap[w.heap.size]? = some (.cells #[.int .i64 x.1, .int .i64 x.2] 25 (0, 0)) := by
      have := heap_set (heap_set F3 0 (.int .i64 x.1)) 1 (.int .i64 x.2)
      show (((w2.setCell ⟨w.heap.size, 0, none⟩ (.int .i64 x.1)).setCell ⟨w.heap.size, 1, none⟩ (.int .i64 x.2)).alloc o).heap[w.heap.size]? = _
      rw [Below.heap_alloc _ _ _ (by simp [World.setCell]; omega), this]
      simp
    have ub : Below w.heap.size w ((((w2.setCell ⟨w.heap.size, 0, none⟩ (.int .i64 x.1)).setCell ⟨w.heap.size, 1, none⟩ (.int .i64 x.2)).alloc o).drewN n) := below_drewN' (((UN.setCell (by simp) _).setCell (by simp) _).alloc (by simp [World.setCell]; omega) _) _
    have q1 := cell_of F4 0
    have q2 := cell_of F4 1
    simp only [List.getElem?_toArray, List.getElem?_cons_zero, List.getElem?_cons_succ] at q1 q2
    have fin := hbad.out x _ (PE.out.trans he) ub
    generalize ((((w2.setCell ⟨w.heap.size, 0, none⟩ (.int .i64 x.1)).setCell ⟨w.heap.size, 1, none⟩ (.int .i64 x.2)).alloc o).drewN n) = W3 at q1 q2 fin ⊢
    simp [Leaves, settle, results, Tryz.results92, go_sem, q1, q2]
    exact fin
set_option maxHeartbeats 1000000 in
theorem sparse_any (s : ByteArray) (w : World) (R : Ending → World → Prop) (hsz : s.size ≤ 9223372036854775807) (hmx : Mx w)
    (hok : Hid (∀ L nv w', sheetParse s.data.toList = .ok L → RsIn w' w.heap.size nv L → Below w.heap.size w w' → L.length ≤ 60 → R (.returned (.tuple #[nv, .agg #[.int .i64 0, .int .i64 0]])) w'))
    (hbad : Hid (∀ (x : Nat × Nat) w', sheetParse s.data.toList = .error x → Below w.heap.size w w' → R (.returned (.tuple #[.slice none 0 0, .agg #[.int .i64 x.1, .int .i64 x.2]])) w')) :
    Calls Tryz.prog 60 #[.string s] w R := by
  go_enter Tryz.func60, Tryz.ntmps60
  go_wp2_with fail
  refine read_rules s _ _ hsz (hmx.alloc _) ?_ ?_
  · intro L nv w1 he hn hb hL
    have F1 := (hb.block w.heap.size (by simp)).trans (heap_alloc_new w (.cells #[.int .i64 0, .int .i64 0] 25))
    have f0 := cell_of F1 0
    have f1 := cell_of F1 1
    have z0 := fz_of F1 0
    have z1 := fz_of F1 1
    simp at f0 f1
    obtain ⟨na, ncap, rfl⟩ := NAt.form hn
    have HN := hid hn
    have HF := hid F1
    have UN : Hid (Below w.heap.size w w1) := (((Below.refl _ _).alloc (Nat.le_refl _) _).trans (hb.mono (by simp)))
    have EX := hid he
    clear hn F1 he hb
    go_wp2_with fail
    refine bodyPost_ret (v := .tuple #[.slice na L.length ncap, .agg #[.int .i64 0, .int .i64 0]]) (by simp [results, Tryz.results60, go_sem, f0, f1]) rfl ?_
    refine hok.out L _ _ EX.out (NAt.lower (RsIn.keeps HN.out (Keeps.ofKp (Ts := (· ≠ 25)) ((Kp.set w1 w.heap.size 0 _).trans (Kp.set _ w.heap.size 1 _)) ?_) (by decide)) (by simp)) ((UN.out.setCell (by simp) _).setCell (by simp) _) hL
    rintro j rfl cur U fz hU hc
    rw [HF.out] at hc
    injection hc with hc
    injection hc with _ h2 _
    exact hU h2.symm
  · intro x w1 he hb
    have F1 := (hb.block w.heap.size (by simp)).trans (heap_alloc_new w (.cells #[.int .i64 0, .int .i64 0] 25))
    have f0 := cell_of F1 0
    have f1 := cell_of F1 1
    have z0 := fz_of F1 0
    have z1 := fz_of F1 1
    simp at f0 f1
    have UN : Hid (Below w.heap.size w w1) := (((Below.refl _ _).alloc (Nat.le_refl _) _).trans (hb.mono (by simp)))
    have EX := hid he
    clear F1 he hb
    go_wp2_with fail
    refine bodyPost_ret (v := .tuple #[.slice none 0 0, .agg #[.int .i64 x.1, .int .i64 x.2]]) (by simp [results, Tryz.results60, go_sem, f0, f1]) rfl ?_
    exact hbad.out x _ EX.out ((UN.out.setCell (by simp) _).setCell (by simp) _)
end Go.Proofs.YtblkldfokeeaeacGreatDoor.Sh
namespace Go.Proofs.YtblkldfokeeaeacGreatDoor.Sh
open Go.RowKit
theorem row_at {α : Type} {w : World} {base : Nat} {e : TypeId} {sz : Nat} {enc : α → List Value} (hf : ∀ x, (enc x).length = sz) {va : Option Addr} {cap : Nat} {l : List α} {n : Nat} (hn : l.length = n) (h : w.ownsRow base e sz (.slice va n cap) n (l.flatMap enc)) {k : Nat} (hk : k < l.length) (h0 : 0 < sz) :
    ∃ g, va = some ⟨g, 0, none⟩ ∧ ∀ j, j < sz → w.cell? ⟨g, k * sz + j, none⟩ = (enc l[k])[j]? := by
  subst hn
  have key : ∀ j, j < sz → k * sz + j < l.length * sz := fun j hj => by
    have : (k + 1) * sz ≤ l.length * sz := Nat.mul_le_mul_right _ hk
    rw [Nat.add_mul, Nat.one_mul] at this
    omega
  obtain ⟨g, hg, _⟩ := own_cell h (j := k * sz + 0) (key 0 h0)
  refine ⟨g, hg, fun j hj => ?_⟩
  obtain ⟨g', hg', c⟩ := own_cell h (j := k * sz + j) (key j hj)
  rw [hg] at hg'
  injection hg' with hg'
  injection hg' with hg'
  subst hg'
  rw [c, flat_get sz enc hf l k j hk hj]
theorem flat_upd : ∀ (LV : List (Rl × (Value × Value))) (i : Nat) (hi : i < LV.length) (r' : Rl),
    (((LV.flatMap encR).set (i * 5) (.string (bs r'.media))).set (i * 5 + 3) (.int .i64 r'.from_)).set (i * 5 + 4) (.int .i64 r'.to_) = (LV.set i (r', LV[i].2)).flatMap encR
  | [], _, hi, _ => absurd hi (by simp)
  | x :: l, 0, _, r' => by simp [encR]
  | x :: l, i + 1, hi, r' => by
    have ih := flat_upd l i (by simpa using hi) r'
    simp only [List.flatMap_cons, List.set_cons_succ, List.getElem_cons_succ]
    rw [← ih]
    have e : (i + 1) * 5 = i * 5 + 1 + 1 + 1 + 1 + 1 := by omega
    rw [e]
    simp [encR, List.set_cons_succ]
theorem flat_upd2 (LV : List (Rl × (Value × Value))) (i : Nat) (hi : i < LV.length) (r' : Rl) (hm : r'.media = LV[i].1.media) :
    ((LV.flatMap encR).set (i * 5 + 3) (.int .i64 r'.from_)).set (i * 5 + 4) (.int .i64 r'.to_) = (LV.set i (r', LV[i].2)).flatMap encR := by
  rw [← flat_upd LV i hi r', hm]
  congr 2
  apply List.ext_getElem?
  intro j
  rw [List.getElem?_set]
  split
  · rename_i h
    subst h
    have := flat_get 5 encR (fun _ => rfl) LV i 0 hi (by decide)
    rw [Nat.add_zero] at this
    rw [this]
    split
    · rfl
    · rename_i h
      exact absurd (by rw [flat_len 5 encR (fun _ => rfl)]; omega) h
  · rfl
theorem own_upd {w w' : World} {base g n cap : Nat} {xs xs' : List Value} {cur cur' : Array Value} (h : w.ownsRow base 38 5 (.slice (some ⟨g, 0, none⟩) n cap) n xs) (hg : w.heap[g]? = some (.cells cur 38 (0, 0))) (hg' : w'.heap[g]? = some (.cells cur' 38 (0, 0))) (hsz : cur'.size = cur.size) (hx : cur'.toList.take (n * 5) = xs') (hl : xs'.length = xs.length) : w'.ownsRow base 38 5 (.slice (some ⟨g, 0, none⟩) n cap) n xs' := by
  refine ⟨hl.trans h.1, .inr ?_⟩
  rcases h.2 with ⟨h1, _⟩ | ⟨g', cap', cur0, h0, hb, h1, h2, h3, h4, h5⟩
  · cases h1
  · injection h0 with h0 _ h0'
    injection h0 with h0
    injection h0 with h0
    subst h0 h0'
    rw [hg] at h1
    injection h1 with h1
    injection h1 with h1 _ _
    subst h1
    exact ⟨g, cap, cur', rfl, hb, hg', h2, h3, by rw [hsz]; exact h4, hx⟩
theorem keeps_set56 {w : World} {g o : Nat} {cur : Array Value} (hg : w.heap[g]? = some (.cells cur 38 (0, 0))) (v : Value) : Keeps (· ≠ 38) w (w.setCell ⟨g, o, none⟩ v) := Keeps.set hg (by simp) v
theorem RsIn.upd {w : World} {base g n cap : Nat} {L : List Rl} (h : RsIn w base (.slice (some ⟨g, 0, none⟩) n cap) L) (hn : L.length = n) {i : Nat} (hi : i < L.length) (r' : Rl) (hs : r'.sels = L[i].sels) (hd : r'.decls = L[i].decls) :
    RsIn (((w.setCell ⟨g, i * 5, none⟩ (.string (bs r'.media))).setCell ⟨g, i * 5 + 3, none⟩ (.int .i64 r'.from_)).setCell ⟨g, i * 5 + 4, none⟩ (.int .i64 r'.to_)) base (.slice (some ⟨g, 0, none⟩) n cap) (L.set i r') ∧
    (r'.media = L[i].media → RsIn ((w.setCell ⟨g, i * 5 + 3, none⟩ (.int .i64 r'.from_)).setCell ⟨g, i * 5 + 4, none⟩ (.int .i64 r'.to_)) base (.slice (some ⟨g, 0, none⟩) n cap) (L.set i r')) := by
  subst hn
  obtain ⟨LV, m, o, sub⟩ := h
  have lv : LV.length = L.length := by rw [← m, List.length_map]
  have hi' : i < LV.length := by omega
  obtain ⟨cur, hg, ht⟩ : ∃ cur, w.heap[g]? = some (.cells cur 38 (0, 0)) ∧ cur.toList.take (L.length * 5) = LV.flatMap encR := by
    rcases o.2 with ⟨h1, _⟩ | ⟨g', cap', cur0, h0, hb, h1, h2, h3, h4, h5⟩
    · cases h1
    · injection h0 with h0 _ _
      injection h0 with h0
      injection h0 with h0
      subst h0
      exact ⟨cur0, h1, h5⟩
  have ei : LV[i].1 = L[i] := by simp [← m]
  have em : (LV.set i (r', LV[i].2)).map (·.1) = L.set i r' := by rw [List.map_set, m]
  have len5 : (LV.flatMap encR).length = L.length * 5 := by rw [flat_len 5 encR (fun _ => rfl), lv]
  have fin : ∀ w' : World, Keeps (· ≠ 38) w w' → w'.ownsRow base 38 5 (.slice (some ⟨g, 0, none⟩) L.length cap) L.length ((LV.set i (r', LV[i].2)).flatMap encR) → RsIn w' base (.slice (some ⟨g, 0, none⟩) L.length cap) (L.set i r') := by
    intro w' kk ho
    refine ⟨LV.set i (r', LV[i].2), em, by rw [List.length_set]; exact ho, fun p hp => ?_⟩
    rcases List.mem_or_eq_of_mem_set hp with hp | rfl
    · have := sub p hp
      exact ⟨this.1.keeps kk (by decide), this.2.keeps kk (by decide)⟩
    · have := sub LV[i] (List.getElem_mem hi')
      rw [ei] at this
      simp only
      rw [hs, hd]
      exact ⟨this.1.keeps kk (by decide), this.2.keeps kk (by decide)⟩
  constructor
  · have b1 := heap_set hg (i * 5) (.string (bs r'.media))
    have b2 := heap_set b1 (i * 5 + 3) (.int .i64 r'.from_)
    have b3 := heap_set b2 (i * 5 + 4) (.int .i64 r'.to_)
    refine fin _ (((keeps_set56 hg _).trans (keeps_set56 b1 _)).trans (keeps_set56 b2 _)) ?_
    refine own_upd o hg b3 (by simp) ?_ (by rw [flat_len 5 encR (fun _ => rfl), len5]; simp [lv])
    rw [← flat_upd LV i hi' r', ← ht]
    simp only [Array.toList_setIfInBounds, List.take_set]
  · intro hmd
    have b2 := heap_set hg (i * 5 + 3) (.int .i64 r'.from_)
    have b3 := heap_set b2 (i * 5 + 4) (.int .i64 r'.to_)
    refine fin _ ((keeps_set56 hg _).trans (keeps_set56 b2 _)) ?_
    refine own_upd o hg b3 (by simp) ?_ (by rw [flat_len 5 encR (fun _ => rfl), len5]; simp [lv])
    rw [← flat_upd2 LV i hi' r' (by rw [hmd, ei]), ← ht]
    simp only [Array.toList_setIfInBounds, List.take_set]
theorem RsIn.cells {w : World} {base n cap : Nat} {va : Option Addr} {L : List Rl} (h : RsIn w base (.slice va n cap) L) (hn : L.length = n) {i : Nat} (hi : i < L.length) :
    ∃ g sv dv cur, va = some ⟨g, 0, none⟩ ∧ w.heap[g]? = some (.cells cur 38 (0, 0)) ∧ base ≤ g ∧ SsAt w sv L[i].sels ∧ DsAt w dv L[i].decls ∧ w.cell? ⟨g, i * 5, none⟩ = some (.string (bs L[i].media)) ∧ w.cell? ⟨g, i * 5 + 1, none⟩ = some sv ∧ w.cell? ⟨g, i * 5 + 2, none⟩ = some dv ∧
      w.cell? ⟨g, i * 5 + 3, none⟩ = some (.int .i64 L[i].from_) ∧ w.cell? ⟨g, i * 5 + 4, none⟩ = some (.int .i64 L[i].to_) := by
  subst hn
  obtain ⟨LV, m, o, sub⟩ := h
  have lv : LV.length = L.length := by rw [← m, List.length_map]
  have hi' : i < LV.length := by omega
  obtain ⟨g, hg, p⟩ := row_at (enc := encR) (sz := 5) (fun _ => rfl) lv o hi' (by decide)
  have ei : LV[i].1 = L[i] := by simp [← m]
  have s := sub LV[i] (List.getElem_mem hi')
  rw [ei] at s
  have p0 := p 0 (by decide)
  have p1 := p 1 (by decide)
  have p2 := p 2 (by decide)
  have p3 := p 3 (by decide)
  have p4 := p 4 (by decide)
  simp [encR, ei, -Go.CellFam.cellOfFamily] at p0 p1 p2 p3 p4
  rcases o.2 with ⟨h1, h2⟩ | ⟨g', cap', cur0, h0, hb, h1, h2, h3, h4, h5⟩
  · omega
  · injection h0 with h0 _ _
    rw [hg] at h0
    injection h0 with h0
    injection h0 with h0
    subst h0
    exact ⟨g, LV[i].2.1, LV[i].2.2, cur0, hg, h1, hb, s.1, s.2, p0, p1, p2, p3, p4⟩
end Go.Proofs.YtblkldfokeeaeacGreatDoor.Sh
namespace Go.Proofs.YtblkldfokeeaeacGreatDoor.Sh
open Go.RowKit
abbrev Rd := RdT 167
def encA (a : Atr) : List Value := [.string (bs a.name), .string (bs a.val), .int .i64 a.from_, .int .i64 a.to_]
set_option maxHeartbeats 400000 in
theorem lastTag_any (n : ByteArray) (w : World) (h : n.size ≤ 6000) :
    Calls Tryz.prog 175 #[.string n] w fun e w' => e = .returned (.string (bs (lastTag n.data.toList))) ∧ w' = w := by
  go_enter Tryz.func175, Tryz.ntmps175
  go_wp2
  go_ret
  refine ⟨?_, rfl⟩
  show Ending.returned (.string ({ data := #[60, 47] } ++ n ++ { data := #[62] })) = _
  congr 2
set_option maxHeartbeats 400000 in
theorem needShort_yes (n : ByteArray) (a : Int) (w : World) (h : n.size ≤ 20) :
    Calls Tryz.prog 191 #[.string n, .int .i64 a] w fun e w' => e = .returned (.tuple #[]) ∧ w' = w := by
  go_enter Tryz.func191, Tryz.ntmps191
  go_wp2_with fail
  go_end0
  exact ⟨rfl, rfl⟩
set_option maxHeartbeats 400000 in
theorem needShort_no (n : ByteArray) (a : Int) (w : World) (h : 20 < n.size) :
    Calls Tryz.prog 191 #[.string n, .int .i64 a] w fun e w' => e = .panicked [{ v := .iface 161 (.agg #[.int .i64 7, .int .i64 a]), recovered := false }] ∧ w' = w := by
  go_enter Tryz.func191, Tryz.ntmps191
  go_wp2_with (go_at_call 112; refine (throw_any _ _ _).mono ?_; rintro e w' ⟨rfl, rfl⟩)
  exact ⟨rfl, rfl, rfl⟩
def AtAt (w : World) (av : Value) (l : List Atr) : Prop :=
  (av = .slice none 0 0 ∧ l = []) ∨ ∃ g cap cur, av = .slice (some ⟨g, 0, none⟩) l.length cap ∧ w.heap[g]? = some (.cells cur 51 (0, 0)) ∧ l.length ≤ cap ∧ cap ≤ maxLen ∧ cur.size = cap * 4 ∧ cur.toList.take (l.length * 4) = l.flatMap encA
theorem AtAt.cell {w : World} {g : Nat} {cur : Array Value} {l : List Atr} (h : w.heap[g]? = some (.cells cur 51 (0, 0))) (ht : cur.toList.take (l.length * 4) = l.flatMap encA) {i : Nat} (hi : i < l.length) (j : Nat) (hj : j < 4) :
    w.cell? ⟨g, i * 4 + j, none⟩ = (encA l[i])[j]? := by
  have h1 := flat_get 4 encA (fun _ => rfl) l i j hi hj
  rw [← ht, List.getElem?_take, if_pos (by omega)] at h1
  simp [World.cell?, h, ← h1]
set_option maxHeartbeats 1000000 in
theorem get_any (l : List Atr) (av nmV : Value) (pa ne f t : Int) (x : List UInt8) (w : World) (hs : ∀ a ∈ l, a.val.length ≤ 6000) (hc : l.length ≤ 100) (ho : AtAt w av l) :
    Calls Tryz.prog 51 #[.agg #[nmV, .int .i64 pa, av, .int .i64 ne, .int .i64 f, .int .i64 t], .string (bs x)] w fun e w' =>
      ∃ v, e = .returned (.tuple #[.string v, .bool (l.any (fun a => a.name == x))]) ∧ Below w.heap.size w w' := by
  rcases ho with ⟨rfl, rfl⟩ | ⟨g, cap, cur, rfl, hg, h1, h2, h3, h4⟩
  · go_enter Tryz.func51, Tryz.ntmps51
    go_wp2_with fail
    go_loopg [11] 0 (fun n i wr => n = 0 ∧ i = .int .i64 0 ∧ Below w.heap.size w wr)
    case atStart => exact ⟨rfl, rfl, (Below.refl _ _).alloc (Nat.le_refl _) _⟩
    case round =>
      obtain ⟨_, rfl, hb⟩ := hrel
      go_wp2_with fail
      go_ret2
      exact ⟨_, rfl, hb⟩
  · go_enter Tryz.func51, Tryz.ntmps51
    go_wp2_with fail
    go_loopg [11] l.length (fun n i wr => ∃ k, k ≤ l.length ∧ n = l.length - k ∧ i = .int .i64 (k : Int) ∧ Below w.heap.size w wr ∧ (l.take k).any (fun a => a.name == x) = false)
    case atStart => exact ⟨0, Nat.zero_le _, rfl, rfl, (Below.refl _ _).alloc (Nat.le_refl _) _, rfl⟩
    case round =>
      obtain ⟨k, hk, hn, rfl, hb, ha⟩ := hrel
      have A : Hid (gk = l.length - k) := hn
      have B : Hid ((l.take k).any (fun a => a.name == x) = false) := ha
      clear hn ha
      by_cases hlt : k < l.length
      · have hg' : wr.heap[g]? = some (.cells cur 51 (0, 0)) := by rw [hb.block g (Array.getElem?_eq_some_iff.1 hg).1]; exact hg
        have c0 := AtAt.cell hg' h4 hlt 0 (by omega)
        have c1 := AtAt.cell hg' h4 hlt 1 (by omega)
        have c2 := AtAt.cell hg' h4 hlt 2 (by omega)
        have c3 := AtAt.cell hg' h4 hlt 3 (by omega)
        simp [encA] at c0 c1 c2 c3
        clear hg' h4
        cases hq : (l[k].name == x) with
        | true =>
          have C : Hid (l.any (fun a => a.name == x) = true) := List.any_eq_true.2 ⟨l[k], List.getElem_mem hlt, hq⟩
          have hq' : ((bs l[k].name).toList == (bs x).toList) = true := by rw [bs_toList, bs_toList]; exact hq
          have hv : (bs l[k].val).size ≤ 6000 := by rw [bs_size]; exact hs _ (List.getElem_mem hlt)
          clear hq
          go_wp2_with (go_at_call 86; refine (clone_any _ _ hv).mono ?_; rintro e w' ⟨rfl, hb'⟩)
          go_ret2
          rw [C.out]
          exact ⟨_, rfl, (hb.alloc (Nat.le_trans (Nat.le_refl _) hb.size) _).trans (hb'.mono (by simp; have := hb.size; omega))⟩
        | false =>
          have C : Hid ((l.take (k + 1)).any (fun a => a.name == x) = false) := by
            have h5 := B.out
            show (l.take (k + 1)).any (fun a => a.name == x) = false
            rw [List.take_succ_eq_append_getElem hlt, List.any_append, h5]
            simpa using hq
          have hq' : ((bs l[k].name).toList == (bs x).toList) = false := by rw [bs_toList, bs_toList]; exact hq
          clear hq
          go_wp2_with fail
          go_roundg (l.length - (k + 1))
          case measure => have := A.out; omega
          case rel => exact ⟨k + 1, by omega, rfl, by go_num, hb.alloc hb.size _, C.out⟩
      · have hkl : k = l.length := by omega
        have C : Hid (l.any (fun a => a.name == x) = false) := by have := B.out; rw [hkl, List.take_length] at this; exact this
        clear hkl
        go_wp2_with fail
        go_ret2
        rw [C.out]
        exact ⟨_, rfl, hb⟩
end Go.Proofs.YtblkldfokeeaeacGreatDoor.Sh
namespace Go.Proofs.YtblkldfokeeaeacGreatDoor.Sh
open Go.RowKit
theorem AtAt.of {w w' : World} {av : Value} {l : List Atr} (h : AtAt w av l) {X : Nat → Prop} (hk : Kp X w w') (hx : ∀ j, X j → ∀ cur fz, w.heap[j]? ≠ some (.cells cur 51 fz)) : AtAt w' av l := by
  rcases h with h | ⟨g, cap, cur, h0, h1, h2⟩
  · exact .inl h
  · refine .inr ⟨g, cap, cur, h0, ?_, h2⟩
    rw [hk.block g (Array.getElem?_eq_some_iff.1 h1).1 (fun hX => hx g hX _ _ h1)]
    exact h1
theorem RdT.not41 {w : World} {b : Nat} {s : ByteArray} {k : Nat} {nv : Value} (h : Rd w b s k nv) : ∀ j, j = b → ∀ cur fz, w.heap[j]? ≠ some (.cells cur 51 fz) := by
  rintro j rfl cur fz hc
  unfold Rd RdT at h
  rw [h] at hc
  simp at hc
theorem AtAt.form {w : World} {av : Value} {l : List Atr} (h : AtAt w av l) : ∃ a cap, av = .slice a l.length cap := by
  rcases h with ⟨rfl, rfl⟩ | ⟨g, cap, cur, h0, _⟩
  · exact ⟨none, 0, rfl⟩
  · exact ⟨_, _, h0⟩
set_option maxHeartbeats 1000000 in
theorem attrName_yes (b : Nat) (s : ByteArray) (k m : Nat) (nv : Value) (l : List Atr) (nm : List UInt8) (nmV av : Value) (pa ne f t : Int) (w : World)
    (hl : s.size ≤ 6000) (hr : Rd w b s k nv) (hs : ∀ a ∈ l, a.val.length ≤ 6000) (ho : AtAt w av l) (hm : attrName s.data.toList k l = .ok (nm, m)) :
    Calls Tryz.prog 210 #[.pointer (some ⟨b, 0, none⟩), .agg #[nmV, .int .i64 pa, av, .int .i64 ne, .int .i64 f, .int .i64 t]] w fun e w' =>
      e = .returned (.string (bs nm)) ∧ Rd w' b s m nv ∧ Kp (· = b) w w' := by
  obtain ⟨ax, acap, rfl⟩ := ho.form
  unfold attrName at hm
  split at hm
  · cases hm
  rename_i m' hn
  split at hm
  · cases hm
  rename_i h8
  split at hm
  · cases hm
  rename_i h20
  split at hm
  · cases hm
  rename_i hany
  injection hm with hm
  injection hm with hm1 hm2
  subst hm2
  have hnm : nm = sub s.data.toList k m' := hm1.symm
  have hany' : l.any (fun a => a.name == nm) = false := by rw [hnm]; simpa using hany
  have hle := nameTo_le hn
  have h20' : (bs nm).size ≤ 20 := by rw [bs_size, hnm]; omega
  have N : Hid (nameTo s.data.toList k = .ok m') := hn
  have M : Hid (s.extract k m' = bs nm) := by rw [hnm]; exact sub_bs s k m'
  have H : Hid (l.any (fun a => a.name == nm) = false) := hany'
  have hlt := hr.lt
  have hn0 : ¬ w.heap.size = b := by omega
  clear hn hm1 hnm hany hany' h20
  have h1 := cell_alloc hr.c1
  go_enter Tryz.func210, Tryz.ntmps210
  go_wp2_with (first | (go_at_call 113; refine (at_any b k _ (h1 _)).mono ?_; rintro e w' ⟨rfl, rfl⟩))
  refine (name_yes b s k m' nv _ hl (hr.alloc _) N.out).mono ?_
  rw [M.out]
  rintro e w1 ⟨rfl, hr1, hk1⟩
  have c0 := hk1.cell (j := w.heap.size) (by simp) hn0 0
  have c1 := hk1.cell (j := w.heap.size) (by simp) hn0 1
  have c2 := hk1.cell (j := w.heap.size) (by simp) hn0 2
  have c3 := hk1.cell (j := w.heap.size) (by simp) hn0 3
  have c4 := hk1.cell (j := w.heap.size) (by simp) hn0 4
  have c5 := hk1.cell (j := w.heap.size) (by simp) hn0 5
  simp [go_sem] at c0 c1 c2 c3 c4 c5
  have ho1 : AtAt w1 (.slice ax l.length acap) l := AtAt.of (AtAt.of ho (Kp.alloc w _) (X := fun _ => False) (fun _ h => h.elim)) hk1 (hr.alloc _).not41
  go_wp2_with (first | (go_at_call 191; refine (needShort_yes _ _ _ h20').mono ?_; rintro e w' ⟨rfl, rfl⟩))
  refine (get_any l _ nmV pa ne f t nm _ hs (by omega) ho1).mono ?_
  rw [H.out]
  rintro e w2 ⟨v, rfl, hb⟩
  go_wp2_with fail
  go_ret
  exact ⟨rfl, hr1.kp hb, ((Kp.alloc w _).trans hk1).trans (Kp.below hb _)⟩
set_option maxHeartbeats 1000000 in
theorem attrName_no (b : Nat) (s : ByteArray) (k : Nat) (nv : Value) (l : List Atr) (x : Nat × Nat) (nmV av : Value) (pa ne f t : Int) (w : World)
    (hl : s.size ≤ 6000) (hr : Rd w b s k nv) (hs : ∀ a ∈ l, a.val.length ≤ 6000) (ho : AtAt w av l) (hm : attrName s.data.toList k l = .error x) :
    Calls Tryz.prog 210 #[.pointer (some ⟨b, 0, none⟩), .agg #[nmV, .int .i64 pa, av, .int .i64 ne, .int .i64 f, .int .i64 t]] w fun e w' =>
      e = .panicked [{ v := .iface 161 (.agg #[.int .i64 x.1, .int .i64 x.2]), recovered := false }] ∧ Below b w w' := by
  obtain ⟨ax, acap, rfl⟩ := ho.form
  have h1 := cell_alloc hr.c1
  have hlt := hr.lt
  have hn0 : ¬ w.heap.size = b := by omega
  unfold attrName at hm
  split at hm
  · rename_i hn
    injection hm with hx
    subst hx
    have N : Hid (nameTo s.data.toList k = .error _) := hn
    clear hn
    go_enter Tryz.func210, Tryz.ntmps210
    go_wp2_with (first | (go_at_call 113; refine (at_any b k _ (h1 _)).mono ?_; rintro e w' ⟨rfl, rfl⟩))
    refine (name_no b s k _ nv _ (hr.alloc _) N.out).mono ?_
    rintro e w1 ⟨rfl, n, rfl⟩
    exact ⟨rfl, rfl, below_drewN' ((Below.refl _ _).alloc (by omega) _) _⟩
  rename_i m' hn
  have N : Hid (nameTo s.data.toList k = .ok m') := hn
  have hle := nameTo_le hn
  have M : Hid (s.extract k m' = bs (sub s.data.toList k m')) := sub_bs s k m'
  clear hn
  generalize sub s.data.toList k m' = nm at hm M
  have start : ∀ R : Ending → World → Prop, (∀ w1, Rd w1 b s m' nv → Kp (· = b) w w1 → AtAt w1 (.slice ax l.length acap) l →
      w1.cell? ⟨w.heap.size, 0, none⟩ = some nmV → w1.cell? ⟨w.heap.size, 1, none⟩ = some (.int .i64 pa) → w1.cell? ⟨w.heap.size, 2, none⟩ = some (.slice ax l.length acap) →
      w1.cell? ⟨w.heap.size, 3, none⟩ = some (.int .i64 ne) → w1.cell? ⟨w.heap.size, 4, none⟩ = some (.int .i64 f) → w1.cell? ⟨w.heap.size, 5, none⟩ = some (.int .i64 t) → R (.returned (.string (bs nm))) w1) →
      Calls Tryz.prog 179 #[.pointer (some ⟨b, 0, none⟩)] (w.alloc (.cells #[nmV, .int .i64 pa, .slice ax l.length acap, .int .i64 ne, .int .i64 f, .int .i64 t] 49)) R := by
    intro R hR
    refine (name_yes b s k m' nv _ hl (hr.alloc _) N.out).mono ?_
    rw [M.out]
    rintro e w1 ⟨rfl, hr1, hk1⟩
    have c0 := hk1.cell (j := w.heap.size) (by simp) hn0 0
    have c1 := hk1.cell (j := w.heap.size) (by simp) hn0 1
    have c2 := hk1.cell (j := w.heap.size) (by simp) hn0 2
    have c3 := hk1.cell (j := w.heap.size) (by simp) hn0 3
    have c4 := hk1.cell (j := w.heap.size) (by simp) hn0 4
    have c5 := hk1.cell (j := w.heap.size) (by simp) hn0 5
    simp [go_sem] at c0 c1 c2 c3 c4 c5
    exact hR w1 hr1 ((Kp.alloc w _).trans hk1) (AtAt.of (AtAt.of ho (Kp.alloc w _) (X := fun _ => False) (fun _ h => h.elim)) hk1 (hr.alloc _).not41) c0 c1 c2 c3 c4 c5
  split at hm
  · rename_i h8
    injection hm with hx
    subst hx
    go_enter Tryz.func210, Tryz.ntmps210
    go_wp2_with (first | (go_at_call 113; refine (at_any b k _ (h1 _)).mono ?_; rintro e w' ⟨rfl, rfl⟩))
    refine start _ ?_
    intro w1 hr1 hk1 ho1 c0 c1 c2 c3 c4 c5
    clear start
    go_wp2_with (go_at_call 112; refine (throw_any _ _ _).mono ?_; rintro e w' ⟨rfl, rfl⟩)
    exact ⟨rfl, rfl, hk1.under hlt⟩
  rename_i h8
  split at hm
  · rename_i h20
    have h20' : 20 < (bs nm).size := by rw [bs_size]; exact h20
    injection hm with hx
    subst hx
    go_enter Tryz.func210, Tryz.ntmps210
    go_wp2_with (first | (go_at_call 113; refine (at_any b k _ (h1 _)).mono ?_; rintro e w' ⟨rfl, rfl⟩))
    refine start _ ?_
    intro w1 hr1 hk1 ho1 c0 c1 c2 c3 c4 c5
    clear start
    go_wp2_with (go_at_call 191; refine (needShort_no _ _ _ h20').mono ?_; rintro e w' ⟨rfl, rfl⟩)
    exact ⟨rfl, rfl, hk1.under hlt⟩
  rename_i h20
  have h20' : (bs nm).size ≤ 20 := by rw [bs_size]; omega
  clear h20
  split at hm
  · rename_i hany
    have H : Hid (l.any (fun a => a.name == nm) = true) := hany
    injection hm with hx
    subst hx
    clear hany
    go_enter Tryz.func210, Tryz.ntmps210
    go_wp2_with (first | (go_at_call 113; refine (at_any b k _ (h1 _)).mono ?_; rintro e w' ⟨rfl, rfl⟩))
    refine start _ ?_
    intro w1 hr1 hk1 ho1 c0 c1 c2 c3 c4 c5
    clear start
    go_wp2_with (first | (go_at_call 191; refine (needShort_yes _ _ _ h20').mono ?_; rintro e w' ⟨rfl, rfl⟩))
    refine (get_any l _ nmV pa ne f t nm _ hs (by omega) ho1).mono ?_
    rw [H.out]
    rintro e w2 ⟨v, rfl, hb⟩
    go_wp2_with (go_at_call 112; refine (throw_any _ _ _).mono ?_; rintro e w' ⟨rfl, rfl⟩)
    exact ⟨rfl, rfl, (hk1.trans (Kp.below hb _)).under hlt⟩
  · cases hm
end Go.Proofs.YtblkldfokeeaeacGreatDoor.Sh
