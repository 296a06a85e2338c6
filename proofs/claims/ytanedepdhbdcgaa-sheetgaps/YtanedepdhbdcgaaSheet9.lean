/-
  What the reader's sheet, the closures that recover, read (of rules, of declarations), Parse and Decls of package sheet do: the plain answers of the SheetSpec text, in new memory. Conditions: the cell of internal/bytealg.MaxLen holds some int; the text is shorter than 2 to the 63.
-/
import Derived.Test.YtanedepdhbdcgaaSheet8
import Derived.Defers
import Derived.Recover
import Derived.Laws.Pointers
namespace Go.Proofs.Ytanedepdhbdcgaa
open Go.RowKit

set_option maxHeartbeats 2000000 in
theorem sheet_any (b : Nat) (s : ByteArray) (base : Nat) (nv : Value) (w : World) (R : Ending → World → Prop) (hl : s.size ≤ 4000) (hb : b < base) (hba : base ≤ w.heap.size) (hb0 : 0 < b) (hmx : Mx w) (hr : Rs w b s 0 nv) (hn : RsIn w base nv [])
    (hok : Hid (∀ L nv' w', sheetAll s.data.toList = .ok L → RsIn w' base nv' L → Stp b nv w nv' w' → L.length ≤ 60 → R (.returned nv') w'))
    (hbad : Hid (∀ (x : Nat × Nat) w', sheetAll s.data.toList = .error x → Below b w w' → R (.panicked [{ v := .iface 87 (.agg #[.int .i64 x.1, .int .i64 x.2]), recovered := false }]) w')) :
    Calls Try.prog 41 #[.pointer (some ⟨b, 0, none⟩)] w R := by
  have hlt := hr.lt
  have HS : Hid (s.size = s.data.toList.length) := Lib.size_eq s
  have row0 := hid hn.row
  go_enter Try.func41, Try.ntmps41
  go_wp2_with fail
  refine gaps_any b s 0 nv _ _ hl (Nat.zero_le _) hb0 hmx hr (hid ⟨?_, ?_⟩)
  rotate_left
  · intro x w1 e1 hbl
    exact ⟨rfl, hbad.out x _ (by unfold sheetAll; rw [rulesTo_err e1]) hbl⟩
  intro g k1 v w1 e1 hk1 hk2 hr1 kp1 hv
  subst hv
  have E1 : Hid (stepTo 4000 s.data.toList k1 none [] = sheetAll s.data.toList) := by
    show _ = sheetAll s.data.toList
    unfold sheetAll
    rw [rulesTo_ok e1]
  clear e1
  have n1 := hn.keeps (rd_keeps hr kp1) (by decide)
  go_wp2_with fail
  go_loopg [] 4000 (fun g wr => ∃ (k' : Nat) (L' : List Rl) (nv' : Value), s.size - k' ≤ g ∧ k' ≤ s.size ∧ L'.length ≤ 60 ∧ Rs wr b s k' nv' ∧ RsIn wr base nv' L' ∧ Stp b nv w nv' wr ∧ stepTo g s.data.toList k' none L' = sheetAll s.data.toList)
  case atStart => exact ⟨k1, [], nv, by omega, hk2, by simp, hr1, n1, Stp.ofKp kp1, E1.out⟩
  case round =>
    clear hr1 n1 kp1 E1
    obtain ⟨k', L', nv', hf', hk12, hL', hr', hn', hst, hE⟩ := hrel
    have E := hid hE
    clear hE
    have zw : w.heap.size ≤ wr.heap.size := hst.kp.size
    have MM := hid (hmx.stp hst hn hb0 hb)
    have UN := hid (hst.under hlt (fun g h => by have := row0.out g h; omega))
    have lt' := hr'.lt
    have h0 := hr'.c0
    have h1 := hr'.c1
    have h2 := hr'.c2
    obtain ⟨nx, ncap, rfl⟩ := NAt.form hn'
    go_wp2_with fail
    by_cases hend : s.size ≤ k'
    · refine (ended_yes b s k' _ hend h0 h1).mono ?_
      rintro e w2 ⟨rfl, n, rfl⟩
      have EX : Hid (sheetAll s.data.toList = .ok L') := by
        show sheetAll s.data.toList = .ok L'
        rw [← E.out]; simp only [stepTo]; rw [if_pos (by rw [← HS.out]; exact hend)]
      go_wp2_with fail
      exact hok.out L' _ _ EX.out hn' (hst.trans (Stp.ofKp ((Kp.refl _ _).drewN _))) hL'
    refine (ended_no b s k' _ (by omega) h0 h1).mono ?_
    rintro e w2 ⟨rfl, n2, rfl⟩
    clear h0 h1 h2
    have E2 : Hid ((if has s.data.toList k' mediaL then
      match mediaHead s.data.toList (k' + 6) with
      | .error x => .error x
      | .ok (n, k2) => rulesTo gk s.data.toList k2 (some n) L'
    else
      match rule L'.length s.data.toList k' with
      | .error x => .error x
      | .ok (p, k2) => rulesTo gk s.data.toList k2 none (L' ++ [⟨[], p.1, p.2, k', k2⟩])) = sheetAll s.data.toList) := by
      show _ = sheetAll s.data.toList
      rw [← E.out]; simp only [stepTo]; rw [if_neg (show ¬ s.data.toList.length ≤ k' by rw [← HS.out]; exact hend)]
      rfl
    clear E
    have hr2 := hr'.drewN n2
    have nn2 : RsIn (wr.drewN n2) base (.slice nx L'.length ncap) L' := hn'
    have st2 : Stp b nv w (.slice nx L'.length ncap) (wr.drewN n2) := hst.trans (Stp.ofKp ((Kp.refl _ _).drewN _))
    have M2' : Mx (wr.drewN n2) := MM.out
    have U2' : Below b w (wr.drewN n2) := below_drewN' UN.out _
    have z2 : wr.heap.size ≤ (wr.drewN n2).heap.size := Nat.le_refl _
    generalize wr.drewN n2 = w2 at hr2 nn2 st2 M2' U2' z2 ⊢
    have M2 := hid M2'
    have U2 := hid U2'
    clear M2' U2' hn' hst hr' MM UN
    go_wp2_with fail
    cases t1 : has s.data.toList k' [64, 109, 101, 100, 105, 97] with
    | true =>
      have l1 := has_le t1 (by rw [← HS.out]; exact hk12)
      rw [← HS.out] at l1
      have l1' : k' + 6 ≤ s.size := l1
      clear l1
      refine (take_yes b s ⟨#[64, 109, 101, 100, 105, 97]⟩ k' _ _ hk12 (by omega) (by show (6 : Nat) ≤ 6000; omega) hr2 t1).mono ?_
      rintro e w3 ⟨rfl, hr3, hkp3⟩
      have E3 : Hid ((match mediaHead s.data.toList (k' + 6) with
        | .error x => .error x
        | .ok (n, k2) => rulesTo gk s.data.toList k2 (some n) L') = sheetAll s.data.toList) := by
        have := E2.out
        rw [if_pos (show has s.data.toList k' mediaL = true from t1)] at this
        exact this
      clear t1 E2
      have n3 := nn2.keeps (rd_keeps hr2 hkp3) (by decide)
      have st3 := st2.trans (Stp.ofKp hkp3)
      have z3 := hkp3.size
      have M3 := hid (hmx.stp st3 hn hb0 hb)
      have U3 := hid (st3.under hlt (fun g h => by have := row0.out g h; omega))
      clear st2 hkp3 nn2 hr2 M2 U2
      go_wp2_with fail
      refine media_any (sheetAll s.data.toList) gk b s base (k' + 6) L' _ _ _ hl l1' (by omega) hL' hb (by omega) hb0 M3.out hr3 n3 E3.out ?_ ?_
      rotate_left
      · intro x w4 e4 hbl
        exact ⟨rfl, hbad.out x _ e4 (U3.out.trans hbl)⟩
      intro f4 k4 L4 nv4 w4 e4 hf4 hf5 hk13 hk14 hL4 hr4 hn4 hst4
      obtain ⟨g0, rfl⟩ : ∃ g0, f4 = g0 + 1 := ⟨f4 - 1, by omega⟩
      have E4 := hid e4
      clear e4 E3
      have st4 := st3.trans hst4
      have M4 := hid (hmx.stp st4 hn hb0 hb)
      have U4 := hid (st4.under hlt (fun g h => by have := row0.out g h; omega))
      go_wp2_with fail
      refine gaps_any b s k4 nv4 _ _ hl hk14 hb0 M4.out hr4 (hid ⟨?_, ?_⟩)
      rotate_left
      · intro x w5 e5 hbl
        exact ⟨rfl, hbad.out x _ (by have := E4.out; rw [rulesTo_err e5] at this; exact this.symm) (U4.out.trans hbl)⟩
      intro g5 k5 v w5 e5 hk15 hk16 hr5 hkp5 hv
      subst hv
      have E5 : Hid (stepTo g0 s.data.toList k5 none L4 = sheetAll s.data.toList) := by
        have := E4.out
        rw [rulesTo_ok e5] at this
        exact this
      clear e5 E4
      have n5 := hn4.keeps (rd_keeps hr4 hkp5) (by decide)
      go_wp2_with fail
      go_roundg g0
      case measure => omega
      case rel => exact ⟨k5, L4, nv4, by omega, hk16, hL4, hr5, n5, st4.trans (Stp.ofKp hkp5), E5.out⟩
    | false =>
    refine (take_no b s ⟨#[64, 109, 101, 100, 105, 97]⟩ k' _ _ hk12 hr2 t1).mono ?_
    rintro e w3 ⟨rfl, n3, rfl⟩
    have E3 : Hid ((match rule L'.length s.data.toList k' with
      | .error x => .error x
      | .ok (p, k2) => rulesTo gk s.data.toList k2 none (L' ++ [⟨[], p.1, p.2, k', k2⟩])) = sheetAll s.data.toList) := by
      have := E2.out
      rw [if_neg (by rw [show has s.data.toList k' mediaL = false from t1]; decide)] at this
      exact this
    clear t1 E2
    have hr3 := hr2.drewN n3
    have nn3 : RsIn (w2.drewN n3) base (.slice nx L'.length ncap) L' := nn2
    have st3 : Stp b nv w (.slice nx L'.length ncap) (w2.drewN n3) := st2.trans (Stp.ofKp ((Kp.refl _ _).drewN _))
    have M3' : Mx (w2.drewN n3) := M2.out
    have U3' : Below b w (w2.drewN n3) := below_drewN' U2.out _
    have z3 : w2.heap.size ≤ (w2.drewN n3).heap.size := Nat.le_refl _
    generalize w2.drewN n3 = w3 at hr3 nn3 st3 M3' U3' z3 ⊢
    have M3 := hid M3'
    have U3 := hid U3'
    clear M3' U3' st2 nn2 hr2 M2 U2
    go_wp2_with fail
    refine rule_any [] b s base k' L' _ _ _ hl hk12 hL' (by omega) hb0 M3.out hr3 nn3 ?_ ?_
    rotate_left
    · intro x w7 e7 hbl
      exact ⟨rfl, hbad.out x _ (by rw [← E3.out, e7]) (U3.out.trans hbl)⟩
    intro p k7 nv7 w7 e7 hk13 hk14 hr7 hn7 hst7 h59
    have E4 : Hid (rulesTo gk s.data.toList k7 none (L' ++ [⟨[], p.1, p.2, k', k7⟩]) = sheetAll s.data.toList) := by
      show _ = sheetAll s.data.toList
      rw [← E3.out, e7]
    clear e7 E3
    obtain ⟨g0, hg0⟩ : ∃ g0, gk = g0 + 1 := ⟨gk - 1, by omega⟩
    have st7 := st3.trans hst7
    have M8 := hid (hmx.stp st7 hn hb0 hb)
    have U8 := hid (st7.under hlt (fun g h => by have := row0.out g h; omega))
    have G0 := hid hg0
    clear hg0
    go_wp2_with fail
    refine gaps_any b s k7 nv7 _ _ hl hk14 hb0 M8.out hr7 (hid ⟨?_, ?_⟩)
    rotate_left
    · intro x w8 e8 hbl
      exact ⟨rfl, hbad.out x _ (by have := E4.out; rw [G0.out, rulesTo_err e8] at this; exact this.symm) (U8.out.trans hbl)⟩
    intro g8 k8 v w8 e8 hk15 hk16 hr8 hkp8 hv
    subst hv
    have E5 : Hid (stepTo g0 s.data.toList k8 none (L' ++ [⟨[], p.1, p.2, k', k7⟩]) = sheetAll s.data.toList) := by
      have := E4.out
      rw [G0.out, rulesTo_ok e8] at this
      exact this
    clear e8 E4
    have n8 := hn7.keeps (rd_keeps hr7 hkp8) (by decide)
    go_wp2_with fail
    go_roundg g0
    case measure => have := G0.out; omega
    case rel => exact ⟨k8, L' ++ [⟨[], p.1, p.2, k', k7⟩], nv7, by have := G0.out; omega, hk16, by simp; omega, hr8, n8, st7.trans (Stp.ofKp hkp8), E5.out⟩

set_option maxHeartbeats 1000000 in
theorem snew_any (s : ByteArray) (w : World) :
    Calls Try.prog 50 #[.string s] w fun e w' => e = .returned (.agg #[.string s, .int .i64 0]) ∧ Below w.heap.size w w' := by
  go_enter Try.func50, Try.ntmps50
  go_wp2_with fail
  exact bodyPost_ret (v := .agg #[.string s, .int .i64 0]) (by simp [results, Try.results50, go_sem]) rfl ⟨rfl, (Below.refl _ _).alloc (Nat.le_refl _) _⟩

set_option maxHeartbeats 1000000 in
theorem scatch_panicking (q : Nat) (er at_ : Int) (older : List PanicEntry) (w : World) (e0 a0 : Int) (hf0 : w.cell? ⟨q, 0, none⟩ = some (.int .i64 e0)) (hf1 : w.cell? ⟨q, 1, none⟩ = some (.int .i64 a0))
    (z0 : w.frozen? ⟨q, 0, none⟩ = false) (z1 : w.frozen? ⟨q, 1, none⟩ = false) :
    CallsD Try.prog 58 #[.pointer (some ⟨q, 0, none⟩)] (.panicking ({ v := .iface 87 (.agg #[.int .i64 er, .int .i64 at_]), recovered := false } :: older)) w fun e u' w' =>
      e = .returned (.tuple #[]) ∧ u' = .panicking ({ v := .iface 87 (.agg #[.int .i64 er, .int .i64 at_]), recovered := true } :: older) ∧
      ∃ n o, w' = (((w.setCell ⟨q, 0, none⟩ (.int .i64 er)).setCell ⟨q, 1, none⟩ (.int .i64 at_)).alloc o).drewN n := by
  have hta : ∀ w : World, (Instr.typeAssert (.iface 87 (.agg #[.int .i64 er, .int .i64 at_])) 20 87 true).run Try.prog w = .ok (.tuple #[.agg #[.int .i64 er, .int .i64 at_], .bool true]) w := fun _ => by kernel_rfl
  refine callsD_of_wpS Try.func58 rfl fun c₀ cs hu => ?_
  apply wpS_seq
  apply wpS_region
  simp [wpOpsS, go_sem, recoverD, hu, Try.ntmps58, Exit.thenS, hta]
  refine wpS_of_wp ?_
  simp only [← List.toArray_replicate, List.replicate, List.setIfInBounds_toArray, List.set_cons_zero, List.set_cons_succ, List.append_toArray, List.cons_append, List.nil_append]
  have hq : q < w.heap.size := lt_of_cell hf0
  have g3 : ¬ q = w.heap.size := by omega
  have g4 : ¬ w.heap.size = q := by omega
  have c2 := cell_alloc hf0
  have c3 := cell_alloc hf1
  have d2 := frozen_alloc' hq z0
  have d3 := frozen_alloc' hq z1
  go_wp2_with fail
  refine (?_ : bodyPostS _ _ _ _ _ _ _ _ _)
  simp [bodyPostS, results, Try.results58]
  exact ⟨0, _, rfl⟩

set_option maxHeartbeats 1000000 in
theorem scatch_idle (q : Nat) (w : World) :
    CallsD Try.prog 58 #[.pointer (some ⟨q, 0, none⟩)] .returning w fun e u' w' => e = .returned (.tuple #[]) ∧ u' = .returning ∧ ∃ o, w' = w.alloc o := by
  have hta : ∀ w : World, (Instr.typeAssert .nilIface 20 87 true).run Try.prog w = .ok (.tuple #[.agg #[.int .i64 0, .int .i64 0], .bool false]) w := fun _ => by kernel_rfl
  refine callsD_of_wpS Try.func58 rfl fun c₀ cs hu => ?_
  apply wpS_seq
  apply wpS_region
  simp [wpOpsS, go_sem, recoverD, hu, Try.ntmps58, Exit.thenS, hta]
  refine wpS_of_wp ?_
  simp only [← List.toArray_replicate, List.replicate, List.setIfInBounds_toArray, List.set_cons_zero, List.set_cons_succ, List.append_toArray, List.cons_append, List.nil_append]
  go_wp2_with fail
  simp [bodyPostS, results, Try.results58]
  refine ⟨.returning, ?_, rfl, _, rfl⟩
  cases c₀
  simp only at hu
  rw [hu]

set_option maxHeartbeats 2000000 in
theorem read_rules (s : ByteArray) (w : World) (R : Ending → World → Prop) (hsz : s.size ≤ 9223372036854775807) (hmx : Mx w)
    (hok : Hid (∀ L nv w', sheetParse s.data.toList = .ok L → RsIn w' w.heap.size nv L → Below w.heap.size w w' → L.length ≤ 60 → R (.returned (.tuple #[nv, .agg #[.int .i64 0, .int .i64 0]])) w'))
    (hbad : Hid (∀ (x : Nat × Nat) w', sheetParse s.data.toList = .error x → Below w.heap.size w w' → R (.returned (.tuple #[.slice none 0 0, .agg #[.int .i64 x.1, .int .i64 x.2]])) w')) :
    Calls Try.prog 40 #[.string s, .func (.func 41) #[] #[]] w R := by
  have hmf : ∀ (fn : Fn) (first cap : Array Value) (w : World), (Instr.makeFunc fn first cap).run Try.prog w = .ok (.func fn first cap) w := fun _ _ _ _ => rfl
  have hS : s.size = s.data.toList.length := Lib.size_eq s
  have h0 : 0 < w.heap.size := by obtain ⟨mx, h⟩ := hmx; exact lt_of_cell h
  by_cases hbig : 4000 < s.size
  · have EX : Hid (sheetParse s.data.toList = .error (4, 0)) := by
      show sheetParse s.data.toList = .error (4, 0)
      unfold sheetParse
      rw [if_pos (by omega)]
    have hbI : (4000 : Int) < (s.size : Int) := by omega
    have hbB : decide ((4000 : Int) < (s.size : Int)) = true := decide_eq_true hbI
    clear hS
    go_enter_defers Try.func40, Try.ntmps40
    go_wp2_with fail
    simp [bodyPostD, Leaves, results, Try.results40, go_sem]
    exact hbad.out (4, 0) _ EX.out ((Below.refl _ _).alloc (Nat.le_refl _) _)
  have hl : s.size ≤ 4000 := by omega
  have PE : Hid (sheetParse s.data.toList = sheetAll s.data.toList) := by
    show sheetParse s.data.toList = sheetAll s.data.toList
    unfold sheetParse
    rw [if_neg (by omega)]
  have hbB : decide ((4000 : Int) < (s.size : Int)) = false := decide_eq_false (by omega)
  clear hS
  go_enter_defers Try.func40, Try.ntmps40
  go_wp2_with (first | (go_at_call 50; refine (snew_any _ _).mono ?_; rintro e w1 ⟨rfl, hb1⟩))
  have hbW : Below w.heap.size w w1 := ((Below.refl _ _).alloc (Nat.le_refl _) _).trans (hb1.mono (by simp))
  have F1 := (hb1.block w.heap.size (by simp)).trans (heap_alloc_new w (.cells #[.int .i64 0, .int .i64 0] 25))
  have s1 : w.heap.size + 1 ≤ w1.heap.size := by have := hb1.size; simpa using this
  have hr0 : Rs (w1.alloc (.cells #[.string s, .int .i64 0, .slice none 0 0] 96)) w1.heap.size s 0 (.slice none 0 0) := heap_alloc_new w1 _
  have m0 : Mx (w1.alloc (.cells #[.string s, .int .i64 0, .slice none 0 0] 96)) := by
    obtain ⟨mx, h⟩ := hmx
    exact ⟨mx, cell_alloc ((hbW.cell (p := ⟨0, 0, none⟩) h0).trans h) _⟩
  have F2 := (Below.heap_alloc w1 (.cells #[.string s, .int .i64 0, .slice none 0 0] 96) _ (by omega)).trans F1
  have hbX : Below w.heap.size w (w1.alloc (.cells #[.string s, .int .i64 0, .slice none 0 0] 96)) := hbW.alloc (by omega) _
  refine sheet_any w1.heap.size s (w1.heap.size + 1) (.slice none 0 0) _ _ hl (by omega) (by simp) (by omega) m0 hr0 (NAt.nil _ _ _ _ _ _) ?_ ?_
  · intro L nv w2 he hn2 hst hL
    have F3 := (hst.kp.block w.heap.size (by simp; omega) (by simp [Value.ownBlock]; omega)).trans F2
    have f0 := cell_of F3 0
    have f1 := cell_of F3 1
    have fz0 := fz_of F3 0
    have fz1 := fz_of F3 1
    simp at f0 f1
    obtain ⟨na, ncap, rfl⟩ := NAt.form hn2
    have HN := hid hn2
    have EX := hid he
    have HF := hid F3
    have hbY : Below w.heap.size w w2 := hbX.trans ⟨hst.kp.os, hst.kp.tape, hst.kp.output, hst.kp.size, fun j hj => hst.kp.block j (by simp; omega) (by simp [Value.ownBlock]; omega)⟩
    have UN := hid hbY
    clear he hn2 hst F3 F1 F2 hb1 hbW hbX hbY m0 hr0
    go_wp2_with fail
    have kk : Kp (· = w.heap.size) w2 ((w2.setCell ⟨w.heap.size, 0, none⟩ (.int .i64 0)).setCell ⟨w.heap.size, 1, none⟩ (.int .i64 0)) := (Kp.set w2 w.heap.size 0 (.int .i64 0)).trans (Kp.set _ w.heap.size 1 (.int .i64 0))
    refine leaves_cons (f := 58) (args := #[.pointer (some ⟨w.heap.size, 0, none⟩)]) (by simp) (by simp [go_sem]) ?_
    refine (scatch_idle w.heap.size _).mono ?_
    rintro e u' w'' ⟨rfl, rfl, o, rfl⟩
    have z2 : w.heap.size < w2.heap.size := (Array.getElem?_eq_some_iff.1 HF.out).1
    have F4 : (((w2.setCell ⟨w.heap.size, 0, none⟩ (.int .i64 0)).setCell ⟨w.heap.size, 1, none⟩ (.int .i64 0)).alloc o).heap[w.heap.size]? = some (.cells #[.int .i64 0, .int .i64 0] 25 (0, 0)) := by
      have := heap_set (heap_set HF.out 0 (.int .i64 0)) 1 (.int .i64 0)
      rw [Below.heap_alloc _ _ _ (by simp [World.setCell]; omega), this]
      simp
    have ka : Kp (· = w.heap.size) w2 (((w2.setCell ⟨w.heap.size, 0, none⟩ (.int .i64 0)).setCell ⟨w.heap.size, 1, none⟩ (.int .i64 0)).alloc o) := kk.trans (Kp.alloc _ o)
    have ub : Below w.heap.size w (((w2.setCell ⟨w.heap.size, 0, none⟩ (.int .i64 0)).setCell ⟨w.heap.size, 1, none⟩ (.int .i64 0)).alloc o) := ((UN.out.setCell (by simp) _).setCell (by simp) _).alloc (by simp [World.setCell]; omega) _
    have q1 := cell_of F4 0
    have q2 := cell_of F4 1
    simp at q1 q2
    have nd : RsIn _ w.heap.size (.slice na L.length ncap) L := NAt.lower (RsIn.keeps HN.out (Keeps.ofKp (Ts := (· ≠ 25)) ka (by
      rintro j rfl cur U fz hU hc
      rw [HF.out] at hc
      injection hc with hc
      injection hc with _ h2 _
      exact hU h2.symm)) (by decide)) (by omega)
    have fin := hok.out L (.slice na L.length ncap) _ (PE.out.trans EX.out) nd ub hL
    generalize (((w2.setCell ⟨w.heap.size, 0, none⟩ (.int .i64 0)).setCell ⟨w.heap.size, 1, none⟩ (.int .i64 0)).alloc o) = W3 at q1 q2 fin ⊢
    simp [Leaves, settle, results, Try.results40, go_sem, q1, q2]
    exact fin
  · intro x w2 he hbl
    have F3 := (hbl.block w.heap.size (by omega)).trans F2
    have f0 := cell_of F3 0
    have f1 := cell_of F3 1
    have fz0 := fz_of F3 0
    have fz1 := fz_of F3 1
    simp at f0 f1
    have UN : Below w.heap.size w w2 := hbX.trans (hbl.mono (by omega))
    refine leaves_cons (f := 58) (args := #[.pointer (some ⟨w.heap.size, 0, none⟩)]) (by simp) (by simp [go_sem]) ?_
    refine (scatch_panicking w.heap.size x.1 x.2 [] _ _ _ f0 f1 fz0 fz1).mono ?_
    rintro e u' w'' ⟨rfl, rfl, n, o, rfl⟩
    have z2 : w.heap.size < w2.heap.size := (Array.getElem?_eq_some_iff.1 F3).1
    have F4 : ((((w2.setCell ⟨w.heap.size, 0, none⟩ (.int .i64 x.1)).setCell ⟨w.heap.size, 1, none⟩ (.int .i64 x.2)).alloc o).drewN n).heap[w.heap.size]? = some (.cells #[.int .i64 x.1, .int .i64 x.2] 25 (0, 0)) := by
      have := heap_set (heap_set F3 0 (.int .i64 x.1)) 1 (.int .i64 x.2)
      show (((w2.setCell ⟨w.heap.size, 0, none⟩ (.int .i64 x.1)).setCell ⟨w.heap.size, 1, none⟩ (.int .i64 x.2)).alloc o).heap[w.heap.size]? = _
      rw [Below.heap_alloc _ _ _ (by simp [World.setCell]; omega), this]
      simp
    have ub : Below w.heap.size w ((((w2.setCell ⟨w.heap.size, 0, none⟩ (.int .i64 x.1)).setCell ⟨w.heap.size, 1, none⟩ (.int .i64 x.2)).alloc o).drewN n) := below_drewN' (((UN.setCell (by simp) _).setCell (by simp) _).alloc (by simp [World.setCell]; omega) _) _
    have q1 := cell_of F4 0
    have q2 := cell_of F4 1
    simp only [List.getElem?_toArray, List.getElem?_cons_zero, List.getElem?_cons_succ] at q1 q2
    have fin := hbad.out x _ (PE.out.trans he) ub
    generalize ((((w2.setCell ⟨w.heap.size, 0, none⟩ (.int .i64 x.1)).setCell ⟨w.heap.size, 1, none⟩ (.int .i64 x.2)).alloc o).drewN n) = W3 at q1 q2 fin ⊢
    simp [Leaves, settle, results, Try.results40, go_sem, q1, q2]
    exact fin

set_option maxHeartbeats 1000000 in
theorem sparse_any (s : ByteArray) (w : World) (R : Ending → World → Prop) (hsz : s.size ≤ 9223372036854775807) (hmx : Mx w)
    (hok : Hid (∀ L nv w', sheetParse s.data.toList = .ok L → RsIn w' w.heap.size nv L → Below w.heap.size w w' → L.length ≤ 60 → R (.returned (.tuple #[nv, .agg #[.int .i64 0, .int .i64 0]])) w'))
    (hbad : Hid (∀ (x : Nat × Nat) w', sheetParse s.data.toList = .error x → Below w.heap.size w w' → R (.returned (.tuple #[.slice none 0 0, .agg #[.int .i64 x.1, .int .i64 x.2]])) w')) :
    Calls Try.prog 23 #[.string s] w R := by
  go_enter Try.func23, Try.ntmps23
  go_wp2_with fail
  refine read_rules s _ _ hsz (hmx.alloc _) ?_ ?_
  · intro L nv w1 he hn hb hL
    have F1 := (hb.block w.heap.size (by simp)).trans (heap_alloc_new w (.cells #[.int .i64 0, .int .i64 0] 25))
    have f0 := cell_of F1 0
    have f1 := cell_of F1 1
    have z0 := fz_of F1 0
    have z1 := fz_of F1 1
    simp at f0 f1
    obtain ⟨na, ncap, rfl⟩ := NAt.form hn
    have HN := hid hn
    have HF := hid F1
    have UN : Hid (Below w.heap.size w w1) := (((Below.refl _ _).alloc (Nat.le_refl _) _).trans (hb.mono (by simp)))
    have EX := hid he
    clear hn F1 he hb
    go_wp2_with fail
    refine bodyPost_ret (v := .tuple #[.slice na L.length ncap, .agg #[.int .i64 0, .int .i64 0]]) (by simp [results, Try.results23, go_sem, f0, f1]) rfl ?_
    refine hok.out L _ _ EX.out (NAt.lower (RsIn.keeps HN.out (Keeps.ofKp (Ts := (· ≠ 25)) ((Kp.set w1 w.heap.size 0 _).trans (Kp.set _ w.heap.size 1 _)) ?_) (by decide)) (by simp)) ((UN.out.setCell (by simp) _).setCell (by simp) _) hL
    rintro j rfl cur U fz hU hc
    rw [HF.out] at hc
    injection hc with hc
    injection hc with _ h2 _
    exact hU h2.symm
  · intro x w1 he hb
    have F1 := (hb.block w.heap.size (by simp)).trans (heap_alloc_new w (.cells #[.int .i64 0, .int .i64 0] 25))
    have f0 := cell_of F1 0
    have f1 := cell_of F1 1
    have z0 := fz_of F1 0
    have z1 := fz_of F1 1
    simp at f0 f1
    have UN : Hid (Below w.heap.size w w1) := (((Below.refl _ _).alloc (Nat.le_refl _) _).trans (hb.mono (by simp)))
    have EX := hid he
    clear F1 he hb
    go_wp2_with fail
    refine bodyPost_ret (v := .tuple #[.slice none 0 0, .agg #[.int .i64 x.1, .int .i64 x.2]]) (by simp [results, Try.results23, go_sem, f0, f1]) rfl ?_
    exact hbad.out x _ EX.out ((UN.out.setCell (by simp) _).setCell (by simp) _)
end Go.Proofs.Ytanedepdhbdcgaa
