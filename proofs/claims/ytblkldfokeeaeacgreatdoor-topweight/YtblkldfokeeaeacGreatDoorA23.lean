/- Texts that the statement's proof stands on: SheetA, C5, F1. -/
import Derived.Test.YtblkldfokeeaeacGreatDoorA15
import Derived.Test.YtblkldfokeeaeacGreatDoorA22
import Derived.Test.YtblkldfokeeaeacGreatDoorA05
import Derived.Test.YtblkldfokeeaeacGreatDoorA09
import Derived.Test.YtblkldfokeeaeacGreatDoorA18
namespace Go.Proofs.YtblkldfokeeaeacGreatDoor.Sh
open Go.RowKit
set_option maxHeartbeats 1000000 in
theorem dcatch_panicking (q : Nat) (er at_ : Int) (older : List PanicEntry) (w : World) (e0 a0 : Int) (hf0 : w.cell? ⟨q, 0, none⟩ = some (.int .i64 e0)) (hf1 : w.cell? ⟨q, 1, none⟩ = some (.int .i64 a0))
    (z0 : w.frozen? ⟨q, 0, none⟩ = false) (z1 : w.frozen? ⟨q, 1, none⟩ = false) :
    CallsD Tryz.prog 165 #[.pointer (some ⟨q, 0, none⟩)] (.panicking ({ v := .iface 161 (.agg #[.int .i64 er, .int .i64 at_]), recovered := false } :: older)) w fun e u' w' =>
      e = .returned (.tuple #[]) ∧ u' = .panicking ({ v := .iface 161 (.agg #[.int .i64 er, .int .i64 at_]), recovered := true } :: older) ∧
      ∃ n o, w' = (((w.setCell ⟨q, 0, none⟩ (.int .i64 er)).setCell ⟨q, 1, none⟩ (.int .i64 at_)).alloc o).drewN n := by
  have hta : ∀ w : World, (Instr.typeAssert (.iface 161 (.agg #[.int .i64 er, .int .i64 at_])) 20 161 true).run Tryz.prog w = .ok (.tuple #[.agg #[.int .i64 er, .int .i64 at_], .bool true]) w := fun _ => by kernel_rfl
  refine callsD_of_wpS Tryz.func165 rfl fun c₀ cs hu => ?_
  apply wpS_seq
  apply wpS_region
  simp [wpOpsS, go_sem, recoverD, hu, Tryz.ntmps165, Exit.thenS, hta]
  refine wpS_of_wp ?_
  simp only [← List.toArray_replicate, List.replicate, List.setIfInBounds_toArray, List.set_cons_zero, List.set_cons_succ, List.append_toArray, List.cons_append, List.nil_append]
  have hq : q < w.heap.size := lt_of_cell hf0
  have g3 : ¬ q = w.heap.size := by omega
  have g4 : ¬ w.heap.size = q := by omega
  have c2 := cell_alloc hf0
  have c3 := cell_alloc hf1
  have d2 := frozen_alloc' hq z0
  have d3 := frozen_alloc' hq z1
  go_wp2_with fail
  refine (?_ : bodyPostS _ _ _ _ _ _ _ _ _)
  simp [bodyPostS, results, Tryz.results165]
  exact ⟨0, _, rfl⟩
set_option maxHeartbeats 1000000 in
theorem dcatch_idle (q : Nat) (w : World) :
    CallsD Tryz.prog 165 #[.pointer (some ⟨q, 0, none⟩)] .returning w fun e u' w' => e = .returned (.tuple #[]) ∧ u' = .returning ∧ ∃ o, w' = w.alloc o := by
  have hta : ∀ w : World, (Instr.typeAssert .nilIface 20 161 true).run Tryz.prog w = .ok (.tuple #[.agg #[.int .i64 0, .int .i64 0], .bool false]) w := fun _ => by kernel_rfl
  refine callsD_of_wpS Tryz.func165 rfl fun c₀ cs hu => ?_
  apply wpS_seq
  apply wpS_region
  simp [wpOpsS, go_sem, recoverD, hu, Tryz.ntmps165, Exit.thenS, hta]
  refine wpS_of_wp ?_
  simp only [← List.toArray_replicate, List.replicate, List.setIfInBounds_toArray, List.set_cons_zero, List.set_cons_succ, List.append_toArray, List.cons_append, List.nil_append]
  go_wp2_with fail
  simp [bodyPostS, results, Tryz.results165]
  refine ⟨.returning, ?_, rfl, _, rfl⟩
  cases c₀
  simp only at hu
  rw [hu]
set_option maxHeartbeats 2000000 in
theorem read_decls (s : ByteArray) (w : World) (R : Ending → World → Prop) (hsz : s.size ≤ 9223372036854776907) (hmx : Mx w)
    (hok : Hid (∀ L nv w', declsParse s.data.toList = .ok L → DsAt w' nv L → Below w.heap.size w w' → R (.returned (.tuple #[nv, .agg #[.int .i64 0, .int .i64 0]])) w'))
    (hbad : Hid (∀ (x : Nat × Nat) w', declsParse s.data.toList = .error x → Below w.heap.size w w' → R (.returned (.tuple #[.slice none 0 0, .agg #[.int .i64 x.1, .int .i64 x.2]])) w')) :
    Calls Tryz.prog 132 #[.string s, .func (.func 133) #[] #[]] w R := by
  have hmf : ∀ (fn : Fn) (first cap : Array Value) (w : World), (Instr.makeFunc fn first cap).run Tryz.prog w = .ok (.func fn first cap) w := fun _ _ _ _ => rfl
  have hS : s.size = s.data.toList.length := Lib.size_eq s
  have h0 : 2 < w.heap.size := by obtain ⟨mx, h⟩ := hmx; exact lt_of_cell h
  by_cases hbig : 4000 < s.size
  · have EX : Hid (declsParse s.data.toList = .error (4, 0)) := by
      show declsParse s.data.toList = .error (4, 0)
      unfold declsParse
      rw [if_pos (by omega)]
    have hbI : (4000 : Int) < (s.size : Int) := by omega
    have hbB : decide ((4000 : Int) < (s.size : Int)) = true := decide_eq_true hbI
    clear hS
    go_enter_defers Tryz.func132, Tryz.ntmps132
    go_wp2_with fail
    simp [bodyPostD, Leaves, results, Tryz.results132, go_sem]
    exact hbad.out (4, 0) _ EX.out ((Below.refl _ _).alloc (Nat.le_refl _) _)
  have hl : s.size ≤ 4000 := by omega
  have PE : Hid (declsParse s.data.toList = declsAll s.data.toList) := by
    show declsParse s.data.toList = declsAll s.data.toList
    unfold declsParse
    rw [if_neg (by omega)]
  have hbB : decide ((4000 : Int) < (s.size : Int)) = false := decide_eq_false (by omega)
  clear hS
  go_enter_defers Tryz.func132, Tryz.ntmps132
  go_wp2_with (first | (go_at_call 84; refine (snew_any _ _).mono ?_; rintro e w1 ⟨rfl, hb1⟩))
  have hbW : Below w.heap.size w w1 := ((Below.refl _ _).alloc (Nat.le_refl _) _).trans (hb1.mono (by simp))
  have F1 := (hb1.block w.heap.size (by simp)).trans (heap_alloc_new w (.cells #[.int .i64 0, .int .i64 0] 25))
  have s1 : w.heap.size + 1 ≤ w1.heap.size := by have := hb1.size; simpa using this
  have hr0 : Rs (w1.alloc (.cells #[.string s, .int .i64 0, .slice none 0 0] 215)) w1.heap.size s 0 (.slice none 0 0) := heap_alloc_new w1 _
  have m0 : Mx (w1.alloc (.cells #[.string s, .int .i64 0, .slice none 0 0] 215)) := by
    obtain ⟨mx, h⟩ := hmx
    exact ⟨mx, cell_alloc ((hbW.cell (p := ⟨2, 0, none⟩) h0).trans h) _⟩
  have F2 := (Below.heap_alloc w1 (.cells #[.string s, .int .i64 0, .slice none 0 0] 215) _ (by omega)).trans F1
  have hbX : Below w.heap.size w (w1.alloc (.cells #[.string s, .int .i64 0, .slice none 0 0] 215)) := hbW.alloc (by omega) _
  refine onlyDecls_any w1.heap.size s 0 (.slice none 0 0) _ _ hl (Nat.zero_le _) (by omega) m0 hr0 (hid ⟨?_, ?_⟩)
  · intro L k' nv w2 he0 _ _ _ hkp hn2
    have he : declsAll s.data.toList = .ok L := by unfold declsAll; rw [he0]
    have F3 := (hkp.block w.heap.size (by simp; omega) (by omega)).trans F2
    have f0 := cell_of F3 0
    have f1 := cell_of F3 1
    have fz0 := fz_of F3 0
    have fz1 := fz_of F3 1
    simp at f0 f1
    obtain ⟨na, ncap, rfl⟩ := own_form hn2
    have HN := hid hn2
    have EX := hid he
    have HF := hid F3
    have hbY : Below w.heap.size w w2 := hbX.trans ⟨hkp.os, hkp.tape, hkp.output, hkp.size, fun j hj => hkp.block j (by simp; omega) (by omega)⟩
    have UN := hid hbY
    clear he he0 hn2 hkp F3 F1 F2 hb1 hbW hbX hbY m0 hr0
    go_wp2_with fail
    have kk : Kp (· = w.heap.size) w2 ((w2.setCell ⟨w.heap.size, 0, none⟩ (.int .i64 0)).setCell ⟨w.heap.size, 1, none⟩ (.int .i64 0)) := (Kp.set w2 w.heap.size 0 (.int .i64 0)).trans (Kp.set _ w.heap.size 1 (.int .i64 0))
    refine leaves_cons (f := 165) (args := #[.pointer (some ⟨w.heap.size, 0, none⟩)]) (by simp) (by simp [go_sem]) ?_
    refine (dcatch_idle w.heap.size _).mono ?_
    rintro e u' w'' ⟨rfl, rfl, o, rfl⟩
    have z2 : w.heap.size < w2.heap.size := (Array.getElem?_eq_some_iff.1 HF.out).1
    have F4 : (((w2.setCell ⟨w.heap.size, 0, none⟩ (.int .i64 0)).setCell ⟨w.heap.size, 1, none⟩ (.int .i64 0)).alloc o).heap[w.heap.size]? = some (.cells #[.int .i64 0, .int .i64 0] 25 (0, 0)) := by
      have := heap_set (heap_set HF.out 0 (.int .i64 0)) 1 (.int .i64 0)
      rw [Below.heap_alloc _ _ _ (by simp [World.setCell]; omega), this]
      simp
    have ka : Kp (· = w.heap.size) w2 (((w2.setCell ⟨w.heap.size, 0, none⟩ (.int .i64 0)).setCell ⟨w.heap.size, 1, none⟩ (.int .i64 0)).alloc o) := kk.trans (Kp.alloc _ o)
    have ub : Below w.heap.size w (((w2.setCell ⟨w.heap.size, 0, none⟩ (.int .i64 0)).setCell ⟨w.heap.size, 1, none⟩ (.int .i64 0)).alloc o) := ((UN.out.setCell (by simp) _).setCell (by simp) _).alloc (by simp [World.setCell]; omega) _
    have q1 := cell_of F4 0
    have q2 := cell_of F4 1
    simp at q1 q2
    have nd : DsAt _ (.slice na L.length ncap) L := DsAt.keeps HN.out (Keeps.ofKp (Ts := (· ≠ 25)) ka (by
      rintro j rfl cur U fz hU hc
      rw [HF.out] at hc
      injection hc with hc
      injection hc with _ h2 _
      exact hU h2.symm)) (by decide)
    have fin := hok.out L (.slice na L.length ncap) _ (PE.out.trans EX.out) nd ub
    generalize (((w2.setCell ⟨w.heap.size, 0, none⟩ (.int .i64 0)).setCell ⟨w.heap.size, 1, none⟩ (.int .i64 0)).alloc o) = W3 at q1 q2 fin ⊢
    simp [Leaves, settle, results, Tryz.results132, go_sem, q1, q2]
    exact fin
  · intro x w2 he0 hbl
    have he : declsAll s.data.toList = .error x := by unfold declsAll; rw [he0]
    have F3 := (hbl.block w.heap.size (by omega)).trans F2
    have f0 := cell_of F3 0
    have f1 := cell_of F3 1
    have fz0 := fz_of F3 0
    have fz1 := fz_of F3 1
    simp at f0 f1
    have UN : Below w.heap.size w w2 := hbX.trans (hbl.mono (by omega))
    refine leaves_cons (f := 165) (args := #[.pointer (some ⟨w.heap.size, 0, none⟩)]) (by simp) (by simp [go_sem]) ?_
    refine (dcatch_panicking w.heap.size x.1 x.2 [] _ _ _ f0 f1 fz0 fz1).mono ?_
    rintro e u' w'' ⟨rfl, rfl, n, o, rfl⟩
    have z2 : w.heap.size < w2.heap.size := (Array.getElem?_eq_some_iff.1 F3).1
    have F4 : ((((w2.setCell ⟨w.heap.size, 0, none⟩ (.int .i64 x.1)).setCell ⟨w.heap.size, 1, none⟩ (.int .i64 x.2)).alloc o).drewN n).heap[w.heap.size]? = some (.cells #[.int .i64 x.1, .int .i64 x.2] 25 (0, 0)) := by
      have := heap_set (heap_set F3 0 (.int .i64 x.1)) 1 (.int .i64 x.2)
      show (((w2.setCell ⟨w.heap.size, 0, none⟩ (.int .i64 x.1)).setCell ⟨w.heap.size, 1, none⟩ (.int .i64 x.2)).alloc o).heap[w.heap.size]? = _
      rw [Below.heap_alloc _ _ _ (by simp [World.setCell]; omega), this]
      simp
    have ub : Below w.heap.size w ((((w2.setCell ⟨w.heap.size, 0, none⟩ (.int .i64 x.1)).setCell ⟨w.heap.size, 1, none⟩ (.int .i64 x.2)).alloc o).drewN n) := below_drewN' (((UN.setCell (by simp) _).setCell (by simp) _).alloc (by simp [World.setCell]; omega) _) _
    have q1 := cell_of F4 0
    have q2 := cell_of F4 1
    simp only [List.getElem?_toArray, List.getElem?_cons_zero, List.getElem?_cons_succ] at q1 q2
    have fin := hbad.out x _ (PE.out.trans he) ub
    generalize ((((w2.setCell ⟨w.heap.size, 0, none⟩ (.int .i64 x.1)).setCell ⟨w.heap.size, 1, none⟩ (.int .i64 x.2)).alloc o).drewN n) = W3 at q1 q2 fin ⊢
    simp [Leaves, settle, results, Tryz.results132, go_sem, q1, q2]
    exact fin
set_option maxHeartbeats 1000000 in
theorem dparse_any (s : ByteArray) (w : World) (R : Ending → World → Prop) (hsz : s.size ≤ 9223372036854776907) (hmx : Mx w)
    (hok : Hid (∀ L nv w', declsParse s.data.toList = .ok L → DsAt w' nv L → Below w.heap.size w w' → R (.returned (.tuple #[nv, .agg #[.int .i64 0, .int .i64 0]])) w'))
    (hbad : Hid (∀ (x : Nat × Nat) w', declsParse s.data.toList = .error x → Below w.heap.size w w' → R (.returned (.tuple #[.slice none 0 0, .agg #[.int .i64 x.1, .int .i64 x.2]])) w')) :
    Calls Tryz.prog 95 #[.string s] w R := by
  go_enter Tryz.func95, Tryz.ntmps95
  go_wp2_with fail
  refine read_decls s _ _ hsz (hmx.alloc _) ?_ ?_
  · intro L nv w1 he hn hb
    have F1 := (hb.block w.heap.size (by simp)).trans (heap_alloc_new w (.cells #[.int .i64 0, .int .i64 0] 25))
    have f0 := cell_of F1 0
    have f1 := cell_of F1 1
    have z0 := fz_of F1 0
    have z1 := fz_of F1 1
    simp at f0 f1
    obtain ⟨na, ncap, rfl⟩ := own_form hn
    have HN := hid hn
    have HF := hid F1
    have UN : Hid (Below w.heap.size w w1) := (((Below.refl _ _).alloc (Nat.le_refl _) _).trans (hb.mono (by simp)))
    have EX := hid he
    clear hn F1 he hb
    go_wp2_with fail
    refine bodyPost_ret (v := .tuple #[.slice na L.length ncap, .agg #[.int .i64 0, .int .i64 0]]) (by simp [results, Tryz.results95, go_sem, f0, f1]) rfl ?_
    refine hok.out L _ _ EX.out (DsAt.keeps HN.out (Keeps.ofKp (Ts := (· ≠ 25)) ((Kp.set w1 w.heap.size 0 _).trans (Kp.set _ w.heap.size 1 _)) ?_) (by decide)) ((UN.out.setCell (by simp) _).setCell (by simp) _)
    rintro j rfl cur U fz hU hc
    rw [HF.out] at hc
    injection hc with hc
    injection hc with _ h2 _
    exact hU h2.symm
  · intro x w1 he hb
    have F1 := (hb.block w.heap.size (by simp)).trans (heap_alloc_new w (.cells #[.int .i64 0, .int .i64 0] 25))
    have f0 := cell_of F1 0
    have f1 := cell_of F1 1
    have z0 := fz_of F1 0
    have z1 := fz_of F1 1
    simp at f0 f1
    have UN : Hid (Below w.heap.size w w1) := (((Below.refl _ _).alloc (Nat.le_refl _) _).trans (hb.mono (by simp)))
    have EX := hid he
    clear F1 he hb
    go_wp2_with fail
    refine bodyPost_ret (v := .tuple #[.slice none 0 0, .agg #[.int .i64 x.1, .int .i64 x.2]]) (by simp [results, Tryz.results95, go_sem, f0, f1]) rfl ?_
    exact hbad.out x _ EX.out ((UN.out.setCell (by simp) _).setCell (by simp) _)
end Go.Proofs.YtblkldfokeeaeacGreatDoor.Sh
namespace Go.Proofs.YtblkldfokeeaeacGreatDoor
open Go.RowKit Go.Maps
def eR (w : World) (c : Nat → Option Value) (x : Ru) : Prop := c 0 = some (.string x.media) ∧ (∃ v, c 1 = some v ∧ SsAt w v x.sels) ∧ (∃ v, c 2 = some v ∧ DsAt w v x.decls) ∧ c 3 = some (.int .i64 x.rf) ∧ c 4 = some (.int .i64 x.rt)
def RusAt (w : World) (v : Value) (l : List Ru) : Prop := Sl w 5 (eR w) v l
theorem RusAt.ext {w w' : World} {v : Value} {l : List Ru} (h : RusAt w v l) (e : Ext w w') : RusAt w' v l :=
  Sl.mono h fun _ _ _ ⟨h0, ⟨x, h1, h1'⟩, ⟨y, h2, h2'⟩, h3, h4⟩ => ⟨e _ _ _ h0, ⟨x, e _ _ _ h1, h1'.ext e⟩, ⟨y, e _ _ _ h2, h2'.ext e⟩, e _ _ _ h3, e _ _ _ h4⟩
theorem eR.cells {w : World} {b o : Nat} {x : Ru} (h : eR w (fun j => w.cell? ⟨b, o + j, none⟩) x) : ∃ sa sn sc da dn dc, w.cell? ⟨b, o, none⟩ = some (.string x.media) ∧ w.cell? ⟨b, o + 1, none⟩ = some (.slice sa sn sc) ∧ w.cell? ⟨b, o + 2, none⟩ = some (.slice da dn dc) ∧
    w.cell? ⟨b, o + 3, none⟩ = some (.int .i64 x.rf) ∧ w.cell? ⟨b, o + 4, none⟩ = some (.int .i64 x.rt) ∧ SsAt w (.slice sa sn sc) x.sels ∧ DsAt w (.slice da dn dc) x.decls := by
  obtain ⟨h0, ⟨v, h1, h1'⟩, ⟨u, h2, h2'⟩, h3, h4⟩ := h
  obtain ⟨sa, sc, rfl⟩ := Sl.form h1'
  obtain ⟨da, dc, rfl⟩ := Sl.form h2'
  exact ⟨sa, _, sc, da, _, dc, h0, h1, h2, h3, h4, h1', h2'⟩
structure SmR (r : Ru) : Prop where
  sels : SmSs r.sels
  decls : SmDs r.decls
structure SmRs (l : List Ru) : Prop where
  len : l.length ≤ 1099511627776
  sum : (l.flatMap (·.decls)).length ≤ 549755813888
  each : ∀ r ∈ l, SmR r
theorem any_mem (media : List ByteArray) (x : ByteArray) : Lib.containsS media x = media.any fun m => m.toList == x.toList := by
  rw [Bool.eq_iff_iff, Lib.containsS_iff, List.any_eq_true]
  constructor
  · intro h
    exact ⟨x, h, by simp⟩
  · rintro ⟨y, hy, e⟩
    have : y.toList = x.toList := by simpa using e
    rw [Lib.toList_data, Lib.toList_data] at this
    rw [← ba_ext this]
    exact hy
theorem cont_any (mv : Value) (media : List ByteArray) (x : ByteArray) (w : World) (h : BsAt w mv media) (hl : media.length ≤ 9223372036854775807) :
    Calls Tryz.prog 96 #[mv, .string x] w fun e w' => e = .returned (.bool (media.any fun m => m.toList == x.toList)) ∧ w' = w := by
  obtain ⟨a, cap, rfl, hn, hc⟩ := h
  by_cases h0 : media.length = 0
  · obtain rfl := List.length_eq_zero_iff.1 h0
    exact Tryz.slices_Contains_string_empty a cap x w
  · obtain ⟨b, off, rfl, _⟩ := hc 0 (by omega)
    rw [← any_mem]
    have := Tryz.slices_Contains_string b off media.length cap media x w (Nat.le_refl _) hl (fun j hj => by
      obtain ⟨b', off', e, he⟩ := hc j hj
      injection e with e
      injection e with e1 e2
      subst e1 e2
      have he' : w.cell? ⟨b, off + j * 1 + 0, none⟩ = some (.string media[j]) := he
      rw [Nat.mul_one, Nat.add_zero] at he'
      rw [he']
      simp [hj])
    rw [List.take_length] at this
    exact this
def ofD (d : Sh.Dcl) : Dc := ⟨Sh.bs d.name, Sh.bs d.val, d.strong⟩
def styB (s : ByteArray) : Except Int (List Dc) := match Sh.declsParse s.data.toList with
  | .error x => .error x.1
  | .ok L => .ok (L.map ofD)
theorem flat_ofD : ∀ L : List Sh.Dcl, (L.map ofD).flatMap encD = L.flatMap Sh.encD
  | [] => rfl
  | d :: L => by
    rw [List.map_cons, List.flatMap_cons, List.flatMap_cons, flat_ofD L]
    rfl
theorem ds_of {w : World} {v : Value} {L : List Sh.Dcl} (h : Sh.DsAt w v L) : DsAt w v (L.map ofD) := by
  have h' : w.ownsRow 0 40 3 v (L.map ofD).length ((L.map ofD).flatMap encD) := by
    rw [flat_ofD, List.length_map]
    exact h
  exact DsAt.own h'
theorem sty_sm {s : ByteArray} {L : List Sh.Dcl} (h : Sh.declsParse s.data.toList = .ok L) : SmDs (L.map ofD) ∧ L.length ≤ 20 := by
  obtain ⟨h1, h2⟩ := Sh.declsParse_ok h
  refine ⟨⟨by rw [List.length_map]; unfold lim; omega, fun x hx => ?_⟩, h1⟩
  obtain ⟨d, hd, rfl⟩ := List.mem_map.1 hx
  obtain ⟨⟨c, t, e, _, _, hn⟩, ws, _, _, _, hv⟩ := h2 d hd
  constructor
  · show (Sh.bs d.name).size ≤ lim
    rw [Lib.size_eq]
    show d.name.toArray.toList.length ≤ lim
    unfold lim
    simp
    omega
  · show (Sh.bs d.val).size ≤ lim
    rw [Lib.size_eq]
    show d.val.toArray.toList.length ≤ lim
    unfold lim
    simp
    omega
variable {l : List Nd} {k : Int} {media : List ByteArray}
theorem ruleC_len {r : Ru} {x : List Cl} (h : ruleC l k media r = some x) : x.length ≤ 4 * r.decls.length := by
  unfold ruleC at h
  split at h
  · cases ha : allB r.decls with
    | none => rw [ha] at h; cases h
    | some A =>
      rw [ha] at h
      injection h with h
      rw [← h, asC_len]
      exact allB_len ha
  · injection h with h
    rw [← h]
    exact Nat.zero_le _
theorem rulesC_len : ∀ {rules : List Ru} {cs : List Cl}, rulesC l k media rules = some cs → cs.length ≤ 4 * (rules.flatMap (·.decls)).length
  | [], cs, h => by
    injection h with h
    rw [← h]
    exact Nat.zero_le _
  | r :: rs, cs, h => by
    change (ruleC l k media r).bind (fun x => (rulesC l k media rs).map (x ++ ·)) = some cs at h
    cases hr : ruleC l k media r with
    | none => rw [hr] at h; cases h
    | some x =>
      cases hs : rulesC l k media rs with
      | none => rw [hr, hs] at h; cases h
      | some y =>
        rw [hr, hs] at h
        injection h with h
        have h1 := ruleC_len hr
        have h2 := rulesC_len hs
        rw [← h, List.flatMap_cons, List.length_append, List.length_append]
        omega
theorem take_sum (rules : List Ru) (i : Nat) : ((rules.take i).flatMap (·.decls)).length ≤ (rules.flatMap (·.decls)).length := by
  have : (rules.flatMap (·.decls)).length = ((rules.take i).flatMap (·.decls)).length + ((rules.drop i).flatMap (·.decls)).length := by
    rw [← List.length_append, ← List.flatMap_append, List.take_append_drop]
  omega
theorem rulesC_one (r : Ru) : rulesC l k media [r] = ruleC l k media r := by
  show (ruleC l k media r).bind (fun x => (some []).map (x ++ ·)) = _
  cases ruleC l k media r <;> simp
theorem rulesC_next {rules : List Ru} {cs : List Cl} {i : Nat} (hi : i < rules.length) (h : rulesC l k media (rules.take i) = some cs) : rulesC l k media (rules.take (i + 1)) = (ruleC l k media rules[i]).map (cs ++ ·) := by
  rw [List.take_succ_eq_append_getElem hi, rulesC_append, h, rulesC_one]
  rfl
theorem rulesC_none {rules : List Ru} {cs : List Cl} {i : Nat} (hi : i < rules.length) (h : rulesC l k media (rules.take i) = some cs) (hr : ruleC l k media rules[i] = none) : rulesC l k media rules = none := by
  have e : rules = rules.take (i + 1) ++ rules.drop (i + 1) := (List.take_append_drop _ _).symm
  rw [e, rulesC_append, rulesC_next hi h, hr]
  rfl
theorem ruleC_no {r : Ru} (h : counts r.media media = false) : ruleC l k media r = some [] := by unfold ruleC; rw [h]; rfl
theorem ruleC_not {r : Ru} (h : (bestB l k r.sels).2 = false) : ruleC l k media r = some [] := by unfold ruleC; rw [h]; simp
theorem ruleC_yes {r : Ru} (h : counts r.media media = true) (hb : (bestB l k r.sels).2 = true) : ruleC l k media r = (allB r.decls).map (asC false (bestB l k r.sels).1) := by unfold ruleC; rw [h, hb]; rfl
theorem claims_len {rules : List Ru} {cs : List Cl} (hs : SmRs rules) (h : claimsB styB l k rules media = .ok cs) : cs.length ≤ 2199023255700 := by
  unfold claimsB at h
  split at h
  · cases hr : rulesC l k media rules with
    | none => rw [hr] at h; cases h
    | some a =>
      rw [hr] at h
      simp only at h
      have h1 := rulesC_len hr
      have h2 := hs.sum
      cases ho : ownC styB (ndAt l k.toNat) with
      | error e => rw [ho] at h; cases h
      | ok b =>
        rw [ho] at h
        injection h with h
        have hb : b.length ≤ 80 := by
          unfold ownC styB at ho
          cases hp : Sh.declsParse ((getA styleN (ndAt l k.toNat).attrs).getD ⟨#[]⟩).data.toList with
          | error x => rw [hp] at ho; cases ho
          | ok L =>
            rw [hp] at ho
            simp only at ho
            cases ha : allB (L.map ofD) with
            | none => rw [ha] at ho; cases ho
            | some A =>
              rw [ha] at ho
              injection ho with ho
              have h3 := allB_len ha
              have h4 := (sty_sm hp).2
              rw [List.length_map] at h3
              rw [← ho, asC_len]
              omega
        rw [← h, List.length_append]
        omega
  · cases h
end Go.Proofs.YtblkldfokeeaeacGreatDoor
namespace Go.Proofs.YtblkldfokeeaeacGreatDoor
open Go.RowKit
theorem sty_eq : styB = styF := by
  funext s
  unfold styB styF
  rfl
theorem nat_of {α β γ : Type} {T : TypeId} {sz : Nat} {enc : α × β → List Value} {P : World → α → β → Prop} {w : World} {base : Nat} {v : Value} {l : List α} (hz : 0 < sz) (hlen : ∀ p, (enc p).length = sz) (h : Sh.NAt T sz enc P w base v l) (E : (Nat → Option Value) → γ → Prop) (f : α → γ)
    (hE : ∀ b off p, P w p.1 p.2 → (∀ j, j < sz → w.cell? ⟨b, off + j, none⟩ = (enc p)[j]?) → E (fun j => w.cell? ⟨b, off + j, none⟩) (f p.1)) : Sl w sz E v (l.map f) := by
  obtain ⟨LV, rfl, h2, h3⟩ := h
  rw [List.length_map] at h2
  obtain ⟨a, cap, rfl, hn, hc⟩ := own_at (sz := sz) (f := enc) hlen hz h2
  refine ⟨a, cap, by simp, hn, fun i hi => ?_⟩
  have hi' : i < LV.length := by simpa using hi
  obtain ⟨b, off, rfl, hh⟩ := hc i hi'
  refine ⟨b, off, rfl, ?_⟩
  have := hE b (off + i * sz) LV[i] (h3 _ (List.getElem_mem hi')) hh
  simpa using this
theorem ts_of {w : World} {v : Value} {l : List Sh.Tst} (h : Sh.TsAt w v l) : TsAt w v (l.map ofT) := by
  obtain ⟨a, cap, rfl, hn, hc⟩ := own_at (sz := 3) (f := Sh.encT) (fun _ => rfl) (by decide) h
  refine ⟨a, cap, by simp, hn, fun i hi => ?_⟩
  have hi' : i < l.length := by simpa using hi
  obtain ⟨b, off, rfl, hh⟩ := hc i hi'
  refine ⟨b, off, rfl, ?_⟩
  rw [List.getElem_map]
  exact ⟨hh 0 (by decide), hh 1 (by decide), hh 2 (by decide)⟩
theorem ps_of {w : World} {v : Value} {l : List Sh.Prt} (h : Sh.PsAt w v l) : PsAt w v (l.map ofP) :=
  nat_of (T := 150) (sz := 2) (enc := Sh.encP) (P := fun w a x => Sh.TsAt w x a.tests) (base := 0) (by decide) (fun _ => rfl) h (eP w) ofP fun _ _ _ hp hc => ⟨hc 0 (by decide), _, hc 1 (by decide), ts_of hp⟩
theorem ss_of {w : World} {v : Value} {l : List (List Sh.Prt)} (h : Sh.SsAt w v l) : SsAt w v (l.map (·.map ofP)) :=
  nat_of (T := 100) (sz := 1) (enc := Sh.encS) (P := fun w a x => Sh.PsAt w x a) (base := 0) (by decide) (fun _ => rfl) h (eS w) (·.map ofP) fun _ _ _ hp hc => ⟨_, hc 0 (by decide), ps_of hp⟩
theorem map_ofD (l : List Sh.Dcl) : l.map ofD = l.map Sh.ofL := rfl
theorem rus_of {w : World} {base : Nat} {v : Value} {l : List Sh.Rl} (h : Sh.RsIn w base v l) : RusAt w v (l.map ofR) :=
  nat_of (T := 38) (sz := 5) (enc := Sh.encR) (P := fun w a x => Sh.SsAt w x.1 a.sels ∧ Sh.DsAt w x.2 a.decls) (base := base) (by decide) (fun _ => rfl) h (eR w) ofR fun _ _ _ hp hc => ⟨hc 0 (by decide), ⟨_, hc 1 (by decide), ss_of hp.1⟩, ⟨_, hc 2 (by decide), ds_of hp.2⟩, hc 3 (by decide), hc 4 (by decide)⟩
theorem ats_of {w : World} {v : Value} {l : List Sh.Atr} (h : Sh.AtAt w v l) : AtsAt w v (l.map ofA) := by
  rcases h with ⟨rfl, rfl⟩ | ⟨g, cap, cur, rfl, h1, h2, h3, h4, h5⟩
  · exact ⟨none, 0, rfl, fun _ => rfl, fun i hi => absurd hi (by simp)⟩
  · refine ⟨some ⟨g, 0, none⟩, cap, by simp, nofun, fun i hi => ⟨g, 0, rfl, ?_⟩⟩
    have hi' : i < l.length := by simpa using hi
    have hc := fun j hj => Sh.AtAt.cell h1 h5 hi' j hj
    rw [List.getElem_map]
    have e : ∀ j, w.cell? ⟨g, 0 + i * 4 + j, none⟩ = w.cell? ⟨g, i * 4 + j, none⟩ := fun j => by rw [Nat.zero_add]
    refine ⟨?_, ?_, ?_, ?_⟩
    · exact (e 0).trans (hc 0 (by decide))
    · exact (e 1).trans (hc 1 (by decide))
    · exact (e 2).trans (hc 2 (by decide))
    · exact (e 3).trans (hc 3 (by decide))
theorem nds_of {w : World} {base : Nat} {v : Value} {L : List Sh.Nd} (h : Sh.NdsAt w base v L) : NdsAt w v (L.map ofN) := by
  have h' : Sh.NAt 49 6 Sh.encN (fun w a x => Sh.AtAt w x a.attrs) w base v L := h
  exact nat_of (T := 49) (sz := 6) (enc := Sh.encN) (P := fun w a x => Sh.AtAt w x a.attrs) (base := base) (by decide) (fun _ => rfl) h' (eN w) ofN fun _ _ _ hp hc => ⟨hc 0 (by decide), hc 1 (by decide), ⟨_, hc 2 (by decide), ats_of hp⟩, hc 3 (by decide), hc 4 (by decide), hc 5 (by decide)⟩
theorem rs_form {w : World} {base : Nat} {v : Value} {l : List Sh.Rl} (h : Sh.RsIn w base v l) : ∃ a cap, v = .slice a l.length cap := Sh.NAt.form h
theorem shift_list (A : List Sh.Rl) (o j : Nat) (hj : j < A.length) : ((A.take j).map (shift o) ++ A.drop j).set j (shift o A[j]) = (A.take (j + 1)).map (shift o) ++ A.drop (j + 1) := by
  rw [List.drop_eq_getElem_cons hj, List.take_succ_eq_append_getElem hj]
  have hl : ((A.take j).map (shift o)).length = j := by simp; omega
  rw [List.set_append_right _ _ (by omega), hl, Nat.sub_self, List.set_cons_zero, List.map_append, List.append_assoc]
  rfl
theorem shift_get (A : List Sh.Rl) (o j : Nat) (hj : j < A.length) : ((A.take j).map (shift o) ++ A.drop j)[j]'(by simp; omega) = A[j] := by
  have hl : ((A.take j).map (shift o)).length = j := by simp; omega
  apply Option.some.inj
  rw [← List.getElem?_eq_getElem, List.getElem?_append_right (by omega), hl, Nat.sub_self, List.getElem?_drop]
  simp [hj]
set_option maxRecDepth 100000 in
set_option maxHeartbeats 4000000 in
theorem moved_any (A : List Sh.Rl) (v : Value) (o base : Nat) (w : World) (h : Sh.RsIn w base v A) (hl : A.length ≤ 60) (ho : o ≤ 6000) (hs : ∀ r ∈ A, r.from_ ≤ 6000 ∧ r.to_ ≤ 6000) :
    Calls Tryz.prog 61 #[v, .int .i64 (o : Int)] w fun e w' => e = .returned v ∧ Sh.RsIn w' base v (A.map (shift o)) ∧ Below base w w' := by
  obtain ⟨a, cap, rfl⟩ := rs_form h
  have HR := hid h
  have HS := hid hs
  clear h hs
  go_enter Tryz.func61, Tryz.ntmps61
  go_wp2_with fail
  go_loopg [8] A.length (fun n i wr => ∃ j : Nat, n = A.length - j ∧ j ≤ A.length ∧ i = .int .i64 (j : Int) ∧ Sh.RsIn wr base (.slice a A.length cap) ((A.take j).map (shift o) ++ A.drop j) ∧ Below base w wr)
  case atStart => exact ⟨0, rfl, Nat.zero_le _, rfl, by simpa using HR.out, Below.refl _ _⟩
  case round =>
    obtain ⟨j, hn, hj, rfl, hr, hw⟩ := hrel
    rename World => wo
    have GK := hid hn
    have HW := hid hw
    by_cases hlt : j < A.length
    · have hlen : ((A.take j).map (shift o) ++ A.drop j).length = A.length := by simp; omega
      obtain ⟨g, sv, dv, cur, rfl, hg, hbg, _, _, _, _, _, c3, c4⟩ := Sh.RsIn.cells hr hlen (i := j) (by omega)
      have hget := shift_get A o j hlt
      rw [hget] at c3 c4
      have upd := (Sh.RsIn.upd hr hlen (i := j) (by omega) (shift o A[j]) (by rw [hget]; rfl) (by rw [hget]; rfl)).2 (by rw [hget]; rfl)
      rw [shift_list A o j hlt] at upd
      have UPD := hid upd
      have f3 := Sh.fz_of hg (j * 5 + 3)
      have f4 := Sh.fz_of hg (j * 5 + 4)
      have sm := HS.out A[j] (List.getElem_mem hlt)
      have HF : Hid (Below base w ((wo.setCell ⟨g, j * 5 + 3, none⟩ (.int .i64 (shift o A[j]).from_)).setCell ⟨g, j * 5 + 4, none⟩ (.int .i64 (shift o A[j]).to_))) := (HW.out.setCell hbg _).setCell hbg _
      have e1 : (((shift o A[j]).from_ : Nat) : Int) = (A[j].from_ : Int) + (o : Int) := by show ((A[j].from_ + o : Nat) : Int) = _; omega
      have e2 : (((shift o A[j]).to_ : Nat) : Int) = (A[j].to_ : Int) + (o : Int) := by show ((A[j].to_ + o : Nat) : Int) = _; omega
      rw [e1, e2] at UPD HF
      generalize A[j].from_ = fr at *
      generalize A[j].to_ = tt at *
      have w1 : IntKind.i64.wrap ((fr : Int) + o) = fr + o := by rw [IntKind.wrap_i64]; omega
      have w2 : IntKind.i64.wrap ((tt : Int) + o) = tt + o := by rw [IntKind.wrap_i64]; omega
      have HJ := hid hlt
      clear hn hw hr hget upd e1 e2 hg
      go_wp2_with fail
      go_roundg (A.length - (j + 1))
      case measure => have := GK.out; have := HJ.out; omega
      case rel => exact ⟨j + 1, rfl, by have := HJ.out; omega, by go_num, UPD.out, HF.out⟩
    · have hr' := hr
      rw [List.take_of_length_le (by omega), List.drop_of_length_le (by omega), List.append_nil] at hr'
      have HR' := hid hr'
      clear hn hw hr hr'
      go_wp2_with fail
      go_ret
      exact ⟨rfl, HR'.out, HW.out⟩
end Go.Proofs.YtblkldfokeeaeacGreatDoor
