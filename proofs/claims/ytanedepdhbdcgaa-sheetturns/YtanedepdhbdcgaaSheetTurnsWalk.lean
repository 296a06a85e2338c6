/-
  What the law SheetTurns answers at every text: true. Conditions: the cell of internal/bytealg.MaxLen holds some int; the text has at most 2 to the 47 bytes.
-/
import Derived.Test.YtanedepdhbdcgaaSheetPlacesWalk
import Derived.Test.YtanedepdhbdcgaaSheetTurn2
namespace Go.Proofs.Ytanedepdhbdcgaa
open Go.RowKit

theorem DsAt.below {w w' : World} {v : Value} {l : List Dcl} (h : DsAt w v l) (hb : Below w.heap.size w w') : DsAt w' v l := h.keeps (Keeps.below (Ts := fun _ => True) hb) trivial

set_option maxRecDepth 100000 in
set_option maxHeartbeats 2000000 in
theorem sturns_any (s : ByteArray) (w : World) (hmx : Mx w) (hsz : s.size ≤ 140737488355328) : Calls Try.prog 8 #[.string s] w fun e w' => e = .returned (.bool true) ∧ Below w.heap.size w w' := by
  have h0 := hmx.pos
  go_enter Try.func8, Try.ntmps8
  go_wp2_with fail
  refine (salive_any w hmx).mono ?_
  rintro e w1 ⟨rfl, hb1⟩
  have m1 := hmx.below hb1 h0
  have z1 := hb1.size
  go_wp2_with fail
  refine dparse_any s w1 _ (by omega) m1 (hid ?_) (hid ?_)
  rotate_left
  · intro x w2 ex hb2
    have xe : ((x.1 : Int) != 0) = true := by have := decls_fault ex; simp; omega
    have UN := hid (hb1.trans (hb2.mono z1))
    have ZZ : w.heap.size ≤ w2.heap.size := UN.out.size
    clear ex hb1 hb2 m1
    go_wp2_with fail
    go_ret
    exact ⟨rfl, UN.out.alloc ZZ _⟩
  intro l lv w2 el hl hb2
  obtain ⟨t1, t2, t3, t4⟩ := decls_turn el
  obtain ⟨la, lcap, rfl⟩ := own_form hl
  have T1 := hid t1
  have T4 : Hid (∀ d ∈ l, d.name.length ≤ 6000 ∧ d.val.length ≤ 6000) := fun d hd => ⟨by have := (t4 d hd).1; omega, by have := (t4 d hd).2; omega⟩
  have UN := hb1.trans (hb2.mono z1)
  have z2 : w.heap.size ≤ w2.heap.size := UN.size
  have u3 : Below w.heap.size w (w2.alloc (.cells #[.int .i64 0, .int .i64 0] 25)) := UN.alloc z2 _
  have m3 : Mx (w2.alloc (.cells #[.int .i64 0, .int .i64 0] 25)) := (m1.below hb2 m1.pos).alloc _
  have f3 := heap_alloc_new w2 (.cells #[.int .i64 0, .int .i64 0] 25)
  have l3 := hl.below ((Below.refl _ w2).alloc (Nat.le_refl _) (.cells #[.int .i64 0, .int .i64 0] 25))
  clear t1 t4 el hb1 hb2 m1 UN hl
  go_wp2_with fail
  generalize w2.alloc (.cells #[.int .i64 0, .int .i64 0] 25) = w3 at *
  have fl : w2.heap.size < w3.heap.size := (Array.getElem?_eq_some_iff.1 f3).1
  generalize w2.heap.size = F at *
  have z3 := u3.size
  refine (print_any l _ w3 l3 (by omega) T4.out).mono ?_
  rintro e w4 ⟨rfl, hb4⟩
  have m4 := m3.below hb4 m3.pos
  have z4 := hb4.size
  have l4 := l3.below hb4
  have f4 := (hb4.block F fl).trans f3
  have u4 := u3.trans (hb4.mono z3)
  clear l3 m3 hb4 f3
  go_wp2_with fail
  have bsz := bs_size (printL l)
  have bdt : (bs (printL l)).data.toList = printL l := by simp [bs]
  refine dparse_any (bs (printL l)) w4 _ (by omega) m4 (hid ?_) (hid ?_)
  rotate_left
  · intro x w5 ex
    rw [bdt, T1.out] at ex
    cases ex
  intro l' mv w5 el' hm hb5
  rw [bdt, T1.out] at el'
  injection el' with el'
  subst el'
  obtain ⟨ma, mcap, rfl⟩ := own_form hm
  have l5 := l4.below hb5
  have f5 := (hb5.block F (by omega)).trans f4
  have u5 := u4.trans (hb5.mono (by omega))
  have c0 := cell_of f5 0
  have c1 := cell_of f5 1
  have g0 := fz_of f5 0
  have g1 := fz_of f5 1
  simp at c0 c1
  have kp : Kp (· = F) w5 ((w5.setCell ⟨F, 0, none⟩ (.int .i64 0)).setCell ⟨F, 1, none⟩ (.int .i64 0)) := (Kp.set w5 F 0 _).trans (Kp.set _ F 1 _)
  have kk : Keeps (· ≠ 25) w5 ((w5.setCell ⟨F, 0, none⟩ (.int .i64 0)).setCell ⟨F, 1, none⟩ (.int .i64 0)) := Keeps.ofKp kp (by
    rintro j rfl c U fz hU hc
    rw [f5] at hc
    injection hc with hc
    injection hc with _ h2 _
    exact hU h2.symm)
  have L6 := hid (l5.keeps kk (by decide))
  have M6 := hid (hm.keeps kk (by decide))
  have zF : w.heap.size ≤ F := by omega
  have U6 : Hid (Below w.heap.size w ((w5.setCell ⟨F, 0, none⟩ (.int .i64 0)).setCell ⟨F, 1, none⟩ (.int .i64 0))) := (u5.setCell (by simpa using zF) _).setCell (by simpa using zF) _
  have z5 := u5.size
  clear l4 l5 hm hb5 f4 f5 kp kk u4 u5 m4 bdt
  have hpp : ((bs (printL l)).toList == (bs (printL l)).toList) = true := by simp
  go_wp2_with fail
  refine (sameDecls_any l _ _ _ (by omega) L6.out M6.out).mono ?_
  rintro e w7 ⟨rfl, n7, rfl⟩
  go_wp2_with fail
  have M7 : DsAt (((w5.setCell ⟨F, 0, none⟩ (.int .i64 0)).setCell ⟨F, 1, none⟩ (.int .i64 0)).drewN n7) (.slice ma l.length mcap) l := M6.out
  refine (print_any l _ _ M7 (by omega) T4.out).mono ?_
  clear M7
  rintro e w8 ⟨rfl, hb8⟩
  have FIN := hid ((below_drewN' U6.out n7).trans (hb8.mono (by simp [World.setCell]; omega)))
  clear hb8
  go_wp2_with fail
  go_ret
  exact ⟨rfl, FIN.out⟩
end Go.Proofs.Ytanedepdhbdcgaa
