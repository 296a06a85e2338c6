/-
  What attr of package page does: the plain answer of the Spec text, or its fault. Conditions: the text has at most 6000 bytes, values too.
-/
import Derived.Test.YtanedepdhbdcgaaPage2
namespace Go.Proofs.Ytanedepdhbdcgaa
open Go.RowKit

theorem has_le {S : List UInt8} {k : Nat} {t : List UInt8} (h : has S k t = true) (hk : k ≤ S.length) : k + t.length ≤ S.length := by
  unfold has at h
  have := (List.isPrefixOf_iff_prefix.1 h).length_le
  rw [List.length_drop] at this
  omega
theorem need_ok {S : List UInt8} {k m : Nat} {t : List UInt8} (h : need S k t = .ok m) : has S k t = true ∧ k + t.length = m := by
  unfold need at h
  split at h
  · injection h with h; exact ⟨by assumption, h⟩
  · cases h
theorem need_err {S : List UInt8} {k : Nat} {x : Nat × Nat} {t : List UInt8} (h : need S k t = .error x) : has S k t = false ∧ (2, k) = x := by
  unfold need at h
  split at h
  · cases h
  · injection h with h; exact ⟨by simp_all, h⟩
theorem Kp.setNew {X : Nat → Prop} {w w' : World} (h : Kp X w w') {a : Addr} (ha : w.heap.size ≤ a.block) (v : Value) : Kp X w (w'.setCell a v) :=
  ⟨h.os, h.tape, h.output, Nat.le_trans h.size (by simp [World.setCell]), fun j hj hx => (Below.heap_setCell _ _ _ _ (by omega)).trans (h.block j hj hx)⟩
theorem RdT.setOther {w : World} {b : Nat} {s : ByteArray} {k : Nat} {nv : Value} (h : Rd w b s k nv) {a : Addr} (ha : b ≠ a.block) (v : Value) : Rd (w.setCell a v) b s k nv := by
  unfold Rd RdT at h ⊢
  rw [Below.heap_setCell _ _ _ _ ha]; exact h
theorem Kp.le {X : Nat → Prop} {w w' : World} (h : Kp X w w') {w0 : World} (h0 : Below w0.heap.size w0 w) : Kp X w0 w' :=
  (Kp.below h0 X).trans h

theorem block_two0 (w : World) (c : Array Value) (T : TypeId) {o : Obj} : ((w.alloc (.cells c T)).alloc o).heap[w.heap.size]? = some (.cells c T (0, 0)) :=
  (Below.heap_alloc _ _ _ (by simp)).trans (heap_alloc_new w _)
theorem block_two1 (w : World) (c : Array Value) (T : TypeId) {o : Obj} : ((w.alloc o).alloc (.cells c T)).heap[w.heap.size + 1]? = some (.cells c T (0, 0)) := by
  have := heap_alloc_new (w.alloc o) (.cells c T)
  simpa using this
theorem cell_of {w : World} {j : Nat} {cs : Array Value} {T : TypeId} {z : Nat × Nat} (h : w.heap[j]? = some (.cells cs T z)) (o : Nat) : w.cell? ⟨j, o, none⟩ = cs[o]? := by simp [World.cell?, h]
theorem fz_of {w : World} {j : Nat} {cs : Array Value} {T : TypeId} (h : w.heap[j]? = some (.cells cs T (0, 0))) (o : Nat) : w.frozen? ⟨j, o, none⟩ = false := by simp [World.frozen?, h]

set_option maxHeartbeats 1000000 in
theorem attr_yes (b : Nat) (s : ByteArray) (k m : Nat) (nv : Value) (l : List Atr) (a : Atr) (nmV av : Value) (pa ne f t : Int) (w : World)
    (hl : s.size ≤ 6000) (hk : k ≤ s.size) (hr : Rd w b s k nv) (hs : ∀ a ∈ l, a.val.length ≤ 6000) (ho : AtAt w av l) (hm : attr s.data.toList k l = .ok (a, m)) :
    Calls Try.prog 109 #[.pointer (some ⟨b, 0, none⟩), .agg #[nmV, .int .i64 pa, av, .int .i64 ne, .int .i64 f, .int .i64 t]] w fun e w' =>
      e = .returned (.agg #[.string (bs a.name), .string (bs a.val), .int .i64 a.from_, .int .i64 a.to_]) ∧ Rd w' b s m nv ∧ Kp (· = b) w w' := by
  unfold attr at hm
  split at hm
  · cases hm
  rename_i k1 e1
  split at hm
  · cases hm
  rename_i nm k2 e2
  split at hm
  · cases hm
  rename_i k3 e3
  split at hm
  · cases hm
  rename_i k5 e5
  injection hm with hm
  injection hm with ha hm
  subst hm
  subst ha
  obtain ⟨t1, rfl⟩ := need_ok e1
  obtain ⟨t3, rfl⟩ := need_ok e3
  obtain ⟨t5, rfl⟩ := need_ok e5
  have hS := Lib.size_eq s
  have l1 := has_le t1 (by omega)
  have l2 : k2 ≤ s.data.toList.length := by
    unfold attrName at e2
    split at e2
    · cases e2
    · rename_i e hn
      have := nameTo_le hn
      split at e2
      · cases e2
      split at e2
      · cases e2
      split at e2
      · cases e2
      injection e2 with e2
      injection e2 with _ e2
      omega
  have l3 := has_le t3 (by omega)
  have l4 := whileEnd_le (S := s.data.toList) (k := k2 + [61, 34].length) valueB l3
  have l5 := has_le t5 (by omega)
  have hlt := hr.lt
  have hn0 : ¬ w.heap.size = b := by omega
  have hn1 : ¬ w.heap.size + 1 = b := by omega
  have H1 : Hid (has s.data.toList k [32] = true) := t1
  have H2 : Hid (attrName s.data.toList (k + 1) l = .ok (nm, k2)) := e2
  have H3 : Hid (has s.data.toList k2 [61, 34] = true) := t3
  have H5 : Hid (has s.data.toList (whileEnd s.data.toList (k2 + 2) valueB) [34] = true) := t5
  have V : Hid (s.extract (k2 + 2) (whileEnd s.data.toList (k2 + 2) valueB) = bs (sub s.data.toList (k2 + 2) (whileEnd s.data.toList (k2 + 2) valueB))) := sub_bs _ _ _
  simp only [List.length_cons, List.length_nil, Nat.zero_add] at l1 l3 l4 l5
  clear t1 t3 t5 e1 e2 e3 e5 hS
  show Calls _ _ _ _ fun e w' => e = .returned (.agg #[.string (bs nm), .string (bs (sub s.data.toList (k2 + 2) (whileEnd s.data.toList (k2 + 2) valueB))), .int .i64 k, .int .i64 ((whileEnd s.data.toList (k2 + 2) valueB + 1 : Nat))]) ∧ Rd w' b s (whileEnd s.data.toList (k2 + 2) valueB + 1) nv ∧ Kp (· = b) w w'
  generalize hk4 : whileEnd s.data.toList (k2 + 2) valueB = k4 at *
  have W4 : Hid (whileEnd s.data.toList (k2 + 2) valueB = k4) := hk4
  generalize sub s.data.toList (k2 + 2) k4 = val at *
  have hS : s.size = s.data.toList.length := Lib.size_eq s
  rw [← hS] at l1 l2 l3 l4 l5
  obtain ⟨q4, q4'⟩ := l4
  clear hk4 hS
  have h1 := fun o1 o2 => cell_alloc (cell_alloc hr.c1 o1) o2
  go_enter Try.func109, Try.ntmps109
  go_wp2_with (first | (go_at_call 72; refine (at_any b k _ (h1 _ _)).mono ?_; rintro e w' ⟨rfl, rfl⟩))
  obtain ⟨W0, hW0⟩ : ∃ W0, W0 = (w.alloc (.cells #[nmV, .int .i64 pa, av, .int .i64 ne, .int .i64 f, .int .i64 t] 35)).alloc (.cells #[.string ⟨#[]⟩, .string ⟨#[]⟩, .int .i64 0, .int .i64 0] 41) := ⟨_, rfl⟩
  have hb0 : Below w.heap.size w W0 := by rw [hW0]; exact ((Below.refl _ _).alloc (Nat.le_refl _) _).alloc (by simp) _
  have hr0 : Rd W0 b s k nv := hr.kp hb0
  have ho0 : AtAt W0 av l := ho.of (X := fun _ => False) (Kp.below hb0 _) (fun _ h => h.elim)
  have hB0 : W0.heap[w.heap.size]? = some (.cells #[nmV, .int .i64 pa, av, .int .i64 ne, .int .i64 f, .int .i64 t] 35 (0, 0)) := by rw [hW0]; exact block_two0 _ _ _
  have hB1 : W0.heap[w.heap.size + 1]? = some (.cells #[.string ⟨#[]⟩, .string ⟨#[]⟩, .int .i64 0, .int .i64 0] 41 (0, 0)) := by rw [hW0]; exact block_two1 _ _ _
  have z0 : w.heap.size < W0.heap.size := (Array.getElem?_eq_some_iff.1 hB0).1
  have z1 : w.heap.size + 1 < W0.heap.size := (Array.getElem?_eq_some_iff.1 hB1).1
  rw [← hW0]
  clear hW0 h1
  refine (need_yes b s _ k nv _ hk hl (by show (1 : Nat) ≤ 6000; omega) hr0 H1.out).mono ?_
  rintro e w1 ⟨rfl, hr1, hk1⟩
  have hB1' := (hk1.block _ z0 hn0).trans hB0
  have c0 := cell_of hB1' 0
  have c1 := cell_of hB1' 1
  have c2 := cell_of hB1' 2
  have c3 := cell_of hB1' 3
  have c4 := cell_of hB1' 4
  have c5 := cell_of hB1' 5
  simp at c0 c1 c2 c3 c4 c5
  clear hB1'
  go_wp2_with fail
  refine (attrName_yes b s (k + 1) k2 nv l nm nmV av pa ne f t w1 hl hr1 hs (ho0.of hk1 hr0.not41) H2.out).mono ?_
  rintro e w2 ⟨rfl, hr2, hk2⟩
  clear c0 c1 c2 c3 c4 c5
  go_wp2_with fail
  refine (need_yes b s _ k2 nv _ l2 hl (by show (2 : Nat) ≤ 6000; omega) hr2 H3.out).mono ?_
  rintro e w3 ⟨rfl, hr3, hk3⟩
  go_wp2_with fail
  refine (while_any 116 valueB cf66 tells66 b s (k2 + 2) nv w3 hl (by omega) hr3).mono ?_
  rw [W4.out, V.out]
  rintro e w4 ⟨rfl, hr4, hk4⟩
  go_wp2_with fail
  refine (need_yes b s _ k4 nv _ q4' hl (by show (1 : Nat) ≤ 6000; omega) hr4 H5.out).mono ?_
  rintro e w5 ⟨rfl, hr5, hk5⟩
  have kk := ((((hk1.trans hk2).trans hk3).trans hk4).trans hk5)
  have h1 := hr5.c1
  have hB5 := (kk.block _ z1 hn1).trans hB1
  have d0 := cell_of hB5 0
  have d1 := cell_of hB5 1
  have d2 := cell_of hB5 2
  have d3 := cell_of hB5 3
  have g0 := fz_of hB5 0
  have g1 := fz_of hB5 1
  have g2 := fz_of hB5 2
  have g3 := fz_of hB5 3
  simp at d0 d1 d2 d3
  go_wp2_with (first | (go_at_call 72; refine (at_any b _ _ h1).mono ?_; rintro e w' ⟨rfl, rfl⟩))
  refine bodyPost_ret (v := .agg #[.string (bs nm), .string (bs val), .int .i64 k, .int .i64 ((k4 : Int) + 1)]) (by simp [results, Try.results109, go_sem, d0, d1, d2, d3]) rfl ⟨rfl, ?_, ?_⟩
  · exact (((hr5.setOther (by simp; omega) _).setOther (by simp; omega) _).setOther (by simp; omega) _).setOther (by simp; omega) _
  · exact (((((kk.le hb0).setNew (by simp) _).setNew (by simp) _).setNew (by simp) _).setNew (by simp) _)

theorem attrName_le {S : List UInt8} {k m : Nat} {l : List Atr} {nm : List UInt8} (h : attrName S k l = .ok (nm, m)) : k < m ∧ m ≤ S.length := by
  unfold attrName at h
  split at h
  · cases h
  · rename_i e hn
    have := nameTo_le hn
    split at h
    · cases h
    split at h
    · cases h
    split at h
    · cases h
    injection h with h
    injection h with _ h
    omega

set_option maxHeartbeats 2000000 in
theorem attr_no (b : Nat) (s : ByteArray) (k : Nat) (nv : Value) (l : List Atr) (x : Nat × Nat) (nmV av : Value) (pa ne f t : Int) (w : World)
    (hl : s.size ≤ 6000) (hk : k ≤ s.size) (hr : Rd w b s k nv) (hs : ∀ a ∈ l, a.val.length ≤ 6000) (ho : AtAt w av l) (hm : attr s.data.toList k l = .error x) :
    Calls Try.prog 109 #[.pointer (some ⟨b, 0, none⟩), .agg #[nmV, .int .i64 pa, av, .int .i64 ne, .int .i64 f, .int .i64 t]] w fun e w' =>
      e = .panicked [{ v := .iface 87 (.agg #[.int .i64 x.1, .int .i64 x.2]), recovered := false }] ∧ Below b w w' := by
  have hS : s.size = s.data.toList.length := Lib.size_eq s
  have hlt := hr.lt
  have hn0 : ¬ w.heap.size = b := by omega
  have h1 := fun o1 o2 => cell_alloc (cell_alloc hr.c1 o1) o2
  unfold attr at hm
  split at hm
  · rename_i e1
    injection hm with hx
    obtain ⟨t1, hx2⟩ := need_err e1
    rw [hx] at hx2
    subst hx2
    have H1 : Hid (has s.data.toList k [32] = false) := t1
    clear t1 e1 hx hS
    go_enter Try.func109, Try.ntmps109
    go_wp2_with (first | (go_at_call 72; refine (at_any b k _ (h1 _ _)).mono ?_; rintro e w' ⟨rfl, rfl⟩))
    refine (need_no b s _ k nv _ hk ((hr.alloc _).alloc _) H1.out).mono ?_
    rintro e w1 ⟨rfl, n, rfl⟩
    exact ⟨rfl, rfl, below_drewN' (((Below.refl _ _).alloc (by omega) _).alloc (by simp; omega) _) _⟩
  rename_i k1 e1
  obtain ⟨t1, rfl⟩ := need_ok e1
  have l1 := has_le t1 (by omega)
  rw [← hS] at l1
  have H1 : Hid (has s.data.toList k [32] = true) := t1
  clear t1 e1
  -- the beginning that all the others share
  have start : ∀ R : Ending → World → Prop, (∀ w1, Rd w1 b s (k + 1) nv → Kp (· = b) w w1 → AtAt w1 av l →
      w1.cell? ⟨w.heap.size, 0, none⟩ = some nmV → w1.cell? ⟨w.heap.size, 1, none⟩ = some (.int .i64 pa) → w1.cell? ⟨w.heap.size, 2, none⟩ = some av →
      w1.cell? ⟨w.heap.size, 3, none⟩ = some (.int .i64 ne) → w1.cell? ⟨w.heap.size, 4, none⟩ = some (.int .i64 f) → w1.cell? ⟨w.heap.size, 5, none⟩ = some (.int .i64 t) → R (.returned (.tuple #[])) w1) →
      Calls Try.prog 79 #[.pointer (some ⟨b, 0, none⟩), .string ⟨#[32]⟩] ((w.alloc (.cells #[nmV, .int .i64 pa, av, .int .i64 ne, .int .i64 f, .int .i64 t] 35)).alloc (.cells #[.string ⟨#[]⟩, .string ⟨#[]⟩, .int .i64 0, .int .i64 0] 41)) R := by
    intro R hR
    refine (need_yes b s _ k nv _ hk hl (by show (1 : Nat) ≤ 6000; omega) ((hr.alloc _).alloc _) H1.out).mono ?_
    rintro e w1 ⟨rfl, hr1, hk1⟩
    have hB1' := (hk1.block _ (by simp; omega) hn0).trans (block_two0 w _ _)
    have c0 := cell_of hB1' 0
    have c1 := cell_of hB1' 1
    have c2 := cell_of hB1' 2
    have c3 := cell_of hB1' 3
    have c4 := cell_of hB1' 4
    have c5 := cell_of hB1' 5
    simp at c0 c1 c2 c3 c4 c5
    have hb0 : Below w.heap.size w ((w.alloc (.cells #[nmV, .int .i64 pa, av, .int .i64 ne, .int .i64 f, .int .i64 t] 35)).alloc (.cells #[.string ⟨#[]⟩, .string ⟨#[]⟩, .int .i64 0, .int .i64 0] 41)) := ((Below.refl _ _).alloc (Nat.le_refl _) _).alloc (by simp) _
    exact hR w1 hr1 (hk1.le hb0) ((ho.of (X := fun _ => False) (Kp.below hb0 _) (fun _ h => h.elim)).of hk1 ((hr.alloc _).alloc _).not41) c0 c1 c2 c3 c4 c5
  split at hm
  · rename_i e2
    injection hm with hx
    subst hx
    have H2 : Hid (attrName s.data.toList (k + 1) l = .error _) := e2
    clear e2 hS
    go_enter Try.func109, Try.ntmps109
    go_wp2_with (first | (go_at_call 72; refine (at_any b k _ (h1 _ _)).mono ?_; rintro e w' ⟨rfl, rfl⟩))
    refine start _ ?_
    intro w1 hr1 hk1 ho1 c0 c1 c2 c3 c4 c5
    clear start
    go_wp2_with fail
    refine (attrName_no b s (k + 1) nv l _ nmV av pa ne f t w1 hl hr1 hs ho1 H2.out).mono ?_
    rintro e w2 ⟨rfl, hb2⟩
    exact ⟨rfl, rfl, (hk1.under hlt).trans hb2⟩
  rename_i nm k2 e2
  have l2 := attrName_le e2
  rw [← hS] at l2
  have H2 : Hid (attrName s.data.toList (k + 1) l = .ok (nm, k2)) := e2
  clear e2
  split at hm
  · rename_i e3
    injection hm with hx
    obtain ⟨t3, hx2⟩ := need_err e3
    rw [hx] at hx2
    subst hx2
    have H3 : Hid (has s.data.toList k2 [61, 34] = false) := t3
    clear t3 e3 hx hS
    go_enter Try.func109, Try.ntmps109
    go_wp2_with (first | (go_at_call 72; refine (at_any b k _ (h1 _ _)).mono ?_; rintro e w' ⟨rfl, rfl⟩))
    refine start _ ?_
    intro w1 hr1 hk1 ho1 c0 c1 c2 c3 c4 c5
    clear start
    go_wp2_with fail
    refine (attrName_yes b s (k + 1) k2 nv l nm nmV av pa ne f t w1 hl hr1 hs ho1 H2.out).mono ?_
    rintro e w2 ⟨rfl, hr2, hk2⟩
    go_wp2_with fail
    refine (need_no b s _ k2 nv _ l2.2 hr2 H3.out).mono ?_
    rintro e w3 ⟨rfl, n, rfl⟩
    exact ⟨rfl, rfl, below_drewN' ((hk1.trans hk2).under hlt) _⟩
  rename_i k3 e3
  obtain ⟨t3, rfl⟩ := need_ok e3
  have l3 := has_le t3 (by omega)
  have l4 := whileEnd_le (S := s.data.toList) (k := k2 + [61, 34].length) valueB l3
  rw [← hS] at l3 l4
  have H3 : Hid (has s.data.toList k2 [61, 34] = true) := t3
  clear t3 e3
  split at hm
  · rename_i e5
    injection hm with hx
    obtain ⟨t5, hx2⟩ := need_err e5
    rw [hx] at hx2
    subst hx2
    have H5 : Hid (has s.data.toList (whileEnd s.data.toList (k2 + 2) valueB) [34] = false) := t5
    simp only [List.length_cons, List.length_nil, Nat.zero_add] at l3 l4
    clear t5 e5 hx hS
    show Calls _ _ _ _ fun e w' => e = .panicked [{ v := .iface 87 (.agg #[.int .i64 2, .int .i64 ((whileEnd s.data.toList (k2 + 2) valueB : Nat))]), recovered := false }] ∧ Below b w w'
    generalize hk4 : whileEnd s.data.toList (k2 + 2) valueB = k4 at *
    have W4 : Hid (whileEnd s.data.toList (k2 + 2) valueB = k4) := hk4
    obtain ⟨q4, q4'⟩ := l4
    clear hk4
    go_enter Try.func109, Try.ntmps109
    go_wp2_with (first | (go_at_call 72; refine (at_any b k _ (h1 _ _)).mono ?_; rintro e w' ⟨rfl, rfl⟩))
    refine start _ ?_
    intro w1 hr1 hk1 ho1 c0 c1 c2 c3 c4 c5
    clear start
    go_wp2_with fail
    refine (attrName_yes b s (k + 1) k2 nv l nm nmV av pa ne f t w1 hl hr1 hs ho1 H2.out).mono ?_
    rintro e w2 ⟨rfl, hr2, hk2⟩
    go_wp2_with fail
    refine (need_yes b s _ k2 nv _ l2.2 hl (by show (2 : Nat) ≤ 6000; omega) hr2 H3.out).mono ?_
    rintro e w3 ⟨rfl, hr3, hk3⟩
    go_wp2_with fail
    refine (while_any 116 valueB cf66 tells66 b s (k2 + 2) nv w3 hl (by omega) hr3).mono ?_
    rw [W4.out]
    rintro e w4 ⟨rfl, hr4, hk4⟩
    go_wp2_with fail
    refine (need_no b s _ k4 nv _ q4' hr4 H5.out).mono ?_
    rintro e w5 ⟨rfl, n, rfl⟩
    exact ⟨rfl, rfl, below_drewN' ((((hk1.trans hk2).trans hk3).trans hk4).under hlt) _⟩
  · cases hm
end Go.Proofs.Ytanedepdhbdcgaa
