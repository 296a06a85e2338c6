/- Texts that the statement's proof stands on: Sheet4, Sheet5. -/
import Derived.Test.YtblkldfokeeaeacGreatDoorA12
import Derived.Deep.CutRange
import Derived.Deep.CutBlock
namespace Go.Proofs.YtblkldfokeeaeacGreatDoor.Sh
open Go.RowKit
theorem own_rd {T : TypeId} {w w' : World} {base : Nat} {e : TypeId} {size : Nat} {v : Value} {n : Nat} {xs : List Value} {b : Nat} {s : ByteArray} {k : Nat} {nv : Value} (h : w.ownsRow base e size v n xs) (hr : RdT T w b s k nv) (hk : Kp (· = b) w w') (hT : T ≠ e) : w'.ownsRow base e size v n xs :=
  own_kp h hk (fun j hj cur fz hc => by
    subst hj
    unfold RdT at hr
    rw [hr] at hc
    injection hc with hc
    injection hc with _ h2 _
    exact hT h2)
set_option maxHeartbeats 1000000 in
theorem hasPart_any (b : Nat) (s : ByteArray) (k : Nat) (nv : Value) (w : World) (hk : k ≤ s.size) (hr : Rs w b s k nv) :
    Calls Tryz.prog 181 #[.pointer (some ⟨b, 0, none⟩)] w fun e w' => e = .returned (.bool (hasPart s.data.toList k)) ∧ ∃ n, w' = w.drewN n := by
  have h0 := hr.c0
  have h1 := hr.c1
  unfold hasPart
  go_enter Tryz.func181, Tryz.ntmps181
  cases e1 : fitsAt s.data.toList k letterB
  all_goals
    go_wp2_with (first | (go_at_call 183; refine (hasName_any b s k _ h0 h1).mono ?_; rw [e1]; rintro e w' ⟨rfl, n, rfl⟩))
  rotate_left
  · go_ret
    exact ⟨rfl, _, rfl⟩
  cases e2 : has s.data.toList k [42]
  all_goals
    refine (has_any b s ⟨#[42]⟩ k _ hk (by simpa using h0) (by simpa using h1)).mono ?_
    rw [show has s.data.toList k _ = _ from e2]
    rintro e w' ⟨rfl, n2, rfl⟩
    go_wp2_with fail
  rotate_left
  · go_ret
    exact ⟨ret_bool (by simp [e2]), _, rfl⟩
  cases e3 : has s.data.toList k [46]
  all_goals
    refine (has_any b s ⟨#[46]⟩ k _ hk (by simpa using h0) (by simpa using h1)).mono ?_
    rw [show has s.data.toList k _ = _ from e3]
    rintro e w' ⟨rfl, n3, rfl⟩
    go_wp2_with fail
  rotate_left
  · go_ret
    exact ⟨ret_bool (by simp [e3]), _, rfl⟩
  cases e4 : has s.data.toList k [35]
  all_goals
    refine (has_any b s ⟨#[35]⟩ k _ hk (by simpa using h0) (by simpa using h1)).mono ?_
    rw [show has s.data.toList k _ = _ from e4]
    rintro e w' ⟨rfl, n4, rfl⟩
    go_wp2_with fail
  rotate_left
  · go_ret
    exact ⟨ret_bool (by simp [e4]), _, rfl⟩
  cases e5 : has s.data.toList k [91]
  all_goals
    refine (has_any b s ⟨#[91]⟩ k _ hk (by simpa using h0) (by simpa using h1)).mono ?_
    rw [show has s.data.toList k _ = _ from e5]
    rintro e w' ⟨rfl, n5, rfl⟩
    go_wp2_with fail
  rotate_left
  · go_ret
    exact ⟨ret_bool (by simp [e5]), _, rfl⟩
  refine (has_any b s ⟨#[58, 102, 105, 114, 115, 116]⟩ k _ hk (by simpa using h0) (by simpa using h1)).mono ?_
  rintro e w' ⟨rfl, n6, rfl⟩
  go_wp2_with fail
  go_ret
  exact ⟨ret_bool (by simp [e2, e3, e4, e5, firstL]), _, rfl⟩
set_option maxHeartbeats 1000000 in
theorem aheadOfPart_any (n most : Nat) (b : Nat) (s : ByteArray) (k : Nat) (nv : Value) (w : World) (R : Ending → World → Prop) (hk : k ≤ s.size) (hr : Rs w b s k nv)
    (H : Hid (Good b s k nv w (aheadOfPart n most s.data.toList k) (fun _ _ v => v = .tuple #[]) R)) :
    Calls Tryz.prog 160 #[.pointer (some ⟨b, 0, none⟩), .int .i64 n, .int .i64 most] w R := by
  go_enter Tryz.func160, Tryz.ntmps160
  go_wp2_with fail
  refine (hasPart_any b s k nv _ hk hr).mono ?_
  rintro e w1 ⟨rfl, n1, rfl⟩
  have hr1 := hr.drewN n1
  have kp1 : Kp (· = b) w (w.drewN n1) := (Kp.refl _ _).drewN _
  have hbl : Below b w (w.drewN n1) := below_drewN' (Below.refl _ _) _
  generalize w.drewN n1 = w1 at hr1 kp1 hbl ⊢
  have h1 := hr1.c1
  cases e1 : hasPart s.data.toList k with
  | false =>
    go_wp2_with fail
    refine (at_any b _ _ h1).mono ?_
    rintro e w' ⟨rfl, hw⟩
    obtain rfl := hw.symm
    go_wp2_with (go_at_call 112; refine (throw_any _ _ _).mono ?_; rintro e w' ⟨rfl, rfl⟩)
    exact ⟨rfl, H.out.2 (2, k) _ (by simp only [aheadOfPart, e1]; rfl) hbl⟩
  | true =>
    by_cases hm : most ≤ n
    · go_wp2_with fail
      refine (at_any b _ _ h1).mono ?_
      rintro e w' ⟨rfl, hw⟩
      obtain rfl := hw.symm
      go_wp2_with (go_at_call 112; refine (throw_any _ _ _).mono ?_; rintro e w' ⟨rfl, rfl⟩)
      exact ⟨rfl, H.out.2 (5, k) _ (by simp only [aheadOfPart, e1, if_pos hm]; rfl) hbl⟩
    · go_wp2_with fail
      go_end0
      refine H.out.1 () k _ _ (by simp only [aheadOfPart, e1, if_neg hm]; rfl) (Nat.le_refl _) hk hr1 kp1 rfl
def tstV (t : Tst) : Value := .agg #[.int .i64 t.kind, .string (bs t.name), .string (bs t.val)]
set_option maxHeartbeats 2000000 in
theorem attrTest_any (b : Nat) (s : ByteArray) (k : Nat) (nv : Value) (w : World) (R : Ending → World → Prop) (hl : s.size ≤ 4000) (hr : Rs w b s k nv)
    (H : Hid (Good b s k nv w (attrTest s.data.toList k) (fun _ a v => v = tstV a) R)) :
    Calls Tryz.prog 222 #[.pointer (some ⟨b, 0, none⟩)] w R := by
  have hlt := hr.lt
  have hn0 : ¬ w.heap.size = b := by omega
  go_enter Tryz.func222, Tryz.ntmps222
  go_wp2_with fail
  have B0 := heap_alloc_new w (.cells #[.int .i64 0, .string ⟨#[]⟩, .string ⟨#[]⟩] 152)
  have kp0 : Kp (· = b) w (w.alloc (.cells #[.int .i64 0, .string ⟨#[]⟩, .string ⟨#[]⟩] 152)) := Kp.alloc w _
  have hr0 := hr.alloc (.cells #[.int .i64 0, .string ⟨#[]⟩, .string ⟨#[]⟩] 152)
  generalize w.alloc (.cells #[.int .i64 0, .string ⟨#[]⟩, .string ⟨#[]⟩] 152) = w0 at B0 kp0 hr0 ⊢
  refine sname_any b s k nv _ _ hl hr0 (hid ⟨?_, ?_⟩)
  rotate_left
  · intro x w1 e1 hbl
    exact ⟨rfl, H.out.2 x _ (by simp only [attrTest, bnd, e1]) ((kp0.under hlt).trans hbl)⟩
  intro n k1 v w1 e1 hk1 hk2 hr1 hkp1 hv
  subst hv
  have kp1 := kp0.trans hkp1
  have B1 := (hkp1.block _ (Array.getElem?_eq_some_iff.1 B0).1 hn0).trans B0
  have z1 : w.heap.size < w1.heap.size := (Array.getElem?_eq_some_iff.1 B1).1
  have D2 := heap_alloc_new w1 (.cells #[.int .i64 4, .string (bs n), .string ⟨#[]⟩] 152)
  have kp2 : Kp (· = b) w (w1.alloc (.cells #[.int .i64 4, .string (bs n), .string ⟨#[]⟩] 152)) := kp1.trans (Kp.alloc _ _)
  have B2 := (Below.heap_alloc w1 (.cells #[.int .i64 4, .string (bs n), .string ⟨#[]⟩] 152) _ z1).trans B1
  have hr2 := hr1.alloc (.cells #[.int .i64 4, .string (bs n), .string ⟨#[]⟩] 152)
  have hn1 : ¬ w1.heap.size = b := by have := hr1.lt; omega
  have zz : w.heap.size ≠ w1.heap.size := by omega
  clear kp0 hkp1 B0 hr0
  by_cases hst : n = styleL
  · subst hst
    have EX : Hid (attrTest s.data.toList k = .error (1, k1)) := by
      show attrTest s.data.toList k = .error (1, k1)
      simp only [attrTest, bnd, e1]
      rfl
    have hq : ((bs styleL).toList == [115, 116, 121, 108, 101]) = true := by rw [bs_toList]; rfl
    have h1 := cell_alloc hr1.c1
    clear e1
    go_wp2_with fail
    refine (at_any b _ _ (by exact hr2.c1)).mono ?_
    rintro e w' ⟨rfl, hw⟩
    obtain rfl := hw.symm
    go_wp2_with (go_at_call 112; refine (throw_any _ _ _).mono ?_; rintro e w' ⟨rfl, rfl⟩)
    exact ⟨rfl, H.out.2 (1, k1) _ EX.out (kp2.under hlt)⟩
  have hq : ((bs n).toList == [115, 116, 121, 108, 101]) = false := by
    rw [bs_toList]
    cases hh : (n == [115, 116, 121, 108, 101]) with
    | false => rfl
    | true => exact absurd (show n = [115, 116, 121, 108, 101] by simpa using hh) hst
  have E1 : Hid (attrTest s.data.toList k = bnd (opt [61] (bnd sname fun v => ret (Tst.mk 5 n v)) (ret ⟨4, n, []⟩)) (fun t => bnd (tok [93]) fun _ => ret t) s.data.toList k1) := by
    show attrTest s.data.toList k = _
    simp only [attrTest, bnd, e1]
    rw [if_neg hst]
    rfl
  clear e1
  go_wp2_with fail
  clear B1 kp1 hr1 hq hst
  generalize hD : w1.heap.size = D at *
  generalize w1.alloc (.cells #[.int .i64 4, .string (bs n), .string ⟨#[]⟩] 152) = w2 at D2 kp2 B2 hr2 ⊢
  have hsz : w.heap.size ≤ D := by omega
  -- what stands behind both ways
  have last : ∀ (t : Tst) (k3 : Nat) (w5 : World) (R' : Ending → World → Prop), k ≤ k3 → k3 ≤ s.size → attrTest s.data.toList k = bnd (tok [93]) (fun _ => ret t) s.data.toList k3 → Rs w5 b s k3 nv → Kp (· = b) w w5 →
      w5.heap[w.heap.size]? = some (.cells #[.int .i64 0, .string ⟨#[]⟩, .string ⟨#[]⟩] 152 (0, 0)) → w5.heap[D]? = some (.cells #[.int .i64 t.kind, .string (bs t.name), .string (bs t.val)] 152 (0, 0)) →
      (∀ k4 w6, attrTest s.data.toList k = .ok (t, k4) → k ≤ k4 → k4 ≤ s.size → Rs w6 b s k4 nv → Kp (· = b) w w6 → w6.heap[w.heap.size]? = some (.cells #[.int .i64 0, .string ⟨#[]⟩, .string ⟨#[]⟩] 152 (0, 0)) → w6.heap[D]? = some (.cells #[.int .i64 t.kind, .string (bs t.name), .string (bs t.val)] 152 (0, 0)) → R' (.returned (.tuple #[])) w6) →
      (∀ x w6, attrTest s.data.toList k = .error x → Below b w w6 → R' (.panicked [{ v := .iface 161 (.agg #[.int .i64 x.1, .int .i64 x.2]), recovered := false }]) w6) →
      Calls Tryz.prog 159 #[.pointer (some ⟨b, 0, none⟩), .string ⟨#[93]⟩] w5 R' := by
    intro t k3 w5 R' hk3 hk4 e5 hr5 kp5 B5 D5 hok hbad
    refine tok_any b s ⟨#[93]⟩ k3 nv _ _ hl (by show (1 : Nat) ≤ 6000; omega) hk4 hr5 ⟨?_, ?_⟩
    · intro _ k4 v w6 e6 hk5 hk6 hr6 hkp6 hv
      subst hv
      have e6' : tok [93] s.data.toList k3 = .ok ((), k4) := e6
      exact hok k4 w6 (by rw [e5]; simp only [bnd, e6', ret]) (by omega) hk6 hr6 (kp5.trans hkp6) ((hkp6.block _ (Array.getElem?_eq_some_iff.1 B5).1 hn0).trans B5) ((hkp6.block _ (Array.getElem?_eq_some_iff.1 D5).1 hn1).trans D5)
    · intro x w6 e6 hbl
      have e6' : tok [93] s.data.toList k3 = .error x := e6
      exact hbad x w6 (by rw [e5]; simp only [bnd, e6']) ((kp5.under hlt).trans hbl)
  have LAST := hid last
  clear last
  cases t1 : has s.data.toList k1 [61] with
  | false =>
    refine (take_no b s ⟨#[61]⟩ k1 nv _ hk2 hr2 t1).mono ?_
    rintro e w3 ⟨rfl, n3, rfl⟩
    have E2 : Hid (attrTest s.data.toList k = bnd (tok [93]) (fun _ => ret ⟨4, n, []⟩) s.data.toList k1) := by
      show attrTest s.data.toList k = _
      rw [E1.out]; simp only [bnd, opt]; rw [if_neg (by rw [t1]; decide)]; rfl
    clear t1 E1
    have hr3 := hr2.drewN n3
    have kp3 := kp2.drewN n3
    have D3 : (w2.drewN n3).heap[D]? = _ := D2
    have B3 : (w2.drewN n3).heap[w.heap.size]? = _ := B2
    generalize w2.drewN n3 = w3 at hr3 kp3 D3 B3 ⊢
    go_wp2_with fail
    refine LAST.out ⟨4, n, []⟩ k1 _ _ hk1 hk2 E2.out hr3 kp3 B3 (by exact D3) ?_ ?_
    · intro k4 w6 e6 hk5 hk6 hr6 kp6 B6 D6
      have c0 := cell_of D6 0
      have c1 := cell_of D6 1
      have c2 := cell_of D6 2
      have d0 := cell_of B6 0
      have d1 := cell_of B6 1
      have d2 := cell_of B6 2
      have f0 := fz_of B6 0
      have f1 := fz_of B6 1
      have f2 := fz_of B6 2
      simp at c0 c1 c2 d0 d1 d2
      have EX := hid e6
      clear e6 LAST E2
      go_wp2_with fail
      refine bodyPost_ret (v := tstV ⟨4, n, []⟩) (by simp [results, Tryz.results222, go_sem, d0, d1, d2, tstV]) rfl ?_
      exact H.out.1 ⟨4, n, []⟩ k4 _ _ EX.out hk5 hk6 (((hr6.setOther (by simp; omega) _).setOther (by simp; omega) _).setOther (by simp; omega) _) (((kp6.setNew (by simp) _).setNew (by simp) _).setNew (by simp) _) rfl
    · intro x w6 e6 hbl
      exact ⟨rfl, H.out.2 x _ e6 hbl⟩
  | true =>
    have l1 := has_le t1 (by rw [← Lib.size_eq]; exact hk2)
    rw [← Lib.size_eq] at l1
    have l1' : k1 + 1 ≤ s.size := l1
    clear l1
    refine (take_yes b s ⟨#[61]⟩ k1 nv _ hk2 (by omega) (by show (1 : Nat) ≤ 6000; omega) hr2 t1).mono ?_
    rintro e w3 ⟨rfl, hr3, hkp3⟩
    have E2 : Hid (attrTest s.data.toList k = bnd (bnd sname fun v => ret (Tst.mk 5 n v)) (fun t => bnd (tok [93]) fun _ => ret t) s.data.toList (k1 + 1)) := by
      show attrTest s.data.toList k = _
      rw [E1.out]; simp only [bnd, opt]; rw [if_pos t1]; rfl
    clear t1 E1
    have kp3 := kp2.trans hkp3
    have B3 := (hkp3.block _ (Array.getElem?_eq_some_iff.1 B2).1 hn0).trans B2
    have D3 := (hkp3.block _ (Array.getElem?_eq_some_iff.1 D2).1 hn1).trans D2
    clear kp2 hkp3 B2 D2 hr2
    go_wp2_with fail
    refine sname_any b s (k1 + 1) nv _ _ hl hr3 (hid ⟨?_, ?_⟩)
    rotate_left
    · intro x w4 e4 hbl
      exact ⟨rfl, H.out.2 x _ (by rw [E2.out]; simp only [bnd, e4]) ((kp3.under hlt).trans hbl)⟩
    intro vl k2 v w4 e4 hk3 hk4 hr4 hkp4 hv
    subst hv
    have E3 : Hid (attrTest s.data.toList k = bnd (tok [93]) (fun _ => ret ⟨5, n, vl⟩) s.data.toList k2) := by
      show attrTest s.data.toList k = _
      rw [E2.out]; simp only [bnd, e4, ret]
    clear e4 E2
    have kp4 := kp3.trans hkp4
    have B4 := (hkp4.block _ (Array.getElem?_eq_some_iff.1 B3).1 hn0).trans B3
    have D4 := (hkp4.block _ (Array.getElem?_eq_some_iff.1 D3).1 hn1).trans D3
    clear kp3 hkp4 B3 D3 hr3
    have c0 := cell_of D4 0
    have c2 := cell_of D4 2
    have f0 := fz_of D4 0
    have f2 := fz_of D4 2
    simp at c0 c2
    go_wp2_with fail
    have D5 := heap_set (heap_set D4 0 (.int .i64 5)) 2 (.string (bs vl))
    have B5 := (Below.heap_setCell (w4.setCell ⟨D, 0, none⟩ (.int .i64 5)) ⟨D, 2, none⟩ (.string (bs vl)) w.heap.size zz).trans ((Below.heap_setCell w4 ⟨D, 0, none⟩ (.int .i64 5) w.heap.size zz).trans B4)
    have kp5 := (kp4.setNew (a := ⟨D, 0, none⟩) hsz (.int .i64 5)).setNew (a := ⟨D, 2, none⟩) hsz (.string (bs vl))
    have hr5 := (hr4.setOther (a := ⟨D, 0, none⟩) (Ne.symm hn1) (.int .i64 5)).setOther (a := ⟨D, 2, none⟩) (Ne.symm hn1) (.string (bs vl))
    simp at D5
    clear c0 c2 f0 f2 kp4 B4 D4 hr4
    generalize (w4.setCell ⟨D, 0, none⟩ (.int .i64 5)).setCell ⟨D, 2, none⟩ (.string (bs vl)) = w5 at D5 B5 kp5 hr5 ⊢
    refine LAST.out ⟨5, n, vl⟩ k2 _ _ (by omega) hk4 E3.out hr5 kp5 B5 (by exact D5) ?_ ?_
    · intro k4 w6 e6 hk5 hk6 hr6 kp6 B6 D6
      have c0 := cell_of D6 0
      have c1 := cell_of D6 1
      have c2 := cell_of D6 2
      have d0 := cell_of B6 0
      have d1 := cell_of B6 1
      have d2 := cell_of B6 2
      have f0 := fz_of B6 0
      have f1 := fz_of B6 1
      have f2 := fz_of B6 2
      simp at c0 c1 c2 d0 d1 d2
      have EX := hid e6
      clear e6 LAST E3
      go_wp2_with fail
      refine bodyPost_ret (v := tstV ⟨5, n, vl⟩) (by simp [results, Tryz.results222, go_sem, d0, d1, d2, tstV]) rfl ?_
      exact H.out.1 ⟨5, n, vl⟩ k4 _ _ EX.out hk5 hk6 (((hr6.setOther (by simp; omega) _).setOther (by simp; omega) _).setOther (by simp; omega) _) (((kp6.setNew (by simp) _).setNew (by simp) _).setNew (by simp) _) rfl
    · intro x w6 e6 hbl
      exact ⟨rfl, H.out.2 x _ e6 hbl⟩
set_option maxHeartbeats 2000000 in
theorem test_any (b : Nat) (s : ByteArray) (k : Nat) (nv : Value) (w : World) (R : Ending → World → Prop) (hl : s.size ≤ 4000) (hk : k ≤ s.size) (hr : Rs w b s k nv)
    (H : Hid (Good b s k nv w (test s.data.toList k) (fun _ a v => v = tstV a) R)) :
    Calls Tryz.prog 212 #[.pointer (some ⟨b, 0, none⟩)] w R := by
  have hlt := hr.lt
  have hn0 : ¬ w.heap.size = b := by omega
  have HS : Hid (s.size = s.data.toList.length) := Lib.size_eq s
  go_enter Tryz.func212, Tryz.ntmps212
  go_wp2_with fail
  have B0 := heap_alloc_new w (.cells #[.int .i64 0, .string ⟨#[]⟩, .string ⟨#[]⟩] 152)
  have kp0 : Kp (· = b) w (w.alloc (.cells #[.int .i64 0, .string ⟨#[]⟩, .string ⟨#[]⟩] 152)) := Kp.alloc w _
  have hr0 := hr.alloc (.cells #[.int .i64 0, .string ⟨#[]⟩, .string ⟨#[]⟩] 152)
  generalize w.alloc (.cells #[.int .i64 0, .string ⟨#[]⟩, .string ⟨#[]⟩] 152) = w0 at B0 kp0 hr0 ⊢
  have c0 := cell_of B0 0
  have c1 := cell_of B0 1
  have c2 := cell_of B0 2
  have f0 := fz_of B0 0
  have f1 := fz_of B0 1
  have f2 := fz_of B0 2
  simp at c0 c1 c2
  clear c0 c1 c2 f0 f1 f2
  cases t1 : has s.data.toList k [46] with
  | true =>
    have l1 := has_le t1 (by rw [← HS.out]; exact hk)
    rw [← HS.out] at l1
    have l1' : k + 1 ≤ s.size := l1
    clear l1
    refine (take_yes b s ⟨#[46]⟩ k nv _ hk (by omega) (by show (1 : Nat) ≤ 6000; omega) hr0 t1).mono ?_
    rintro e w1 ⟨rfl, hr1, hkp1⟩
    have E1 : Hid (test s.data.toList k = bnd sname (fun n => ret ⟨2, n, []⟩) s.data.toList (k + 1)) := by
      show test s.data.toList k = _
      unfold test opt; rw [if_pos t1]; rfl
    clear t1
    have kp1 := kp0.trans hkp1
    have B1 := (hkp1.block _ (Array.getElem?_eq_some_iff.1 B0).1 hn0).trans B0
    clear kp0 hkp1 B0 hr0
    go_wp2_with fail
    refine sname_any b s (k + 1) nv _ _ hl hr1 (hid ⟨?_, ?_⟩)
    · intro n k1 v w2 e1 hk1 hk2 hr2 hkp2 hv
      subst hv
      have EX : Hid (test s.data.toList k = .ok (⟨2, n, []⟩, k1)) := by
        show test s.data.toList k = _
        rw [E1.out]; simp only [bnd, e1, ret]
      clear e1 E1
      have kp2 := kp1.trans hkp2
      have B2 := (hkp2.block _ (Array.getElem?_eq_some_iff.1 B1).1 hn0).trans B1
      have d0 := cell_of B2 0
      have d1 := cell_of B2 1
      have d2 := cell_of B2 2
      have f0 := fz_of B2 0
      have f1 := fz_of B2 1
      have f2 := fz_of B2 2
      simp at d0 d1 d2
      go_wp2_with fail
      refine bodyPost_ret (v := tstV ⟨2, n, []⟩) (by simp [results, Tryz.results212, go_sem, d0, d1, d2, tstV, bs]) rfl ?_
      exact H.out.1 ⟨2, n, []⟩ k1 _ _ EX.out (by omega) hk2 (((hr2.setOther (by simp; omega) _).setOther (by simp; omega) _).setOther (by simp; omega) _) (((kp2.setNew (by simp) _).setNew (by simp) _).setNew (by simp) _) rfl
    · intro x w2 e1 hbl
      exact ⟨rfl, H.out.2 x _ (by rw [E1.out]; simp only [bnd, e1]) ((kp1.under hlt).trans hbl)⟩
  | false =>
  refine (take_no b s ⟨#[46]⟩ k nv _ hk hr0 t1).mono ?_
  rintro e w1 ⟨rfl, n1, rfl⟩
  have E1 : Hid (test s.data.toList k = opt [35] (bnd sname fun n => ret ⟨3, n, []⟩) (opt firstL (ret ⟨6, [], []⟩) (opt [91] attrTest (ret ⟨0, [], []⟩))) s.data.toList k) := by
    show test s.data.toList k = _
    unfold test; unfold opt; rw [if_neg (by rw [t1]; decide)]
  clear t1
  have hr1 := hr0.drewN n1
  have kp1 := kp0.drewN n1
  have B1 : (w0.drewN n1).heap[w.heap.size]? = _ := B0
  generalize w0.drewN n1 = w1 at hr1 kp1 B1 ⊢
  clear kp0 B0 hr0
  go_wp2_with fail
  cases t1 : has s.data.toList k [35] with
  | true =>
    have l1 := has_le t1 (by rw [← HS.out]; exact hk)
    rw [← HS.out] at l1
    have l1' : k + 1 ≤ s.size := l1
    clear l1
    refine (take_yes b s ⟨#[35]⟩ k nv _ hk (by omega) (by show (1 : Nat) ≤ 6000; omega) hr1 t1).mono ?_
    rintro e w2 ⟨rfl, hr2, hkp2⟩
    have E2 : Hid (test s.data.toList k = bnd sname (fun n => ret ⟨3, n, []⟩) s.data.toList (k + 1)) := by
      show test s.data.toList k = _
      rw [E1.out]; unfold opt; rw [if_pos t1]; rfl
    clear t1 E1
    have kp2 := kp1.trans hkp2
    have B2 := (hkp2.block _ (Array.getElem?_eq_some_iff.1 B1).1 hn0).trans B1
    clear kp1 hkp2 B1 hr1
    go_wp2_with fail
    refine sname_any b s (k + 1) nv _ _ hl hr2 (hid ⟨?_, ?_⟩)
    · intro n k1 v w3 e1 hk1 hk2 hr3 hkp3 hv
      subst hv
      have EX : Hid (test s.data.toList k = .ok (⟨3, n, []⟩, k1)) := by
        show test s.data.toList k = _
        rw [E2.out]; simp only [bnd, e1, ret]
      clear e1 E2
      have kp3 := kp2.trans hkp3
      have B3 := (hkp3.block _ (Array.getElem?_eq_some_iff.1 B2).1 hn0).trans B2
      have d0 := cell_of B3 0
      have d1 := cell_of B3 1
      have d2 := cell_of B3 2
      have f0 := fz_of B3 0
      have f1 := fz_of B3 1
      have f2 := fz_of B3 2
      simp at d0 d1 d2
      go_wp2_with fail
      refine bodyPost_ret (v := tstV ⟨3, n, []⟩) (by simp [results, Tryz.results212, go_sem, d0, d1, d2, tstV, bs]) rfl ?_
      exact H.out.1 ⟨3, n, []⟩ k1 _ _ EX.out (by omega) hk2 (((hr3.setOther (by simp; omega) _).setOther (by simp; omega) _).setOther (by simp; omega) _) (((kp3.setNew (by simp) _).setNew (by simp) _).setNew (by simp) _) rfl
    · intro x w3 e1 hbl
      exact ⟨rfl, H.out.2 x _ (by rw [E2.out]; simp only [bnd, e1]) ((kp2.under hlt).trans hbl)⟩
  | false =>
  refine (take_no b s ⟨#[35]⟩ k nv _ hk hr1 t1).mono ?_
  rintro e w2 ⟨rfl, n2, rfl⟩
  have E2 : Hid (test s.data.toList k = opt firstL (ret ⟨6, [], []⟩) (opt [91] attrTest (ret ⟨0, [], []⟩)) s.data.toList k) := by
    show test s.data.toList k = _
    rw [E1.out]; unfold opt; rw [if_neg (by rw [t1]; decide)]
  clear t1 E1
  have hr2 := hr1.drewN n2
  have kp2 := kp1.drewN n2
  have B2 : (w1.drewN n2).heap[w.heap.size]? = _ := B1
  generalize w1.drewN n2 = w2 at hr2 kp2 B2 ⊢
  clear kp1 B1 hr1
  go_wp2_with fail
  cases t1 : has s.data.toList k [58, 102, 105, 114, 115, 116] with
  | true =>
    have l1 := has_le t1 (by rw [← HS.out]; exact hk)
    rw [← HS.out] at l1
    have l1' : k + 6 ≤ s.size := l1
    clear l1
    refine (take_yes b s ⟨#[58, 102, 105, 114, 115, 116]⟩ k nv _ hk (by omega) (by show (6 : Nat) ≤ 6000; omega) hr2 t1).mono ?_
    rintro e w3 ⟨rfl, hr3, hkp3⟩
    have EX : Hid (test s.data.toList k = .ok (⟨6, [], []⟩, k + 6)) := by
      show test s.data.toList k = _
      rw [E2.out]; unfold opt; rw [if_pos (show has s.data.toList k firstL = true from t1)]; rfl
    clear t1 E2
    have kp3 := kp2.trans hkp3
    have B3 := (hkp3.block _ (Array.getElem?_eq_some_iff.1 B2).1 hn0).trans B2
    have d0 := cell_of B3 0
    have d1 := cell_of B3 1
    have d2 := cell_of B3 2
    have f0 := fz_of B3 0
    have f1 := fz_of B3 1
    have f2 := fz_of B3 2
    simp at d0 d1 d2
    have hr3' : Rs w3 b s (k + 6) nv := hr3
    go_wp2_with fail
    refine bodyPost_ret (v := tstV ⟨6, [], []⟩) (by simp [results, Tryz.results212, go_sem, d0, d1, d2, tstV, bs]) rfl ?_
    exact H.out.1 ⟨6, [], []⟩ (k + 6) _ _ EX.out (by omega) l1' (((hr3'.setOther (by simp; omega) _).setOther (by simp; omega) _).setOther (by simp; omega) _) (((kp3.setNew (by simp) _).setNew (by simp) _).setNew (by simp) _) rfl
  | false =>
  refine (take_no b s ⟨#[58, 102, 105, 114, 115, 116]⟩ k nv _ hk hr2 t1).mono ?_
  rintro e w3 ⟨rfl, n3, rfl⟩
  have E3 : Hid (test s.data.toList k = opt [91] attrTest (ret ⟨0, [], []⟩) s.data.toList k) := by
    show test s.data.toList k = _
    rw [E2.out]; unfold opt; rw [if_neg (by rw [show has s.data.toList k firstL = false from t1]; decide)]
  clear t1 E2
  have hr3 := hr2.drewN n3
  have kp3 := kp2.drewN n3
  have B3 : (w2.drewN n3).heap[w.heap.size]? = _ := B2
  generalize w2.drewN n3 = w3 at hr3 kp3 B3 ⊢
  clear kp2 B2 hr2
  go_wp2_with fail
  cases t1 : has s.data.toList k [91] with
  | true =>
    have l1 := has_le t1 (by rw [← HS.out]; exact hk)
    rw [← HS.out] at l1
    have l1' : k + 1 ≤ s.size := l1
    clear l1
    refine (take_yes b s ⟨#[91]⟩ k nv _ hk (by omega) (by show (1 : Nat) ≤ 6000; omega) hr3 t1).mono ?_
    rintro e w4 ⟨rfl, hr4, hkp4⟩
    have E4 : Hid (test s.data.toList k = attrTest s.data.toList (k + 1)) := by
      show test s.data.toList k = _
      rw [E3.out]; unfold opt; rw [if_pos t1]; rfl
    clear t1 E3
    have kp4 := kp3.trans hkp4
    have B4 := (hkp4.block _ (Array.getElem?_eq_some_iff.1 B3).1 hn0).trans B3
    clear kp3 hkp4 B3 hr3
    go_wp2_with fail
    refine attrTest_any b s (k + 1) nv _ _ hl hr4 (hid ⟨?_, ?_⟩)
    · intro t k1 v w5 e1 hk1 hk2 hr5 hkp5 hv
      subst hv
      have EX : Hid (test s.data.toList k = .ok (t, k1)) := E4.out.trans e1
      clear e1 E4
      have kp5 := kp4.trans hkp5
      have B5 := (hkp5.block _ (Array.getElem?_eq_some_iff.1 B4).1 hn0).trans B4
      have d0 := cell_of B5 0
      have d1 := cell_of B5 1
      have d2 := cell_of B5 2
      have f0 := fz_of B5 0
      have f1 := fz_of B5 1
      have f2 := fz_of B5 2
      simp at d0 d1 d2
      simp only [tstV]
      go_wp2_with fail
      refine bodyPost_ret (v := tstV t) (by simp [results, Tryz.results212, go_sem, d0, d1, d2, tstV]) rfl ?_
      exact H.out.1 t k1 _ _ EX.out (by omega) hk2 (((hr5.setOther (by simp; omega) _).setOther (by simp; omega) _).setOther (by simp; omega) _) (((kp5.setNew (by simp) _).setNew (by simp) _).setNew (by simp) _) rfl
    · intro x w5 e1 hbl
      exact ⟨rfl, H.out.2 x _ (E4.out.trans e1) ((kp4.under hlt).trans hbl)⟩
  | false =>
    refine (take_no b s ⟨#[91]⟩ k nv _ hk hr3 t1).mono ?_
    rintro e w4 ⟨rfl, n4, rfl⟩
    have EX : Hid (test s.data.toList k = .ok (⟨0, [], []⟩, k)) := by
      show test s.data.toList k = _
      rw [E3.out]; unfold opt; rw [if_neg (by rw [t1]; decide)]; rfl
    clear t1 E3
    have hr4 := hr3.drewN n4
    have kp4 := kp3.drewN n4
    have B4 : (w3.drewN n4).heap[w.heap.size]? = _ := B3
    generalize w3.drewN n4 = w4 at hr4 kp4 B4 ⊢
    clear kp3 B3 hr3
    have d0 := cell_of B4 0
    have d1 := cell_of B4 1
    have d2 := cell_of B4 2
    have f0 := fz_of B4 0
    have f1 := fz_of B4 1
    have f2 := fz_of B4 2
    simp at d0 d1 d2
    go_wp2_with fail
    refine bodyPost_ret (v := tstV ⟨0, [], []⟩) (by simp [results, Tryz.results212, go_sem, d0, d1, d2, tstV, bs]) rfl ?_
    exact H.out.1 ⟨0, [], []⟩ k _ _ EX.out (Nat.le_refl _) hk (((hr4.setOther (by simp; omega) _).setOther (by simp; omega) _).setOther (by simp; omega) _) (((kp4.setNew (by simp) _).setNew (by simp) _).setNew (by simp) _) rfl
end Go.Proofs.YtblkldfokeeaeacGreatDoor.Sh
namespace Go.Proofs.YtblkldfokeeaeacGreatDoor.Sh
open Go.RowKit
def encT (t : Tst) : List Value := [.int .i64 t.kind, .string (bs t.name), .string (bs t.val)]
def TsAt (w : World) (v : Value) (l : List Tst) : Prop := w.ownsRow 0 152 3 v l.length (l.flatMap encT)
def PrtAt (w : World) (p : Prt) (v : Value) : Prop := ∃ x, v = .agg #[.int .i64 p.join, x] ∧ TsAt w x p.tests
theorem Tryz.info152 : (Tryz.prog.info? 152).map (fun i => (i.zero, i.size, i.bytes)) = some (some (.agg #[.int .i64 0, .string ⟨#[]⟩, .string ⟨#[]⟩]), 3, 40) := by kernel_rfl
theorem sname_le {S : List UInt8} {k k' : Nat} {n : List UInt8} (h : sname S k = .ok (n, k')) : k < k' ∧ k' ≤ S.length ∧ n.length ≤ 20 := by
  unfold sname at h
  split at h
  · cases h
  rename_i e he
  split at h
  · cases h
  rename_i h20
  injection h with h
  injection h with h1 h2
  have := nameTo_le he
  subst h1 h2
  exact ⟨this.1, this.2, by omega⟩
theorem sname_yes (b : Nat) (s : ByteArray) (k : Nat) (nv : Value) (w : World) (hl : s.size ≤ 4000) (hr : Rs w b s k nv) {n : List UInt8} {k1 : Nat} (hm : sname s.data.toList k = .ok (n, k1)) :
    Calls Tryz.prog 158 #[.pointer (some ⟨b, 0, none⟩)] w fun e w' => e = .returned (.string (bs n)) ∧ Rs w' b s k1 nv ∧ Kp (· = b) w w' := by
  refine sname_any b s k nv w _ hl hr (hid ⟨?_, ?_⟩)
  · intro a k' v w' e _ _ hr' hk' hv
    rw [hm] at e
    injection e with e
    injection e with e1 e2
    subst e1 e2 hv
    exact ⟨rfl, hr', hk'⟩
  · intro x w' e
    rw [hm] at e
    cases e
theorem sname_no (b : Nat) (s : ByteArray) (k : Nat) (nv : Value) (w : World) (hl : s.size ≤ 4000) (hr : Rs w b s k nv) {x : Nat × Nat} (hm : sname s.data.toList k = .error x) :
    Calls Tryz.prog 158 #[.pointer (some ⟨b, 0, none⟩)] w fun e w' => e = .panicked [{ v := .iface 161 (.agg #[.int .i64 x.1, .int .i64 x.2]), recovered := false }] ∧ Below b w w' := by
  refine sname_any b s k nv w _ hl hr (hid ⟨?_, ?_⟩)
  · intro a k' v w' e
    rw [hm] at e
    cases e
  · intro x' w' e hb
    rw [hm] at e
    injection e with e
    subst e
    exact ⟨rfl, hb⟩
def PartInv (join : Nat) (b : Nat) (s : ByteArray) (k : Nat) (nv : Value) (w : World) (f : Nat) (wr : World) : Prop :=
  ∃ (k' : Nat) (l : List Tst) (x : Value), 8 ≤ f + l.length ∧ l.length ≤ 6 ∧ k ≤ k' ∧ k' ≤ s.size ∧ Rs wr b s k' nv ∧ Kp (· = b) w wr ∧ wr.ownsRow w.heap.size 152 3 x l.length (l.flatMap encT) ∧
    wr.heap[w.heap.size]? = some (.cells #[.int .i64 0, .slice none 0 0] 150 (0, 0)) ∧ wr.heap[w.heap.size + 1]? = some (.cells #[.int .i64 join, x] 150 (0, 0)) ∧
    bnd (testsTo f l) (fun l => ret ⟨join, l⟩) s.data.toList k' = part join s.data.toList k
set_option maxRecDepth 100000 in
set_option maxHeartbeats 4000000 in
theorem part_any (join : Nat) (b : Nat) (s : ByteArray) (k : Nat) (nv : Value) (w : World) (R : Ending → World → Prop) (hl : s.size ≤ 4000) (hk : k ≤ s.size) (hr : Rs w b s k nv)
    (H : Hid (Good b s k nv w (part join s.data.toList k) (fun w' a v => PrtAt w' a v) R)) :
    Calls Tryz.prog 199 #[.pointer (some ⟨b, 0, none⟩), .int .i64 join] w R := by
  have hlt := hr.lt
  have hn0 : ¬ w.heap.size = b := by omega
  have hn1 : ¬ w.heap.size + 1 = b := by omega
  have HS : Hid (s.size = s.data.toList.length) := Lib.size_eq s
  obtain ⟨i0, hi, hz0, hz1, hz2⟩ := info_parts' Tryz.info152
  have HI := hid hi
  have HZ : Hid (i0.zero = some (.agg #[.int .i64 0, .string ⟨#[]⟩, .string ⟨#[]⟩]) ∧ i0.size = 3 ∧ i0.bytes = 40) := ⟨hz0, hz1, hz2⟩
  clear hi hz0 hz1 hz2
  go_enter Tryz.func199, Tryz.ntmps199
  go_upto_region 2 with fail
  have Q0 := block_two0 w #[.int .i64 0, .slice none 0 0] 150 (o := .cells #[.int .i64 join, .slice none 0 0] 150)
  have P0 := block_two1 w #[.int .i64 join, .slice none 0 0] 150 (o := .cells #[.int .i64 0, .slice none 0 0] 150)
  have kp0 : Kp (· = b) w ((w.alloc (.cells #[.int .i64 0, .slice none 0 0] 150)).alloc (.cells #[.int .i64 join, .slice none 0 0] 150)) := (Kp.alloc w _).trans (Kp.alloc _ _)
  have hr0 := (hr.alloc (.cells #[.int .i64 0, .slice none 0 0] 150)).alloc (.cells #[.int .i64 join, .slice none 0 0] 150)
  generalize (w.alloc (.cells #[.int .i64 0, .slice none 0 0] 150)).alloc (.cells #[.int .i64 join, .slice none 0 0] 150) = w0 at Q0 P0 kp0 hr0 ⊢
  have zP : w.heap.size + 1 < w0.heap.size := (Array.getElem?_eq_some_iff.1 P0).1
  go_cut [19] from 9 to 19 (fun c wx => (c = .bool false ∧ PartInv join b s k nv w 8 wx) ∨ (c = .bool true ∧ Rs wx b s k nv ∧ Kp (· = b) w wx ∧ wx.heap[w.heap.size]? = some (.cells #[.int .i64 0, .slice none 0 0] 150 (0, 0)) ∧ wx.heap[w.heap.size + 1]? = some (.cells #[.int .i64 join, .slice none 0 0] 150 (0, 0)) ∧ part join s.data.toList k = bnd (bnd sname fun n => ret [⟨1, n, []⟩]) (fun l => bnd (testsTo 8 l) fun l => ret ⟨join, l⟩) s.data.toList k))
  case first =>
    go_wp2_with fail
    cases t1 : has s.data.toList k [42] with
    | true =>
      have l1 := has_le t1 (by rw [← HS.out]; exact hk)
      rw [← HS.out] at l1
      have l1' : k + 1 ≤ s.size := l1
      clear l1
      refine (take_yes b s ⟨#[42]⟩ k nv _ hk (by omega) (by show (1 : Nat) ≤ 6000; omega) hr0 t1).mono ?_
      rintro e w1 ⟨rfl, hr1, hkp1⟩
      have ST : Hid (PartInv join b s k nv w 8 w1) := by
        refine ⟨k + 1, [], .slice none 0 0, by simp, by simp, by omega, l1', hr1, kp0.trans hkp1, World.ownsRow_nil _ _ _ _, (hkp1.block _ (by omega) hn0).trans Q0, (hkp1.block _ zP hn1).trans P0, ?_⟩
        simp only [part, partHead, bnd, opt]
        rw [if_pos t1]
        rfl
      clear t1 Q0 P0 kp0 hr0 hr1 hkp1 zP
      go_wp2_with fail
      go_meet
      case rel => exact .inl ⟨rfl, ST.out⟩
    | false =>
      refine (take_no b s ⟨#[42]⟩ k nv _ hk hr0 t1).mono ?_
      rintro e w1 ⟨rfl, n1, rfl⟩
      have hr1 := hr0.drewN n1
      have kp1 := kp0.drewN n1
      have Q1 : (w0.drewN n1).heap[w.heap.size]? = _ := Q0
      have P1 : (w0.drewN n1).heap[w.heap.size + 1]? = _ := P0
      have T1 := hid t1
      generalize w0.drewN n1 = w1 at hr1 kp1 Q1 P1 ⊢
      clear t1 Q0 P0 kp0 hr0 zP
      have h0 := hr1.c0
      have h1 := hr1.c1
      go_wp2_with fail
      refine (hasName_any b s k _ h0 h1).mono ?_
      rintro e w2 ⟨rfl, n2, rfl⟩
      clear h0 h1
      have hr2 := hr1.drewN n2
      have kp2 := kp1.drewN n2
      have Q2 : (w1.drewN n2).heap[w.heap.size]? = _ := Q1
      have P2 : (w1.drewN n2).heap[w.heap.size + 1]? = _ := P1
      generalize w1.drewN n2 = w2 at hr2 kp2 Q2 P2 ⊢
      clear hr1 kp1 Q1 P1
      cases hf : fitsAt s.data.toList k letterB with
      | false =>
        have ST : Hid (PartInv join b s k nv w 8 w2) := by
          refine ⟨k, [], .slice none 0 0, by simp, by simp, by omega, hk, hr2, kp2, World.ownsRow_nil _ _ _ _, Q2, P2, ?_⟩
          have t1 := T1.out
          simp only [part, partHead, bnd, opt, fits]
          rw [if_neg (by rw [t1]; decide), if_neg (by rw [hf]; decide)]
          rfl
        clear hf Q2 P2 kp2 hr2 T1
        go_wp2_with fail
        go_meet
        case rel => exact .inl ⟨rfl, ST.out⟩
      | true =>
        have PH : Hid (part join s.data.toList k = bnd (bnd sname fun n => ret [⟨1, n, []⟩]) (fun l => bnd (testsTo 8 l) fun l => ret ⟨join, l⟩) s.data.toList k) := by
          have t1 := T1.out
          show part join s.data.toList k = _
          simp only [part, partHead, bnd, opt, fits]
          rw [if_neg (by rw [t1]; decide), if_pos hf]
        clear hf T1
        go_wp2_with fail
        go_meet
        case rel => exact .inr ⟨rfl, hr2, kp2, Q2, P2, PH.out⟩
  case rest =>
  clear Q0 P0 kp0 hr0 zP
  rename World => w2
  go_upto_if 19 with fail
  go_cut [] from 9 to 27 (fun wx => PartInv join b s k nv w 8 wx)
  case first =>
    rcases hcut with ⟨rfl, hI⟩ | ⟨rfl, hr2, kp2, Q2, P2, PH⟩
    · have ST := hid hI
      clear hI
      go_wp2_with fail
      go_meet
      case rel => exact ST.out
    have PHH := hid PH
    clear PH
    have zP2 : w.heap.size + 1 < w2.heap.size := (Array.getElem?_eq_some_iff.1 P2).1
    have p1 := cell_of P2 1
    have f1 := fz_of P2 1
    simp at p1
    cases es : sname s.data.toList k with
    | error x =>
      have EX : Hid (part join s.data.toList k = .error x) := by
        show part join s.data.toList k = .error x
        rw [PHH.out]; simp only [bnd, es]
      have ES := hid es
      clear es
      go_wp2_with fail
      go_region_with (go_at_call 158; refine (sname_no b s k nv _ hl ?_ ES.out).mono ?_; exact hr2; rintro e w' ⟨rfl, hb⟩; refine bear (by exact ⟨rfl, H.out.2 x _ EX.out ((kp2.under hlt).trans ⟨hb.os, hb.tape, hb.output, hb.size, hb.block⟩)⟩) ⟨#[], []⟩ w ?_)
      all_goals trivial
    | ok q =>
      obtain ⟨n, k1⟩ := q
      have sl := sname_le es
      rw [← HS.out] at sl
      obtain ⟨sl1, sl2, sl3⟩ := sl
      have EX : Hid (bnd (testsTo 8 [⟨1, n, []⟩]) (fun l => ret ⟨join, l⟩) s.data.toList k1 = part join s.data.toList k) := by
        show _ = part join s.data.toList k
        rw [PHH.out]; simp only [bnd, es, ret]
      have ES := hid es
      clear es PHH
      go_wp2_with fail
      go_region_law (first
        | (go_simp; go_at_call 158; refine (sname_yes b s k nv _ hl ?_ ES.out).mono ?_; exact hr2; rintro e w5 ⟨rfl, hr5, hk5'⟩; have hk5 := kp_undrewN hk5'; clear hk5'; have pp2 := (hk5.cell (j := w.heap.size + 1) zP2 hn1 1).trans p1; have pp3 := cell_alloc pp2)
        | (refine step_append_lies _ rfl (.tmp 21) (.tmp 25) 148 rfl w.heap.size 152 i0 (.agg #[.int .i64 0, .string ⟨#[]⟩, .string ⟨#[]⟩]) 3 40 Tryz.underlying148 HI.out HZ.out.1 HZ.out.2.1 HZ.out.2.2 rfl (by decide) (.slice none 0 0) 0 [] rfl (World.ownsRow_nil _ _ _ _) ⟨w5.heap.size, 0, none⟩ 1 1 (encT ⟨1, n, []⟩) rfl rfl (World.news_of_block (heap_alloc_new w5 _)) (by simp [encT, Value.oneCell']) (by decide) (by unfold maxLen; omega) (by omega) (by have q1 := hk5.size; have q2 : w2.heap.size ≤ w5.heap.size := q1; simp; omega) _ rfl ?_; intro g cap w3 hown hgrow hat hlt3; have ow5 : w5.ownsRow w.heap.size 152 3 (.slice none 0 0) 0 [] := World.ownsRow_nil _ _ _ _; have kp3 := grown_kp (kp2.trans hk5) ow5 (Nat.le_refl _) hgrow; have hr3 := grown_rd hr5 ow5 (by decide) hgrow; have Q5 := (hk5.block _ (by omega) hn0).trans Q2; have P5 := (hk5.block _ zP2 hn1).trans P2; have Q3 := (Keeps.grown (Ts := (· = 150)) ow5 hgrow (by decide) _ _ _ _ rfl Q5).trans Q5; have P3 := (Keeps.grown (Ts := (· = 150)) ow5 hgrow (by decide) _ _ _ _ rfl P5).trans P5; have y2 := cell_of P3 1; have y3 := fz_of P3 1; simp at y2; have HW := hid hown; clear hown hgrow hat ow5))
      all_goals
        have ST : Hid (PartInv join b s k nv w 8 (w3.setCell ⟨w.heap.size + 1, 1, none⟩ (.slice (some ⟨g, 0, none⟩) 1 cap))) := by
          have PP := heap_set P3 1 (.slice (some ⟨g, 0, none⟩) 1 cap)
          simp at PP
          refine ⟨k1, [⟨1, n, []⟩], .slice (some ⟨g, 0, none⟩) 1 cap, by simp, by simp, by omega, sl2, hr3.setOther (by simp; omega) _, kp3.setNew (by simp) _, ?_, ?_, PP, EX.out⟩
          · exact own_kp HW.out (Kp.set w3 (w.heap.size + 1) 1 _) (by rintro j rfl cur fz hc; rw [P3] at hc; simp at hc)
          · rw [Below.heap_setCell _ _ _ _ (by simp)]; exact Q3
        go_wp2_with fail
        go_meet
        case rel => exact ST.out
  case rest =>
  have ST := hid hcut
  clear hcut
  go_wp2_with fail
  go_loopg [] 8 (fun f wr => PartInv join b s k nv w f wr)
  case atStart => exact ST.out
  case round =>
    clear ST
    obtain ⟨k', l, x, h8, h6, hk1, hk2, hr', hkp, ho, hQ, hP, hE⟩ := hrel
    obtain ⟨f', rfl⟩ : ∃ f', gk = f' + 1 := ⟨gk - 1, by omega⟩
    have E := hid hE
    clear hE
    obtain ⟨xa, xcap, rfl⟩ := own_form ho
    have zP : w.heap.size + 1 < wr.heap.size := (Array.getElem?_eq_some_iff.1 hP).1
    go_wp2_with fail
    refine test_any b s k' nv _ _ hl hk2 hr' (hid ⟨?_, ?_⟩)
    rotate_left
    · intro y w1 e1 hbl
      exact ⟨rfl, H.out.2 y _ (by rw [← E.out]; simp only [testsTo, bnd, e1]) ((hkp.under hlt).trans hbl)⟩
    intro t k1 v w1 e1 hk3 hk4 hr1 hkp1 hv
    subst hv
    have E1 : Hid (part join s.data.toList k = bnd (if t.kind = 0 then ret l else if 6 ≤ l.length then bad 5 else testsTo f' (l ++ [t])) (fun l => ret ⟨join, l⟩) s.data.toList k1) := by
      show part join s.data.toList k = _
      rw [← E.out]; simp only [testsTo, bnd, e1]
    clear e1 E
    have kp1 := hkp.trans hkp1
    have ho1 := own_rd ho hr' hkp1 (by decide)
    have Q1 := (hkp1.block _ (by omega) hn0).trans hQ
    have P1 := (hkp1.block _ zP hn1).trans hP
    have zP1 : w.heap.size + 1 < w1.heap.size := (Array.getElem?_eq_some_iff.1 P1).1
    clear hkp hkp1 ho hr' hQ hP zP
    have hz : w.heap.size ≤ w1.heap.size := by omega
    have Q2 := (Below.heap_alloc w1 (.cells #[.int .i64 t.kind, .string (bs t.name), .string (bs t.val)] 152) _ (by omega)).trans Q1
    have P2 := (Below.heap_alloc w1 (.cells #[.int .i64 t.kind, .string (bs t.name), .string (bs t.val)] 152) _ zP1).trans P1
    have hr2 := hr1.alloc (.cells #[.int .i64 t.kind, .string (bs t.name), .string (bs t.val)] 152)
    have kp2 : Kp (· = b) w (w1.alloc (.cells #[.int .i64 t.kind, .string (bs t.name), .string (bs t.val)] 152)) := kp1.trans (Kp.alloc _ _)
    have ho2 : (w1.alloc (.cells #[.int .i64 t.kind, .string (bs t.name), .string (bs t.val)] 152)).ownsRow w.heap.size 152 3 (.slice xa l.length xcap) l.length (l.flatMap encT) := World.ownsRow.alloc ho1 _
    have T2 := heap_alloc_new w1 (.cells #[.int .i64 t.kind, .string (bs t.name), .string (bs t.val)] 152)
    simp only [tstV]
    go_upto_region 5 with fail
    generalize w1.alloc (.cells #[.int .i64 t.kind, .string (bs t.name), .string (bs t.val)] 152) = w2 at T2 Q2 P2 hr2 kp2 ho2 ⊢
    generalize w1.heap.size = TN at *
    have p0 := cell_of P2 0
    have p1 := cell_of P2 1
    have q0 := cell_of Q2 0
    have q1 := cell_of Q2 1
    have f0 := fz_of Q2 0
    have f1 := fz_of Q2 1
    have g1 := fz_of P2 1
    have t0 := cell_of T2 0
    have t1 := cell_of T2 1
    have t2 := cell_of T2 2
    simp at p0 p1 q0 q1 t0 t1 t2
    have hz2 : w.heap.size ≤ w2.heap.size := kp2.size
    by_cases hk0 : t.kind = 0
    · have EX : Hid (part join s.data.toList k = .ok (⟨join, l⟩, k1)) := by
        show part join s.data.toList k = _
        rw [E1.out, if_pos hk0]; rfl
      have hk0' : (t.kind : Int) = 0 := by omega
      go_wp2_with fail
      refine bodyPost_ret (v := .agg #[.int .i64 join, .slice xa l.length xcap]) (by simp [results, Tryz.results199, go_sem, q0, q1]) rfl ?_
      refine H.out.1 ⟨join, l⟩ k1 _ _ EX.out (by omega) hk4 ((hr2.setOther (by simp; omega) _).setOther (by simp; omega) _) ((kp2.setNew (by simp) _).setNew (by simp) _) ⟨_, rfl, ?_⟩
      have ka := (Kp.set w2 w.heap.size 0 (.int .i64 join)).trans (Kp.set _ w.heap.size 1 (.slice xa l.length xcap))
      exact own_lower (own_kp ho2 ka (by rintro j rfl cur fz hc; rw [Q2] at hc; simp at hc)) (Nat.zero_le _)
    have hk0' : ¬ (t.kind : Int) = 0 := by omega
    by_cases h6' : 6 ≤ l.length
    · have EX : Hid (part join s.data.toList k = .error (5, k1)) := by
        show part join s.data.toList k = _
        rw [E1.out, if_neg hk0, if_pos h6']; rfl
      have h1 := hr2.c1
      go_wp2_with fail
      refine (at_any b _ _ h1).mono ?_
      rintro e w' ⟨rfl, hw⟩
      obtain rfl := hw.symm
      go_wp2_with (go_at_call 112; refine (throw_any _ _ _).mono ?_; rintro e w' ⟨rfl, rfl⟩)
      exact ⟨rfl, H.out.2 (5, k1) _ EX.out (kp2.under hlt)⟩
    have EX : Hid (bnd (testsTo f' (l ++ [t])) (fun l => ret ⟨join, l⟩) s.data.toList k1 = part join s.data.toList k) := by
      show _ = part join s.data.toList k
      rw [E1.out, if_neg hk0, if_neg h6']
    clear E1
    go_wp2_with (at_builtin; refine wpList_append_lies _ rfl (.tmp 44) (.tmp 46) 148 rfl w.heap.size 152 i0 (.agg #[.int .i64 0, .string ⟨#[]⟩, .string ⟨#[]⟩]) 3 40 Tryz.underlying148 HI.out HZ.out.1 HZ.out.2.1 HZ.out.2.2 rfl (by decide) (.slice xa l.length xcap) l.length (l.flatMap encT) rfl (World.ownsRow.alloc ho2 _) ⟨w2.heap.size, 0, none⟩ 1 1 (encT t) rfl rfl (World.news_of_block (heap_alloc_new w2 _)) (by simp [encT, Value.oneCell']) (by decide) (by unfold maxLen; omega) (by omega) (by simp; omega) _ rfl ?_; intro gg cap w3 hown hgrow hat hlt3; have kp3 := grown_kp kp2 ho2 (Nat.le_refl _) hgrow; have hr3 := grown_rd hr2 ho2 (by decide) hgrow; have Q3 := (Keeps.grown (Ts := (· = 150)) ho2 hgrow (by decide) _ _ _ _ rfl Q2).trans Q2; have P3 := (Keeps.grown (Ts := (· = 150)) ho2 hgrow (by decide) _ _ _ _ rfl P2).trans P2; have y2 := cell_of P3 1; have y3 := fz_of P3 1; simp at y2; have HW := hid hown; clear hown hgrow hat)
    go_roundg f'
    case measure => omega
    case rel =>
      have PP := heap_set P3 1 (.slice (some ⟨gg, 0, none⟩) (l.length + 1) cap)
      simp at PP
      refine ⟨k1, l ++ [t], .slice (some ⟨gg, 0, none⟩) (l.length + 1) cap, by simp; omega, by simp; omega, by omega, hk4, hr3.setOther (by simp; omega) _, kp3.setNew (by simp) _, ?_, ?_, PP, EX.out⟩
      · have := own_kp HW.out (Kp.set w3 (w.heap.size + 1) 1 (.slice (some ⟨gg, 0, none⟩) (l.length + 1) cap)) (by rintro j rfl cur fz hc; rw [P3] at hc; simp at hc)
        simpa using this
      · rw [Below.heap_setCell _ _ _ _ (by simp)]; exact Q3
end Go.Proofs.YtblkldfokeeaeacGreatDoor.Sh
