/-
  A rule is its selectors: the plain side, and the walk of the statement's function. Conditions: the elements and the selectors lie as they must, at most 2^20 of each.
-/
import Derived.Test.YtlodblcmpebfkaaDoorMBest
import Derived.Test.YtlodblcmpebfkaaDoorMB
namespace Go.Proofs.YtlodblcmpebfkaaDoor
open Go.RowKit

/-! ### the order of weights -/
def gt (x y : Wt) : Prop := y.a < x.a ∨ (x.a = y.a ∧ (y.b < x.b ∨ (x.b = y.b ∧ y.c < x.c)))
theorem cmp_pos (x y : Wt) : 0 < cmp3 x y ↔ gt x y := by
  unfold cmp3 gt
  repeat' split
  all_goals omega
theorem cmp_neg (x y : Wt) : cmp3 x y < 0 ↔ gt y x := by
  unfold cmp3 gt
  repeat' split
  all_goals omega
theorem gt_anti {x y : Wt} (h1 : ¬ gt x y) (h2 : ¬ gt y x) : x = y := by
  obtain ⟨a, b, c⟩ := x
  obtain ⟨p, q, r⟩ := y
  unfold gt at h1 h2
  simp only at h1 h2
  simp only [Wt.mk.injEq]
  omega
theorem gt_trans {x y z : Wt} (h1 : ¬ gt x y) (h2 : ¬ gt y z) : ¬ gt x z := by
  unfold gt at *
  omega
theorem gt_irr (x : Wt) : ¬ gt x x := by unfold gt; omega
theorem gt_of {x y z : Wt} (h1 : gt x y) (h2 : ¬ gt z y) : ¬ gt z x := by
  unfold gt at *
  omega

structure Bst (l : List Nd) (k : Int) (ss : List (List Pt)) (b0 : Wt) (f0 : Bool) (b : Wt) (f : Bool) : Prop where
  any : f = (f0 || ss.any (matchB l k))
  low : ¬ gt b0 b
  top : ∀ s ∈ ss, matchB l k s = true → ¬ gt (wts s) b
  own : b = b0 ∨ ∃ s ∈ ss, matchB l k s = true ∧ wts s = b
theorem best_spec (l : List Nd) (k : Int) : ∀ (ss : List (List Pt)) (b0 : Wt) (f0 : Bool), Bst l k ss b0 f0 (bestTo l k ss (b0, f0)).1 (bestTo l k ss (b0, f0)).2
  | [], b0, f0 => ⟨by simp [bestTo], gt_irr _, by simp, .inl rfl⟩
  | s :: r, b0, f0 => by
    cases hm : matchB l k s with
    | false =>
      have ih := best_spec l k r b0 f0
      have e : bestTo l k (s :: r) (b0, f0) = bestTo l k r (b0, f0) := by simp [bestTo, hm]
      rw [e]
      refine ⟨by rw [ih.any]; simp [hm], ih.low, ?_, ?_⟩
      · intro x hx hxm
        rcases List.mem_cons.1 hx with rfl | hx
        · rw [hm] at hxm; cases hxm
        · exact ih.top x hx hxm
      · rcases ih.own with h | ⟨x, hx, h⟩
        · exact .inl h
        · exact .inr ⟨x, List.mem_cons_of_mem _ hx, h⟩
    | true =>
      by_cases hc : 0 < cmp3 (wts s) b0
      · have ih := best_spec l k r (wts s) true
        have e : bestTo l k (s :: r) (b0, f0) = bestTo l k r (wts s, true) := by simp [bestTo, hm, hc]
        rw [e]
        refine ⟨by rw [ih.any]; simp [hm], ?_, ?_, ?_⟩
        · exact gt_trans (fun h => by have := (cmp_pos _ _).1 hc; unfold gt at *; omega) ih.low
        · intro x hx hxm
          rcases List.mem_cons.1 hx with rfl | hx
          · exact ih.low
          · exact ih.top x hx hxm
        · rcases ih.own with h | ⟨x, hx, h⟩
          · exact .inr ⟨s, List.mem_cons_self .., hm, h.symm⟩
          · exact .inr ⟨x, List.mem_cons_of_mem _ hx, h⟩
      · have ih := best_spec l k r b0 true
        have e : bestTo l k (s :: r) (b0, f0) = bestTo l k r (b0, true) := by simp [bestTo, hm, hc]
        rw [e]
        have hc' : ¬ gt (wts s) b0 := fun h => hc ((cmp_pos _ _).2 h)
        refine ⟨by rw [ih.any]; simp [hm], ih.low, ?_, ?_⟩
        · intro x hx hxm
          rcases List.mem_cons.1 hx with rfl | hx
          · exact gt_trans hc' ih.low
          · exact ih.top x hx hxm
        · rcases ih.own with h | ⟨x, hx, h⟩
          · exact .inl h
          · exact .inr ⟨x, List.mem_cons_of_mem _ hx, h⟩
theorem best_uniq {l : List Nd} {k : Int} {ss rr : List (List Pt)} {b b' : Wt} {f f' : Bool} (h : Bst l k ss w00 false b f) (h' : Bst l k rr w00 false b' f') (hm : ∀ s, s ∈ ss ↔ s ∈ rr) : b' = b ∧ f' = f := by
  refine ⟨gt_anti ?_ ?_, ?_⟩
  · rcases h'.own with e | ⟨s, hs, h1, h2⟩
    · rw [e]; exact h.low
    · rw [← h2]; exact h.top s ((hm s).2 hs) h1
  · rcases h.own with e | ⟨s, hs, h1, h2⟩
    · rw [e]; exact h'.low
    · rw [← h2]; exact h'.top s ((hm s).1 hs) h1
  · rw [h.any, h'.any, Bool.eq_iff_iff]
    simp only [Bool.false_or, List.any_eq_true]
    exact ⟨fun ⟨s, hs, h⟩ => ⟨s, (hm s).2 hs, h⟩, fun ⟨s, hs, h⟩ => ⟨s, (hm s).1 hs, h⟩⟩
theorem best_rev (l : List Nd) (k : Int) (ss : List (List Pt)) : bestTo l k ss.reverse (w00, false) = bestTo l k ss (w00, false) := by
  have := best_uniq (best_spec l k ss w00 false) (best_spec l k ss.reverse w00 false) (by simp)
  exact Prod.ext this.1 this.2
theorem wEq_iff (x y : Wt) : wEq x y = true ↔ x = y := by
  obtain ⟨a, b, c⟩ := x
  obtain ⟨p, q, r⟩ := y
  simp [wEq]
theorem best_most {l : List Nd} {k : Int} {ss : List (List Pt)} {b : Wt} (h : Bst l k ss w00 false b true) : ss.any (fun s => matchB l k s && wEq (wts s) b) = true := by
  rw [List.any_eq_true]
  rcases h.own with e | ⟨s, hs, h1, h2⟩
  · have := h.any
    simp only [Bool.false_or] at this
    obtain ⟨s, hs, hm⟩ := List.any_eq_true.1 this.symm
    refine ⟨s, hs, ?_⟩
    have ht := h.top s hs hm
    rw [hm, Bool.true_and, wEq_iff]
    refine gt_anti ht ?_
    rw [e]
    unfold gt w00 wts
    simp only
    omega
  · exact ⟨s, hs, by rw [h1, Bool.true_and, wEq_iff]; exact h2⟩

/-! ### Less -/
def lessFrom (x y : Wt) : Nat → Bool
  | 0 => decide (cmp3 x y < 0)
  | 1 => decide (cmpFrom x y 1 < 0)
  | 2 => decide (cmpFrom x y 2 < 0)
  | _ => false

set_option maxRecDepth 100000 in
set_option maxHeartbeats 2000000 in
theorem less_any (x y : Wt) (w : World) :
    Calls Tryd.prog 18 #[wtV x, wtV y] w fun e w' => e = .returned (.bool (decide (cmp3 x y < 0))) ∧ Below w.heap.size w w' := by
  obtain ⟨a, b, c⟩ := x
  obtain ⟨p, q, r⟩ := y
  have HC : Hid (decide (cmp3 ⟨a, b, c⟩ ⟨p, q, r⟩ < 0) = lessFrom ⟨a, b, c⟩ ⟨p, q, r⟩ 0) := rfl
  generalize decide (cmp3 ⟨a, b, c⟩ ⟨p, q, r⟩ < 0) = R at *
  simp only [wtV]
  go_enter Tryd.func18, Tryd.ntmps18
  go_wp2_with fail
  have W1 := (WB.new w a b c).alloc (.cells #[.int .i64 p, .int .i64 q, .int .i64 r] 35)
  have W2 := WB.new (w.alloc (.cells #[.int .i64 a, .int .i64 b, .int .i64 c] 35)) p q r
  rw [show (w.alloc (.cells #[.int .i64 a, .int .i64 b, .int .i64 c] 35)).heap.size = w.heap.size + 1 by simp] at W2
  have HB : Hid (Below w.heap.size w ((w.alloc (.cells #[.int .i64 a, .int .i64 b, .int .i64 c] 35)).alloc (.cells #[.int .i64 p, .int .i64 q, .int .i64 r] 35))) := ((Below.refl _ _).alloc (Nat.le_refl _) _).alloc (by simp) _
  generalize (w.alloc (.cells #[.int .i64 a, .int .i64 b, .int .i64 c] 35)).alloc (.cells #[.int .i64 p, .int .i64 q, .int .i64 r] 35) = W at *
  obtain ⟨x0, x1, x2⟩ := W1.cell
  obtain ⟨y0, y1, y2⟩ := W2.cell
  clear W1 W2
  go_loopg [6] 3 (fun n i wr => ∃ j : Nat, n = 3 - j ∧ j ≤ 3 ∧ i = .int .i64 (j : Int) ∧ R = lessFrom ⟨a, b, c⟩ ⟨p, q, r⟩ j ∧ ∃ m, wr = W.drewN m)
  case atStart => exact ⟨0, rfl, Nat.zero_le _, rfl, HC.out, 0, rfl⟩
  case round =>
    obtain ⟨j, hn, hj, rfl, hR, m, rfl⟩ := hrel
    have GK := hid hn
    have HR := hid hR
    clear hn hR
    by_cases h3 : j = 3
    · subst h3
      have HR2 : Hid (R = false) := HR.out
      go_wp2_with fail
      go_ret
      exact ⟨ret_bool HR2.out.symm, below_dN HB.out _⟩
    · have hj3 : j = 0 ∨ j = 1 ∨ j = 2 := by omega
      clear h3 hj
      rcases hj3 with rfl | rfl | rfl
      · by_cases h : a = p
        · subst h
          have HR2 : Hid (R = lessFrom ⟨a, b, c⟩ ⟨a, q, r⟩ 1) := by have := HR.out; simpa [lessFrom, cmpFrom, cmp3, Hid] using this
          go_wp2_with fail
          go_quiet (fail)
          go_wp2_with fail
          go_roundg 2
          case measure => have := GK.out; omega
          case rel => exact ⟨1, rfl, by omega, by go_num, HR2.out, _, rfl⟩
        · have HR2 : Hid (R = decide (a < p)) := by
            show R = _
            rw [HR.out]
            unfold lessFrom cmp3
            rw [Bool.eq_iff_iff]
            simp only [decide_eq_true_eq]
            repeat' split
            all_goals omega
          have nz : (a != p) = true := by simp [h]
          clear h
          go_wp2_with fail
          go_quiet (fail)
          go_wp2_with fail
          go_quiet (fail)
          go_wp2_with fail
          go_ret
          exact ⟨ret_bool HR2.out.symm, below_dN (below_dN (below_dN HB.out _) _) _⟩
      · by_cases h : b = q
        · subst h
          have HR2 : Hid (R = lessFrom ⟨a, b, c⟩ ⟨p, b, r⟩ 2) := by have := HR.out; simpa [lessFrom, cmpFrom, Hid] using this
          go_wp2_with fail
          go_quiet (fail)
          go_wp2_with fail
          go_roundg 1
          case measure => have := GK.out; omega
          case rel => exact ⟨2, rfl, by omega, by go_num, HR2.out, _, rfl⟩
        · have HR2 : Hid (R = decide (b < q)) := by
            show R = _
            rw [HR.out]
            unfold lessFrom cmpFrom
            rw [Bool.eq_iff_iff]
            simp only [decide_eq_true_eq]
            repeat' split
            all_goals omega
          have nz : (b != q) = true := by simp [h]
          clear h
          go_wp2_with fail
          go_quiet (fail)
          go_wp2_with fail
          go_quiet (fail)
          go_wp2_with fail
          go_ret
          exact ⟨ret_bool HR2.out.symm, below_dN (below_dN (below_dN HB.out _) _) _⟩
      · by_cases h : c = r
        · subst h
          have HR2 : Hid (R = lessFrom ⟨a, b, c⟩ ⟨p, q, c⟩ 3) := by have := HR.out; simpa [lessFrom, cmpFrom, Hid] using this
          go_wp2_with fail
          go_quiet (fail)
          go_wp2_with fail
          go_roundg 0
          case measure => have := GK.out; omega
          case rel => exact ⟨3, rfl, by omega, by go_num, HR2.out, _, rfl⟩
        · have HR2 : Hid (R = decide (c < r)) := by
            show R = _
            rw [HR.out]
            unfold lessFrom cmpFrom
            rw [Bool.eq_iff_iff]
            simp only [decide_eq_true_eq]
            repeat' split
            all_goals omega
          have nz : (c != r) = true := by simp [h]
          clear h
          go_wp2_with fail
          go_quiet (fail)
          go_wp2_with fail
          go_quiet (fail)
          go_wp2_with fail
          go_ret
          exact ⟨ret_bool HR2.out.symm, below_dN (below_dN (below_dN HB.out _) _) _⟩
end Go.Proofs.YtlodblcmpebfkaaDoor
