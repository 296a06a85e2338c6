/-
  What attrName of package page does: the plain answer of the Spec text, or its fault. Conditions: the text has at most 6000 bytes, values too.
-/
import Derived.Test.YtanedepdhbdcgaaPage1
namespace Go.Proofs.Ytanedepdhbdcgaa
open Go.RowKit

theorem Kp.cell {X : Nat → Prop} {w w' : World} (h : Kp X w w') {j : Nat} (hj : j < w.heap.size) (hx : ¬ X j) (o : Nat) : w'.cell? ⟨j, o, none⟩ = w.cell? ⟨j, o, none⟩ :=
  World.cell?_of_block (w := w) (h.block j hj hx)
theorem Kp.fz {X : Nat → Prop} {w w' : World} (h : Kp X w w') {j : Nat} (hj : j < w.heap.size) (hx : ¬ X j) (o : Nat) : w'.frozen? ⟨j, o, none⟩ = w.frozen? ⟨j, o, none⟩ :=
  World.frozen?_of_block (w := w) (h.block j hj hx)
theorem Kp.alloc {X : Nat → Prop} (w : World) (o : Obj) : Kp X w (w.alloc o) := Kp.below ((Below.refl _ _).alloc (Nat.le_refl _) _) _
theorem Kp.under {b : Nat} {w w' : World} (h : Kp (· = b) w w') (hb : b < w.heap.size) : Below b w w' :=
  ⟨h.os, h.tape, h.output, h.size, fun j hj => h.block j (by omega) (by omega)⟩
theorem RdT.alloc {w : World} {b : Nat} {s : ByteArray} {k : Nat} {nv : Value} (h : Rd w b s k nv) (o : Obj) : Rd (w.alloc o) b s k nv := h.kp ((Below.refl _ _).alloc (Nat.le_refl _) _)
theorem AtAt.of {w w' : World} {av : Value} {l : List Atr} (h : AtAt w av l) {X : Nat → Prop} (hk : Kp X w w') (hx : ∀ j, X j → ∀ cur fz, w.heap[j]? ≠ some (.cells cur 41 fz)) : AtAt w' av l := by
  rcases h with h | ⟨g, cap, cur, h0, h1, h2⟩
  · exact .inl h
  · refine .inr ⟨g, cap, cur, h0, ?_, h2⟩
    rw [hk.block g (Array.getElem?_eq_some_iff.1 h1).1 (fun hX => hx g hX _ _ h1)]
    exact h1
theorem RdT.not41 {w : World} {b : Nat} {s : ByteArray} {k : Nat} {nv : Value} (h : Rd w b s k nv) : ∀ j, j = b → ∀ cur fz, w.heap[j]? ≠ some (.cells cur 41 fz) := by
  rintro j rfl cur fz hc
  unfold Rd RdT at h
  rw [h] at hc
  simp at hc
theorem nameTo_le {S : List UInt8} {k m : Nat} (h : nameTo S k = .ok m) : k < m ∧ m ≤ S.length := by
  unfold nameTo at h
  split at h
  · rename_i hf
    have hk : k < S.length := by
      by_cases hk : k < S.length
      · exact hk
      · rw [fitsAt_ge _ (by omega)] at hf; cases hf
    injection h with h
    have := whileEnd_le (S := S) (k := k + 1) nameB (by omega)
    omega
  · cases h
theorem AtAt.form {w : World} {av : Value} {l : List Atr} (h : AtAt w av l) : ∃ a cap, av = .slice a l.length cap := by
  rcases h with ⟨rfl, rfl⟩ | ⟨g, cap, cur, h0, _⟩
  · exact ⟨none, 0, rfl⟩
  · exact ⟨_, _, h0⟩
theorem sub_bs (s : ByteArray) (a b : Nat) : s.extract a b = bs (sub s.data.toList a b) := Lib.extract_eq s a b

set_option maxHeartbeats 1000000 in
theorem attrName_yes (b : Nat) (s : ByteArray) (k m : Nat) (nv : Value) (l : List Atr) (nm : List UInt8) (nmV av : Value) (pa ne f t : Int) (w : World)
    (hl : s.size ≤ 6000) (hr : Rd w b s k nv) (hs : ∀ a ∈ l, a.val.length ≤ 6000) (ho : AtAt w av l) (hm : attrName s.data.toList k l = .ok (nm, m)) :
    Calls Try.prog 115 #[.pointer (some ⟨b, 0, none⟩), .agg #[nmV, .int .i64 pa, av, .int .i64 ne, .int .i64 f, .int .i64 t]] w fun e w' =>
      e = .returned (.string (bs nm)) ∧ Rd w' b s m nv ∧ Kp (· = b) w w' := by
  obtain ⟨ax, acap, rfl⟩ := ho.form
  unfold attrName at hm
  split at hm
  · cases hm
  rename_i m' hn
  split at hm
  · cases hm
  rename_i h8
  split at hm
  · cases hm
  rename_i h20
  split at hm
  · cases hm
  rename_i hany
  injection hm with hm
  injection hm with hm1 hm2
  subst hm2
  have hnm : nm = sub s.data.toList k m' := hm1.symm
  have hany' : l.any (fun a => a.name == nm) = false := by rw [hnm]; simpa using hany
  have hle := nameTo_le hn
  have h20' : (bs nm).size ≤ 20 := by rw [bs_size, hnm]; omega
  have N : Hid (nameTo s.data.toList k = .ok m') := hn
  have M : Hid (s.extract k m' = bs nm) := by rw [hnm]; exact sub_bs s k m'
  have H : Hid (l.any (fun a => a.name == nm) = false) := hany'
  have hlt := hr.lt
  have hn0 : ¬ w.heap.size = b := by omega
  clear hn hm1 hnm hany hany' h20
  have h1 := cell_alloc hr.c1
  go_enter Try.func115, Try.ntmps115
  go_wp2_with (first | (go_at_call 72; refine (at_any b k _ (h1 _)).mono ?_; rintro e w' ⟨rfl, rfl⟩))
  refine (name_yes b s k m' nv _ hl (hr.alloc _) N.out).mono ?_
  rw [M.out]
  rintro e w1 ⟨rfl, hr1, hk1⟩
  have c0 := hk1.cell (j := w.heap.size) (by simp) hn0 0
  have c1 := hk1.cell (j := w.heap.size) (by simp) hn0 1
  have c2 := hk1.cell (j := w.heap.size) (by simp) hn0 2
  have c3 := hk1.cell (j := w.heap.size) (by simp) hn0 3
  have c4 := hk1.cell (j := w.heap.size) (by simp) hn0 4
  have c5 := hk1.cell (j := w.heap.size) (by simp) hn0 5
  simp [go_sem] at c0 c1 c2 c3 c4 c5
  have ho1 : AtAt w1 (.slice ax l.length acap) l := AtAt.of (AtAt.of ho (Kp.alloc w _) (X := fun _ => False) (fun _ h => h.elim)) hk1 (hr.alloc _).not41
  go_wp2_with (first | (go_at_call 108; refine (needShort_yes _ _ _ h20').mono ?_; rintro e w' ⟨rfl, rfl⟩))
  refine (get_any l _ nmV pa ne f t nm _ hs (by omega) ho1).mono ?_
  rw [H.out]
  rintro e w2 ⟨v, rfl, hb⟩
  go_wp2_with fail
  go_ret
  exact ⟨rfl, hr1.kp hb, ((Kp.alloc w _).trans hk1).trans (Kp.below hb _)⟩

set_option maxHeartbeats 1000000 in
theorem attrName_no (b : Nat) (s : ByteArray) (k : Nat) (nv : Value) (l : List Atr) (x : Nat × Nat) (nmV av : Value) (pa ne f t : Int) (w : World)
    (hl : s.size ≤ 6000) (hr : Rd w b s k nv) (hs : ∀ a ∈ l, a.val.length ≤ 6000) (ho : AtAt w av l) (hm : attrName s.data.toList k l = .error x) :
    Calls Try.prog 115 #[.pointer (some ⟨b, 0, none⟩), .agg #[nmV, .int .i64 pa, av, .int .i64 ne, .int .i64 f, .int .i64 t]] w fun e w' =>
      e = .panicked [{ v := .iface 87 (.agg #[.int .i64 x.1, .int .i64 x.2]), recovered := false }] ∧ Below b w w' := by
  obtain ⟨ax, acap, rfl⟩ := ho.form
  have h1 := cell_alloc hr.c1
  have hlt := hr.lt
  have hn0 : ¬ w.heap.size = b := by omega
  unfold attrName at hm
  split at hm
  · rename_i hn
    injection hm with hx
    subst hx
    have N : Hid (nameTo s.data.toList k = .error _) := hn
    clear hn
    go_enter Try.func115, Try.ntmps115
    go_wp2_with (first | (go_at_call 72; refine (at_any b k _ (h1 _)).mono ?_; rintro e w' ⟨rfl, rfl⟩))
    refine (name_no b s k _ nv _ (hr.alloc _) N.out).mono ?_
    rintro e w1 ⟨rfl, n, rfl⟩
    exact ⟨rfl, rfl, below_drewN' ((Below.refl _ _).alloc (by omega) _) _⟩
  rename_i m' hn
  have N : Hid (nameTo s.data.toList k = .ok m') := hn
  have hle := nameTo_le hn
  have M : Hid (s.extract k m' = bs (sub s.data.toList k m')) := sub_bs s k m'
  clear hn
  generalize sub s.data.toList k m' = nm at hm M
  have start : ∀ R : Ending → World → Prop, (∀ w1, Rd w1 b s m' nv → Kp (· = b) w w1 → AtAt w1 (.slice ax l.length acap) l →
      w1.cell? ⟨w.heap.size, 0, none⟩ = some nmV → w1.cell? ⟨w.heap.size, 1, none⟩ = some (.int .i64 pa) → w1.cell? ⟨w.heap.size, 2, none⟩ = some (.slice ax l.length acap) →
      w1.cell? ⟨w.heap.size, 3, none⟩ = some (.int .i64 ne) → w1.cell? ⟨w.heap.size, 4, none⟩ = some (.int .i64 f) → w1.cell? ⟨w.heap.size, 5, none⟩ = some (.int .i64 t) → R (.returned (.string (bs nm))) w1) →
      Calls Try.prog 92 #[.pointer (some ⟨b, 0, none⟩)] (w.alloc (.cells #[nmV, .int .i64 pa, .slice ax l.length acap, .int .i64 ne, .int .i64 f, .int .i64 t] 35)) R := by
    intro R hR
    refine (name_yes b s k m' nv _ hl (hr.alloc _) N.out).mono ?_
    rw [M.out]
    rintro e w1 ⟨rfl, hr1, hk1⟩
    have c0 := hk1.cell (j := w.heap.size) (by simp) hn0 0
    have c1 := hk1.cell (j := w.heap.size) (by simp) hn0 1
    have c2 := hk1.cell (j := w.heap.size) (by simp) hn0 2
    have c3 := hk1.cell (j := w.heap.size) (by simp) hn0 3
    have c4 := hk1.cell (j := w.heap.size) (by simp) hn0 4
    have c5 := hk1.cell (j := w.heap.size) (by simp) hn0 5
    simp [go_sem] at c0 c1 c2 c3 c4 c5
    exact hR w1 hr1 ((Kp.alloc w _).trans hk1) (AtAt.of (AtAt.of ho (Kp.alloc w _) (X := fun _ => False) (fun _ h => h.elim)) hk1 (hr.alloc _).not41) c0 c1 c2 c3 c4 c5
  split at hm
  · rename_i h8
    injection hm with hx
    subst hx
    go_enter Try.func115, Try.ntmps115
    go_wp2_with (first | (go_at_call 72; refine (at_any b k _ (h1 _)).mono ?_; rintro e w' ⟨rfl, rfl⟩))
    refine start _ ?_
    intro w1 hr1 hk1 ho1 c0 c1 c2 c3 c4 c5
    clear start
    go_wp2_with (go_at_call 71; refine (throw_any _ _ _).mono ?_; rintro e w' ⟨rfl, rfl⟩)
    exact ⟨rfl, rfl, hk1.under hlt⟩
  rename_i h8
  split at hm
  · rename_i h20
    have h20' : 20 < (bs nm).size := by rw [bs_size]; exact h20
    injection hm with hx
    subst hx
    go_enter Try.func115, Try.ntmps115
    go_wp2_with (first | (go_at_call 72; refine (at_any b k _ (h1 _)).mono ?_; rintro e w' ⟨rfl, rfl⟩))
    refine start _ ?_
    intro w1 hr1 hk1 ho1 c0 c1 c2 c3 c4 c5
    clear start
    go_wp2_with (go_at_call 108; refine (needShort_no _ _ _ h20').mono ?_; rintro e w' ⟨rfl, rfl⟩)
    exact ⟨rfl, rfl, hk1.under hlt⟩
  rename_i h20
  have h20' : (bs nm).size ≤ 20 := by rw [bs_size]; omega
  clear h20
  split at hm
  · rename_i hany
    have H : Hid (l.any (fun a => a.name == nm) = true) := hany
    injection hm with hx
    subst hx
    clear hany
    go_enter Try.func115, Try.ntmps115
    go_wp2_with (first | (go_at_call 72; refine (at_any b k _ (h1 _)).mono ?_; rintro e w' ⟨rfl, rfl⟩))
    refine start _ ?_
    intro w1 hr1 hk1 ho1 c0 c1 c2 c3 c4 c5
    clear start
    go_wp2_with (first | (go_at_call 108; refine (needShort_yes _ _ _ h20').mono ?_; rintro e w' ⟨rfl, rfl⟩))
    refine (get_any l _ nmV pa ne f t nm _ hs (by omega) ho1).mono ?_
    rw [H.out]
    rintro e w2 ⟨v, rfl, hb⟩
    go_wp2_with (go_at_call 71; refine (throw_any _ _ _).mono ?_; rintro e w' ⟨rfl, rfl⟩)
    exact ⟨rfl, rfl, (hk1.trans (Kp.below hb _)).under hlt⟩
  · cases hm
end Go.Proofs.Ytanedepdhbdcgaa
