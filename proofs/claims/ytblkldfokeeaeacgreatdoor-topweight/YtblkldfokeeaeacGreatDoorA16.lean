/- Texts that the statement's proof stands on: Page3, Page4, Page5. -/
import Derived.Test.YtblkldfokeeaeacGreatDoorA15
import Derived.Deep.AppendLies
import Derived.Deep.RegionLaw
namespace Go.Proofs.YtblkldfokeeaeacGreatDoor.Sh
open Go.RowKit
theorem need_ok {S : List UInt8} {k m : Nat} {t : List UInt8} (h : need S k t = .ok m) : has S k t = true ∧ k + t.length = m := by
  unfold need at h
  split at h
  · injection h with h; exact ⟨by assumption, h⟩
  · cases h
theorem need_err {S : List UInt8} {k : Nat} {x : Nat × Nat} {t : List UInt8} (h : need S k t = .error x) : has S k t = false ∧ (2, k) = x := by
  unfold need at h
  split at h
  · cases h
  · injection h with h; exact ⟨by simp_all, h⟩
set_option maxHeartbeats 1000000 in
theorem attr_yes (b : Nat) (s : ByteArray) (k m : Nat) (nv : Value) (l : List Atr) (a : Atr) (nmV av : Value) (pa ne f t : Int) (w : World)
    (hl : s.size ≤ 6000) (hk : k ≤ s.size) (hr : Rd w b s k nv) (hs : ∀ a ∈ l, a.val.length ≤ 6000) (ho : AtAt w av l) (hm : attr s.data.toList k l = .ok (a, m)) :
    Calls Tryz.prog 192 #[.pointer (some ⟨b, 0, none⟩), .agg #[nmV, .int .i64 pa, av, .int .i64 ne, .int .i64 f, .int .i64 t]] w fun e w' =>
      e = .returned (.agg #[.string (bs a.name), .string (bs a.val), .int .i64 a.from_, .int .i64 a.to_]) ∧ Rd w' b s m nv ∧ Kp (· = b) w w' := by
  unfold attr at hm
  split at hm
  · cases hm
  rename_i k1 e1
  split at hm
  · cases hm
  rename_i nm k2 e2
  split at hm
  · cases hm
  rename_i k3 e3
  split at hm
  · cases hm
  rename_i k5 e5
  injection hm with hm
  injection hm with ha hm
  subst hm
  subst ha
  obtain ⟨t1, rfl⟩ := need_ok e1
  obtain ⟨t3, rfl⟩ := need_ok e3
  obtain ⟨t5, rfl⟩ := need_ok e5
  have hS := Lib.size_eq s
  have l1 := has_le t1 (by omega)
  have l2 : k2 ≤ s.data.toList.length := by
    unfold attrName at e2
    split at e2
    · cases e2
    · rename_i e hn
      have := nameTo_le hn
      split at e2
      · cases e2
      split at e2
      · cases e2
      split at e2
      · cases e2
      injection e2 with e2
      injection e2 with _ e2
      omega
  have l3 := has_le t3 (by omega)
  have l4 := whileEnd_le (S := s.data.toList) (k := k2 + [61, 34].length) valueB l3
  have l5 := has_le t5 (by omega)
  have hlt := hr.lt
  have hn0 : ¬ w.heap.size = b := by omega
  have hn1 : ¬ w.heap.size + 1 = b := by omega
  have H1 : Hid (has s.data.toList k [32] = true) := t1
  have H2 : Hid (attrName s.data.toList (k + 1) l = .ok (nm, k2)) := e2
  have H3 : Hid (has s.data.toList k2 [61, 34] = true) := t3
  have H5 : Hid (has s.data.toList (whileEnd s.data.toList (k2 + 2) valueB) [34] = true) := t5
  have V : Hid (s.extract (k2 + 2) (whileEnd s.data.toList (k2 + 2) valueB) = bs (sub s.data.toList (k2 + 2) (whileEnd s.data.toList (k2 + 2) valueB))) := sub_bs _ _ _
  simp only [List.length_cons, List.length_nil, Nat.zero_add] at l1 l3 l4 l5
  clear t1 t3 t5 e1 e2 e3 e5 hS
  show Calls _ _ _ _ fun e w' => e = .returned (.agg #[.string (bs nm), .string (bs (sub s.data.toList (k2 + 2) (whileEnd s.data.toList (k2 + 2) valueB))), .int .i64 k, .int .i64 ((whileEnd s.data.toList (k2 + 2) valueB + 1 : Nat))]) ∧ Rd w' b s (whileEnd s.data.toList (k2 + 2) valueB + 1) nv ∧ Kp (· = b) w w'
  generalize hk4 : whileEnd s.data.toList (k2 + 2) valueB = k4 at *
  have W4 : Hid (whileEnd s.data.toList (k2 + 2) valueB = k4) := hk4
  generalize sub s.data.toList (k2 + 2) k4 = val at *
  have hS : s.size = s.data.toList.length := Lib.size_eq s
  rw [← hS] at l1 l2 l3 l4 l5
  obtain ⟨q4, q4'⟩ := l4
  clear hk4 hS
  have h1 := fun o1 o2 => cell_alloc (cell_alloc hr.c1 o1) o2
  go_enter Tryz.func192, Tryz.ntmps192
  go_wp2_with (first | (go_at_call 113; refine (at_any b k _ (h1 _ _)).mono ?_; rintro e w' ⟨rfl, rfl⟩))
  obtain ⟨W0, hW0⟩ : ∃ W0, W0 = (w.alloc (.cells #[nmV, .int .i64 pa, av, .int .i64 ne, .int .i64 f, .int .i64 t] 49)).alloc (.cells #[.string ⟨#[]⟩, .string ⟨#[]⟩, .int .i64 0, .int .i64 0] 51) := ⟨_, rfl⟩
  have hb0 : Below w.heap.size w W0 := by rw [hW0]; exact ((Below.refl _ _).alloc (Nat.le_refl _) _).alloc (by simp) _
  have hr0 : Rd W0 b s k nv := hr.kp hb0
  have ho0 : AtAt W0 av l := ho.of (X := fun _ => False) (Kp.below hb0 _) (fun _ h => h.elim)
  have hB0 : W0.heap[w.heap.size]? = some (.cells #[nmV, .int .i64 pa, av, .int .i64 ne, .int .i64 f, .int .i64 t] 49 (0, 0)) := by rw [hW0]; exact block_two0 _ _ _
  have hB1 : W0.heap[w.heap.size + 1]? = some (.cells #[.string ⟨#[]⟩, .string ⟨#[]⟩, .int .i64 0, .int .i64 0] 51 (0, 0)) := by rw [hW0]; exact block_two1 _ _ _
  have z0 : w.heap.size < W0.heap.size := (Array.getElem?_eq_some_iff.1 hB0).1
  have z1 : w.heap.size + 1 < W0.heap.size := (Array.getElem?_eq_some_iff.1 hB1).1
  rw [← hW0]
  clear hW0 h1
  refine (need_yes b s _ k nv _ hk hl (by show (1 : Nat) ≤ 6000; omega) hr0 H1.out).mono ?_
  rintro e w1 ⟨rfl, hr1, hk1⟩
  have hB1' := (hk1.block _ z0 hn0).trans hB0
  have c0 := cell_of hB1' 0
  have c1 := cell_of hB1' 1
  have c2 := cell_of hB1' 2
  have c3 := cell_of hB1' 3
  have c4 := cell_of hB1' 4
  have c5 := cell_of hB1' 5
  simp at c0 c1 c2 c3 c4 c5
  clear hB1'
  go_wp2_with fail
  refine (attrName_yes b s (k + 1) k2 nv l nm nmV av pa ne f t w1 hl hr1 hs (ho0.of hk1 hr0.not41) H2.out).mono ?_
  rintro e w2 ⟨rfl, hr2, hk2⟩
  clear c0 c1 c2 c3 c4 c5
  go_wp2_with fail
  refine (need_yes b s _ k2 nv _ l2 hl (by show (2 : Nat) ≤ 6000; omega) hr2 H3.out).mono ?_
  rintro e w3 ⟨rfl, hr3, hk3⟩
  go_wp2_with fail
  refine (while_any 211 valueB cf66 tells66 b s (k2 + 2) nv w3 hl (by omega) hr3).mono ?_
  rw [W4.out, V.out]
  rintro e w4 ⟨rfl, hr4, hk4⟩
  go_wp2_with fail
  refine (need_yes b s _ k4 nv _ q4' hl (by show (1 : Nat) ≤ 6000; omega) hr4 H5.out).mono ?_
  rintro e w5 ⟨rfl, hr5, hk5⟩
  have kk := ((((hk1.trans hk2).trans hk3).trans hk4).trans hk5)
  have h1 := hr5.c1
  have hB5 := (kk.block _ z1 hn1).trans hB1
  have d0 := cell_of hB5 0
  have d1 := cell_of hB5 1
  have d2 := cell_of hB5 2
  have d3 := cell_of hB5 3
  have g0 := fz_of hB5 0
  have g1 := fz_of hB5 1
  have g2 := fz_of hB5 2
  have g3 := fz_of hB5 3
  simp at d0 d1 d2 d3
  go_wp2_with (first | (go_at_call 113; refine (at_any b _ _ h1).mono ?_; rintro e w' ⟨rfl, rfl⟩))
  refine bodyPost_ret (v := .agg #[.string (bs nm), .string (bs val), .int .i64 k, .int .i64 ((k4 : Int) + 1)]) (by simp [results, Tryz.results192, go_sem, d0, d1, d2, d3]) rfl ⟨rfl, ?_, ?_⟩
  · exact (((hr5.setOther (by simp; omega) _).setOther (by simp; omega) _).setOther (by simp; omega) _).setOther (by simp; omega) _
  · exact (((((kk.le hb0).setNew (by simp) _).setNew (by simp) _).setNew (by simp) _).setNew (by simp) _)
theorem attrName_le {S : List UInt8} {k m : Nat} {l : List Atr} {nm : List UInt8} (h : attrName S k l = .ok (nm, m)) : k < m ∧ m ≤ S.length := by
  unfold attrName at h
  split at h
  · cases h
  · rename_i e hn
    have := nameTo_le hn
    split at h
    · cases h
    split at h
    · cases h
    split at h
    · cases h
    injection h with h
    injection h with _ h
    omega
set_option maxHeartbeats 2000000 in
theorem attr_no (b : Nat) (s : ByteArray) (k : Nat) (nv : Value) (l : List Atr) (x : Nat × Nat) (nmV av : Value) (pa ne f t : Int) (w : World)
    (hl : s.size ≤ 6000) (hk : k ≤ s.size) (hr : Rd w b s k nv) (hs : ∀ a ∈ l, a.val.length ≤ 6000) (ho : AtAt w av l) (hm : attr s.data.toList k l = .error x) :
    Calls Tryz.prog 192 #[.pointer (some ⟨b, 0, none⟩), .agg #[nmV, .int .i64 pa, av, .int .i64 ne, .int .i64 f, .int .i64 t]] w fun e w' =>
      e = .panicked [{ v := .iface 161 (.agg #[.int .i64 x.1, .int .i64 x.2]), recovered := false }] ∧ Below b w w' := by
  have hS : s.size = s.data.toList.length := Lib.size_eq s
  have hlt := hr.lt
  have hn0 : ¬ w.heap.size = b := by omega
  have h1 := fun o1 o2 => cell_alloc (cell_alloc hr.c1 o1) o2
  unfold attr at hm
  split at hm
  · rename_i e1
    injection hm with hx
    obtain ⟨t1, hx2⟩ := need_err e1
    rw [hx] at hx2
    subst hx2
    have H1 : Hid (has s.data.toList k [32] = false) := t1
    clear t1 e1 hx hS
    go_enter Tryz.func192, Tryz.ntmps192
    go_wp2_with (first | (go_at_call 113; refine (at_any b k _ (h1 _ _)).mono ?_; rintro e w' ⟨rfl, rfl⟩))
    refine (need_no b s _ k nv _ hk ((hr.alloc _).alloc _) H1.out).mono ?_
    rintro e w1 ⟨rfl, n, rfl⟩
    exact ⟨rfl, rfl, below_drewN' (((Below.refl _ _).alloc (by omega) _).alloc (by simp; omega) _) _⟩
  rename_i k1 e1
  obtain ⟨t1, rfl⟩ := need_ok e1
  have l1 := has_le t1 (by omega)
  rw [← hS] at l1
  have H1 : Hid (has s.data.toList k [32] = true) := t1
  clear t1 e1
  -- the beginning that all the others share
  have start : ∀ R : Ending → World → Prop, (∀ w1, Rd w1 b s (k + 1) nv → Kp (· = b) w w1 → AtAt w1 av l →
      w1.cell? ⟨w.heap.size, 0, none⟩ = some nmV → w1.cell? ⟨w.heap.size, 1, none⟩ = some (.int .i64 pa) → w1.cell? ⟨w.heap.size, 2, none⟩ = some av →
      w1.cell? ⟨w.heap.size, 3, none⟩ = some (.int .i64 ne) → w1.cell? ⟨w.heap.size, 4, none⟩ = some (.int .i64 f) → w1.cell? ⟨w.heap.size, 5, none⟩ = some (.int .i64 t) → R (.returned (.tuple #[])) w1) →
      Calls Tryz.prog 159 #[.pointer (some ⟨b, 0, none⟩), .string ⟨#[32]⟩] ((w.alloc (.cells #[nmV, .int .i64 pa, av, .int .i64 ne, .int .i64 f, .int .i64 t] 49)).alloc (.cells #[.string ⟨#[]⟩, .string ⟨#[]⟩, .int .i64 0, .int .i64 0] 51)) R := by
    intro R hR
    refine (need_yes b s _ k nv _ hk hl (by show (1 : Nat) ≤ 6000; omega) ((hr.alloc _).alloc _) H1.out).mono ?_
    rintro e w1 ⟨rfl, hr1, hk1⟩
    have hB1' := (hk1.block _ (by simp; omega) hn0).trans (block_two0 w _ _)
    have c0 := cell_of hB1' 0
    have c1 := cell_of hB1' 1
    have c2 := cell_of hB1' 2
    have c3 := cell_of hB1' 3
    have c4 := cell_of hB1' 4
    have c5 := cell_of hB1' 5
    simp at c0 c1 c2 c3 c4 c5
    have hb0 : Below w.heap.size w ((w.alloc (.cells #[nmV, .int .i64 pa, av, .int .i64 ne, .int .i64 f, .int .i64 t] 49)).alloc (.cells #[.string ⟨#[]⟩, .string ⟨#[]⟩, .int .i64 0, .int .i64 0] 51)) := ((Below.refl _ _).alloc (Nat.le_refl _) _).alloc (by simp) _
    exact hR w1 hr1 (hk1.le hb0) ((ho.of (X := fun _ => False) (Kp.below hb0 _) (fun _ h => h.elim)).of hk1 ((hr.alloc _).alloc _).not41) c0 c1 c2 c3 c4 c5
  split at hm
  · rename_i e2
    injection hm with hx
    subst hx
    have H2 : Hid (attrName s.data.toList (k + 1) l = .error _) := e2
    clear e2 hS
    go_enter Tryz.func192, Tryz.ntmps192
    go_wp2_with (first | (go_at_call 113; refine (at_any b k _ (h1 _ _)).mono ?_; rintro e w' ⟨rfl, rfl⟩))
    refine start _ ?_
    intro w1 hr1 hk1 ho1 c0 c1 c2 c3 c4 c5
    clear start
    go_wp2_with fail
    refine (attrName_no b s (k + 1) nv l _ nmV av pa ne f t w1 hl hr1 hs ho1 H2.out).mono ?_
    rintro e w2 ⟨rfl, hb2⟩
    exact ⟨rfl, rfl, (hk1.under hlt).trans hb2⟩
  rename_i nm k2 e2
  have l2 := attrName_le e2
  rw [← hS] at l2
  have H2 : Hid (attrName s.data.toList (k + 1) l = .ok (nm, k2)) := e2
  clear e2
  split at hm
  · rename_i e3
    injection hm with hx
    obtain ⟨t3, hx2⟩ := need_err e3
    rw [hx] at hx2
    subst hx2
    have H3 : Hid (has s.data.toList k2 [61, 34] = false) := t3
    clear t3 e3 hx hS
    go_enter Tryz.func192, Tryz.ntmps192
    go_wp2_with (first | (go_at_call 113; refine (at_any b k _ (h1 _ _)).mono ?_; rintro e w' ⟨rfl, rfl⟩))
    refine start _ ?_
    intro w1 hr1 hk1 ho1 c0 c1 c2 c3 c4 c5
    clear start
    go_wp2_with fail
    refine (attrName_yes b s (k + 1) k2 nv l nm nmV av pa ne f t w1 hl hr1 hs ho1 H2.out).mono ?_
    rintro e w2 ⟨rfl, hr2, hk2⟩
    go_wp2_with fail
    refine (need_no b s _ k2 nv _ l2.2 hr2 H3.out).mono ?_
    rintro e w3 ⟨rfl, n, rfl⟩
    exact ⟨rfl, rfl, below_drewN' ((hk1.trans hk2).under hlt) _⟩
  rename_i k3 e3
  obtain ⟨t3, rfl⟩ := need_ok e3
  have l3 := has_le t3 (by omega)
  have l4 := whileEnd_le (S := s.data.toList) (k := k2 + [61, 34].length) valueB l3
  rw [← hS] at l3 l4
  have H3 : Hid (has s.data.toList k2 [61, 34] = true) := t3
  clear t3 e3
  split at hm
  · rename_i e5
    injection hm with hx
    obtain ⟨t5, hx2⟩ := need_err e5
    rw [hx] at hx2
    subst hx2
    have H5 : Hid (has s.data.toList (whileEnd s.data.toList (k2 + 2) valueB) [34] = false) := t5
    simp only [List.length_cons, List.length_nil, Nat.zero_add] at l3 l4
    clear t5 e5 hx hS
    show Calls _ _ _ _ fun e w' => e = .panicked [{ v := .iface 161 (.agg #[.int .i64 2, .int .i64 ((whileEnd s.data.toList (k2 + 2) valueB : Nat))]), recovered := false }] ∧ Below b w w'
    generalize hk4 : whileEnd s.data.toList (k2 + 2) valueB = k4 at *
    have W4 : Hid (whileEnd s.data.toList (k2 + 2) valueB = k4) := hk4
    obtain ⟨q4, q4'⟩ := l4
    clear hk4
    go_enter Tryz.func192, Tryz.ntmps192
    go_wp2_with (first | (go_at_call 113; refine (at_any b k _ (h1 _ _)).mono ?_; rintro e w' ⟨rfl, rfl⟩))
    refine start _ ?_
    intro w1 hr1 hk1 ho1 c0 c1 c2 c3 c4 c5
    clear start
    go_wp2_with fail
    refine (attrName_yes b s (k + 1) k2 nv l nm nmV av pa ne f t w1 hl hr1 hs ho1 H2.out).mono ?_
    rintro e w2 ⟨rfl, hr2, hk2⟩
    go_wp2_with fail
    refine (need_yes b s _ k2 nv _ l2.2 hl (by show (2 : Nat) ≤ 6000; omega) hr2 H3.out).mono ?_
    rintro e w3 ⟨rfl, hr3, hk3⟩
    go_wp2_with fail
    refine (while_any 211 valueB cf66 tells66 b s (k2 + 2) nv w3 hl (by omega) hr3).mono ?_
    rw [W4.out]
    rintro e w4 ⟨rfl, hr4, hk4⟩
    go_wp2_with fail
    refine (need_no b s _ k4 nv _ q4' hr4 H5.out).mono ?_
    rintro e w5 ⟨rfl, n, rfl⟩
    exact ⟨rfl, rfl, below_drewN' ((((hk1.trans hk2).trans hk3).trans hk4).under hlt) _⟩
  · cases hm
end Go.Proofs.YtblkldfokeeaeacGreatDoor.Sh
namespace Go.Proofs.YtblkldfokeeaeacGreatDoor.Sh
open Go.RowKit
def ndV (n : Nd) (av : Value) : Value := .agg #[.string (bs n.name), .int .i64 n.parent, av, .int .i64 n.nameEnd, .int .i64 n.inFrom, .int .i64 n.inTo]
theorem attr_le {S : List UInt8} {k m : Nat} {l : List Atr} {a : Atr} (h : attr S k l = .ok (a, m)) (hk : k ≤ S.length) : k < m ∧ m ≤ S.length ∧ a.val.length ≤ S.length ∧ l.length < 8 := by
  unfold attr at h
  split at h
  · cases h
  rename_i k1 e1
  split at h
  · cases h
  rename_i nm k2 e2
  split at h
  · cases h
  rename_i k3 e3
  split at h
  · cases h
  rename_i k5 e5
  injection h with h
  injection h with ha hm
  subst hm
  subst ha
  obtain ⟨t1, rfl⟩ := need_ok e1
  obtain ⟨t3, rfl⟩ := need_ok e3
  obtain ⟨t5, rfl⟩ := need_ok e5
  have l1 := has_le t1 hk
  have l2 := attrName_le e2
  have l3 := has_le t3 (by omega)
  have l4 := whileEnd_le valueB l3
  have l5 := has_le t5 (by omega)
  have l8 : l.length < 8 := by
    unfold attrName at e2
    split at e2
    · cases e2
    split at e2
    · cases e2
    omega
  refine ⟨?_, l5, ?_, l8⟩
  · simp at *; omega
  · simp [sub]; omega
theorem AtAt.own {w : World} {av : Value} {l : List Atr} (h : AtAt w av l) : w.ownsRow 0 51 4 av l.length (l.flatMap encA) := by
  refine ⟨?_, ?_⟩
  · exact flat_len 4 encA (fun _ => rfl) l
  · rcases h with ⟨h1, h2⟩ | ⟨g, cap, cur, h0, h1, h2, h3, h4, h5⟩
    · exact .inl ⟨h1, by rw [h2]; rfl⟩
    · exact .inr ⟨g, cap, cur, h0, Nat.zero_le _, h1, h2, h3, h4, h5⟩
theorem AtAt.ofOwn {w : World} {base : Nat} {av : Value} {l : List Atr} (h : w.ownsRow base 51 4 av l.length (l.flatMap encA)) : AtAt w av l := by
  rcases h.2 with ⟨h1, h2⟩ | ⟨g, cap, cur, h0, _, h1, h2, h3, h4, h5⟩
  · exact .inl ⟨h1, List.eq_nil_of_length_eq_zero h2⟩
  · exact .inr ⟨g, cap, cur, h0, h1, h2, h3, h4, h5⟩
theorem round_facts {w wr w5 w3 : World} {b N : Nat} {s : ByteArray} {k1 : Nat} {nv av v3 : Value} {l : List Atr} {a : Atr} {o : Obj} {cN cB : Array Value}
    (hN : wr.heap[N]? = some (.cells cN 49 (0, 0))) (hB : wr.heap[w.heap.size]? = some (.cells cB 49 (0, 0))) (hbN : ¬ N = b) (hb0 : ¬ w.heap.size = b) (hr' : ∃ k', Rd wr b s k' nv) (ha : wr.ownsRow w.heap.size 51 4 av l.length (l.flatMap encA)) (hkp : Kp (· = b) w wr)
    (hr5 : Rd w5 b s k1 nv) (hk5 : Kp (· = b) wr w5) (hg : (w5.alloc o).grownBy w3 av.ownBlock) (ho : w3.ownsRow w.heap.size 51 4 v3 (l.length + 1) (l.flatMap encA ++ encA a)) :
    Rd w3 b s k1 nv ∧ Kp (· = b) w w3 ∧ w3.ownsRow w.heap.size 51 4 v3 (l ++ [a]).length ((l ++ [a]).flatMap encA) ∧ w3.heap[N]? = some (.cells cN 49 (0, 0)) ∧ w3.heap[w.heap.size]? = some (.cells cB 49 (0, 0)) := by
  obtain ⟨k', hr'⟩ := hr'
  have a5 := own_kp ha hk5 hr'.not41
  have N5 := (hk5.block N (Array.getElem?_eq_some_iff.1 hN).1 hbN).trans hN
  have B5 := (hk5.block _ (Array.getElem?_eq_some_iff.1 hB).1 hb0).trans hB
  have al := fun j (hj : j < w5.heap.size) => Below.heap_alloc w5 o j hj
  have lt5 := fun j (hj : j < w5.heap.size) => (show j < (w5.alloc o).heap.size by simp; omega)
  have keep : ∀ (j : Nat) (c : Array Value) (T : TypeId) (z : Nat × Nat), w5.heap[j]? = some (.cells c T z) → T ≠ 51 → w3.heap[j]? = w5.heap[j]? := fun j c T z hj hT => by
    have hlt := (Array.getElem?_eq_some_iff.1 hj).1
    exact (hg.block j (lt5 j hlt) (own_ne a5 hj hT)).trans (al j hlt)
  refine ⟨?_, ?_, ?_, ?_, ?_⟩
  · have := keep b _ _ _ hr5 (by decide)
    unfold Rd RdT at hr5 ⊢
    rw [this]; exact hr5
  · refine ⟨hg.os.trans (hk5.os.trans hkp.os), hg.tape.trans (hk5.tape.trans hkp.tape), hg.output.trans (hk5.output.trans hkp.output), Nat.le_trans (Nat.le_trans hkp.size hk5.size) (Nat.le_trans (by simp) hg.size), fun j hj hx => ?_⟩
    have h5 : j < w5.heap.size := Nat.lt_of_lt_of_le hj (Nat.le_trans hkp.size hk5.size)
    rw [hg.block j (lt5 j h5) (fun hv => by have := a5.lt j hv.symm; omega), al j h5]
    exact (hkp.trans hk5).block j hj hx
  · simpa using ho
  · rw [keep N _ _ _ N5 (by decide)]; exact N5
  · rw [keep _ _ _ _ B5 (by decide)]; exact B5
theorem Tryz.info51 : (Tryz.prog.info? 51).map (fun i => (i.zero, i.size, i.bytes)) = some (some (.agg #[.string ⟨#[]⟩, .string ⟨#[]⟩, .int .i64 0, .int .i64 0]), 4, 48) := by kernel_rfl
set_option maxHeartbeats 2000000 in
theorem firstTag_any (b : Nat) (s : ByteArray) (k : Nat) (nv : Value) (w : World) (hl : s.size ≤ 6000) (hk : k ≤ s.size) (hr : Rd w b s k nv) (R : Ending → World → Prop)
    (hok : Hid (∀ n k' av w', firstTag s.data.toList k = .ok (n, k') → Rd w' b s k' nv → Kp (· = b) w w' → AtAt w' av n.attrs → R (.returned (ndV n av)) w'))
    (hbad : Hid (∀ (x : Nat × Nat) w', firstTag s.data.toList k = .error x → Below b w w' → R (.panicked [{ v := .iface 161 (.agg #[.int .i64 x.1, .int .i64 x.2]), recovered := false }]) w')) :
    Calls Tryz.prog 174 #[.pointer (some ⟨b, 0, none⟩)] w R := by
  have hS : s.size = s.data.toList.length := Lib.size_eq s
  have hlt := hr.lt
  have hn0 : ¬ w.heap.size = b := by omega
  have hn1 : ¬ w.heap.size + 1 = b := by omega
  go_enter Tryz.func174, Tryz.ntmps174
  go_wp2_with fail
  have b0 := block_two0 w #[.string ⟨#[]⟩, .int .i64 0, .slice none 0 0, .int .i64 0, .int .i64 0, .int .i64 0] 49 (o := .cells #[.string ⟨#[]⟩, .int .i64 0, .slice none 0 0, .int .i64 0, .int .i64 0, .int .i64 0] 49)
  have b1 := block_two1 w #[.string ⟨#[]⟩, .int .i64 0, .slice none 0 0, .int .i64 0, .int .i64 0, .int .i64 0] 49 (o := .cells #[.string ⟨#[]⟩, .int .i64 0, .slice none 0 0, .int .i64 0, .int .i64 0, .int .i64 0] 49)
  have hbW : Below w.heap.size w ((w.alloc (.cells #[.string ⟨#[]⟩, .int .i64 0, .slice none 0 0, .int .i64 0, .int .i64 0, .int .i64 0] 49)).alloc (.cells #[.string ⟨#[]⟩, .int .i64 0, .slice none 0 0, .int .i64 0, .int .i64 0, .int .i64 0] 49)) := ((Below.refl _ _).alloc (Nat.le_refl _) _).alloc (by simp) _
  generalize ((w.alloc (.cells #[.string ⟨#[]⟩, .int .i64 0, .slice none 0 0, .int .i64 0, .int .i64 0, .int .i64 0] 49)).alloc (.cells #[.string ⟨#[]⟩, .int .i64 0, .slice none 0 0, .int .i64 0, .int .i64 0, .int .i64 0] 49)) = W0 at b0 b1 hbW ⊢
  have z0 : w.heap.size < W0.heap.size := (Array.getElem?_eq_some_iff.1 b0).1
  have z1 : w.heap.size + 1 < W0.heap.size := (Array.getElem?_eq_some_iff.1 b1).1
  have hr0 := hr.kp hbW
  cases e1 : need s.data.toList k [60] with
  | error x =>
    obtain ⟨t1, hx⟩ := need_err e1
    refine (need_no b s _ k nv _ hk hr0 t1).mono ?_
    rintro e w1 ⟨rfl, n, rfl⟩
    subst hx
    exact ⟨rfl, hbad.out (2, k) _ (by simp [firstTag, e1]) (below_drewN' (hbW.mono (by omega)) _)⟩
  | ok k1 =>
  obtain ⟨t1, rfl⟩ := need_ok e1
  have l1 := has_le t1 (by omega)
  rw [← hS] at l1
  refine (need_yes b s _ k nv _ hk hl (by show (1 : Nat) ≤ 6000; omega) hr0 t1).mono ?_
  rintro e w1 ⟨rfl, hr1, hk1⟩
  have h1 := hr1.c1
  have E1 : Hid (need s.data.toList k [60] = .ok (k + 1)) := e1
  have L1 : k + 1 ≤ s.size := l1
  clear e1 t1 l1
  go_wp2_with (first | (go_at_call 113; refine (at_any b _ _ h1).mono ?_; rintro e w' ⟨rfl, rfl⟩))
  clear h1
  cases e2 : nameTo s.data.toList (k + 1) with
  | error x =>
    refine (name_no b s (k + 1) x nv _ hr1 e2).mono ?_
    rintro e w2 ⟨rfl, n, rfl⟩
    exact ⟨rfl, hbad.out x _ (by have := E1.out; simp [firstTag, this, e2]) (below_drewN' ((hbW.mono (by omega)).trans (hk1.under (by omega))) _)⟩
  | ok k2 =>
  have l2 := nameTo_le e2
  rw [← hS] at l2
  obtain ⟨l2, l2'⟩ := l2
  have nmE : Hid (s.extract (k + 1) k2 = bs (sub s.data.toList (k + 1) k2)) := sub_bs _ _ _
  refine (name_yes b s (k + 1) k2 nv _ hl hr1 e2).mono ?_
  rw [nmE.out]
  rintro e w2 ⟨rfl, hr2, hk2⟩
  have E2 : Hid (nameTo s.data.toList (k + 1) = .ok k2) := e2
  clear e2 nmE
  have hk12 := hk1.trans hk2
  have N2 := (hk12.block _ z1 hn1).trans b1
  have d0 := cell_of N2 0
  have g0 := fz_of N2 0
  have d3 := cell_of N2 3
  have g3 := fz_of N2 3
  simp at d0 d3
  by_cases h20 : 20 < (sub s.data.toList (k + 1) k2).length
  · have h20' : 20 < (bs (sub s.data.toList (k + 1) k2)).size := by rw [bs_size]; exact h20
    go_wp2_with (first | (go_at_call 191; refine (needShort_no _ _ _ h20').mono ?_; rintro e w' ⟨rfl, rfl⟩))
    refine ⟨rfl, hbad.out (7, k + 1) _ (by have h1 := E1.out; have h2 := E2.out; simp [firstTag, h1, h2, h20]) ?_⟩
    exact ((hbW.mono (by omega)).trans (hk12.under (by omega))).trans (((Below.refl _ _)).setCell (by simp; omega) _)
  have h20' : (bs (sub s.data.toList (k + 1) k2)).size ≤ 20 := by rw [bs_size]; omega
  have H20 : Hid (¬ 20 < (sub s.data.toList (k + 1) k2).length) := h20
  clear h20
  generalize hnm : sub s.data.toList (k + 1) k2 = nm at *
  have NM : Hid (sub s.data.toList (k + 1) k2 = nm) := hnm
  clear hnm
  have hr2' := hr2.setOther (a := ⟨w.heap.size + 1, 0, none⟩) (by simp; omega) (.string (bs nm))
  have h1 := hr2'.c1
  go_wp2_with (first | (go_at_call 191; refine (needShort_yes _ _ _ h20').mono ?_; rintro e w' ⟨rfl, rfl⟩) | (go_at_call 113; refine (at_any b _ _ h1).mono ?_; rintro e w' ⟨rfl, rfl⟩))
  clear h1
  have hr3 := hr2'.setOther (a := ⟨w.heap.size + 1, 3, none⟩) (by simp; omega) (.int .i64 k2)
  have N3 := heap_set (heap_set N2 0 (.string (bs nm))) 3 (.int .i64 k2)
  simp at N3
  have B3 := (Below.heap_setCell (w2.setCell ⟨w.heap.size + 1, 0, none⟩ (.string (bs nm))) ⟨w.heap.size + 1, 3, none⟩ (.int .i64 k2) w.heap.size (by simp)).trans ((Below.heap_setCell w2 ⟨w.heap.size + 1, 0, none⟩ (.string (bs nm)) w.heap.size (by simp)).trans ((hk12.block _ z0 hn0).trans b0))
  have K3 := ((hk12.le hbW).setNew (a := ⟨w.heap.size + 1, 0, none⟩) (by simp) (.string (bs nm))).setNew (a := ⟨w.heap.size + 1, 3, none⟩) (by simp) (.int .i64 k2)
  obtain ⟨i0, hi, hz0, hz1, hz2⟩ := info_parts Tryz.info51
  have HI : Hid (Tryz.prog.info? 51 = some i0) := hi
  have HZ : Hid (i0.zero = some (.agg #[.string ⟨#[]⟩, .string ⟨#[]⟩, .int .i64 0, .int .i64 0]) ∧ i0.size = 4 ∧ i0.bytes = 48) := ⟨hz0, hz1, hz2⟩
  clear hi hz0 hz1 hz2 d0 d3 g0 g3 N2 hr2' hk12 hk2 hk1 hr2 hr1 hr0 b0 b1 z0 z1 hbW h20'
  go_loopg [] 10 (fun f wr => ∃ (k' : Nat) (l : List Atr) (av : Value), f + l.length = 10 ∧ l.length ≤ 8 ∧ k' ≤ s.size ∧ (∀ a ∈ l, a.val.length ≤ 6000) ∧ Rd wr b s k' nv ∧ Kp (· = b) w wr ∧ wr.ownsRow w.heap.size 51 4 av l.length (l.flatMap encA) ∧
    wr.heap[w.heap.size + 1]? = some (.cells #[.string (bs nm), .int .i64 0, av, .int .i64 k2, .int .i64 0, .int .i64 0] 49 (0, 0)) ∧
    wr.heap[w.heap.size]? = some (.cells #[.string ⟨#[]⟩, .int .i64 0, .slice none 0 0, .int .i64 0, .int .i64 0, .int .i64 0] 49 (0, 0)) ∧ attrsTo f s.data.toList k' l = attrsTo 10 s.data.toList k2 [])
  case atStart => exact ⟨k2, [], .slice none 0 0, rfl, by simp, l2', by simp, hr3, K3, World.ownsRow_nil _ _ _ _, N3, B3, rfl⟩
  case round =>
    clear hr3 N3 B3 K3
    obtain ⟨k', l, av, hf, h8, hk', hv, hr', hkp, ha, hN, hB, hE⟩ := hrel
    obtain ⟨f', rfl⟩ : ∃ f', gk = f' + 1 := ⟨gk - 1, by omega⟩
    have E : Hid (attrsTo (f' + 1) s.data.toList k' l = attrsTo 10 s.data.toList k2 []) := hE
    have F : Hid (f' + 1 + l.length = 10) := hf
    have VV : Hid (∀ a ∈ l, a.val.length ≤ 6000) := hv
    clear hE hf hv
    have h0 := hr'.c0
    have h1 := hr'.c1
    have n0 := cell_of hN 0
    have n1 := cell_of hN 1
    have n2 := cell_of hN 2
    have n3 := cell_of hN 3
    have n4 := cell_of hN 4
    have n5 := cell_of hN 5
    have z2 := fz_of hN 2
    have zN : w.heap.size + 1 < wr.heap.size := (Array.getElem?_eq_some_iff.1 hN).1
    simp at n0 n1 n2 n3 n4 n5
    have HN : Hid (wr.heap[w.heap.size + 1]? = some (.cells #[.string (bs nm), .int .i64 0, av, .int .i64 k2, .int .i64 0, .int .i64 0] 49 (0, 0))) := hN
    have HB : Hid (wr.heap[w.heap.size]? = some (.cells #[.string ⟨#[]⟩, .int .i64 0, .slice none 0 0, .int .i64 0, .int .i64 0, .int .i64 0] 49 (0, 0))) := hB
    clear hN hB
    cases hh : has s.data.toList k' [32] with
    | true =>
      cases ea : attr s.data.toList k' l with
      | error x =>
        have EA : Hid (attr s.data.toList k' l = .error x) := ea
        have HH : Hid (has s.data.toList k' [32] = true) := hh
        clear ea hh
        go_wp2_with (first | (go_at_call 147; refine (has_any b s _ k' _ hk' h0 h1).mono ?_; rw [show has s.data.toList k' _ = true from HH.out]; rintro e w' ⟨rfl, n, rfl⟩))
        have HF : Hid (firstTag s.data.toList k = .error x) := by
          have e1 := E1.out; have e2 := E2.out; have e3 := E.out; have e4 := HH.out; have e5 := EA.out; have e6 := H20.out; have e7 := NM.out
          rw [attrsTo, if_pos e4, e5] at e3
          show firstTag s.data.toList k = .error x
          simp only [firstTag, e1, e2, e7, if_neg e6, ← e3]
        go_region_with (go_at_call 192; refine (attr_no b s k' nv l x (.string (bs nm)) av 0 k2 0 0 _ hl hk' ?_ VV.out ?_ EA.out).mono ?_; exact hr'; exact AtAt.ofOwn ha; rintro e w' ⟨rfl, hb⟩; refine bear (by exact ⟨rfl, hbad.out x _ HF.out ((hkp.under hlt).trans ⟨hb.os, hb.tape, hb.output, hb.size, hb.block⟩)⟩) ⟨#[], []⟩ w ?_)
        all_goals trivial
      | ok p =>
        obtain ⟨a, k1⟩ := p
        have la := attr_le ea (by omega)
        rw [← hS] at la
        obtain ⟨la1, la2, la3, la4⟩ := la
        have EA : Hid (attr s.data.toList k' l = .ok (a, k1)) := ea
        have HH : Hid (has s.data.toList k' [32] = true) := hh
        clear ea hh
        go_wp2_with (first | (go_at_call 147; refine (has_any b s _ k' _ hk' h0 h1).mono ?_; rw [show has s.data.toList k' _ = true from HH.out]; rintro e w' ⟨rfl, n, rfl⟩))
        go_region_law (first
          | (go_simp; go_at_call 192; refine (attr_yes b s k' k1 nv l a (.string (bs nm)) av 0 k2 0 0 _ hl hk' ?_ VV.out ?_ EA.out).mono ?_; exact hr'; exact AtAt.ofOwn ha; rintro e w5 ⟨rfl, hr5, hk5'⟩; have hk5 := kp_undrewN hk5'; clear hk5'; have nn2 := (hk5.cell (j := w.heap.size + 1) zN hn1 2).trans n2; have nn3 := cell_alloc nn2)
          | (refine step_append_lies _ rfl (.tmp 32) (.tmp 36) 47 rfl w.heap.size 51 i0 (.agg #[.string ⟨#[]⟩, .string ⟨#[]⟩, .int .i64 0, .int .i64 0]) 4 48 Tryz.underlying47 HI.out HZ.out.1 HZ.out.2.1 HZ.out.2.2 rfl (by decide) av l.length (l.flatMap encA) rfl (World.ownsRow.alloc (own_kp ha hk5 hr'.not41) _) ⟨w5.heap.size, 0, none⟩ 1 1 (encA a) rfl rfl (World.news_of_block (heap_alloc_new w5 _)) (by simp [encA, Value.oneCell']) (by decide) (by unfold maxLen; omega) (by omega) (by have q1 := hk5.size; have q2 : wr.heap.size ≤ w5.heap.size := q1; simp; omega) _ rfl ?_; intro g cap w3 hown hgrow hat hlt3; obtain ⟨r1, r2, r3, r4, r5⟩ := round_facts HN.out HB.out hn1 hn0 ⟨_, hr'⟩ ha hkp hr5 hk5 hgrow hown; have R4 : Hid _ := r4; have R5 : Hid _ := r5; have y2 := cell_of r4 2; have y3 := fz_of r4 2; simp at y2; clear r4 r5 hown hgrow hat))
        all_goals
          go_wp2_with fail
          go_roundg f'
          case measure => omega
          case rel =>
            have nn := heap_set R4.out 2 (.slice (some ⟨g, 0, none⟩) (l.length + 1) cap)
            simp at nn
            refine ⟨k1, l ++ [a], .slice (some ⟨g, 0, none⟩) (l.length + 1) cap, ?_, ?_, la2, ?_, r1.setOther (by simp; omega) _, r2.setNew (by simp) _, ?_, nn, ?_, ?_⟩
            · have := F.out; simp; omega
            · simp; omega
            · intro c hc
              rcases List.mem_append.1 hc with hc | hc
              · exact VV.out c hc
              · rw [List.mem_singleton.1 hc]; omega
            · exact own_kp r3 (Kp.set w3 (w.heap.size + 1) 2 _) (by rintro j rfl cur fz hc; rw [R4.out] at hc; simp at hc)
            · rw [Below.heap_setCell _ _ _ _ (by simp)]; exact R5.out
            · have e3 := E.out
              rw [← e3, attrsTo, if_pos HH.out, EA.out]
    | false =>
      obtain ⟨ax, acap, rfl⟩ := (AtAt.ofOwn ha).form
      have HH : Hid (has s.data.toList k' [32] = false) := hh
      have HA : Hid (attrsTo 10 s.data.toList k2 [] = .ok (l, k')) := by
        have e3 := E.out
        show attrsTo 10 s.data.toList k2 [] = .ok (l, k')
        rw [← e3, attrsTo, if_neg (by rw [hh]; decide)]
      clear hh
      go_wp2_with (first | (go_at_call 147; refine (has_any b s _ k' _ hk' h0 h1).mono ?_; rw [show has s.data.toList k' _ = false from HH.out]; rintro e w' ⟨rfl, n, rfl⟩))
      cases e4 : need s.data.toList k' [62] with
      | error x =>
        obtain ⟨t4, hx⟩ := need_err e4
        refine (need_no b s ⟨#[62]⟩ k' nv _ hk' (hr'.drewN _) t4).mono ?_
        rintro e w4 ⟨rfl, m, rfl⟩
        subst hx
        refine ⟨rfl, hbad.out (2, k') _ ?_ (below_drewN' (below_drewN' (hkp.under hlt) _) _)⟩
        have e1 := E1.out; have e2 := E2.out; have e6 := H20.out; have e7 := NM.out
        simp only [firstTag, e1, e2, e7, if_neg e6, HA.out, e4]
      | ok k4 =>
        obtain ⟨t4, rfl⟩ := need_ok e4
        have HF : Hid (firstTag s.data.toList k = .ok (⟨nm, 0, l, k2, 0, 0⟩, k' + 1)) := by
          have e1 := E1.out; have e2 := E2.out; have e6 := H20.out; have e7 := NM.out
          show firstTag s.data.toList k = .ok (⟨nm, 0, l, k2, 0, 0⟩, k' + 1)
          simp only [firstTag, e1, e2, e7, if_neg e6, HA.out, e4]
          rfl
        clear e4
        refine (need_yes b s ⟨#[62]⟩ k' nv _ hk' hl (by show (1 : Nat) ≤ 6000; omega) (hr'.drewN _) t4).mono ?_
        rintro e w4 ⟨rfl, hr4, hk4'⟩
        have hk4 := kp_undrewN hk4'
        clear hk4' n0 n1 n2 n3 n4 n5 h0 h1 z2 t4
        have N4 := (hk4.block _ zN hn1).trans HN.out
        have B4 := (hk4.block _ (by omega) hn0).trans HB.out
        have n0 := cell_of N4 0
        have n1 := cell_of N4 1
        have n2 := cell_of N4 2
        have n3 := cell_of N4 3
        have n4 := cell_of N4 4
        have n5 := cell_of N4 5
        have m0 := cell_of B4 0
        have m1 := cell_of B4 1
        have m2 := cell_of B4 2
        have m3 := cell_of B4 3
        have m4 := cell_of B4 4
        have m5 := cell_of B4 5
        have f0 := fz_of B4 0
        have f1 := fz_of B4 1
        have f2 := fz_of B4 2
        have f3 := fz_of B4 3
        have f4 := fz_of B4 4
        have f5 := fz_of B4 5
        simp at n0 n1 n2 n3 n4 n5 m0 m1 m2 m3 m4 m5
        clear N4 B4
        go_wp2_with fail
        refine bodyPost_ret (v := .agg #[.string (bs nm), .int .i64 0, .slice ax l.length acap, .int .i64 k2, .int .i64 0, .int .i64 0]) (by simp [results, Tryz.results174, go_sem, m0, m1, m2, m3, m4, m5]) rfl ?_
        refine hok.out ⟨nm, 0, l, k2, 0, 0⟩ (k' + 1) (.slice ax l.length acap) _ HF.out ?_ ?_ ?_
        · exact ((((((show Rd w4 b s (k' + 1) nv from hr4).setOther (by simp; omega) _).setOther (by simp; omega) _).setOther (by simp; omega) _).setOther (by simp; omega) _).setOther (by simp; omega) _).setOther (by simp; omega) _
        · exact ((((((hkp.trans hk4).setNew (by simp) _).setNew (by simp) _).setNew (by simp) _).setNew (by simp) _).setNew (by simp) _).setNew (by simp) _
        · have a4 := own_kp ha hk4 hr'.not41
          have kk : Kp (· = w.heap.size) w4 _ := (((((Kp.set w4 w.heap.size 0 (.string (bs nm))).trans (Kp.set _ w.heap.size 1 (.int .i64 0))).trans (Kp.set _ w.heap.size 2 (.slice ax l.length acap))).trans (Kp.set _ w.heap.size 3 (.int .i64 k2))).trans (Kp.set _ w.heap.size 4 (.int .i64 0))).trans (Kp.set _ w.heap.size 5 (.int .i64 0))
          exact AtAt.ofOwn (own_kp a4 kk (by rintro j rfl cur fz hc; have := (hk4.block _ (by omega) hn0).trans HB.out; rw [this] at hc; simp at hc))
end Go.Proofs.YtblkldfokeeaeacGreatDoor.Sh
namespace Go.Proofs.YtblkldfokeeaeacGreatDoor.Sh
open Go.RowKit
def encN (p : Nd × Value) : List Value := [.string (bs p.1.name), .int .i64 p.1.parent, p.2, .int .i64 p.1.nameEnd, .int .i64 p.1.inFrom, .int .i64 p.1.inTo]
def NdsAt (w : World) (base : Nat) (nv : Value) (L : List Nd) : Prop :=
  ∃ LV : List (Nd × Value), LV.map (·.1) = L ∧ w.ownsRow base 49 6 nv L.length (LV.flatMap encN) ∧ ∀ p ∈ LV, AtAt w p.2 p.1.attrs
structure Step (b : Nat) (nv : Value) (w : World) (nv' : Value) (w' : World) : Prop where
  kp : Kp (fun j => j = b ∨ some j = nv.ownBlock) w w'
  row : ∀ g, nv'.ownBlock = some g → nv.ownBlock = some g ∨ w.heap.size ≤ g
theorem Step.ofKp {b : Nat} {nv : Value} {w w' : World} (h : Kp (· = b) w w') : Step b nv w nv w' := ⟨h.weaken (fun _ h => .inl h), fun _ h => .inl h⟩
theorem Step.trans {b : Nat} {nv nv1 nv2 : Value} {w w1 w2 : World} (h : Step b nv w nv1 w1) (k : Step b nv1 w1 nv2 w2) : Step b nv w nv2 w2 := by
  refine ⟨⟨k.kp.os.trans h.kp.os, k.kp.tape.trans h.kp.tape, k.kp.output.trans h.kp.output, Nat.le_trans h.kp.size k.kp.size, fun j hj hx => ?_⟩, fun g hg => ?_⟩
  · rw [k.kp.block j (Nat.lt_of_lt_of_le hj h.kp.size) ?_]
    · exact h.kp.block j hj hx
    · rintro (hb | hg)
      · exact hx (.inl hb)
      · rcases h.row j hg.symm with h1 | h1
        · exact hx (.inr h1.symm)
        · omega
  · rcases k.row g hg with h1 | h1
    · exact h.row g h1
    · exact .inr (Nat.le_trans h.kp.size h1)
theorem NdsAt.of {w w' : World} {base : Nat} {nv : Value} {L : List Nd} (h : NdsAt w base nv L) {X : Nat → Prop} (hk : Kp X w w') (hx : ∀ j, X j → ∀ cur fz, w.heap[j]? ≠ some (.cells cur 49 fz) ∧ w.heap[j]? ≠ some (.cells cur 51 fz)) : NdsAt w' base nv L := by
  obtain ⟨LV, h1, h2, h3⟩ := h
  exact ⟨LV, h1, own_kp h2 hk (fun j hj cur fz => (hx j hj cur fz).1), fun p hp => (h3 p hp).of hk (fun j hj cur fz => (hx j hj cur fz).2)⟩
theorem RdT.not35 {w : World} {b : Nat} {s : ByteArray} {k : Nat} {nv : Value} (h : Rd w b s k nv) : ∀ j, j = b → ∀ cur fz, w.heap[j]? ≠ some (.cells cur 49 fz) ∧ w.heap[j]? ≠ some (.cells cur 51 fz) := by
  rintro j rfl cur fz
  unfold Rd RdT at h
  rw [h]
  simp
theorem NdsAt.form {w : World} {base : Nat} {nv : Value} {L : List Nd} (h : NdsAt w base nv L) : ∃ a cap, nv = .slice a L.length cap := by
  obtain ⟨LV, h1, h2, h3⟩ := h
  rcases h2.2 with ⟨rfl, h⟩ | ⟨g, cap, cur, hv, _⟩
  · exact ⟨none, 0, by rw [h]⟩
  · exact ⟨_, _, hv⟩
theorem push_facts {w w3 : World} {b base g cap : Nat} {s : ByteArray} {k : Nat} {nv : Value} {L : List Nd} {LV : List (Nd × Value)} {n : Nd} {av : Value} {o : Obj}
    (hr : Rd w b s k nv) (h1 : LV.map (·.1) = L) (h2 : w.ownsRow base 49 6 nv L.length (LV.flatMap encN)) (h3 : ∀ p ∈ LV, AtAt w p.2 p.1.attrs) (ha : AtAt w av n.attrs)
    (hg : (w.alloc o).grownBy w3 nv.ownBlock) (ho : w3.ownsRow base 49 6 (.slice (some ⟨g, 0, none⟩) (L.length + 1) cap) (L.length + 1) (LV.flatMap encN ++ encN (n, av))) (hat : nv.ownBlock = some g ∨ g = w.heap.size + 1) :
    Rd w3 b s k nv ∧ Rd (w3.setCell ⟨b, 2, none⟩ (.slice (some ⟨g, 0, none⟩) (L.length + 1) cap)) b s k (.slice (some ⟨g, 0, none⟩) (L.length + 1) cap) ∧
    NdsAt (w3.setCell ⟨b, 2, none⟩ (.slice (some ⟨g, 0, none⟩) (L.length + 1) cap)) base (.slice (some ⟨g, 0, none⟩) (L.length + 1) cap) (L ++ [n]) ∧
    Step b nv w (.slice (some ⟨g, 0, none⟩) (L.length + 1) cap) (w3.setCell ⟨b, 2, none⟩ (.slice (some ⟨g, 0, none⟩) (L.length + 1) cap)) := by
  have al := fun j (hj : j < w.heap.size) => Below.heap_alloc w o j hj
  have lt5 := fun j (hj : j < w.heap.size) => (show j < (w.alloc o).heap.size by simp; omega)
  have keep : ∀ (j : Nat) (c : Array Value) (T : TypeId) (z : Nat × Nat), w.heap[j]? = some (.cells c T z) → T ≠ 49 → w3.heap[j]? = w.heap[j]? := fun j c T z hj hT => by
    have hlt := (Array.getElem?_eq_some_iff.1 hj).1
    exact (hg.block j (lt5 j hlt) (own_ne h2 hj hT)).trans (al j hlt)
  have r3 : Rd w3 b s k nv := by
    have := keep b _ _ _ hr (by decide)
    unfold Rd RdT at hr ⊢
    rw [this]; exact hr
  have at3 : ∀ {av : Value} {l : List Atr}, AtAt w av l → AtAt w3 av l := by
    intro av l h
    rcases h with h | ⟨g', cap', cur, h0, h1, h2⟩
    · exact .inl h
    · exact .inr ⟨g', cap', cur, h0, by rw [keep g' _ _ _ h1 (by decide)]; exact h1, h2⟩
  have ks := Kp.set w3 b 2 (.slice (some ⟨g, 0, none⟩) (L.length + 1) cap)
  refine ⟨r3, ?_, ?_, ?_⟩
  · have := heap_set r3 2 (.slice (some ⟨g, 0, none⟩) (L.length + 1) cap)
    unfold Rd RdT
    rw [this]; rfl
  · refine ⟨LV ++ [(n, av)], by simp [h1], ?_, ?_⟩
    · have := own_kp ho ks (fun j hj cur fz => (r3.not35 j hj cur fz).1)
      simpa using this
    · intro p hp
      rcases List.mem_append.1 hp with hp | hp
      · exact (at3 (h3 p hp)).of ks r3.not41
      · rw [List.mem_singleton.1 hp]; exact (at3 ha).of ks r3.not41
  · refine ⟨⟨hg.os, hg.tape, hg.output, Nat.le_trans (by simp) (Nat.le_trans hg.size ks.size), fun j hj hx => ?_⟩, fun g' hg' => ?_⟩
    · rw [ks.block j (Nat.lt_of_lt_of_le (lt5 j hj) hg.size) (fun h => hx (.inl h)), hg.block j (lt5 j hj) (fun h => hx (.inr h)), al j hj]
    · simp [Value.ownBlock] at hg'
      subst hg'
      rcases hat with h | h
      · exact .inl h
      · right; omega
theorem Tryz.info49 : (Tryz.prog.info? 49).map (fun i => (i.zero, i.size, i.bytes)) = some (some (.agg #[.string ⟨#[]⟩, .int .i64 0, .slice none 0 0, .int .i64 0, .int .i64 0, .int .i64 0]), 6, 72) := by kernel_rfl
theorem attrsTo_le {S : List UInt8} : ∀ (f k : Nat) (l l' : List Atr) (m : Nat), attrsTo f S k l = .ok (l', m) → k ≤ S.length → k ≤ m ∧ m ≤ S.length
  | 0, _, _, _, _, h, _ => by simp [attrsTo] at h
  | f + 1, k, l, l', m, h, hk => by
    rw [attrsTo] at h
    split at h
    · split at h
      · cases h
      · rename_i a k1 ea
        have := attr_le ea hk
        have := attrsTo_le f k1 _ _ _ h (by omega)
        omega
    · injection h with h
      injection h with _ h
      omega
theorem firstTag_le {S : List UInt8} {k m : Nat} {n : Nd} (h : firstTag S k = .ok (n, m)) (hk : k ≤ S.length) : k < m ∧ m ≤ S.length ∧ n.name.length ≤ 20 ∧ n.inFrom = 0 ∧ n.inTo = 0 ∧ n.parent = 0 := by
  unfold firstTag at h
  split at h
  · cases h
  rename_i k1 e1
  split at h
  · cases h
  rename_i k2 e2
  split at h
  · cases h
  rename_i h20
  split at h
  · cases h
  rename_i l k3 e3
  split at h
  · cases h
  rename_i k4 e4
  injection h with h
  injection h with ha hm
  subst hm
  subst ha
  obtain ⟨t1, rfl⟩ := need_ok e1
  obtain ⟨t4, rfl⟩ := need_ok e4
  have l1 := has_le t1 hk
  have l2 := nameTo_le e2
  have l3 := attrsTo_le 10 _ _ _ _ e3 l2.2
  have l4 := has_le t4 l3.2
  refine ⟨?_, l4, Nat.le_of_not_lt h20, rfl, rfl, rfl⟩
  simp at *; omega
def ItemsAt (f : Nat) (b : Nat) (s : ByteArray) (base : Nat) (mx : Int) : Prop :=
  ∀ (k : Nat) (parent : Int) (deep : Nat) (L : List Nd) (nv : Value) (w : World) (R : Ending → World → Prop), s.size - k < f → k ≤ s.size → deep ≤ 21 → L.length ≤ 120 → b < base → base ≤ w.heap.size → 2 < b → w.cell? ⟨2, 0, none⟩ = some (.int .i64 mx) → Rd w b s k nv → NdsAt w base nv L →
    (∀ k' L' nv' w', items f s.data.toList k parent deep L = .ok (k', L') → Rd w' b s k' nv' → NdsAt w' base nv' L' → Step b nv w nv' w' → L'.length ≤ 120 → k ≤ k' → k' ≤ s.size → R (.returned (.tuple #[])) w') →
    (∀ (x : Nat × Nat) w', items f s.data.toList k parent deep L = .error x → Below b w w' → R (.panicked [{ v := .iface 161 (.agg #[.int .i64 x.1, .int .i64 x.2]), recovered := false }]) w') →
    Calls Tryz.prog 110 #[.pointer (some ⟨b, 0, none⟩), .int .i64 parent, .int .i64 deep] w R
theorem Step.under {b : Nat} {nv nv' : Value} {w w' : World} (h : Step b nv w nv' w') (hb : b < w.heap.size) (hrow : ∀ g, nv.ownBlock = some g → b < g) : Below b w w' :=
  ⟨h.kp.os, h.kp.tape, h.kp.output, h.kp.size, fun j hj => h.kp.block j (by omega) (by
    rintro (h | h)
    · omega
    · have := hrow j h.symm; omega)⟩
end Go.Proofs.YtblkldfokeeaeacGreatDoor.Sh
