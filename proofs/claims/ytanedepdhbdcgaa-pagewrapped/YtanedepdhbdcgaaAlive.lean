/-
  What alive of the statements answers: true. Conditions: the cell of internal/bytealg.MaxLen holds some int.
-/
import Derived.Test.YtanedepdhbdcgaaPage9
namespace Go.Proofs.Ytanedepdhbdcgaa
open Go.RowKit

def getVal : List Atr → List UInt8 → List UInt8
  | [], _ => []
  | a :: l, x => if a.name == x then a.val else getVal l x

theorem getVal_at : ∀ (l : List Atr) (x : List UInt8) (k : Nat) (hk : k < l.length), (l.take k).any (fun a => a.name == x) = false → (l[k].name == x) = true → getVal l x = l[k].val
  | a :: l, x, 0, _, _, h => by simp only [getVal]; exact if_pos h
  | a :: l, x, k + 1, hk, h1, h2 => by
    simp only [List.take_succ_cons, List.any_cons, Bool.or_eq_false_iff] at h1
    simp only [getVal]
    rw [if_neg (by rw [h1.1]; decide)]
    exact getVal_at l x k (by simpa using hk) h1.2 h2
theorem getVal_none : ∀ (l : List Atr) (x : List UInt8), l.any (fun a => a.name == x) = false → getVal l x = []
  | [], _, _ => rfl
  | a :: l, x, h => by
    simp only [List.any_cons, Bool.or_eq_false_iff] at h
    simp only [getVal]
    rw [if_neg (by rw [h.1]; decide)]
    exact getVal_none l x h.2

set_option maxHeartbeats 1000000 in
theorem get_val (l : List Atr) (av nmV : Value) (pa ne f t : Int) (x : List UInt8) (w : World) (hs : ∀ a ∈ l, a.val.length ≤ 6000) (hc : l.length ≤ 100) (ho : AtAt w av l) :
    Calls Try.prog 20 #[.agg #[nmV, .int .i64 pa, av, .int .i64 ne, .int .i64 f, .int .i64 t], .string (bs x)] w fun e w' =>
      e = .returned (.tuple #[.string (bs (getVal l x)), .bool (l.any (fun a => a.name == x))]) ∧ Below w.heap.size w w' := by
  rcases ho with ⟨rfl, rfl⟩ | ⟨g, cap, cur, rfl, hg, h1, h2, h3, h4⟩
  · go_enter Try.func20, Try.ntmps20
    go_wp2_with fail
    go_loopg [11] 0 (fun n i wr => n = 0 ∧ i = .int .i64 0 ∧ Below w.heap.size w wr)
    case atStart => exact ⟨rfl, rfl, (Below.refl _ _).alloc (Nat.le_refl _) _⟩
    case round =>
      obtain ⟨_, rfl, hb⟩ := hrel
      go_wp2_with fail
      go_ret2
      exact ⟨rfl, hb⟩
  · go_enter Try.func20, Try.ntmps20
    go_wp2_with fail
    go_loopg [11] l.length (fun n i wr => ∃ k, k ≤ l.length ∧ n = l.length - k ∧ i = .int .i64 (k : Int) ∧ Below w.heap.size w wr ∧ (l.take k).any (fun a => a.name == x) = false)
    case atStart => exact ⟨0, Nat.zero_le _, rfl, rfl, (Below.refl _ _).alloc (Nat.le_refl _) _, rfl⟩
    case round =>
      obtain ⟨k, hk, hn, rfl, hb, ha⟩ := hrel
      have A : Hid (gk = l.length - k) := hn
      have B : Hid ((l.take k).any (fun a => a.name == x) = false) := ha
      clear hn ha
      by_cases hlt : k < l.length
      · have hg' : wr.heap[g]? = some (.cells cur 41 (0, 0)) := by rw [hb.block g (Array.getElem?_eq_some_iff.1 hg).1]; exact hg
        have c0 := AtAt.cell hg' h4 hlt 0 (by omega)
        have c1 := AtAt.cell hg' h4 hlt 1 (by omega)
        have c2 := AtAt.cell hg' h4 hlt 2 (by omega)
        have c3 := AtAt.cell hg' h4 hlt 3 (by omega)
        simp [encA] at c0 c1 c2 c3
        clear hg' h4
        cases hq : (l[k].name == x) with
        | true =>
          have C : Hid (l.any (fun a => a.name == x) = true) := List.any_eq_true.2 ⟨l[k], List.getElem_mem hlt, hq⟩
          have D : Hid (getVal l x = l[k].val) := getVal_at l x k hlt B.out hq
          have hq' : ((bs l[k].name).toList == (bs x).toList) = true := by rw [bs_toList, bs_toList]; exact hq
          have hv : (bs l[k].val).size ≤ 6000 := by rw [bs_size]; exact hs _ (List.getElem_mem hlt)
          clear hq
          go_wp2_with (go_at_call 39; refine (clone_any _ _ hv).mono ?_; rintro e w' ⟨rfl, hb'⟩)
          go_ret2
          rw [C.out, D.out]
          exact ⟨rfl, (hb.alloc (Nat.le_trans (Nat.le_refl _) hb.size) _).trans (hb'.mono (by simp; have := hb.size; omega))⟩
        | false =>
          have C : Hid ((l.take (k + 1)).any (fun a => a.name == x) = false) := by
            have h5 := B.out
            show (l.take (k + 1)).any (fun a => a.name == x) = false
            rw [List.take_succ_eq_append_getElem hlt, List.any_append, h5]
            simpa using hq
          have hq' : ((bs l[k].name).toList == (bs x).toList) = false := by rw [bs_toList, bs_toList]; exact hq
          clear hq
          go_wp2_with fail
          go_roundg (l.length - (k + 1))
          case measure => have := A.out; omega
          case rel => exact ⟨k + 1, by omega, rfl, by go_num, hb.alloc hb.size _, C.out⟩
      · have hkl : k = l.length := by omega
        have C : Hid (l.any (fun a => a.name == x) = false) := by have := B.out; rw [hkl, List.take_length] at this; exact this
        have D : Hid (getVal l x = []) := getVal_none l x C.out
        clear hkl
        go_wp2_with fail
        go_ret2
        rw [C.out, D.out]
        exact ⟨rfl, hb⟩

set_option maxHeartbeats 1000000 in
theorem isName_a1 (w : World) : Calls Try.prog 36 #[.string ⟨#[97, 45, 49]⟩] w fun e w' => e = .returned (.bool true) ∧ w' = w := by
  have p0 : letterB 97 = true := by decide
  have q0 : nameB 97 = true := by decide
  have q1 : nameB 45 = true := by decide
  have q2 : nameB 49 = true := by decide
  have e0 : ∀ W, Calls Try.prog 55 #[.int .u8 97] W fun e w' => e = .returned (.bool true) ∧ w' = W := fun W => by have := letter_any 97 W; rw [p0] at this; exact this
  have e1 : ∀ W, Calls Try.prog 56 #[.int .u8 97] W fun e w' => e = .returned (.bool true) ∧ w' = W := fun W => by have := nameByte_any 97 W; rw [q0] at this; exact this
  have e2 : ∀ W, Calls Try.prog 56 #[.int .u8 45] W fun e w' => e = .returned (.bool true) ∧ w' = W := fun W => by have := nameByte_any 45 W; rw [q1] at this; exact this
  have e3 : ∀ W, Calls Try.prog 56 #[.int .u8 49] W fun e w' => e = .returned (.bool true) ∧ w' = W := fun W => by have := nameByte_any 49 W; rw [q2] at this; exact this
  have E0 := hid e0
  have E1 := hid e1
  have E2 := hid e2
  have E3 := hid e3
  clear e0 e1 e2 e3 p0 q0 q1 q2
  go_enter Try.func36, Try.ntmps36
  go_wp2_with (go_at_call 55; refine (E0.out _).mono ?_; rintro e w' ⟨rfl, rfl⟩)
  go_loopg [14] 3 (fun n i wr => ((n = 3 ∧ i = .int .i64 0) ∨ (n = 2 ∧ i = .int .i64 1) ∨ (n = 1 ∧ i = .int .i64 2) ∨ (n = 0 ∧ i = .int .i64 3)) ∧ wr = w')
  case atStart => exact ⟨.inl ⟨rfl, rfl⟩, rfl⟩
  case round =>
    obtain ⟨(⟨rfl, rfl⟩ | ⟨rfl, rfl⟩ | ⟨rfl, rfl⟩ | ⟨rfl, rfl⟩), rfl⟩ := hrel
    · go_wp2_with (go_at_call 56; refine (E1.out _).mono ?_; rintro e w' ⟨rfl, rfl⟩)
      go_roundg 2
      case measure => omega
      case rel => exact ⟨.inr (.inl ⟨rfl, rfl⟩), rfl⟩
    · go_wp2_with (go_at_call 56; refine (E2.out _).mono ?_; rintro e w' ⟨rfl, rfl⟩)
      go_roundg 1
      case measure => omega
      case rel => exact ⟨.inr (.inr (.inl ⟨rfl, rfl⟩)), rfl⟩
    · go_wp2_with (go_at_call 56; refine (E3.out _).mono ?_; rintro e w' ⟨rfl, rfl⟩)
      go_roundg 0
      case measure => omega
      case rel => exact ⟨.inr (.inr (.inr ⟨rfl, rfl⟩)), rfl⟩
    · go_wp2_with fail
      go_ret
      exact ⟨rfl, rfl⟩

set_option maxHeartbeats 1000000 in
theorem named_a1 (w : World) : Calls Try.prog 16 #[.string ⟨#[97, 45, 49]⟩] w fun e w' => e = .returned (.bool true) ∧ w' = w := by
  go_enter Try.func16, Try.ntmps16
  go_wp2_with (go_at_call 36; refine (isName_a1 _).mono ?_; rintro e w' ⟨rfl, rfl⟩)
  go_ret
  exact ⟨rfl, rfl⟩

set_option maxHeartbeats 1000000 in
theorem ahead_two (g cap : Nat) (w : World) (h1 : w.cell? ⟨g, 7, none⟩ = some (.int .i64 0)) (h2 : w.cell? ⟨g, 13, none⟩ = some (.int .i64 0)) :
    Calls Try.prog 18 #[.slice (some ⟨g, 0, none⟩) 3 cap, .int .i64 2] w fun e w' => e = .returned (.int .i64 1) ∧ ∃ n, w' = w.drewN n := by
  go_enter Try.func18, Try.ntmps18
  go_wp2_with fail
  go_loopg [5] 0 (fun n i wr => i = .int .i64 1 ∧ wr = w)
  case atStart => exact ⟨rfl, rfl⟩
  case round =>
    obtain ⟨rfl, rfl⟩ := hrel
    go_wp2_with fail
    go_quiet (fail)
    go_wp2_with fail
    go_ret
    exact ⟨rfl, _, rfl⟩

theorem NdsAt.open3 {w : World} {base : Nat} {nv : Value} {L : List Nd} (h : NdsAt w base nv L) (hL : L ≠ []) :
    ∃ g cap cur, ∃ LV : List (Nd × Value), nv = .slice (some ⟨g, 0, none⟩) L.length cap ∧ base ≤ g ∧ w.heap[g]? = some (.cells cur 35 (0, 0)) ∧ LV.map (·.1) = L ∧ cur.toList.take (L.length * 6) = LV.flatMap encN ∧ ∀ p ∈ LV, AtAt w p.2 p.1.attrs := by
  obtain ⟨LV, h1, h2, h3⟩ := h
  rcases h2.2 with ⟨_, h⟩ | ⟨g, cap, cur, hv, hb, hg, _, _, _, ht⟩
  · exact absurd (List.eq_nil_of_length_eq_zero h) hL
  · exact ⟨g, cap, cur, LV, hv, hb, hg, h1, ht, h3⟩
theorem nd_cell {w : World} {g : Nat} {cur : Array Value} {LV : List (Nd × Value)} {L : List Nd} (h : w.heap[g]? = some (.cells cur 35 (0, 0))) (hm : LV.map (·.1) = L) (ht : cur.toList.take (L.length * 6) = LV.flatMap encN) {i : Nat} (hi : i < L.length) (j : Nat) (hj : j < 6) :
    w.cell? ⟨g, i * 6 + j, none⟩ = (encN (LV[i]'(by rw [← hm] at hi; simpa using hi)))[j]? := by
  have hi' : i < LV.length := by rw [← hm] at hi; simpa using hi
  have h1 := flat_get 6 encN (fun _ => rfl) LV i j hi' hj
  rw [← ht, List.getElem?_take, if_pos (by omega)] at h1
  simp [World.cell?, h, ← h1]

theorem nd_cells {w : World} {g : Nat} {cur : Array Value} {LV : List (Nd × Value)} {L : List Nd} (h : w.heap[g]? = some (.cells cur 35 (0, 0))) (hm : LV.map (·.1) = L) (ht : cur.toList.take (L.length * 6) = LV.flatMap encN) (ha : ∀ p ∈ LV, AtAt w p.2 p.1.attrs) {i : Nat} (hi : i < L.length) :
    ∃ av, AtAt w av L[i].attrs ∧ w.cell? ⟨g, i * 6, none⟩ = some (.string (bs L[i].name)) ∧ w.cell? ⟨g, i * 6 + 1, none⟩ = some (.int .i64 L[i].parent) ∧ w.cell? ⟨g, i * 6 + 2, none⟩ = some av ∧ w.cell? ⟨g, i * 6 + 3, none⟩ = some (.int .i64 L[i].nameEnd) ∧
      w.cell? ⟨g, i * 6 + 4, none⟩ = some (.int .i64 L[i].inFrom) ∧ w.cell? ⟨g, i * 6 + 5, none⟩ = some (.int .i64 L[i].inTo) := by
  have hi' : i < LV.length := by rw [← hm] at hi; simpa using hi
  have c0 := nd_cell h hm ht hi 0 (by omega)
  have c1 := nd_cell h hm ht hi 1 (by omega)
  have c2 := nd_cell h hm ht hi 2 (by omega)
  have c3 := nd_cell h hm ht hi 3 (by omega)
  have c4 := nd_cell h hm ht hi 4 (by omega)
  have c5 := nd_cell h hm ht hi 5 (by omega)
  have e : L[i] = LV[i].1 := by subst hm; simp
  simp only [encN, List.getElem?_cons_zero, List.getElem?_cons_succ, Nat.add_zero] at c0 c1 c2 c3 c4 c5
  rw [e]
  exact ⟨LV[i].2, ha _ (List.getElem_mem hi'), c0, c1, c2, c3, c4, c5⟩

def aliveL : List UInt8 := [60, 112, 32, 99, 108, 97, 115, 115, 61, 34, 97, 32, 98, 34, 62, 120, 60, 98, 62, 121, 60, 47, 98, 62, 60, 105, 62, 122, 60, 47, 105, 62, 60, 47, 112, 62]
def aliveN : List Nd := [⟨[112], -1, [⟨[99, 108, 97, 115, 115], [97, 32, 98], 2, 14⟩], 2, 0, 0⟩, ⟨[98], 0, [], 18, 0, 0⟩, ⟨[105], 0, [], 26, 0, 0⟩]
theorem alive_parse : parse aliveL = .ok aliveN := by kernel_rfl

set_option maxHeartbeats 2000000 in
theorem alive_any (mx : Int) (w : World) (hmx : w.cell? ⟨0, 0, none⟩ = some (.int .i64 mx)) :
    Calls Try.prog 22 #[] w fun e w' => e = .returned (.bool true) ∧ Below w.heap.size w w' := by
  go_enter Try.func22, Try.ntmps22
  go_wp2_with fail
  refine parse_any ⟨#[60, 112, 32, 99, 108, 97, 115, 115, 61, 34, 97, 32, 98, 34, 62, 120, 60, 98, 62, 121, 60, 47, 98, 62, 60, 105, 62, 122, 60, 47, 105, 62, 60, 47, 112, 62]⟩ mx w _ hmx (by decide) ?_ ?_
  rotate_left
  · intro x w' he
    have : Except.ok aliveN = Except.error x := alive_parse.symm.trans he
    cases this
  intro L nv w1 he hn hb hL
  have hL0 : L = aliveN := by
    have : Except.ok aliveN = Except.ok L := alive_parse.symm.trans he
    injection this with h
    exact h.symm
  subst hL0
  clear he hL
  obtain ⟨g, cap, cur, LV, rfl, hg0, hg, hm, ht, hat⟩ := hn.open3 (by decide)
  have c7 : w1.cell? ⟨g, 7, none⟩ = some (.int .i64 0) := by obtain ⟨_, _, _, q, _⟩ := nd_cells hg hm ht hat (i := 1) (by decide); exact q
  have c13 : w1.cell? ⟨g, 13, none⟩ = some (.int .i64 0) := by obtain ⟨_, _, _, q, _⟩ := nd_cells hg hm ht hat (i := 2) (by decide); exact q
  have hgl : g < w1.heap.size := (Array.getElem?_eq_some_iff.1 hg).1
  have UN := hid hb
  clear hg hm ht hat hn hb
  have hln : aliveN.length = 3 := by decide
  rw [hln]
  clear hln
  go_wp2_with fail
  refine (get_val [⟨[105, 100], [113], 0, 0⟩] _ _ 0 0 0 0 [105, 100] _ (by simp) (by simp) (.inr ⟨w1.heap.size + 1, 1, _, rfl, block_two1 w1 _ 41, by simp, by decide, by simp, rfl⟩)).mono ?_
  rintro e w2 ⟨rfl, hb2⟩
  have hb2' : Below (w1.heap.size + 2) ((w1.alloc (Obj.cells #[Value.int IntKind.i64 0, Value.int IntKind.i64 0] 25)).alloc (.cells #[.string ⟨#[105, 100]⟩, .string ⟨#[113]⟩, .int .i64 0, .int .i64 0] 41)) w2 := hb2.mono (by simp)
  have F2 := (hb2'.block w1.heap.size (by omega)).trans (block_two0 w1 _ _)
  have f0 := cell_of F2 0
  simp at f0
  have d7 : w2.cell? ⟨g, 7, none⟩ = some (.int .i64 0) := (hb2'.cell (p := ⟨g, 7, none⟩) (by show g < _; omega)).trans (cell_alloc (cell_alloc c7 _) _)
  have d13 : w2.cell? ⟨g, 13, none⟩ = some (.int .i64 0) := (hb2'.cell (p := ⟨g, 13, none⟩) (by show g < _; omega)).trans (cell_alloc (cell_alloc c13 _) _)
  have UN2 : Hid (Below w.heap.size w w2) := by
    have h1 := UN.out
    have h2 := h1.size
    exact ((h1.alloc (by omega) _).alloc (by simp; omega) _).trans (hb2'.mono (by omega))
  have gv : getVal [⟨[105, 100], [113], 0, 0⟩] [105, 100] = [113] := by decide
  have ga : ([⟨[105, 100], [113], 0, 0⟩] : List Atr).any (fun a => a.name == [105, 100]) = true := by decide
  rw [gv, ga]
  have bq : ((bs [113]).toList == [113]) = true := by rw [bs_toList]; decide
  clear gv ga hb2 hb2' F2 c7 c13
  go_wp2_with (first | (go_at_call 18; refine (ahead_two g cap _ d7 d13).mono ?_; rintro e w' ⟨rfl, n, rfl⟩) | (go_at_call 16; refine (named_a1 _).mono ?_; rintro e w' ⟨rfl, rfl⟩))
  go_ret
  exact ⟨rfl, below_drewN' UN2.out _⟩
end Go.Proofs.Ytanedepdhbdcgaa
