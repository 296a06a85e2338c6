/-
  What lastTag, needShort and Get of package page do: the plain answers of the Spec text. Conditions: names and values of at most 6000 bytes, at most 100 attributes.
-/
import Derived.Test.YtanedepdhbdcgaaScan4
namespace Go.Proofs.Ytanedepdhbdcgaa
open Go.RowKit

/-- The reader of package page. -/
abbrev Rd := RdT 93

def bs (l : List UInt8) : ByteArray := ⟨l.toArray⟩
def encA (a : Atr) : List Value := [.string (bs a.name), .string (bs a.val), .int .i64 a.from_, .int .i64 a.to_]

theorem ba_ext {a b : ByteArray} (h : a.data.toList = b.data.toList) : a = b := by
  obtain ⟨⟨a⟩⟩ := a; obtain ⟨⟨b⟩⟩ := b; simp at h; rw [h]

set_option maxHeartbeats 400000 in
theorem lastTag_any (n : ByteArray) (w : World) (h : n.size ≤ 6000) :
    Calls Try.prog 98 #[.string n] w fun e w' => e = .returned (.string (bs (lastTag n.data.toList))) ∧ w' = w := by
  go_enter Try.func98, Try.ntmps98
  go_wp2
  go_ret
  refine ⟨?_, rfl⟩
  show Ending.returned (.string ({ data := #[60, 47] } ++ n ++ { data := #[62] })) = _
  congr 2

set_option maxHeartbeats 400000 in
theorem needShort_yes (n : ByteArray) (a : Int) (w : World) (h : n.size ≤ 20) :
    Calls Try.prog 108 #[.string n, .int .i64 a] w fun e w' => e = .returned (.tuple #[]) ∧ w' = w := by
  go_enter Try.func108, Try.ntmps108
  go_wp2_with fail
  go_end0
  exact ⟨rfl, rfl⟩

set_option maxHeartbeats 400000 in
theorem needShort_no (n : ByteArray) (a : Int) (w : World) (h : 20 < n.size) :
    Calls Try.prog 108 #[.string n, .int .i64 a] w fun e w' => e = .panicked [{ v := .iface 87 (.agg #[.int .i64 7, .int .i64 a]), recovered := false }] ∧ w' = w := by
  go_enter Try.func108, Try.ntmps108
  go_wp2_with (go_at_call 71; refine (throw_any _ _ _).mono ?_; rintro e w' ⟨rfl, rfl⟩)
  exact ⟨rfl, rfl, rfl⟩

theorem bs_toList (l : List UInt8) : (bs l).toList = l := by rw [Lib.toList_data]; rfl
theorem bs_size (l : List UInt8) : (bs l).size = l.length := by rw [Lib.size_eq]; rfl

/-- The slice value av holds the attributes l, in memory that was there. -/
def AtAt (w : World) (av : Value) (l : List Atr) : Prop :=
  (av = .slice none 0 0 ∧ l = []) ∨ ∃ g cap cur, av = .slice (some ⟨g, 0, none⟩) l.length cap ∧ w.heap[g]? = some (.cells cur 41 (0, 0)) ∧ l.length ≤ cap ∧ cap ≤ maxLen ∧ cur.size = cap * 4 ∧ cur.toList.take (l.length * 4) = l.flatMap encA

theorem flat_get {α β : Type} (n : Nat) (f : α → List β) (hf : ∀ x, (f x).length = n) : ∀ (l : List α) (i j : Nat) (hi : i < l.length), j < n → (l.flatMap f)[i * n + j]? = (f l[i])[j]?
  | [], _, _, hi, _ => absurd hi (Nat.not_lt_zero _)
  | a :: l, 0, j, _, hj => by
    rw [List.flatMap_cons, List.getElem?_append_left (by rw [hf]; omega)]
    simp
  | a :: l, i + 1, j, hi, hj => by
    rw [List.flatMap_cons, List.getElem?_append_right (by rw [hf, Nat.add_mul]; omega), hf]
    have := flat_get n f hf l i j (by simpa using hi) hj
    rw [show (i + 1) * n + j - n = i * n + j by rw [Nat.add_mul]; omega, this]
    simp

theorem AtAt.cell {w : World} {g : Nat} {cur : Array Value} {l : List Atr} (h : w.heap[g]? = some (.cells cur 41 (0, 0))) (ht : cur.toList.take (l.length * 4) = l.flatMap encA) {i : Nat} (hi : i < l.length) (j : Nat) (hj : j < 4) :
    w.cell? ⟨g, i * 4 + j, none⟩ = (encA l[i])[j]? := by
  have h1 := flat_get 4 encA (fun _ => rfl) l i j hi hj
  rw [← ht, List.getElem?_take, if_pos (by omega)] at h1
  simp [World.cell?, h, ← h1]

set_option maxHeartbeats 1000000 in
theorem get_any (l : List Atr) (av nmV : Value) (pa ne f t : Int) (x : List UInt8) (w : World) (hs : ∀ a ∈ l, a.val.length ≤ 6000) (hc : l.length ≤ 100) (ho : AtAt w av l) :
    Calls Try.prog 20 #[.agg #[nmV, .int .i64 pa, av, .int .i64 ne, .int .i64 f, .int .i64 t], .string (bs x)] w fun e w' =>
      ∃ v, e = .returned (.tuple #[.string v, .bool (l.any (fun a => a.name == x))]) ∧ Below w.heap.size w w' := by
  rcases ho with ⟨rfl, rfl⟩ | ⟨g, cap, cur, rfl, hg, h1, h2, h3, h4⟩
  · go_enter Try.func20, Try.ntmps20
    go_wp2_with fail
    go_loopg [11] 0 (fun n i wr => n = 0 ∧ i = .int .i64 0 ∧ Below w.heap.size w wr)
    case atStart => exact ⟨rfl, rfl, (Below.refl _ _).alloc (Nat.le_refl _) _⟩
    case round =>
      obtain ⟨_, rfl, hb⟩ := hrel
      go_wp2_with fail
      go_ret2
      exact ⟨_, rfl, hb⟩
  · go_enter Try.func20, Try.ntmps20
    go_wp2_with fail
    go_loopg [11] l.length (fun n i wr => ∃ k, k ≤ l.length ∧ n = l.length - k ∧ i = .int .i64 (k : Int) ∧ Below w.heap.size w wr ∧ (l.take k).any (fun a => a.name == x) = false)
    case atStart => exact ⟨0, Nat.zero_le _, rfl, rfl, (Below.refl _ _).alloc (Nat.le_refl _) _, rfl⟩
    case round =>
      obtain ⟨k, hk, hn, rfl, hb, ha⟩ := hrel
      have A : Hid (gk = l.length - k) := hn
      have B : Hid ((l.take k).any (fun a => a.name == x) = false) := ha
      clear hn ha
      by_cases hlt : k < l.length
      · have hg' : wr.heap[g]? = some (.cells cur 41 (0, 0)) := by rw [hb.block g (Array.getElem?_eq_some_iff.1 hg).1]; exact hg
        have c0 := AtAt.cell hg' h4 hlt 0 (by omega)
        have c1 := AtAt.cell hg' h4 hlt 1 (by omega)
        have c2 := AtAt.cell hg' h4 hlt 2 (by omega)
        have c3 := AtAt.cell hg' h4 hlt 3 (by omega)
        simp [encA] at c0 c1 c2 c3
        clear hg' h4
        cases hq : (l[k].name == x) with
        | true =>
          have C : Hid (l.any (fun a => a.name == x) = true) := List.any_eq_true.2 ⟨l[k], List.getElem_mem hlt, hq⟩
          have hq' : ((bs l[k].name).toList == (bs x).toList) = true := by rw [bs_toList, bs_toList]; exact hq
          have hv : (bs l[k].val).size ≤ 6000 := by rw [bs_size]; exact hs _ (List.getElem_mem hlt)
          clear hq
          go_wp2_with (go_at_call 39; refine (clone_any _ _ hv).mono ?_; rintro e w' ⟨rfl, hb'⟩)
          go_ret2
          rw [C.out]
          exact ⟨_, rfl, (hb.alloc (Nat.le_trans (Nat.le_refl _) hb.size) _).trans (hb'.mono (by simp; have := hb.size; omega))⟩
        | false =>
          have C : Hid ((l.take (k + 1)).any (fun a => a.name == x) = false) := by
            have h5 := B.out
            show (l.take (k + 1)).any (fun a => a.name == x) = false
            rw [List.take_succ_eq_append_getElem hlt, List.any_append, h5]
            simpa using hq
          have hq' : ((bs l[k].name).toList == (bs x).toList) = false := by rw [bs_toList, bs_toList]; exact hq
          clear hq
          go_wp2_with fail
          go_roundg (l.length - (k + 1))
          case measure => have := A.out; omega
          case rel => exact ⟨k + 1, by omega, rfl, by go_num, hb.alloc hb.size _, C.out⟩
      · have hkl : k = l.length := by omega
        have C : Hid (l.any (fun a => a.name == x) = false) := by have := B.out; rw [hkl, List.take_length] at this; exact this
        clear hkl
        go_wp2_with fail
        go_ret2
        rw [C.out]
        exact ⟨_, rfl, hb⟩
end Go.Proofs.Ytanedepdhbdcgaa
