/-
  What Past of package scan does: it finds the first such token, or throws. Conditions: as for the Scan text; and the cell of internal/bytealg.MaxLen holds some int.
-/
import Derived.Test.YtanedepdhbdcgaaScan3
namespace Go.Proofs.Ytanedepdhbdcgaa
open Go.RowKit
variable {T : TypeId}

theorem cell_alloc {w : World} {b o : Nat} {v : Value} (h : w.cell? ⟨b, o, none⟩ = some v) (x : Obj) : (w.alloc x).cell? ⟨b, o, none⟩ = some v := by
  have hb : b < w.heap.size := by
    by_cases hb : b < w.heap.size
    · exact hb
    · have : w.heap[b]? = none := by simp; omega
      simp [World.cell?, this] at h
  rw [World.cell?_of_block (w := w) (Below.heap_alloc _ _ _ hb)]
  exact h

theorem below_drewN' {B : Nat} {w w' : World} (h : Below B w w') (n : Nat) : Below B w (w'.drewN n) := ⟨h.os, h.tape, h.output, h.size, h.block⟩
theorem alloc_drewN (w : World) (n : Nat) (o : Obj) : (w.drewN n).alloc o = (w.alloc o).drewN n := rfl
theorem setCell_drewN (w : World) (n : Nat) (a : Addr) (v : Value) : (w.drewN n).setCell a v = (w.setCell a v).drewN n := rfl
theorem frozen_alloc' {w : World} {b o : Nat} (hb : b < w.heap.size) (h : w.frozen? ⟨b, o, none⟩ = false) (x : Obj) : (w.alloc x).frozen? ⟨b, o, none⟩ = false := by
  rw [World.frozen?_of_block (w := w) (Below.heap_alloc _ _ _ hb)]
  exact h

theorem below_two (w : World) (x y : Obj) (n : Nat) : Below w.heap.size w (((w.alloc x).alloc y).drewN n) :=
  below_drewN' (((Below.refl _ _).alloc (Nat.le_refl _) _).alloc (by simp) _) _

set_option maxHeartbeats 1000000 in
theorem past_no (b : Nat) (s t : ByteArray) (k : Nat) (mi mx : Int) (nv : Value) (w : World) (hl : s.size ≤ 6000) (hk : k ≤ s.size) (hr : RdT T w b s k nv) (hmx : w.cell? ⟨0, 0, none⟩ = some (.int .i64 mx)) (hm : pastAt s.data.toList k t.data.toList = none) :
    Calls Try.prog 76 #[.pointer (some ⟨b, 0, none⟩), .string t, .int .i64 mi] w fun e w' => e = .panicked [{ v := .iface 87 (.agg #[.int .i64 2, .int .i64 mi]), recovered := false }] ∧ Below w.heap.size w w' := by
  have h0 := cell_alloc hr.c0
  have h1 := cell_alloc hr.c1
  have h2 := cell_alloc hmx
  have hlt : Lib.index (s.extract k s.size).data.toList t.data.toList < 0 := by
    rw [extract_list]
    unfold pastAt at hm
    split at hm
    · assumption
    · cases hm
  have hsz : (s.extract k s.size).size < 4294967281 := by rw [ByteArray.size_extract]; omega
  generalize hi : Lib.index (s.extract k s.size).data.toList t.data.toList = i at hlt
  have I : Hid (Lib.index (s.extract k s.size).data.toList t.data.toList = i) := hi
  clear hi hm
  go_enter Try.func76, Try.ntmps76
  go_wp2_with fail
  go_quiet ((go_at_call 90; exact Calls.quiet_of_same (I.out ▸ Try.strings_Index _ _ mx _ hsz (by simpa using h2 _))))
  go_wp2_with (go_at_call 71; refine (throw_any _ _ _).mono ?_; rintro e w' ⟨rfl, rfl⟩)
  exact ⟨rfl, rfl, below_drewN' ((Below.refl _ _).alloc (Nat.le_refl _) _) _⟩

set_option maxHeartbeats 1000000 in
theorem past_yes (b : Nat) (s t : ByteArray) (k m : Nat) (mi mx : Int) (nv : Value) (w : World) (hl : s.size ≤ 6000) (ht : t.size ≤ 6000) (hk : k ≤ s.size) (hr : RdT T w b s k nv) (hmx : w.cell? ⟨0, 0, none⟩ = some (.int .i64 mx)) (hm : pastAt s.data.toList k t.data.toList = some m) (hms : m ≤ s.size) :
    Calls Try.prog 76 #[.pointer (some ⟨b, 0, none⟩), .string t, .int .i64 mi] w fun e w' => e = .returned (.agg #[.int .i64 k, .int .i64 m]) ∧ RdT T w' b s (m + t.size) nv ∧ Kp (· = b) w w' := by
  have h0 := cell_alloc hr.c0
  have h1 := cell_alloc hr.c1
  have h2 := cell_alloc hmx
  obtain ⟨n, hn, hmn⟩ : ∃ n : Nat, Lib.index (s.extract k s.size).data.toList t.data.toList = (n : Int) ∧ k + n = m := by
    rw [extract_list]
    unfold pastAt at hm
    split at hm
    · cases hm
    · rename_i hge
      refine ⟨(Lib.index (s.data.toList.drop k) t.data.toList).toNat, by omega, ?_⟩
      injection hm
  have hsz : (s.extract k s.size).size < 4294967281 := by rw [ByteArray.size_extract]; omega
  have I : Hid (Lib.index (s.extract k s.size).data.toList t.data.toList = (n : Int)) := hn
  clear hn hm
  subst hmn
  have hda := alloc_drewN
  have hds := setCell_drewN
  have h1' := fun o1 o2 => cell_alloc (h1 o1) o2
  have hz' := fun o1 o2 => frozen_alloc' (by simp; have := hr.lt; omega) (frozen_alloc' hr.lt (hr.fz 1) o1) o2
  have hlt := hr.lt
  have hn0 : ¬ b = w.heap.size := by omega
  have hn1 : ¬ b = w.heap.size + 1 := by omega
  have hn2 : ¬ w.heap.size = b := by omega
  have hn3 : ¬ w.heap.size + 1 = b := by omega
  go_enter Try.func76, Try.ntmps76
  go_wp2_with fail
  go_quiet ((go_at_call 90; exact Calls.quiet_of_same (I.out ▸ Try.strings_Index _ _ mx _ hsz (by simpa using h2 _))))
  go_wp2_with fail
  go_region
  go_wp2_with fail
  refine bodyPost_ret (v := .agg #[.int .i64 k, .int .i64 ((k : Int) + n)]) (by simp [results, Try.results76, go_sem]) rfl ⟨rfl, ?_, ?_⟩
  · have hb := below_two (w.setCell ⟨b, 1, none⟩ (.int .i64 (((k + n + t.size : Nat)) : Int))) (.cells #[.int .i64 k, .int .i64 ((k : Int) + n)] 33) (.cells #[.int .i64 k, .int .i64 ((k : Int) + n)] 33) (nq + 1)
    exact (hr.set1 (k + n + t.size)).kp hb
  · exact (Kp.set w b 1 _).trans (Kp.below (below_two _ _ _ _) _)
end Go.Proofs.Ytanedepdhbdcgaa
