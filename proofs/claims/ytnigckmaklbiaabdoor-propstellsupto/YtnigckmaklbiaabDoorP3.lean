/-
  What Clone and Expand answer: the plain answers. Conditions: texts of at most 2^20 bytes; the two tables hold what their texts say.
-/
import Derived.Test.YtnigckmaklbiaabDoorP2
namespace Go.Proofs.YtnigckmaklbiaabDoor
open Go.RowKit

theorem clone_any (s : ByteArray) (w : World) (hs : s.size ≤ 1048576) :
    Calls Tryd.prog 30 #[.string s] w fun e w' => e = .returned (.string s) ∧ Below w.heap.size w w' := by
  go_enter Tryd.func30, Tryd.ntmps30
  go_wp2_with (go_at_call 35; refine (Tryd.stringslite_Clone _ _ (by omega)).mono ?_; rintro e w' ⟨rfl, hb⟩)
  go_ret
  exact ⟨rfl, hb⟩

theorem isE_eq (d : Dc) : isE d = (d.name.toList == [101, 100, 103, 101]) := by
  unfold isE
  rw [show edgeN.toList = [101, 100, 103, 101] by decide +kernel]
/-- A declaration in a block. -/
def DB (w : World) (T : Nat) (d : Dc) : Prop := w.heap[T]? = some (.cells #[.string d.name, .string d.val, .bool d.strong] 52 (0, 0))
theorem DB.cell {w : World} {T : Nat} {d : Dc} (h : DB w T d) : w.cell? ⟨T, 0, none⟩ = some (.string d.name) ∧ w.cell? ⟨T, 1, none⟩ = some (.string d.val) ∧ w.cell? ⟨T, 2, none⟩ = some (.bool d.strong) := by
  unfold DB at h
  unfold World.cell?
  rw [h]
  exact ⟨rfl, rfl, rfl⟩
theorem DB.fz {w : World} {T : Nat} {d : Dc} (h : DB w T d) : w.frozen? ⟨T, 0, none⟩ = false ∧ w.frozen? ⟨T, 1, none⟩ = false ∧ w.frozen? ⟨T, 2, none⟩ = false := by
  unfold DB at h
  simp [World.frozen?, h]
theorem DB.lt {w : World} {T : Nat} {d : Dc} (h : DB w T d) : T < w.heap.size := (Array.getElem?_eq_some_iff.1 h).1
theorem DB.keep {w w' : World} {T : Nat} {d : Dc} (h : DB w T d) (e : w'.heap[T]? = w.heap[T]?) : DB w' T d := by
  unfold DB at h ⊢; rw [e]; exact h
theorem DB.alloc {w : World} {T : Nat} {d : Dc} (h : DB w T d) (o : Obj) : DB (w.alloc o) T d := h.keep (Below.heap_alloc _ _ _ h.lt)
theorem DB.below {w w' : World} {T : Nat} {d : Dc} (h : DB w T d) (hb : Below w.heap.size w w') : DB w' T d := h.keep (hb.block T h.lt)
theorem DB.new (w : World) (d : Dc) : DB (w.alloc (.cells #[.string d.name, .string d.val, .bool d.strong] 52)) w.heap.size d := heap_alloc_new _ _
theorem DB.set0 {w : World} {T : Nat} {d : Dc} (h : DB w T d) : DB (w.setCell ⟨T, 0, none⟩ (.string d.name)) T d := by
  unfold DB at h ⊢
  simp [World.setCell, Array.getElem?_modify, h]
theorem DB.set1 {w : World} {T : Nat} {d : Dc} (h : DB w T d) : DB (w.setCell ⟨T, 1, none⟩ (.string d.val)) T d := by
  unfold DB at h ⊢
  simp [World.setCell, Array.getElem?_modify, h]

set_option maxRecDepth 100000 in
set_option maxHeartbeats 4000000 in
theorem expand_any (d : Dc) (w : World) (hs : SmD d) (hT : Tab w) :
    Calls Tryd.prog 21 #[declV d] w fun e w' => Ans w' e (expB d) ∧ Below w.heap.size w w' := by
  have HX : Hid (expB d = if isE d then (if 4 < (cutB d.val).length then none else some (fourB d.strong (cutB d.val))) else some [d]) := rfl
  generalize expB d = R at *
  obtain ⟨h1, h2⟩ := hs
  have HV := hid h2
  have HT := hid hT
  unfold lim at h1 h2
  clear hT
  have HB0 : Hid (Below w.heap.size w (w.alloc (.cells #[.string d.name, .string d.val, .bool d.strong] 52))) := (Below.refl _ _).alloc (Nat.le_refl _) _
  have HD0 := hid (DB.new w d)
  have hS : DB (w.alloc (.cells #[.string d.name, .string d.val, .bool d.strong] 52)) w.heap.size d := HD0.out
  obtain ⟨nm, vl, st⟩ := d
  simp only [declV] at *
  go_enter Tryd.func21, Tryd.ntmps21
  go_wp2_with fail
  generalize w.alloc (.cells #[.string nm, .string vl, .bool st] 52) = w0 at *
  have hS0 : w0.cell? ⟨w.heap.size, 0, none⟩ = some (.string nm) ∧ w0.cell? ⟨w.heap.size, 1, none⟩ = some (.string vl) := ⟨hS.cell.1, hS.cell.2.1⟩
  obtain ⟨f0, f1, f2⟩ := hS.fz
  go_region_with (first | (go_at_call 30; refine (clone_any _ _ (by omega)).mono ?_; rintro e w' ⟨rfl, hb⟩; have HQ : Hid (DB w' w.heap.size ⟨nm, vl, st⟩ ∧ Below w.heap.size w w') := (by first | exact ⟨DB.below HQ.out.1 hb, below_trans HQ.out.2 hb (Nat.le_refl _)⟩ | exact ⟨DB.below (w := w0.drew) hS hb, below_trans HB0.out.drew hb (Nat.le_refl _)⟩); obtain ⟨c0, c1, c2⟩ := HQ.out.1.cell; obtain ⟨f0, f1, f2⟩ := HQ.out.1.fz; clear hb))
  all_goals
    have HD3 := hid (DB.set1 (DB.set0 HQ.out.1))
    have HB3 : Hid (Below w.heap.size w ((w'.setCell ⟨w.heap.size, 0, none⟩ (.string nm)).setCell ⟨w.heap.size, 1, none⟩ (.string vl))) := (HQ.out.2.setCell (Nat.le_refl _) _).setCell (Nat.le_refl _) _
    simp only at HD3
    clear hS hS0
    clear HD0 HB0
    generalize (w'.setCell ⟨w.heap.size, 0, none⟩ (.string nm)).setCell ⟨w.heap.size, 1, none⟩ (.string vl) = w3 at *
    obtain ⟨g0, g1, g2⟩ := HD3.out.cell
    simp only at g0 g1 g2
    have HE : Hid (isE ⟨nm, vl, st⟩ = (nm.toList == [101, 100, 103, 101])) := isE_eq _
    cases hq : (nm.toList == [101, 100, 103, 101])
    · have HR : Hid (R = some [⟨nm, vl, st⟩]) := by
        show R = _
        rw [HX.out, HE.out, hq]
        rfl
      go_wp2_with fail
      go_ret2
      rw [HR.out]
      exact ⟨⟨_, _, rfl, ds_new w3 ⟨nm, vl, st⟩⟩, HB3.out.alloc HB3.out.size _⟩
    · have HR : Hid (R = if 4 < (cutB vl).length then none else some (fourB st (cutB vl))) := by
        show R = _
        rw [HX.out, HE.out, hq]
        rfl
      go_wp2_with fail
      refine (edge_any ⟨nm, vl, st⟩ w3 HV.out (HT.out.ext (Ext.below HB3.out))).mono ?_
      rintro e w4 ⟨hA, hb4⟩
      have HB4 := hid (below_trans HB3.out hb4 (Nat.le_refl _))
      clear hb4
      simp only at hA
      rw [← HR.out] at hA
      have HA := hid hA
      cases R with
      | none =>
        obtain rfl : e = .returned badV := hA
        simp only [badV]
        go_wp2_with fail
        go_ret2
        exact ⟨rfl, HB4.out⟩
      | some l =>
        obtain ⟨a, c, rfl, hD⟩ := hA
        have HDD := hid hD
        clear hD
        go_wp2_with fail
        go_ret2
        exact ⟨⟨a, c, rfl, HDD.out⟩, HB4.out⟩
end Go.Proofs.YtnigckmaklbiaabDoor
