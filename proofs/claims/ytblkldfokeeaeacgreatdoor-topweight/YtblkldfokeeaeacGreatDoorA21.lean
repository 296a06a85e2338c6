/- Texts that the statement's proof stands on: P2, P3, P4, P5, P6, MBest. -/
import Derived.Test.YtblkldfokeeaeacGreatDoorA20
import Derived.Test.YtblkldfokeeaeacGreatDoorA10
import Derived.Maps.Own
import Derived.Maps.OwnOps
import Derived.Maps.OwnSet
import Derived.Maps.Views
import Derived.Maps.StringElems
namespace Go.Proofs.YtblkldfokeeaeacGreatDoor
open Go.RowKit
def declV (d : Dc) : Value := .agg #[.string d.name, .string d.val, .bool d.strong]
def badV : Value := .tuple #[.slice none 0 0, .int .i64 5]
def Ans (w : World) (e : Ending) : Option (List Dc) → Prop
  | none => e = .returned badV
  | some l => ∃ a c, e = .returned (.tuple #[.slice a l.length c, .int .i64 0]) ∧ DsAt w (.slice a l.length c) l
theorem one_D (l : List Dc) : ∀ u ∈ l.flatMap encD, u.oneCell' = true := by
  intro u hu
  obtain ⟨d, _, hd⟩ := List.mem_flatMap.1 hu
  simp [encD] at hd
  rcases hd with rfl | rfl | rfl <;> rfl
theorem one_d (d : Dc) : ∀ u ∈ encD d, u.oneCell' = true := by
  intro u hd
  simp [encD] at hd
  rcases hd with rfl | rfl | rfl <;> rfl
theorem cut_bs (w : World) (l : List ByteArray) (N : Nat) : BsAt (w.alloc (.cells (Lib.cellsOf l N) 9)) (.slice (some ⟨w.heap.size, 0, none⟩) l.length N) l := by
  refine ⟨_, N, rfl, nofun, fun i hi => ⟨w.heap.size, 0, rfl, ?_⟩⟩
  show World.cell? _ ⟨_, 0 + i * 1 + 0, none⟩ = _
  rw [show 0 + i * 1 + 0 = i by omega, cell_new]
  unfold Lib.cellsOf
  rw [List.getElem?_toArray, List.getElem?_append_left (by simpa using hi), List.getElem?_map, List.getElem?_eq_getElem hi]
  rfl
theorem idx0 (a b c d : ByteArray) (w : World) : (Instr.index 184 (.agg #[.string a, .string b, .string c, .string d]) (.int .i64 0)).run Tryz.prog w = .ok (.string a) w := by
  simp [Instr.index, go_sem, Go.part]
theorem idx1 (a b c d : ByteArray) (w : World) : (Instr.index 184 (.agg #[.string a, .string b, .string c, .string d]) (.int .i64 1)).run Tryz.prog w = .ok (.string b) w := by
  simp [Instr.index, go_sem, Go.part]
theorem idx2 (a b c d : ByteArray) (w : World) : (Instr.index 184 (.agg #[.string a, .string b, .string c, .string d]) (.int .i64 2)).run Tryz.prog w = .ok (.string c) w := by
  simp [Instr.index, go_sem, Go.part]
theorem idx3 (a b c d : ByteArray) (w : World) : (Instr.index 184 (.agg #[.string a, .string b, .string c, .string d]) (.int .i64 3)).run Tryz.prog w = .ok (.string d) w := by
  simp [Instr.index, go_sem, Go.part]
set_option maxRecDepth 100000 in
set_option maxHeartbeats 4000000 in
theorem edge_any (d : Dc) (w : World) (hs : d.val.size ≤ lim) (hT : Tab w) :
    Calls Tryz.prog 131 #[declV d] w fun e w' => Ans w' e (if 4 < (cutB d.val).length then none else some (fourB d.strong (cutB d.val))) ∧ Below w.heap.size w w' := by
  obtain ⟨nm, vl, st⟩ := d
  simp only at hs ⊢
  unfold lim at hs
  have HT := hid hT
  clear hT
  have hb0 : ∀ o, Hid (Below w.heap.size w (w.alloc o)) := fun o => (Below.refl _ _).alloc (Nat.le_refl _) o
  have hcl := cut_le vl
  have hcp := cut_pos vl
  have HC : Hid (Lib.splitB blank 0 (min 5 (vl.size + 1) - 1) vl = cutB vl) := rfl
  have HN : Hid ((cutB vl).length ≤ min 5 (vl.size + 1)) := by
    have := Lib.splitB_length_le blank 0 (min 5 (vl.size + 1) - 1) vl
    show (Lib.splitB blank 0 (min 5 (vl.size + 1) - 1) vl).length ≤ _
    omega
  simp only [declV]
  have HW1 := hid (Tab.ext HT.out ((ext_alloc w (.cells #[.string nm, .string vl, .bool st] 40)).trans (ext_alloc _ (.cells (Lib.cellsOf (cutB vl) (min 5 (vl.size + 1))) 9))))
  have HB1 : Hid (Below w.heap.size w ((w.alloc (.cells #[.string nm, .string vl, .bool st] 40)).alloc (.cells (Lib.cellsOf (cutB vl) (min 5 (vl.size + 1))) 9))) := (hb0 _).out.alloc (by simp) _
  have HS1 := hid (cut_bs (w.alloc (.cells #[.string nm, .string vl, .bool st] 40)) (cutB vl) (min 5 (vl.size + 1)))
  rw [show (w.alloc (.cells #[.string nm, .string vl, .bool st] 40)).heap.size = w.heap.size + 1 by simp] at HS1
  have HD1 : Hid (((w.alloc (.cells #[.string nm, .string vl, .bool st] 40)).alloc (.cells (Lib.cellsOf (cutB vl) (min 5 (vl.size + 1))) 9)).cell? ⟨w.heap.size, 2, none⟩ = some (.bool st)) := ext_alloc _ _ _ _ _ (by rw [cell_new]; rfl)
  obtain ⟨m, hm⟩ := (HT.out.ext (Ext.below (hb0 (.cells #[.string nm, .string vl, .bool st] 40)).out)).mx
  by_cases h4 : 4 < (cutB vl).length
  · rw [if_pos h4]
    go_enter Tryz.func131, Tryz.ntmps131
    go_wp2_with (go_at_call 163; refine (Tryz.strings_SplitN vl blank 5 m _ (by omega) hm (by decide) (by decide) (by decide)).mono ?_; rintro e w' ⟨rfl, rfl⟩; rw [HC.out]; clear hm)
    go_ret2
    exact ⟨rfl, HB1.out⟩
  · rw [if_neg h4]
    go_enter Tryz.func131, Tryz.ntmps131
    go_wp2_with (go_at_call 163; refine (Tryz.strings_SplitN vl blank 5 m _ (by omega) hm (by decide) (by decide) (by decide)).mono ?_; rintro e w' ⟨rfl, rfl⟩; rw [HC.out]; clear hm)
    generalize (w.alloc (.cells #[.string nm, .string vl, .bool st] 40)).alloc (.cells (Lib.cellsOf (cutB vl) (min 5 (vl.size + 1))) 9) = w1 at *
    refine (fill_any _ (cutB vl) w1 HS1.out hcp (by omega) HW1.out).mono ?_
    rintro e w2 ⟨rfl, hb2⟩
    have HB2 := hid (below_trans HB1.out hb2 (Nat.le_refl _))
    have HT2 := hid (HW1.out.ext (Ext.below hb2))
    have HD2 := hid (Ext.below hb2 _ _ _ HD1.out)
    have hwl := lt_of_cell HD2.out
    simp only [fillV]
    generalize hws : cutB vl = ws at *
    have HWS := hid hws
    clear hws
    clear hb2 HD1 HS1 HB1 HW1 HN HC
    go_wp2_with fail
    go_loopg [5, 16] 4 (fun n v i wr => ∃ k : Nat, n = 4 - k ∧ k ≤ 4 ∧ i = .int .i64 (k : Int) ∧ wr.ownsRow w2.heap.size 40 3 v k (((fourB st ws).take k).flatMap encD) ∧ Below w2.heap.size w2 wr)
    case atStart => exact ⟨0, rfl, Nat.zero_le _, rfl, World.ownsRow_nil _ _ _ _, Below.refl _ _⟩
    case round =>
      obtain ⟨k, hn, hk, rfl, hO, hB⟩ := hrel
      have GK := hid hn
      have HO := hid hO
      have HB := hid hB
      have X := Ext.below hB
      have d2 := X _ _ _ HD2.out
      obtain ⟨s0, s1, s2, s3, _, _, _, _, _⟩ := HT2.out.ext X
      have hsz := hB.size
      have hd := lt_of_cell d2
      have hs0 := lt_of_cell s0
      rename World => wo
      obtain ⟨va, vc, rfl⟩ := own_form hO
      clear hn hO hB X
      have hk' : k = 0 ∨ k = 1 ∨ k = 2 ∨ k = 3 ∨ k = 4 := by omega
      clear hk
      rcases hk' with rfl | rfl | rfl | rfl | rfl
      · have hS : wo.cell? ⟨0, 0, none⟩ = some (.string sd0) ∧ wo.cell? ⟨w.heap.size, 2, none⟩ = some (.bool st) := ⟨s0, d2⟩
        have ix := idx0 (v0 ws) (v1 ws) (v2 ws) (v3 ws)
        go_wp2_with fail
        go_region_held3 (fun w' => w'.cell? ⟨0, 0, none⟩ = some (.string sd0) ∧ w'.cell? ⟨w.heap.size, 2, none⟩ = some (.bool st)) (first | assumption | go_keep) (first | (refine step_app (by rfl) (.tmp 20) (.tmp 28) 34 rfl w2.heap.size 40 _ 3 40 Tryz.underlying34 Tryz.infoD rfl (by decide) (.slice va 0 vc) 0 (((fourB st ws).take 0).flatMap encD) (by rfl) (HO.out.alloc _) _ 1 (encD ⟨sd0, v0 ws, st⟩) (by rfl) (.inr ⟨_, 1, rfl, World.news_of_block (heap_alloc_new _ _)⟩) rfl (one_d _) (by unfold maxLen; omega) (by omega) (by simp; omega) ?_; intro v3 w3 hv3 hg3; have b3 : Below w2.heap.size w2 w3 := (HB.out.alloc HB.out.size _).drew.grown hg3 (HB.out.alloc HB.out.size _).size (fun j hj => (HO.out.lt j hj).1); have hS3 : w3.cell? ⟨0, 0, none⟩ = some (.string sd0) ∧ w3.cell? ⟨w.heap.size, 2, none⟩ = some (.bool st) := ⟨Ext.below b3 _ _ _ HT2.out.s0, Ext.below b3 _ _ _ HD2.out⟩; have HB3 := hid b3; have HV3 := hid hv3; clear hg3 hv3 b3))
        all_goals
          go_wp2_with fail
          go_roundg (4 - 1)
          case measure => have := GK.out; omega
          case rel => exact ⟨1, rfl, by omega, by go_num, HV3.out, HB3.out⟩
      · have hS : wo.cell? ⟨0, 1, none⟩ = some (.string sd1) ∧ wo.cell? ⟨w.heap.size, 2, none⟩ = some (.bool st) := ⟨s1, d2⟩
        have ix := idx1 (v0 ws) (v1 ws) (v2 ws) (v3 ws)
        go_wp2_with fail
        go_region_held3 (fun w' => w'.cell? ⟨0, 1, none⟩ = some (.string sd1) ∧ w'.cell? ⟨w.heap.size, 2, none⟩ = some (.bool st)) (first | assumption | go_keep) (first | (refine step_app (by rfl) (.tmp 20) (.tmp 28) 34 rfl w2.heap.size 40 _ 3 40 Tryz.underlying34 Tryz.infoD rfl (by decide) (.slice va 1 vc) 1 (((fourB st ws).take 1).flatMap encD) (by rfl) (HO.out.alloc _) _ 1 (encD ⟨sd1, v1 ws, st⟩) (by rfl) (.inr ⟨_, 1, rfl, World.news_of_block (heap_alloc_new _ _)⟩) rfl (one_d _) (by unfold maxLen; omega) (by omega) (by simp; omega) ?_; intro v3 w3 hv3 hg3; have b3 : Below w2.heap.size w2 w3 := (HB.out.alloc HB.out.size _).drew.grown hg3 (HB.out.alloc HB.out.size _).size (fun j hj => (HO.out.lt j hj).1); have hS3 : w3.cell? ⟨0, 1, none⟩ = some (.string sd1) ∧ w3.cell? ⟨w.heap.size, 2, none⟩ = some (.bool st) := ⟨Ext.below b3 _ _ _ HT2.out.s1, Ext.below b3 _ _ _ HD2.out⟩; have HB3 := hid b3; have HV3 := hid hv3; clear hg3 hv3 b3))
        all_goals
          go_wp2_with fail
          go_roundg (4 - 2)
          case measure => have := GK.out; omega
          case rel => exact ⟨2, rfl, by omega, by go_num, HV3.out, HB3.out⟩
      · have hS : wo.cell? ⟨0, 2, none⟩ = some (.string sd2) ∧ wo.cell? ⟨w.heap.size, 2, none⟩ = some (.bool st) := ⟨s2, d2⟩
        have ix := idx2 (v0 ws) (v1 ws) (v2 ws) (v3 ws)
        go_wp2_with fail
        go_region_held3 (fun w' => w'.cell? ⟨0, 2, none⟩ = some (.string sd2) ∧ w'.cell? ⟨w.heap.size, 2, none⟩ = some (.bool st)) (first | assumption | go_keep) (first | (refine step_app (by rfl) (.tmp 20) (.tmp 28) 34 rfl w2.heap.size 40 _ 3 40 Tryz.underlying34 Tryz.infoD rfl (by decide) (.slice va 2 vc) 2 (((fourB st ws).take 2).flatMap encD) (by rfl) (HO.out.alloc _) _ 1 (encD ⟨sd2, v2 ws, st⟩) (by rfl) (.inr ⟨_, 1, rfl, World.news_of_block (heap_alloc_new _ _)⟩) rfl (one_d _) (by unfold maxLen; omega) (by omega) (by simp; omega) ?_; intro v3 w3 hv3 hg3; have b3 : Below w2.heap.size w2 w3 := (HB.out.alloc HB.out.size _).drew.grown hg3 (HB.out.alloc HB.out.size _).size (fun j hj => (HO.out.lt j hj).1); have hS3 : w3.cell? ⟨0, 2, none⟩ = some (.string sd2) ∧ w3.cell? ⟨w.heap.size, 2, none⟩ = some (.bool st) := ⟨Ext.below b3 _ _ _ HT2.out.s2, Ext.below b3 _ _ _ HD2.out⟩; have HB3 := hid b3; have HV3 := hid hv3; clear hg3 hv3 b3))
        all_goals
          go_wp2_with fail
          go_roundg (4 - 3)
          case measure => have := GK.out; omega
          case rel => exact ⟨3, rfl, by omega, by go_num, HV3.out, HB3.out⟩
      · have hS : wo.cell? ⟨0, 3, none⟩ = some (.string sd3) ∧ wo.cell? ⟨w.heap.size, 2, none⟩ = some (.bool st) := ⟨s3, d2⟩
        have ix := idx3 (v0 ws) (v1 ws) (v2 ws) (v3 ws)
        go_wp2_with fail
        go_region_held3 (fun w' => w'.cell? ⟨0, 3, none⟩ = some (.string sd3) ∧ w'.cell? ⟨w.heap.size, 2, none⟩ = some (.bool st)) (first | assumption | go_keep) (first | (refine step_app (by rfl) (.tmp 20) (.tmp 28) 34 rfl w2.heap.size 40 _ 3 40 Tryz.underlying34 Tryz.infoD rfl (by decide) (.slice va 3 vc) 3 (((fourB st ws).take 3).flatMap encD) (by rfl) (HO.out.alloc _) _ 1 (encD ⟨sd3, v3 ws, st⟩) (by rfl) (.inr ⟨_, 1, rfl, World.news_of_block (heap_alloc_new _ _)⟩) rfl (one_d _) (by unfold maxLen; omega) (by omega) (by simp; omega) ?_; intro v3 w3 hv3 hg3; have b3 : Below w2.heap.size w2 w3 := (HB.out.alloc HB.out.size _).drew.grown hg3 (HB.out.alloc HB.out.size _).size (fun j hj => (HO.out.lt j hj).1); have hS3 : w3.cell? ⟨0, 3, none⟩ = some (.string sd3) ∧ w3.cell? ⟨w.heap.size, 2, none⟩ = some (.bool st) := ⟨Ext.below b3 _ _ _ HT2.out.s3, Ext.below b3 _ _ _ HD2.out⟩; have HB3 := hid b3; have HV3 := hid hv3; clear hg3 hv3 b3))
        all_goals
          go_wp2_with fail
          go_roundg (4 - 4)
          case measure => have := GK.out; omega
          case rel => exact ⟨4, rfl, by omega, by go_num, HV3.out, HB3.out⟩
      · go_wp2_with fail
        go_ret2
        rw [HWS.out]
        exact ⟨⟨va, vc, rfl, DsAt.own (base := w2.heap.size) HO.out⟩, below_trans HB2.out HB.out (Nat.le_refl _)⟩
end Go.Proofs.YtblkldfokeeaeacGreatDoor
namespace Go.Proofs.YtblkldfokeeaeacGreatDoor
open Go.RowKit
theorem clone_any (s : ByteArray) (w : World) (hs : s.size ≤ 1048576) :
    Calls Tryz.prog 86 #[.string s] w fun e w' => e = .returned (.string s) ∧ Below w.heap.size w w' := by
  go_enter Tryz.func86, Tryz.ntmps86
  go_wp2_with (go_at_call 114; refine (Tryz.stringslite_Clone _ _ (by omega)).mono ?_; rintro e w' ⟨rfl, hb⟩)
  go_ret
  exact ⟨rfl, hb⟩
theorem isE_eq (d : Dc) : isE d = (d.name.toList == [101, 100, 103, 101]) := by
  unfold isE
  rw [show edgeN.toList = [101, 100, 103, 101] by decide +kernel]
def DB (w : World) (T : Nat) (d : Dc) : Prop := w.heap[T]? = some (.cells #[.string d.name, .string d.val, .bool d.strong] 40 (0, 0))
theorem DB.cell {w : World} {T : Nat} {d : Dc} (h : DB w T d) : w.cell? ⟨T, 0, none⟩ = some (.string d.name) ∧ w.cell? ⟨T, 1, none⟩ = some (.string d.val) ∧ w.cell? ⟨T, 2, none⟩ = some (.bool d.strong) := by
  unfold DB at h
  unfold World.cell?
  rw [h]
  exact ⟨rfl, rfl, rfl⟩
theorem DB.fz {w : World} {T : Nat} {d : Dc} (h : DB w T d) : w.frozen? ⟨T, 0, none⟩ = false ∧ w.frozen? ⟨T, 1, none⟩ = false ∧ w.frozen? ⟨T, 2, none⟩ = false := by
  unfold DB at h
  simp [World.frozen?, h]
theorem DB.lt {w : World} {T : Nat} {d : Dc} (h : DB w T d) : T < w.heap.size := (Array.getElem?_eq_some_iff.1 h).1
theorem DB.keep {w w' : World} {T : Nat} {d : Dc} (h : DB w T d) (e : w'.heap[T]? = w.heap[T]?) : DB w' T d := by
  unfold DB at h ⊢; rw [e]; exact h
theorem DB.alloc {w : World} {T : Nat} {d : Dc} (h : DB w T d) (o : Obj) : DB (w.alloc o) T d := h.keep (Below.heap_alloc _ _ _ h.lt)
theorem DB.below {w w' : World} {T : Nat} {d : Dc} (h : DB w T d) (hb : Below w.heap.size w w') : DB w' T d := h.keep (hb.block T h.lt)
theorem DB.new (w : World) (d : Dc) : DB (w.alloc (.cells #[.string d.name, .string d.val, .bool d.strong] 40)) w.heap.size d := heap_alloc_new _ _
theorem DB.set0 {w : World} {T : Nat} {d : Dc} (h : DB w T d) : DB (w.setCell ⟨T, 0, none⟩ (.string d.name)) T d := by
  unfold DB at h ⊢
  simp [World.setCell, Array.getElem?_modify, h]
theorem DB.set1 {w : World} {T : Nat} {d : Dc} (h : DB w T d) : DB (w.setCell ⟨T, 1, none⟩ (.string d.val)) T d := by
  unfold DB at h ⊢
  simp [World.setCell, Array.getElem?_modify, h]
set_option maxRecDepth 100000 in
set_option maxHeartbeats 4000000 in
theorem expand_any (d : Dc) (w : World) (hs : SmD d) (hT : Tab w) :
    Calls Tryz.prog 94 #[declV d] w fun e w' => Ans w' e (expB d) ∧ Below w.heap.size w w' := by
  have HX : Hid (expB d = if isE d then (if 4 < (cutB d.val).length then none else some (fourB d.strong (cutB d.val))) else some [d]) := rfl
  generalize expB d = R at *
  obtain ⟨h1, h2⟩ := hs
  have HV := hid h2
  have HT := hid hT
  unfold lim at h1 h2
  clear hT
  have HB0 : Hid (Below w.heap.size w (w.alloc (.cells #[.string d.name, .string d.val, .bool d.strong] 40))) := (Below.refl _ _).alloc (Nat.le_refl _) _
  have HD0 := hid (DB.new w d)
  have hS : DB (w.alloc (.cells #[.string d.name, .string d.val, .bool d.strong] 40)) w.heap.size d := HD0.out
  obtain ⟨nm, vl, st⟩ := d
  simp only [declV] at *
  go_enter Tryz.func94, Tryz.ntmps94
  go_wp2_with fail
  generalize w.alloc (.cells #[.string nm, .string vl, .bool st] 40) = w0 at *
  have hS0 : w0.cell? ⟨w.heap.size, 0, none⟩ = some (.string nm) ∧ w0.cell? ⟨w.heap.size, 1, none⟩ = some (.string vl) := ⟨hS.cell.1, hS.cell.2.1⟩
  obtain ⟨f0, f1, f2⟩ := hS.fz
  go_region_with (first | (go_at_call 86; refine (clone_any _ _ (by omega)).mono ?_; rintro e w' ⟨rfl, hb⟩; have HQ : Hid (DB w' w.heap.size ⟨nm, vl, st⟩ ∧ Below w.heap.size w w') := (by first | exact ⟨DB.below HQ.out.1 hb, below_trans HQ.out.2 hb (Nat.le_refl _)⟩ | exact ⟨DB.below (w := w0.drew) hS hb, below_trans HB0.out.drew hb (Nat.le_refl _)⟩); obtain ⟨c0, c1, c2⟩ := HQ.out.1.cell; obtain ⟨f0, f1, f2⟩ := HQ.out.1.fz; clear hb))
  all_goals
    have HD3 := hid (DB.set1 (DB.set0 HQ.out.1))
    have HB3 : Hid (Below w.heap.size w ((w'.setCell ⟨w.heap.size, 0, none⟩ (.string nm)).setCell ⟨w.heap.size, 1, none⟩ (.string vl))) := (HQ.out.2.setCell (Nat.le_refl _) _).setCell (Nat.le_refl _) _
    simp only at HD3
    clear hS hS0
    clear HD0 HB0
    generalize (w'.setCell ⟨w.heap.size, 0, none⟩ (.string nm)).setCell ⟨w.heap.size, 1, none⟩ (.string vl) = w3 at *
    obtain ⟨g0, g1, g2⟩ := HD3.out.cell
    simp only at g0 g1 g2
    have HE : Hid (isE ⟨nm, vl, st⟩ = (nm.toList == [101, 100, 103, 101])) := isE_eq _
    cases hq : (nm.toList == [101, 100, 103, 101])
    · have HR : Hid (R = some [⟨nm, vl, st⟩]) := by
        show R = _
        rw [HX.out, HE.out, hq]
        rfl
      go_wp2_with fail
      go_ret2
      rw [HR.out]
      exact ⟨⟨_, _, rfl, ds_new w3 ⟨nm, vl, st⟩⟩, HB3.out.alloc HB3.out.size _⟩
    · have HR : Hid (R = if 4 < (cutB vl).length then none else some (fourB st (cutB vl))) := by
        show R = _
        rw [HX.out, HE.out, hq]
        rfl
      go_wp2_with fail
      refine (edge_any ⟨nm, vl, st⟩ w3 HV.out (HT.out.ext (Ext.below HB3.out))).mono ?_
      rintro e w4 ⟨hA, hb4⟩
      have HB4 := hid (below_trans HB3.out hb4 (Nat.le_refl _))
      clear hb4
      simp only at hA
      rw [← HR.out] at hA
      have HA := hid hA
      cases R with
      | none =>
        obtain rfl : e = .returned badV := hA
        simp only [badV]
        go_wp2_with fail
        go_ret2
        exact ⟨rfl, HB4.out⟩
      | some l =>
        obtain ⟨a, c, rfl, hD⟩ := hA
        have HDD := hid hD
        clear hD
        go_wp2_with fail
        go_ret2
        exact ⟨⟨a, c, rfl, HDD.out⟩, HB4.out⟩
end Go.Proofs.YtblkldfokeeaeacGreatDoor
namespace Go.Proofs.YtblkldfokeeaeacGreatDoor
open Go.RowKit
set_option maxRecDepth 100000 in
set_option maxHeartbeats 4000000 in
theorem all_any (lv : Value) (l : List Dc) (w : World) (hl : DsAt w lv l) (hs : SmDs l) (hT : Tab w) :
    Calls Tryz.prog 62 #[lv] w fun e w' => Ans w' e (allB l) ∧ Below w.heap.size w w' := by
  obtain ⟨sa, sc, rfl⟩ := Sl.form hl
  have HL := hid hl
  have HS := hid hs.2
  have HT := hid hT
  have hll := hs.1
  unfold lim at hll
  clear hl hs hT
  go_enter Tryz.func62, Tryz.ntmps62
  go_wp2_with fail
  go_loopg [4, 11] l.length (fun n v i wr => ∃ (k : Nat) (A : List Dc), n = l.length - k ∧ k ≤ l.length ∧ i = .int .i64 (k : Int) ∧ allB (l.take k) = some A ∧ wr.ownsRow w.heap.size 40 3 v A.length (A.flatMap encD) ∧ Below w.heap.size w wr)
  case atStart => exact ⟨0, [], rfl, Nat.zero_le _, rfl, rfl, World.ownsRow_nil _ _ _ _, Below.refl _ _⟩
  case round =>
    obtain ⟨k, A, hn, hk, rfl, hA, hO, hB⟩ := hrel
    have GK := hid hn
    have HO := hid hO
    have HB := hid hB
    have HA := hid hA
    have hAl := allB_len hA
    have X := Ext.below hB
    have HL' := HL.out.ext X
    have HT' := hid (HT.out.ext X)
    rename World => wo
    obtain ⟨va, vc, rfl⟩ := own_form hO
    clear hn hO hB X hA
    have hAs : A.length ≤ 4194304 := by simp at hAl; omega
    clear hAl
    by_cases hlt : k < l.length
    · obtain ⟨b, off, rfl, he⟩ := Sl.at HL' hlt
      obtain ⟨c0, c1, c2⟩ := he.cells
      have HSk := hid (HS.out l[k] (List.getElem_mem hlt))
      have HN1 := hid (allB_next hlt HA.out)
      have HN2 := hid (fun h => allB_none hlt HA.out h)
      clear he HL'
      generalize l[k] = d at *
      obtain ⟨nm, vl, st⟩ := d
      simp only at c0 c1 c2
      go_wp2_with fail
      have HBa : Hid (Below w.heap.size w (wo.alloc (.cells #[.string nm, .string vl, .bool st] 40))) := HB.out.alloc HB.out.size _
      have HTa := hid (HT'.out.ext (ext_alloc wo (.cells #[.string nm, .string vl, .bool st] 40)))
      have HOa := hid (HO.out.alloc (.cells #[.string nm, .string vl, .bool st] 40))
      generalize wo.alloc (.cells #[.string nm, .string vl, .bool st] 40) = w1 at *
      refine (expand_any ⟨nm, vl, st⟩ w1 HSk.out HTa.out).mono ?_
      rintro e w2 ⟨hX, hb2⟩
      have HB2 := hid (below_trans HBa.out hb2 (Nat.le_refl _))
      have HO2 := hid (own_ext HOa.out hb2)
      clear hb2 HOa HBa HTa
      cases hx : expB ⟨nm, vl, st⟩ with
      | none =>
        rw [hx] at hX
        obtain rfl : e = .returned badV := hX
        have HF := hid (HN2.out hx)
        simp only [badV]
        clear hx
        go_wp2_with fail
        go_ret2
        rw [HF.out]
        exact ⟨rfl, HB2.out⟩
      | some x =>
        rw [hx] at hX
        obtain ⟨xa, xc, rfl, hD⟩ := hX
        have HF : Hid (allB (l.take (k + 1)) = some (A ++ x)) := by
          show _ = _
          rw [HN1.out, hx]; rfl
        have hxl := expB_len hx
        have HSR := hid (DsAt.src hD)
        clear hx hD
        go_wp2_with (at_builtin; refine wpList_app rfl (.tmp 23) (.tmp 24) 34 rfl w.heap.size 40 _ 3 40 Tryz.underlying34 Tryz.infoD rfl (by decide) (.slice va A.length vc) A.length (A.flatMap encD) rfl HO2.out _ x.length (x.flatMap encD) rfl HSR.out (by rw [flat_len 3 encD (fun _ => rfl)]) (one_D _) (by unfold maxLen; omega) (by omega) HB2.out.size ?_; intro v3 w3 hv3 hg3)
        have HB3 : Hid (Below w.heap.size w w3) := HB2.out.grown hg3 HB2.out.size (fun j hj => (HO2.out.lt j hj).1)
        have HO3 : Hid (w3.ownsRow w.heap.size 40 3 v3 (A ++ x).length ((A ++ x).flatMap encD)) := by
          show World.ownsRow _ _ _ _ _ _ _
          rw [List.length_append, List.flatMap_append]
          exact hv3
        clear hv3 hg3
        go_roundg (l.length - (k + 1))
        case measure => have := GK.out; omega
        case rel => exact ⟨k + 1, A ++ x, rfl, by omega, by go_num, HF.out, HO3.out, HB3.out⟩
    · have HE : Hid (allB l = some A) := by
        show _ = _
        have := HA.out
        rw [List.take_of_length_le (by omega)] at this
        exact this
      clear HL'
      go_wp2_with fail
      go_ret2
      rw [HE.out]
      exact ⟨⟨va, vc, rfl, DsAt.own HO.out⟩, HB.out⟩
end Go.Proofs.YtblkldfokeeaeacGreatDoor
namespace Go.Proofs.YtblkldfokeeaeacGreatDoor
open Go.RowKit Go.Maps
theorem keyS : Keyed Tryz.prog 9 := string_keyed Tryz.underlying9
abbrev Key := List UInt8
def updK {β : Type} (f : Key → Option β) (k : Key) (c : β) : Key → Option β := fun q => if q = k then some c else f q
section
variable {β : Type}
def Mp (R : Value → Option (DataW Unit × List MemPlace)) (dt : β → DataW Unit) (w : World) (B n : Nat) (f : Key → Option β) : Prop :=
  ∃ D : DataW Unit, w.ownsMap Tryz.prog 9 R B n D ∧ ∀ q z, D.atKey (.string q) z = match f q with
    | none => z
    | some x => dt x
variable {R : Value → Option (DataW Unit × List MemPlace)} {dt : β → DataW Unit} {en : β → Value}
theorem Mp.made (w : World) : Mp R dt (w.alloc (.map #[] 0)) w.heap.size 0 (fun _ => none) := ⟨_, World.ownsMap_made w _ _ _, fun _ _ => rfl⟩
theorem Mp.ins {w : World} {B n : Nat} {f : Key → Option β} (h : Mp R dt w B n f) (hn : n < 100) {t e : TypeId} (ht : Tryz.prog.underlying t = some (.map 9 e)) (k : ByteArray) (wk : k.size ≤ maxLen) (c : β) (wc : R (en c) = some (dt c, [])) :
    ∃ w', (Instr.mapUpdate t (.map (some B)) (.string k) (en c)).run Tryz.prog w = .ok () w' ∧ Mp R dt w' B (n + 1) (updK f k.data.toList c) ∧ w.grownBy w' (some B) := by
  obtain ⟨D, ho, hf⟩ := h
  obtain ⟨w', h1, h2, h3⟩ := ho.update keyS ht (by unfold maxLen; omega) (WideMaps.keyOf_string_mk Tryz.underlying9 wk) wc
  refine ⟨w', h1, ⟨_, h2, fun q z => ?_⟩, h3⟩
  have hm : IsMap D := ho.isMap
  unfold updK
  by_cases e : q = k.data.toList
  · subst e
    rw [if_pos rfl]
    exact atKey_put_same hm (by simp [WideAt.IsKeyLit]) _ _
  · rw [if_neg e, atKey_put_other (by intro h; injection h with h; exact e h)]
    exact hf q z
theorem Mp.look {w : World} {B n : Nat} {f : Key → Option β} (h : Mp R dt w B n f) {t e : TypeId} (ht : Tryz.prog.underlying t = some (.map 9 e)) (z0 : β) (hz : (zeroValue e).run Tryz.prog w = .ok (en z0) w) (wz : R (en z0) = some (dt z0, []))
    (inv : ∀ v x ps, R v = some (dt x, ps) → v = en x) (k : ByteArray) (wk : k.size ≤ maxLen) : (Instr.lookup t (.map (some B)) (.string k) false).run Tryz.prog w = .ok (en ((f k.data.toList).getD z0)) w := by
  obtain ⟨D, ho, hf⟩ := h
  obtain ⟨v, ps, h1, h2⟩ := ho.lookup keyS ht hz wz (WideMaps.keyOf_string_mk Tryz.underlying9 wk)
  rw [hf] at h2
  rw [h1]
  cases hq : f k.data.toList with
  | none => rw [hq] at h2; rw [inv _ _ _ h2]; rfl
  | some x => rw [hq] at h2; rw [inv _ _ _ h2]; rfl
theorem Mp.look2 {w : World} {B n : Nat} {f : Key → Option β} (h : Mp R dt w B n f) {t e : TypeId} (ht : Tryz.prog.underlying t = some (.map 9 e)) (z0 : β) (hz : (zeroValue e).run Tryz.prog w = .ok (en z0) w) (wz : R (en z0) = some (dt z0, []))
    (inv : ∀ v x ps, R v = some (dt x, ps) → v = en x) (k : ByteArray) (wk : k.size ≤ maxLen) : (Instr.lookup t (.map (some B)) (.string k) true).run Tryz.prog w = .ok (.tuple #[en ((f k.data.toList).getD z0), .bool (f k.data.toList).isSome]) w := by
  obtain ⟨D, ho, hf⟩ := h
  obtain ⟨v, ps, h1, h2⟩ := ho.look_ok keyS ht hz wz (WideMaps.keyOf_string_mk Tryz.underlying9 wk)
  rw [h1]
  have hq2 := hf k.data.toList
  rw [hf] at h2
  cases hq : f k.data.toList with
  | none => rw [hq] at h2 hq2; rw [inv _ _ _ h2, has_false_of_atKey hq2]; rfl
  | some x => rw [hq] at h2 hq2; rw [inv _ _ _ h2, has_true_of_atKey hq2]; rfl
theorem Mp.below {w w' : World} {B n : Nat} {f : Key → Option β} (h : Mp R dt w B n f) (hb : Below w.heap.size w w') : Mp R dt w' B n f := by
  obtain ⟨D, ho, hf⟩ := h
  refine ⟨D, ?_, hf⟩
  obtain ⟨es, c, h1, h2⟩ := ho
  exact ⟨es, c, by rw [hb.block B (Array.getElem?_eq_some_iff.1 h1).1]; exact h1, h2⟩
def MI (R : Value → Option (DataW Unit × List MemPlace)) (dt : β → DataW Unit) (W w : World) (n : Nat) (f : Key → Option β) : Prop := Mp R dt w W.heap.size n f ∧ Below W.heap.size W w
theorem MI.made (W : World) : MI R dt W (W.alloc (.map #[] 0)) 0 (fun _ => none) := ⟨Mp.made W, (Below.refl _ _).alloc (Nat.le_refl _) _⟩
end
def pV (x : Bool × ByteArray) : Value := .agg #[.bool x.1, .string x.2]
def pD (x : Bool × ByteArray) : DataW Unit := .agg [.lit (.bool x.1), .lit (.string x.2.data.toList)]
def pR (v : Value) : Option (DataW Unit × List MemPlace) := match v with
  | .agg ⟨[.bool b, .string s]⟩ => some (.agg [.lit (.bool b), .lit (.string s.data.toList)], [])
  | _ => none
theorem pR_mk (x : Bool × ByteArray) : pR (pV x) = some (pD x, []) := rfl
theorem pR_inv (v : Value) (x : Bool × ByteArray) (ps : List MemPlace) (h : pR v = some (pD x, ps)) : v = pV x := by
  unfold pR at h
  split at h
  · rename_i b s
    simp only [pD, Option.some.injEq, Prod.mk.injEq, DataW.agg.injEq, List.cons.injEq, DataW.lit.injEq, Lit.bool.injEq, Lit.string.injEq, and_true] at h
    obtain ⟨⟨h1, h2⟩, _⟩ := h
    rw [h1, ByteArray.ext (Array.toList_inj.1 h2)]
    rfl
  · cases h
theorem zero137 (w : World) : (zeroValue 137).run Tryz.prog w = .ok (pV (false, ⟨#[]⟩)) w := by kernel_rfl
abbrev MIp := MI pR pD
abbrev Mpp := Mp pR pD
theorem uponP_make {W : World} {o : Oper} {a : Act} {K : Act → World → Prop} {Q : Exit → Act → World → Prop} (hK : K (a.put o.dst (.map (some W.heap.size))) (W.alloc (.map #[] 0))) :
    Oper.upon Tryz.prog o a K Q (((Instr.makeMap 138 none).run Tryz.prog W).andThen fun v w' => .ok (.value v) w') := by
  rw [run_makeMap]
  exact hK
theorem MI.below {β : Type} {R : Value → Option (DataW Unit × List MemPlace)} {dt : β → DataW Unit} {W w : World} {n : Nat} {f : Key → Option β} (h : MI R dt W w n f) : Below W.heap.size W w := h.2
theorem MI.mp {β : Type} {R : Value → Option (DataW Unit × List MemPlace)} {dt : β → DataW Unit} {W w : World} {n : Nat} {f : Key → Option β} (h : MI R dt W w n f) : Mp R dt w W.heap.size n f := h.1
theorem MI.mk {β : Type} {R : Value → Option (DataW Unit × List MemPlace)} {dt : β → DataW Unit} {W w : World} {n : Nat} {f : Key → Option β} (h : Mp R dt w W.heap.size n f) (hb : Below W.heap.size W w) : MI R dt W w n f := ⟨h, hb⟩
set_option maxRecDepth 100000 in
theorem uponP_ins {W w : World} {o : Oper} {a : Act} {K : Act → World → Prop} {Q : Exit → Act → World → Prop} {n : Nat} {f : Key → Option (Bool × ByteArray)} {k s : ByteArray} {b : Bool} (h : MIp W w n f) (hn : n < 100) (wk : k.size ≤ maxLen)
    (hK : ∀ w', MIp W w' (n + 1) (updK f k.data.toList (b, s)) → K (a.put o.dst undef) w') :
    Oper.upon Tryz.prog o a K Q (((Instr.mapUpdate 138 (.map (some W.heap.size)) (.string k) (.agg #[.bool b, .string s])).run Tryz.prog w).andThen fun _ w' => .ok .skip w') := by
  have hx := Mp.ins (R := pR) (dt := pD) (en := pV) (MI.mp h) hn (e := 137) Tryz.underlying138 k wk (b, s) (pR_mk (b, s))
  refine hx.elim fun w' hx => ?_
  have h1 := hx.1
  have h2 := hx.2.1
  have h3 := hx.2.2
  have h1' : (Instr.mapUpdate 138 (.map (some W.heap.size)) (.string k) (.agg #[.bool b, .string s])).run Tryz.prog w = .ok () w' := h1
  rw [h1']
  exact hK w' (MI.mk h2 ((MI.below h).grown h3 (MI.below h).size (fun j hj => by injection hj with hj; omega)))
def black : ByteArray := ⟨#[98, 108, 97, 99, 107]⟩
def plainN : ByteArray := ⟨#[112, 108, 97, 105, 110]⟩
def ten : ByteArray := ⟨#[49, 48]⟩
def nought : ByteArray := ⟨#[48]⟩
def noneN : ByteArray := ⟨#[110, 111, 110, 101]⟩
def kf3 : Key → Option (Bool × ByteArray) := updK (updK (updK (fun _ => none) cN.data.toList (true, black)) fN.data.toList (true, plainN)) zN.data.toList (true, ten)
def kf4 : Key → Option (Bool × ByteArray) := updK kf3 sd0.data.toList (false, nought)
def kf5 : Key → Option (Bool × ByteArray) := updK kf4 sd1.data.toList (false, nought)
def kf6 : Key → Option (Bool × ByteArray) := updK kf5 sd2.data.toList (false, nought)
def kf7 : Key → Option (Bool × ByteArray) := updK kf6 sd3.data.toList (false, nought)
def kfs : Nat → Key → Option (Bool × ByteArray)
  | 0 => kf3
  | 1 => kf4
  | 2 => kf5
  | 3 => kf6
  | _ => kf7
set_option maxRecDepth 100000 in
set_option maxHeartbeats 4000000 in
theorem known_any (w : World) (hT : Tab w) :
    Calls Tryz.prog 68 #[] w fun e w' => e = .returned (.map (some w.heap.size)) ∧ Mpp w' w.heap.size 7 kf7 ∧ Below w.heap.size w w' := by
  have HT := hid hT
  clear hT
  go_enter Tryz.func68, Tryz.ntmps68
  go_wp2_with fail
  refine uponP_make ?_
  have hM : MIp w (w.alloc (.map #[] 0)) 0 (fun _ => none) := MI.made w
  generalize w.alloc (.map #[] 0) = w0 at *
  have KT : ∀ {w'}, Below w.heap.size w w' → Hid (Tab w') := fun h => HT.out.ext (Ext.below h)
  go_wp2_with (with_reducible refine uponP_ins (W := w) (by assumption) ?_ ?_ ?_; (focus decide); (focus decide); intro w' hM'; obtain ⟨s0, s1, s2, s3, _, _, _, _, _⟩ := (KT (MI.below hM')).out)
  have HM3 : Hid (MIp w w' 3 kf3) := hM'
  clear hM'
  generalize w' = w3 at *
  go_loopg [10] 4 (fun n i wr => ∃ k : Nat, n = 4 - k ∧ k ≤ 4 ∧ i = .int .i64 (k : Int) ∧ MIp w wr (3 + k) (kfs k))
  case atStart => exact ⟨0, rfl, Nat.zero_le _, rfl, HM3.out⟩
  case round =>
    clear HM3 s0 s1 s2 s3
    obtain ⟨k, hn, hk, rfl, hM⟩ := hrel
    have GK := hid hn
    have hk' : k = 0 ∨ k = 1 ∨ k = 2 ∨ k = 3 ∨ k = 4 := by omega
    clear hn hk
    rcases hk' with rfl | rfl | rfl | rfl | rfl
    · have ix := idx0 sd0 sd1 sd2 sd3
      go_wp2_with fail
      refine uponP_ins (W := w) hM (by decide) (by decide) fun w' hM' => ?_
      have HMn : Hid (MIp w w' (3 + 1) (kfs 1)) := hM'
      clear hM'
      go_wp2_with fail
      go_roundg (4 - 1)
      case measure => have := GK.out; omega
      case rel => exact ⟨1, rfl, by omega, by go_num, HMn.out⟩
    · have ix := idx1 sd0 sd1 sd2 sd3
      go_wp2_with fail
      refine uponP_ins (W := w) hM (by decide) (by decide) fun w' hM' => ?_
      have HMn : Hid (MIp w w' (3 + 2) (kfs 2)) := hM'
      clear hM'
      go_wp2_with fail
      go_roundg (4 - 2)
      case measure => have := GK.out; omega
      case rel => exact ⟨2, rfl, by omega, by go_num, HMn.out⟩
    · have ix := idx2 sd0 sd1 sd2 sd3
      go_wp2_with fail
      refine uponP_ins (W := w) hM (by decide) (by decide) fun w' hM' => ?_
      have HMn : Hid (MIp w w' (3 + 3) (kfs 3)) := hM'
      clear hM'
      go_wp2_with fail
      go_roundg (4 - 3)
      case measure => have := GK.out; omega
      case rel => exact ⟨3, rfl, by omega, by go_num, HMn.out⟩
    · have ix := idx3 sd0 sd1 sd2 sd3
      go_wp2_with fail
      refine uponP_ins (W := w) hM (by decide) (by decide) fun w' hM' => ?_
      have HMn : Hid (MIp w w' (3 + 4) (kfs 4)) := hM'
      clear hM'
      go_wp2_with fail
      go_roundg (4 - 4)
      case measure => have := GK.out; omega
      case rel => exact ⟨4, rfl, by omega, by go_num, HMn.out⟩
    · go_wp2_with fail
      go_ret
      exact ⟨rfl, hM.mp, hM.below⟩
end Go.Proofs.YtblkldfokeeaeacGreatDoor
namespace Go.Proofs.YtblkldfokeeaeacGreatDoor
open Go.RowKit Go.Maps
def inhB (name : ByteArray) : Bool := ((kf7 name.data.toList).getD (false, ⟨#[]⟩)).1
def iniB (name : ByteArray) : ByteArray := match kf7 name.data.toList with
  | some x => x.2
  | none => noneN
theorem field137 (b : Bool) (s : ByteArray) (w : World) : (Instr.field 137 (.agg #[.bool b, .string s]) 0).run Tryz.prog w = .ok (.bool b) w := by
  simp [Instr.field, go_sem, Go.part, asAgg]
end Go.Proofs.YtblkldfokeeaeacGreatDoor
namespace Go.Proofs.YtblkldfokeeaeacGreatDoor
open Go.RowKit
def cmpFrom (x y : Wt) : Nat → Int
  | 0 => cmp3 x y
  | 1 => if x.b < y.b then -1 else if y.b < x.b then 1 else if x.c < y.c then -1 else if y.c < x.c then 1 else 0
  | 2 => if x.c < y.c then -1 else if y.c < x.c then 1 else 0
  | _ => 0
theorem cmpInt_lt {a b : Int} (h : a < b) : Lib.compareInt a b = -1 := by simp [Lib.compareInt, h]
theorem cmpInt_gt {a b : Int} (h : b < a) : Lib.compareInt a b = 1 := by simp [Lib.compareInt, h]; omega
theorem cmpInt_eq (a : Int) : Lib.compareInt a a = 0 := by simp [Lib.compareInt]
set_option maxHeartbeats 2000000 in
theorem compare_any (T U : Nat) (x y : Wt) (w : World) (hx : WB w T x.a x.b x.c) (hy : WB w U y.a y.b y.c) :
    Calls Tryz.prog 101 #[.slice (some ⟨T, 0, none⟩) 3 3, .slice (some ⟨U, 0, none⟩) 3 3] w fun e w' => e = .returned (.int .i64 (cmp3 x y)) ∧ w' = w := by
  obtain ⟨x0, x1, x2⟩ := hx.cell
  obtain ⟨y0, y1, y2⟩ := hy.cell
  clear hx hy
  obtain ⟨a, b, c⟩ := x
  obtain ⟨p, q, r⟩ := y
  simp only at x0 x1 x2 y0 y1 y2
  have HC : Hid (cmp3 ⟨a, b, c⟩ ⟨p, q, r⟩ = cmpFrom ⟨a, b, c⟩ ⟨p, q, r⟩ 0) := rfl
  generalize cmp3 ⟨a, b, c⟩ ⟨p, q, r⟩ = R at *
  go_enter Tryz.func101, Tryz.ntmps101
  go_wp2_with fail
  go_loopg [11] 3 (fun n i wr => ∃ j : Nat, n = 3 - j ∧ j ≤ 3 ∧ i = .int .i64 (j : Int) ∧ R = cmpFrom ⟨a, b, c⟩ ⟨p, q, r⟩ j ∧ wr = w)
  case atStart => exact ⟨0, rfl, Nat.zero_le _, rfl, HC.out, rfl⟩
  case round =>
    obtain ⟨j, hn, hj, rfl, hR, hw⟩ := hrel
    subst hw
    have GK := hid hn
    have HR := hid hR
    clear hn hR
    by_cases h3 : j = 3
    · subst h3
      have HR2 : Hid (R = 0) := HR.out
      go_wp2_with fail
      go_ret
      exact ⟨ret_int HR2.out.symm, rfl⟩
    · have hj3 : j = 0 ∨ j = 1 ∨ j = 2 := by omega
      clear h3 hj
      rcases hj3 with rfl | rfl | rfl
      · rcases Int.lt_trichotomy a p with h | h | h
        · have HR2 : Hid (R = -1) := by have := HR.out; simpa [cmpFrom, cmp3, h, Hid] using this
          go_wp2_with (go_at_call 57; refine (Tryz.cmp_Compare_int _ _ _).mono ?_; rintro e w' ⟨rfl, rfl⟩; rw [cmpInt_lt h])
          go_ret
          exact ⟨ret_int HR2.out.symm, rfl⟩
        · subst h
          have HR2 : Hid (R = cmpFrom ⟨a, b, c⟩ ⟨a, q, r⟩ 1) := by have := HR.out; simpa [cmpFrom, cmp3, Hid] using this
          go_wp2_with (go_at_call 57; refine (Tryz.cmp_Compare_int _ _ _).mono ?_; rintro e w' ⟨rfl, rfl⟩; rw [cmpInt_eq])
          go_roundg 2
          case measure => have := GK.out; omega
          case rel => exact ⟨1, rfl, by omega, by go_num, HR2.out, rfl⟩
        · have HR2 : Hid (R = 1) := by have := HR.out; simpa [cmpFrom, cmp3, h, Int.not_lt.2 (Int.le_of_lt h), Hid] using this
          go_wp2_with (go_at_call 57; refine (Tryz.cmp_Compare_int _ _ _).mono ?_; rintro e w' ⟨rfl, rfl⟩; rw [cmpInt_gt h])
          go_ret
          exact ⟨ret_int HR2.out.symm, rfl⟩
      · rcases Int.lt_trichotomy b q with h | h | h
        · have HR2 : Hid (R = -1) := by have := HR.out; simpa [cmpFrom, h, Hid] using this
          go_wp2_with (go_at_call 57; refine (Tryz.cmp_Compare_int _ _ _).mono ?_; rintro e w' ⟨rfl, rfl⟩; rw [cmpInt_lt h])
          go_ret
          exact ⟨ret_int HR2.out.symm, rfl⟩
        · subst h
          have HR2 : Hid (R = cmpFrom ⟨a, b, c⟩ ⟨p, b, r⟩ 2) := by have := HR.out; simpa [cmpFrom, Hid] using this
          go_wp2_with (go_at_call 57; refine (Tryz.cmp_Compare_int _ _ _).mono ?_; rintro e w' ⟨rfl, rfl⟩; rw [cmpInt_eq])
          go_roundg 1
          case measure => have := GK.out; omega
          case rel => exact ⟨2, rfl, by omega, by go_num, HR2.out, rfl⟩
        · have HR2 : Hid (R = 1) := by have := HR.out; simpa [cmpFrom, h, Int.not_lt.2 (Int.le_of_lt h), Hid] using this
          go_wp2_with (go_at_call 57; refine (Tryz.cmp_Compare_int _ _ _).mono ?_; rintro e w' ⟨rfl, rfl⟩; rw [cmpInt_gt h])
          go_ret
          exact ⟨ret_int HR2.out.symm, rfl⟩
      · rcases Int.lt_trichotomy c r with h | h | h
        · have HR2 : Hid (R = -1) := by have := HR.out; simpa [cmpFrom, h, Hid] using this
          go_wp2_with (go_at_call 57; refine (Tryz.cmp_Compare_int _ _ _).mono ?_; rintro e w' ⟨rfl, rfl⟩; rw [cmpInt_lt h])
          go_ret
          exact ⟨ret_int HR2.out.symm, rfl⟩
        · subst h
          have HR2 : Hid (R = cmpFrom ⟨a, b, c⟩ ⟨p, q, c⟩ 3) := by have := HR.out; simpa [cmpFrom, Hid] using this
          go_wp2_with (go_at_call 57; refine (Tryz.cmp_Compare_int _ _ _).mono ?_; rintro e w' ⟨rfl, rfl⟩; rw [cmpInt_eq])
          go_roundg 0
          case measure => have := GK.out; omega
          case rel => exact ⟨3, rfl, by omega, by go_num, HR2.out, rfl⟩
        · have HR2 : Hid (R = 1) := by have := HR.out; simpa [cmpFrom, h, Int.not_lt.2 (Int.le_of_lt h), Hid] using this
          go_wp2_with (go_at_call 57; refine (Tryz.cmp_Compare_int _ _ _).mono ?_; rintro e w' ⟨rfl, rfl⟩; rw [cmpInt_gt h])
          go_ret
          exact ⟨ret_int HR2.out.symm, rfl⟩
theorem eS.cells {w : World} {b o : Nat} {x : List Pt} (h : eS w (fun j => w.cell? ⟨b, o + j, none⟩) x) : ∃ a cap, w.cell? ⟨b, o, none⟩ = some (.slice a x.length cap) ∧ PsAt w (.slice a x.length cap) x := by
  obtain ⟨v, h1, h2⟩ := h
  obtain ⟨a, cap, rfl⟩ := Sl.form h2
  exact ⟨a, cap, h1, h2⟩
def SmSs (ss : List (List Pt)) : Prop := ss.length ≤ lim ∧ ∀ s ∈ ss, SmS s
def ruleV (md : ByteArray) (ssv dcv : Value) (rf rt : Int) : Value := .agg #[.string md, ssv, dcv, .int .i64 rf, .int .i64 rt]
def bestV (b : Wt × Bool) : Value := .tuple #[wtV b.1, .bool b.2]
set_option maxRecDepth 100000 in
set_option maxHeartbeats 4000000 in
theorem best_any (lv : Value) (l : List Nd) (k : Int) (md : ByteArray) (ss : List (List Pt)) (ssv : Value) (da : Option Addr) (dn dc : Nat) (rf rt : Int) (w : World) (hl : NdsAt w lv l) (hs : SmNs l) (hm : Mx w) (hS : SsAt w ssv ss) (hss : SmSs ss) :
    Calls Tryz.prog 97 #[lv, .int .i64 k, ruleV md ssv (.slice da dn dc) rf rt] w fun e w' => e = .returned (bestV (bestTo l k ss (w00, false))) ∧ Below w.heap.size w w' := by
  obtain ⟨sa, scap, rfl⟩ := Sl.form hS
  have HL := hid hl
  have HN := hid hs
  have HM := hid hm
  have HP := hid hS
  have HSS := hid hss.2
  have hsl := hss.1
  unfold lim at hsl
  clear hl hs hm hS hss
  have HB0 : Hid (bestTo l k ss (w00, false) = bestTo l k (ss.drop 0) (w00, false)) := rfl
  generalize bestTo l k ss (w00, false) = B at *
  simp only [ruleV]
  go_enter Tryz.func97, Tryz.ntmps97
  go_wp2_with fail
  have W0 := WB.new ((w.alloc (.cells #[.string md, .slice sa ss.length scap, .slice da dn dc, .int .i64 rf, .int .i64 rt] 38)).alloc (.cells #[.int .i64 0, .int .i64 0, .int .i64 0] 86)) 0 0 0
  have R0 := (WB.new (w.alloc (.cells #[.string md, .slice sa ss.length scap, .slice da dn dc, .int .i64 rf, .int .i64 rt] 38)) 0 0 0).alloc (.cells #[.int .i64 0, .int .i64 0, .int .i64 0] 86)
  have hb0 : Below w.heap.size w (((w.alloc (.cells #[.string md, .slice sa ss.length scap, .slice da dn dc, .int .i64 rf, .int .i64 rt] 38)).alloc (.cells #[.int .i64 0, .int .i64 0, .int .i64 0] 86)).alloc (.cells #[.int .i64 0, .int .i64 0, .int .i64 0] 86)) := (((Below.refl _ _).alloc (Nat.le_refl _) _).alloc (by simp) _).alloc (by simp; omega) _
  rw [show ((w.alloc (.cells #[.string md, .slice sa ss.length scap, .slice da dn dc, .int .i64 rf, .int .i64 rt] 38)).alloc (.cells #[.int .i64 0, .int .i64 0, .int .i64 0] 86)).heap.size = w.heap.size + 1 + 1 by simp] at W0
  rw [show (w.alloc (.cells #[.string md, .slice sa ss.length scap, .slice da dn dc, .int .i64 rf, .int .i64 rt] 38)).heap.size = w.heap.size + 1 by simp] at R0
  have HW0 := hid W0
  have HR0 := hid R0
  have HBB := hid hb0
  clear W0 R0 hb0
  generalize ((w.alloc (.cells #[.string md, .slice sa ss.length scap, .slice da dn dc, .int .i64 rf, .int .i64 rt] 38)).alloc (.cells #[.int .i64 0, .int .i64 0, .int .i64 0] 86)).alloc (.cells #[.int .i64 0, .int .i64 0, .int .i64 0] 86) = W at *
  go_loopg [9, 16] ss.length (fun n f i wr => ∃ (j : Nat) (bw : Wt) (fd : Bool), n = ss.length - j ∧ j ≤ ss.length ∧ i = .int .i64 (j : Int) ∧ f = .bool fd ∧ B = bestTo l k (ss.drop j) (bw, fd) ∧ WB wr (w.heap.size + 1 + 1) bw.a bw.b bw.c ∧ WB wr (w.heap.size + 1) 0 0 0 ∧ Below w.heap.size w wr)
  case atStart => exact ⟨0, w00, false, rfl, Nat.zero_le _, rfl, rfl, HB0.out, HW0.out, HR0.out, HBB.out⟩
  case round =>
    clear HW0 HR0 HBB HB0
    obtain ⟨j, bw, fd, hn, hj, rfl, rfl, hE, hW, hR, hB⟩ := hrel
    have GK := hid hn
    have HE := hid hE
    have HW := hid hW
    have HR := hid hR
    have HB := hid hB
    clear hn hE hW hR hB
    by_cases hlt : j < ss.length
    · obtain ⟨b, off, rfl, he⟩ := Sl.at (SsAt.ext HP.out (Ext.below HB.out)) hlt
      obtain ⟨pa, pc, c0, hps⟩ := he.cells
      rw [Nat.mul_one] at c0
      have HPS := hid hps
      have HSM := hid (HSS.out ss[j] (List.getElem_mem hlt))
      have HE2 : Hid (B = bestTo l k (ss.drop (j + 1)) (if matchB l k ss[j] then (if 0 < cmp3 (wts ss[j]) bw then wts ss[j] else bw, true) else (bw, fd))) := by
        show B = _
        rw [HE.out, List.drop_eq_getElem_cons hlt]; rfl
      clear he hps
      generalize ss[j] = s at *
      go_wp2_with fail
      refine (matches_any lv l k _ s wr (HL.out.ext (Ext.below HB.out)) HN.out (HM.out.ext (Ext.below HB.out)) HPS.out HSM.out).mono ?_
      rintro e w2 ⟨rfl, hb⟩
      have HB2 := hid (below_trans HB.out hb (Nat.le_refl _))
      have HW2 := hid (HW.out.below hb)
      have HR2 := hid (HR.out.below hb)
      have HPS2 := hid (HPS.out.ext (Ext.below hb))
      clear hb c0
      cases hmb : matchB l k s
      · have HE3 : Hid (B = bestTo l k (ss.drop (j + 1)) (bw, fd)) := by have := HE2.out; rw [hmb] at this; exact this
        go_wp2_with fail
        go_roundg (ss.length - (j + 1))
        case measure => have := GK.out; omega
        case rel => exact ⟨j + 1, bw, fd, rfl, by omega, by go_num, rfl, HE3.out, HW2.out, HR2.out, HB2.out⟩
      · have HE3 : Hid (B = bestTo l k (ss.drop (j + 1)) (if 0 < cmp3 (wts s) bw then wts s else bw, true)) := by have := HE2.out; rw [hmb] at this; exact this
        go_wp2_with fail
        refine (weigh_any _ s w2 HPS2.out HSM.out).mono ?_
        rintro e w3 ⟨rfl, hb⟩
        have HB3 := hid (below_trans HB2.out hb (Nat.le_refl _))
        have HW3 := hid (HW2.out.below hb)
        have HR3 := hid (HR2.out.below hb)
        clear hb
        generalize wts s = x at *
        obtain ⟨xa, xb, xc⟩ := x
        obtain ⟨ba, bb, bc⟩ := bw
        simp only [wtV]
        go_wp2_with fail
        have HX4 := hid (WB.new w3 xa xb xc)
        have HW4 := hid (HW3.out.alloc (.cells #[.int .i64 xa, .int .i64 xb, .int .i64 xc] 86))
        have HR4 := hid (HR3.out.alloc (.cells #[.int .i64 xa, .int .i64 xb, .int .i64 xc] 86))
        have HB4 := hid (HB3.out.alloc HB3.out.size (.cells #[.int .i64 xa, .int .i64 xb, .int .i64 xc] 86))
        have hUT : w.heap.size + 1 + 1 < w3.heap.size := HW3.out.lt
        generalize w3.alloc (.cells #[.int .i64 xa, .int .i64 xb, .int .i64 xc] 86) = w4 at *
        generalize w3.heap.size = U at *
        obtain ⟨y0, y1, y2⟩ := HX4.out.cell
        have CC : ∀ n, Calls Tryz.prog 101 #[.slice (some ⟨U, 0, none⟩) 3 3, .slice (some ⟨w.heap.size + 1 + 1, 0, none⟩) 3 3] (w4.drewN n) fun e w' => e = .returned (.int .i64 (cmp3 ⟨xa, xb, xc⟩ ⟨ba, bb, bc⟩)) ∧ w' = w4.drewN n := fun n => compare_any U (w.heap.size + 1 + 1) ⟨xa, xb, xc⟩ ⟨ba, bb, bc⟩ (w4.drewN n) HX4.out HW4.out
        have HCC := hid CC
        clear CC
        by_cases hc : 0 < cmp3 ⟨xa, xb, xc⟩ ⟨ba, bb, bc⟩
        · have HE4 : Hid (B = bestTo l k (ss.drop (j + 1)) (⟨xa, xb, xc⟩, true)) := by have := HE3.out; rw [if_pos hc] at this; exact this
          generalize cmp3 ⟨xa, xb, xc⟩ ⟨ba, bb, bc⟩ = c at *
          go_quiet ((go_at_call 101; exact Calls.quiet_of_same (HCC.out _)))
          have HX5 : Hid (WB (w4.drewN nq) U xa xb xc) := HX4.out
          have HW5 : Hid (WB (w4.drewN nq) (w.heap.size + 1 + 1) ba bb bc) := HW4.out
          have HR5 : Hid (WB (w4.drewN nq) (w.heap.size + 1) 0 0 0) := HR4.out
          have HB5 := hid (below_dN HB4.out nq)
          clear HCC HX4 HW4 HR4 HB4 y0 y1 y2
          generalize w4.drewN nq = w5 at *
          obtain ⟨y0, y1, y2⟩ := HX5.out.cell
          obtain ⟨z0, z1, z2⟩ := HW5.out.cell
          obtain ⟨f0, f1, f2⟩ := HW5.out.fz
          go_wp2_with fail
          go_roundg (ss.length - (j + 1))
          case measure => have := GK.out; omega
          case rel => exact ⟨j + 1, ⟨xa, xb, xc⟩, true, rfl, by omega, by go_num, rfl, HE4.out, ((HW5.out.set0 xa).set1 xb).set2 xc, ((HR5.out.other (by simp) _).other (by simp) _).other (by simp) _, ((HB5.out.setCell (by simp; omega) _).setCell (by simp; omega) _).setCell (by simp; omega) _⟩
        · have HE4 : Hid (B = bestTo l k (ss.drop (j + 1)) (⟨ba, bb, bc⟩, true)) := by have := HE3.out; rw [if_neg hc] at this; exact this
          generalize cmp3 ⟨xa, xb, xc⟩ ⟨ba, bb, bc⟩ = c at *
          go_quiet ((go_at_call 101; exact Calls.quiet_of_same (HCC.out _)))
          have HW5 : Hid (WB (w4.drewN nq) (w.heap.size + 1 + 1) ba bb bc) := HW4.out
          have HR5 : Hid (WB (w4.drewN nq) (w.heap.size + 1) 0 0 0) := HR4.out
          have HB5 := hid (below_dN HB4.out nq)
          clear HCC HX4 HW4 HR4 HB4 y0 y1 y2
          generalize w4.drewN nq = w5 at *
          go_wp2_with fail
          go_roundg (ss.length - (j + 1))
          case measure => have := GK.out; omega
          case rel => exact ⟨j + 1, ⟨ba, bb, bc⟩, true, rfl, by omega, by go_num, rfl, HE4.out, HW5.out, HR5.out, HB5.out⟩
    · have HE4 : Hid (B = (bw, fd)) := by
        show B = _
        rw [HE.out, List.drop_eq_nil_of_le (by omega)]; rfl
      obtain ⟨ba, bb, bc⟩ := bw
      obtain ⟨z0, z1, z2⟩ := HW.out.cell
      obtain ⟨r0, r1, r2⟩ := HR.out.cell
      obtain ⟨f0, f1, f2⟩ := HR.out.fz
      go_wp2_with fail
      obtain ⟨q0, q1, q2⟩ := (((HR.out.set0 ba).set1 bb).set2 bc).cell
      refine bodyPost_ret (v := bestV (⟨ba, bb, bc⟩, fd)) (by simp [results, Tryz.results97, go_sem, q0, q1, q2, bestV, wtV]) rfl ⟨by rw [HE4.out], ?_⟩
      exact ((HB.out.setCell (by simp) _).setCell (by simp) _).setCell (by simp) _
end Go.Proofs.YtblkldfokeeaeacGreatDoor
