/-
  What expandEdge answers: the four sides, or that there are too many values. Conditions: the text is of at most 2^20 bytes; the two tables hold what their texts say.
-/
import Derived.Test.YtnigckmaklbiaabDoorP1
import Derived.Test.YtnigckmaklbiaabDoorShelf
namespace Go.Proofs.YtnigckmaklbiaabDoor
open Go.RowKit

def declV (d : Dc) : Value := .agg #[.string d.name, .string d.val, .bool d.strong]
def badV : Value := .tuple #[.slice none 0 0, .int .i64 5]
/-- An answer: no declarations and the error, or these. -/
def Ans (w : World) (e : Ending) : Option (List Dc) → Prop
  | none => e = .returned badV
  | some l => ∃ a c, e = .returned (.tuple #[.slice a l.length c, .int .i64 0]) ∧ DsAt w (.slice a l.length c) l
theorem one_D (l : List Dc) : ∀ u ∈ l.flatMap encD, u.oneCell' = true := by
  intro u hu
  obtain ⟨d, _, hd⟩ := List.mem_flatMap.1 hu
  simp [encD] at hd
  rcases hd with rfl | rfl | rfl <;> rfl
theorem one_d (d : Dc) : ∀ u ∈ encD d, u.oneCell' = true := by
  intro u hd
  simp [encD] at hd
  rcases hd with rfl | rfl | rfl <;> rfl
theorem cut_bs (w : World) (l : List ByteArray) (N : Nat) : BsAt (w.alloc (.cells (Lib.cellsOf l N) 9)) (.slice (some ⟨w.heap.size, 0, none⟩) l.length N) l := by
  refine ⟨_, N, rfl, nofun, fun i hi => ⟨w.heap.size, 0, rfl, ?_⟩⟩
  show World.cell? _ ⟨_, 0 + i * 1 + 0, none⟩ = _
  rw [show 0 + i * 1 + 0 = i by omega, cell_new]
  unfold Lib.cellsOf
  rw [List.getElem?_toArray, List.getElem?_append_left (by simpa using hi), List.getElem?_map, List.getElem?_eq_getElem hi]
  rfl

theorem idx0 (a b c d : ByteArray) (w : World) : (Instr.index 84 (.agg #[.string a, .string b, .string c, .string d]) (.int .i64 0)).run Tryd.prog w = .ok (.string a) w := by
  simp [Instr.index, go_sem, Go.part]
theorem idx1 (a b c d : ByteArray) (w : World) : (Instr.index 84 (.agg #[.string a, .string b, .string c, .string d]) (.int .i64 1)).run Tryd.prog w = .ok (.string b) w := by
  simp [Instr.index, go_sem, Go.part]
theorem idx2 (a b c d : ByteArray) (w : World) : (Instr.index 84 (.agg #[.string a, .string b, .string c, .string d]) (.int .i64 2)).run Tryd.prog w = .ok (.string c) w := by
  simp [Instr.index, go_sem, Go.part]
theorem idx3 (a b c d : ByteArray) (w : World) : (Instr.index 84 (.agg #[.string a, .string b, .string c, .string d]) (.int .i64 3)).run Tryd.prog w = .ok (.string d) w := by
  simp [Instr.index, go_sem, Go.part]

set_option maxRecDepth 100000 in
set_option maxHeartbeats 4000000 in
theorem edge_any (d : Dc) (w : World) (hs : d.val.size ≤ lim) (hT : Tab w) :
    Calls Tryd.prog 31 #[declV d] w fun e w' => Ans w' e (if 4 < (cutB d.val).length then none else some (fourB d.strong (cutB d.val))) ∧ Below w.heap.size w w' := by
  obtain ⟨nm, vl, st⟩ := d
  simp only at hs ⊢
  unfold lim at hs
  have HT := hid hT
  clear hT
  have hb0 : ∀ o, Hid (Below w.heap.size w (w.alloc o)) := fun o => (Below.refl _ _).alloc (Nat.le_refl _) o
  have hcl := cut_le vl
  have hcp := cut_pos vl
  have HC : Hid (Lib.splitB blank 0 (min 5 (vl.size + 1) - 1) vl = cutB vl) := rfl
  have HN : Hid ((cutB vl).length ≤ min 5 (vl.size + 1)) := by
    have := Lib.splitB_length_le blank 0 (min 5 (vl.size + 1) - 1) vl
    show (Lib.splitB blank 0 (min 5 (vl.size + 1) - 1) vl).length ≤ _
    omega
  simp only [declV]
  have HW1 := hid (Tab.ext HT.out ((ext_alloc w (.cells #[.string nm, .string vl, .bool st] 52)).trans (ext_alloc _ (.cells (Lib.cellsOf (cutB vl) (min 5 (vl.size + 1))) 9))))
  have HB1 : Hid (Below w.heap.size w ((w.alloc (.cells #[.string nm, .string vl, .bool st] 52)).alloc (.cells (Lib.cellsOf (cutB vl) (min 5 (vl.size + 1))) 9))) := (hb0 _).out.alloc (by simp) _
  have HS1 := hid (cut_bs (w.alloc (.cells #[.string nm, .string vl, .bool st] 52)) (cutB vl) (min 5 (vl.size + 1)))
  rw [show (w.alloc (.cells #[.string nm, .string vl, .bool st] 52)).heap.size = w.heap.size + 1 by simp] at HS1
  have HD1 : Hid (((w.alloc (.cells #[.string nm, .string vl, .bool st] 52)).alloc (.cells (Lib.cellsOf (cutB vl) (min 5 (vl.size + 1))) 9)).cell? ⟨w.heap.size, 2, none⟩ = some (.bool st)) := ext_alloc _ _ _ _ _ (by rw [cell_new]; rfl)
  obtain ⟨m, hm⟩ := (HT.out.ext (Ext.below (hb0 (.cells #[.string nm, .string vl, .bool st] 52)).out)).mx
  by_cases h4 : 4 < (cutB vl).length
  · rw [if_pos h4]
    go_enter Tryd.func31, Tryd.ntmps31
    go_wp2_with (go_at_call 36; refine (Tryd.strings_SplitN vl blank 5 m _ (by omega) hm (by decide) (by decide) (by decide)).mono ?_; rintro e w' ⟨rfl, rfl⟩; rw [HC.out]; clear hm)
    go_ret2
    exact ⟨rfl, HB1.out⟩
  · rw [if_neg h4]
    go_enter Tryd.func31, Tryd.ntmps31
    go_wp2_with (go_at_call 36; refine (Tryd.strings_SplitN vl blank 5 m _ (by omega) hm (by decide) (by decide) (by decide)).mono ?_; rintro e w' ⟨rfl, rfl⟩; rw [HC.out]; clear hm)
    generalize (w.alloc (.cells #[.string nm, .string vl, .bool st] 52)).alloc (.cells (Lib.cellsOf (cutB vl) (min 5 (vl.size + 1))) 9) = w1 at *
    refine (fill_any _ (cutB vl) w1 HS1.out hcp (by omega) HW1.out).mono ?_
    rintro e w2 ⟨rfl, hb2⟩
    have HB2 := hid (below_trans HB1.out hb2 (Nat.le_refl _))
    have HT2 := hid (HW1.out.ext (Ext.below hb2))
    have HD2 := hid (Ext.below hb2 _ _ _ HD1.out)
    have hwl := lt_of_cell HD2.out
    simp only [fillV]
    generalize hws : cutB vl = ws at *
    have HWS := hid hws
    clear hws
    clear hb2 HD1 HS1 HB1 HW1 HN HC
    go_wp2_with fail
    go_loopg [5, 16] 4 (fun n v i wr => ∃ k : Nat, n = 4 - k ∧ k ≤ 4 ∧ i = .int .i64 (k : Int) ∧ wr.ownsRow w2.heap.size 52 3 v k (((fourB st ws).take k).flatMap encD) ∧ Below w2.heap.size w2 wr)
    case atStart => exact ⟨0, rfl, Nat.zero_le _, rfl, World.ownsRow_nil _ _ _ _, Below.refl _ _⟩
    case round =>
      obtain ⟨k, hn, hk, rfl, hO, hB⟩ := hrel
      have GK := hid hn
      have HO := hid hO
      have HB := hid hB
      have X := Ext.below hB
      have d2 := X _ _ _ HD2.out
      obtain ⟨s0, s1, s2, s3, _, _, _, _, _⟩ := HT2.out.ext X
      have hsz := hB.size
      have hd := lt_of_cell d2
      have hs0 := lt_of_cell s0
      rename World => wo
      obtain ⟨va, vc, rfl⟩ := own_form hO
      clear hn hO hB X
      have hk' : k = 0 ∨ k = 1 ∨ k = 2 ∨ k = 3 ∨ k = 4 := by omega
      clear hk
      rcases hk' with rfl | rfl | rfl | rfl | rfl
      · have hS : wo.cell? ⟨0, 0, none⟩ = some (.string sd0) ∧ wo.cell? ⟨w.heap.size, 2, none⟩ = some (.bool st) := ⟨s0, d2⟩
        have ix := idx0 (v0 ws) (v1 ws) (v2 ws) (v3 ws)
        go_wp2_with fail
        go_region_held3 (fun w' => w'.cell? ⟨0, 0, none⟩ = some (.string sd0) ∧ w'.cell? ⟨w.heap.size, 2, none⟩ = some (.bool st)) (first | assumption | go_keep) (first | (refine step_app (by rfl) (.tmp 20) (.tmp 28) 33 rfl w2.heap.size 52 _ 3 40 Tryd.underlying33 Tryd.infoD rfl (by decide) (.slice va 0 vc) 0 (((fourB st ws).take 0).flatMap encD) (by rfl) (HO.out.alloc _) _ 1 (encD ⟨sd0, v0 ws, st⟩) (by rfl) (.inr ⟨_, 1, rfl, World.news_of_block (heap_alloc_new _ _)⟩) rfl (one_d _) (by unfold maxLen; omega) (by omega) (by simp; omega) ?_; intro v3 w3 hv3 hg3; have b3 : Below w2.heap.size w2 w3 := (HB.out.alloc HB.out.size _).drew.grown hg3 (HB.out.alloc HB.out.size _).size (fun j hj => (HO.out.lt j hj).1); have hS3 : w3.cell? ⟨0, 0, none⟩ = some (.string sd0) ∧ w3.cell? ⟨w.heap.size, 2, none⟩ = some (.bool st) := ⟨Ext.below b3 _ _ _ HT2.out.s0, Ext.below b3 _ _ _ HD2.out⟩; have HB3 := hid b3; have HV3 := hid hv3; clear hg3 hv3 b3))
        all_goals
          go_wp2_with fail
          go_roundg (4 - 1)
          case measure => have := GK.out; omega
          case rel => exact ⟨1, rfl, by omega, by go_num, HV3.out, HB3.out⟩
      · have hS : wo.cell? ⟨0, 1, none⟩ = some (.string sd1) ∧ wo.cell? ⟨w.heap.size, 2, none⟩ = some (.bool st) := ⟨s1, d2⟩
        have ix := idx1 (v0 ws) (v1 ws) (v2 ws) (v3 ws)
        go_wp2_with fail
        go_region_held3 (fun w' => w'.cell? ⟨0, 1, none⟩ = some (.string sd1) ∧ w'.cell? ⟨w.heap.size, 2, none⟩ = some (.bool st)) (first | assumption | go_keep) (first | (refine step_app (by rfl) (.tmp 20) (.tmp 28) 33 rfl w2.heap.size 52 _ 3 40 Tryd.underlying33 Tryd.infoD rfl (by decide) (.slice va 1 vc) 1 (((fourB st ws).take 1).flatMap encD) (by rfl) (HO.out.alloc _) _ 1 (encD ⟨sd1, v1 ws, st⟩) (by rfl) (.inr ⟨_, 1, rfl, World.news_of_block (heap_alloc_new _ _)⟩) rfl (one_d _) (by unfold maxLen; omega) (by omega) (by simp; omega) ?_; intro v3 w3 hv3 hg3; have b3 : Below w2.heap.size w2 w3 := (HB.out.alloc HB.out.size _).drew.grown hg3 (HB.out.alloc HB.out.size _).size (fun j hj => (HO.out.lt j hj).1); have hS3 : w3.cell? ⟨0, 1, none⟩ = some (.string sd1) ∧ w3.cell? ⟨w.heap.size, 2, none⟩ = some (.bool st) := ⟨Ext.below b3 _ _ _ HT2.out.s1, Ext.below b3 _ _ _ HD2.out⟩; have HB3 := hid b3; have HV3 := hid hv3; clear hg3 hv3 b3))
        all_goals
          go_wp2_with fail
          go_roundg (4 - 2)
          case measure => have := GK.out; omega
          case rel => exact ⟨2, rfl, by omega, by go_num, HV3.out, HB3.out⟩
      · have hS : wo.cell? ⟨0, 2, none⟩ = some (.string sd2) ∧ wo.cell? ⟨w.heap.size, 2, none⟩ = some (.bool st) := ⟨s2, d2⟩
        have ix := idx2 (v0 ws) (v1 ws) (v2 ws) (v3 ws)
        go_wp2_with fail
        go_region_held3 (fun w' => w'.cell? ⟨0, 2, none⟩ = some (.string sd2) ∧ w'.cell? ⟨w.heap.size, 2, none⟩ = some (.bool st)) (first | assumption | go_keep) (first | (refine step_app (by rfl) (.tmp 20) (.tmp 28) 33 rfl w2.heap.size 52 _ 3 40 Tryd.underlying33 Tryd.infoD rfl (by decide) (.slice va 2 vc) 2 (((fourB st ws).take 2).flatMap encD) (by rfl) (HO.out.alloc _) _ 1 (encD ⟨sd2, v2 ws, st⟩) (by rfl) (.inr ⟨_, 1, rfl, World.news_of_block (heap_alloc_new _ _)⟩) rfl (one_d _) (by unfold maxLen; omega) (by omega) (by simp; omega) ?_; intro v3 w3 hv3 hg3; have b3 : Below w2.heap.size w2 w3 := (HB.out.alloc HB.out.size _).drew.grown hg3 (HB.out.alloc HB.out.size _).size (fun j hj => (HO.out.lt j hj).1); have hS3 : w3.cell? ⟨0, 2, none⟩ = some (.string sd2) ∧ w3.cell? ⟨w.heap.size, 2, none⟩ = some (.bool st) := ⟨Ext.below b3 _ _ _ HT2.out.s2, Ext.below b3 _ _ _ HD2.out⟩; have HB3 := hid b3; have HV3 := hid hv3; clear hg3 hv3 b3))
        all_goals
          go_wp2_with fail
          go_roundg (4 - 3)
          case measure => have := GK.out; omega
          case rel => exact ⟨3, rfl, by omega, by go_num, HV3.out, HB3.out⟩
      · have hS : wo.cell? ⟨0, 3, none⟩ = some (.string sd3) ∧ wo.cell? ⟨w.heap.size, 2, none⟩ = some (.bool st) := ⟨s3, d2⟩
        have ix := idx3 (v0 ws) (v1 ws) (v2 ws) (v3 ws)
        go_wp2_with fail
        go_region_held3 (fun w' => w'.cell? ⟨0, 3, none⟩ = some (.string sd3) ∧ w'.cell? ⟨w.heap.size, 2, none⟩ = some (.bool st)) (first | assumption | go_keep) (first | (refine step_app (by rfl) (.tmp 20) (.tmp 28) 33 rfl w2.heap.size 52 _ 3 40 Tryd.underlying33 Tryd.infoD rfl (by decide) (.slice va 3 vc) 3 (((fourB st ws).take 3).flatMap encD) (by rfl) (HO.out.alloc _) _ 1 (encD ⟨sd3, v3 ws, st⟩) (by rfl) (.inr ⟨_, 1, rfl, World.news_of_block (heap_alloc_new _ _)⟩) rfl (one_d _) (by unfold maxLen; omega) (by omega) (by simp; omega) ?_; intro v3 w3 hv3 hg3; have b3 : Below w2.heap.size w2 w3 := (HB.out.alloc HB.out.size _).drew.grown hg3 (HB.out.alloc HB.out.size _).size (fun j hj => (HO.out.lt j hj).1); have hS3 : w3.cell? ⟨0, 3, none⟩ = some (.string sd3) ∧ w3.cell? ⟨w.heap.size, 2, none⟩ = some (.bool st) := ⟨Ext.below b3 _ _ _ HT2.out.s3, Ext.below b3 _ _ _ HD2.out⟩; have HB3 := hid b3; have HV3 := hid hv3; clear hg3 hv3 b3))
        all_goals
          go_wp2_with fail
          go_roundg (4 - 4)
          case measure => have := GK.out; omega
          case rel => exact ⟨4, rfl, by omega, by go_num, HV3.out, HB3.out⟩
      · go_wp2_with fail
        go_ret2
        rw [HWS.out]
        exact ⟨⟨va, vc, rfl, DsAt.own (base := w2.heap.size) HO.out⟩, below_trans HB2.out HB.out (Nat.le_refl _)⟩
end Go.Proofs.YtnigckmaklbiaabDoor
