/-
  What Inherits and Initial answer, the program's and the document's own: the same plain answers; and the closed fact that the statements ask first: alive answers true. Conditions: the name is of at most 2^20 bytes; the two tables hold what their texts say.
-/
import Derived.Test.YtnigckmaklbiaabDoorP5
namespace Go.Proofs.YtnigckmaklbiaabDoor
open Go.RowKit Go.Maps

def inhB (name : ByteArray) : Bool := ((kf7 name.data.toList).getD (false, ⟨#[]⟩)).1
def iniB (name : ByteArray) : ByteArray := match kf7 name.data.toList with
  | some x => x.2
  | none => noneN
def rf7 : Key → Option ByteArray := updK (updK (updK (updK (updK (updK (updK (fun _ => none) cN.data.toList black) fN.data.toList plainN) zN.data.toList ten) sd0.data.toList nought) sd1.data.toList nought) sd2.data.toList nought) sd3.data.toList nought
theorem rf7_eq (q : Key) : rf7 q = (kf7 q).map (·.2) := by
  simp only [rf7, kf7, kf6, kf5, kf4, kf3, updK]
  repeat' split
  all_goals rfl
theorem inhB_eq (name : ByteArray) : inhB name = (name.toList == [99, 111, 108, 111, 114] || (name.toList == [102, 111, 110, 116] || name.toList == [115, 105, 122, 101])) := by
  unfold inhB
  rw [Lib.toList_data]
  generalize name.data.toList = q
  simp only [kf7, kf6, kf5, kf4, kf3, updK]
  have e3 : sd3.data.toList = [101, 100, 103, 101, 45, 108, 101, 102, 116] := rfl
  have e2 : sd2.data.toList = [101, 100, 103, 101, 45, 98, 111, 116, 116, 111, 109] := rfl
  have e1 : sd1.data.toList = [101, 100, 103, 101, 45, 114, 105, 103, 104, 116] := rfl
  have e0 : sd0.data.toList = [101, 100, 103, 101, 45, 116, 111, 112] := rfl
  have ez : zN.data.toList = [115, 105, 122, 101] := rfl
  have ef : fN.data.toList = [102, 111, 110, 116] := rfl
  have ec : cN.data.toList = [99, 111, 108, 111, 114] := rfl
  rw [e0, e1, e2, e3, ez, ef, ec]
  repeat' split
  all_goals simp_all

theorem field73 (b : Bool) (s : ByteArray) (w : World) : (Instr.field 73 (.agg #[.bool b, .string s]) 0).run Tryd.prog w = .ok (.bool b) w := by
  simp [Instr.field, go_sem, Go.part, asAgg]
set_option maxRecDepth 100000 in
set_option maxHeartbeats 1000000 in
theorem inherits_any (name : ByteArray) (w : World) (hs : name.size ≤ lim) (hT : Tab w) :
    Calls Tryd.prog 17 #[.string name] w fun e w' => e = .returned (.bool (inhB name)) ∧ Below w.heap.size w w' := by
  have wk : name.size ≤ maxLen := by unfold lim at hs; unfold maxLen; omega
  have HI : Hid (inhB name = ((kf7 name.data.toList).getD (false, ⟨#[]⟩)).1) := rfl
  go_enter Tryd.func17, Tryd.ntmps17
  go_wp2_with fail
  refine (known_any w hT).mono ?_
  rintro e w1 ⟨rfl, hM, hB⟩
  have HB := hid hB
  have hlk := hM.look (en := pV) Tryd.underlying74 (false, ⟨#[]⟩) (zero73 w1) (pR_mk _) pR_inv name wk
  generalize (kf7 name.data.toList).getD (false, ⟨#[]⟩) = x at *
  obtain ⟨b, s⟩ := x
  simp only [pV] at hlk
  have hfd := field73 b s
  clear hM hB wk
  go_wp2_with fail
  go_ret
  exact ⟨ret_bool HI.out.symm, HB.out⟩

set_option maxRecDepth 100000 in
set_option maxHeartbeats 1000000 in
theorem initial_any (name : ByteArray) (w : World) (hs : name.size ≤ lim) (hT : Tab w) :
    Calls Tryd.prog 19 #[.string name] w fun e w' => e = .returned (.string (iniB name)) ∧ Below w.heap.size w w' := by
  have wk : name.size ≤ maxLen := by unfold lim at hs; unfold maxLen; omega
  have HI : Hid (iniB name = match kf7 name.data.toList with | some x => x.2 | none => noneN) := rfl
  go_enter Tryd.func19, Tryd.ntmps19
  go_wp2_with fail
  refine (known_any w hT).mono ?_
  rintro e w1 ⟨rfl, hM, hB⟩
  have HB := hid hB
  have hlk := hM.look2 (en := pV) Tryd.underlying74 (false, ⟨#[]⟩) (zero73 w1) (pR_mk _) pR_inv name wk
  generalize kf7 name.data.toList = o at *
  clear hM hB wk
  cases o with
  | none =>
    simp only [pV, Option.getD, Option.isSome] at hlk HI
    go_wp2_with fail
    go_ret
    exact ⟨ret_str HI.out.symm, HB.out.alloc HB.out.size _⟩
  | some x =>
    obtain ⟨b, s⟩ := x
    simp only [pV, Option.getD, Option.isSome] at hlk HI
    go_wp2_with fail
    go_ret
    exact ⟨ret_str HI.out.symm, HB.out.alloc HB.out.size _⟩

set_option maxHeartbeats 1000000 in
theorem rinherits_any (name : ByteArray) (w : World) :
    Calls Tryd.prog 18 #[.string name] w fun e w' => e = .returned (.bool (inhB name)) ∧ w' = w := by
  have HI := hid (inhB_eq name)
  cases h1 : (name.toList == [99, 111, 108, 111, 114]) <;> cases h2 : (name.toList == [102, 111, 110, 116]) <;> cases h3 : (name.toList == [115, 105, 122, 101])
  all_goals
    have HJ := HI.out
    rw [h1, h2, h3] at HJ
    have HK := hid HJ
    clear HJ
    go_enter Tryd.func18, Tryd.ntmps18
    go_wp2_with fail
    go_ret
    exact ⟨ret_bool HK.out.symm, rfl⟩

set_option maxRecDepth 100000 in
set_option maxHeartbeats 4000000 in
theorem rinitial_any (name : ByteArray) (w : World) (hs : name.size ≤ lim) :
    Calls Tryd.prog 20 #[.string name] w fun e w' => e = .returned (.string (iniB name)) ∧ Below w.heap.size w w' := by
  have wk : name.size ≤ maxLen := by unfold lim at hs; unfold maxLen; omega
  have HI : Hid (iniB name = match rf7 name.data.toList with | some x => x | none => noneN) := by
    show iniB name = _
    rw [rf7_eq]
    unfold iniB
    cases kf7 name.data.toList <;> rfl
  have HW := hid wk
  go_enter Tryd.func20, Tryd.ntmps20
  go_wp2_with fail
  refine uponS_make ?_
  have hM : MIs w (w.alloc (.map #[] 0)) 0 (fun _ => none) := MI.made w
  generalize w.alloc (.map #[] 0) = w0 at *
  cases ho : rf7 name.data.toList with
  | none =>
    rw [ho] at HI
    go_wp2_with (with_reducible refine uponS_ins (W := w) (by assumption) ?_ ?_ ?_; (focus decide); (focus decide); intro w' hM')
    have HF := hid hM'.below
    refine uponS_look (W := w) none hM' HW.out ho ?_
    simp only [Option.getD, Option.isSome]
    go_wp2_with fail
    go_ret
    exact ⟨ret_str HI.out.symm, HF.out⟩
  | some x =>
    rw [ho] at HI
    go_wp2_with (with_reducible refine uponS_ins (W := w) (by assumption) ?_ ?_ ?_; (focus decide); (focus decide); intro w' hM')
    have HF := hid hM'.below
    refine uponS_look (W := w) (some x) hM' HW.out ho ?_
    simp only [Option.getD, Option.isSome]
    go_wp2_with fail
    go_ret
    exact ⟨ret_str HI.out.symm, HF.out⟩

def d0 : Dc := ⟨edgeN, ⟨#[49, 32, 50]⟩, true⟩
theorem al_exp : expB d0 = some [⟨sd0, ⟨#[49]⟩, true⟩, ⟨sd1, ⟨#[50]⟩, true⟩, ⟨sd2, ⟨#[49]⟩, true⟩, ⟨sd3, ⟨#[50]⟩, true⟩] := by
  have hc : cutB d0.val = [⟨#[49]⟩, ⟨#[50]⟩] := (cut_eq (v := d0.val) (l := [⟨#[49]⟩, ⟨#[50]⟩]) (by decide +kernel)).2 (by decide)
  have he : isE d0 = true := by decide +kernel
  unfold expB
  rw [if_pos he, hc]
  rfl
theorem al_inh : inhB ⟨#[99, 111, 108, 111, 114]⟩ = true := by decide +kernel
theorem al_ini : iniB ⟨#[119, 105, 100, 116, 104]⟩ = ⟨#[110, 111, 110, 101]⟩ := by
  have : kf7 (⟨#[119, 105, 100, 116, 104]⟩ : ByteArray).data.toList = none := by decide +kernel
  unfold iniB
  rw [this]
  rfl

set_option maxRecDepth 100000 in
set_option maxHeartbeats 4000000 in
theorem alive_any (w : World) (hT : Tab w) :
    Calls Tryd.prog 22 #[] w fun e w' => e = .returned (.bool true) ∧ Below w.heap.size w w' := by
  have HT := hid hT
  clear hT
  go_enter Tryd.func22, Tryd.ntmps22
  go_wp2_with fail
  refine (expand_any d0 w ⟨by unfold lim; decide, by unfold lim; decide⟩ HT.out).mono ?_
  rintro e w1 ⟨hA, hb⟩
  rw [al_exp] at hA
  obtain ⟨a, c, rfl, hD⟩ := hA
  have HB1 := hid hb
  obtain ⟨b, o, rfl, p⟩ := Sl.at hD (i := 0) (by decide)
  obtain ⟨b', o', hb', q⟩ := Sl.at hD (i := 3) (by decide)
  injection hb' with hb'
  injection hb' with h1 h2
  subst h1 h2
  obtain ⟨p0, p1, p2⟩ := p.cells
  obtain ⟨q0, q1, q2⟩ := q.cells
  simp at p0 p1 p2 q0 q1 q2
  have q0' : w1.cell? ⟨b, o + 9, none⟩ = some (.string ⟨#[101, 100, 103, 101, 45, 108, 101, 102, 116]⟩) := q0
  clear hb hD p q q0
  go_wp2_with fail
  refine (inherits_any ⟨#[99, 111, 108, 111, 114]⟩ _ (by unfold lim; decide) (HT.out.ext (Ext.below HB1.out))).mono ?_
  rintro e w2 ⟨rfl, hb2⟩
  rw [al_inh]
  have HB2 := hid (below_trans HB1.out hb2 (Nat.le_refl _))
  clear hb2
  go_wp2_with fail
  refine (initial_any ⟨#[119, 105, 100, 116, 104]⟩ _ (by unfold lim; decide) (HT.out.ext (Ext.below HB2.out))).mono ?_
  rintro e w3 ⟨rfl, hb3⟩
  rw [al_ini]
  have HB3 := hid (below_trans HB2.out hb3 (Nat.le_refl _))
  clear hb3
  go_wp2_with fail
  go_ret
  exact ⟨rfl, HB3.out⟩
end Go.Proofs.YtnigckmaklbiaabDoor
