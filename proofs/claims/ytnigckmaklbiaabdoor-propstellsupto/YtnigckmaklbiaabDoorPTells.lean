/-
  The law PropsTells, walked: it answers true. Conditions: at most 2^18 declarations, texts of at most 2^20 bytes; the two tables hold what their texts say.
-/
import Derived.Test.YtnigckmaklbiaabDoorW2
namespace Go.Proofs.YtnigckmaklbiaabDoor
open Go.RowKit

theorem allB_one (d : Dc) : allB [d] = expB d := by
  show (expB d).bind (fun x => (allB []).map (x ++ ·)) = _
  simp only [allB, Option.map_some, List.append_nil]
  cases expB d <;> rfl
/-- An answer, by its parts. -/
def AnsV (w : World) (a : Option Addr) (n c : Nat) (r : Int) : Option (List Dc) → Prop
  | none => a = none ∧ n = 0 ∧ c = 0 ∧ r = 5
  | some l => n = l.length ∧ r = 0 ∧ DsAt w (.slice a n c) l
theorem Ans.form {w : World} {e : Ending} {o : Option (List Dc)} (h : Ans w e o) : ∃ a n c r, e = .returned (.tuple #[.slice a n c, .int .i64 r]) ∧ AnsV w a n c r o := by
  cases o with
  | none => exact ⟨none, 0, 0, 5, h, rfl, rfl, rfl, rfl⟩
  | some l =>
    obtain ⟨a, c, rfl, d⟩ := h
    exact ⟨a, l.length, c, 0, rfl, rfl, rfl, d⟩
theorem AnsV.ext {w w' : World} {a : Option Addr} {n c : Nat} {r : Int} {o : Option (List Dc)} (h : AnsV w a n c r o) (e : Ext w w') : AnsV w' a n c r o := by
  cases o with
  | none => exact h
  | some l => exact ⟨h.1, h.2.1, h.2.2.ext e⟩
/-- Two answers that are the same: both slices hold the same, both errors are one. -/
theorem AnsV.two {w : World} {a1 a2 : Option Addr} {n1 n2 c1 c2 : Nat} {r1 r2 : Int} {o : Option (List Dc)} (h1 : AnsV w a1 n1 c1 r1 o) (h2 : AnsV w a2 n2 c2 r2 o) (hl : ∀ l, o = some l → l.length ≤ 4194304) :
    r1 = r2 ∧ ∃ l : List Dc, l.length ≤ 4194304 ∧ DsAt w (.slice a1 n1 c1) l ∧ DsAt w (.slice a2 n2 c2) l := by
  cases o with
  | none =>
    obtain ⟨rfl, rfl, rfl, rfl⟩ := h1
    obtain ⟨rfl, rfl, rfl, rfl⟩ := h2
    exact ⟨rfl, [], by decide, ds_nil _, ds_nil _⟩
  | some l =>
    obtain ⟨_, rfl, d1⟩ := h1
    obtain ⟨_, rfl, d2⟩ := h2
    exact ⟨rfl, l, hl l rfl, d1, d2⟩

set_option maxRecDepth 100000 in
set_option maxHeartbeats 8000000 in
theorem propsTells_any (lv : Value) (l : List Dc) (name : ByteArray) (w : World) (hl : DsAt w lv l) (hn : 4 * l.length ≤ lim) (hs : ∀ d ∈ l, SmD d) (hnm : name.size ≤ lim) (hT : Tab w) :
    Calls Tryd.prog 5 #[lv, .string name] w fun e w' => e = .returned (.bool true) ∧ Below w.heap.size w w' := by
  obtain ⟨sa, sc, rfl⟩ := Sl.form hl
  have HL := hid hl
  have HS := hid hs
  have HT := hid hT
  have HNM := hid hnm
  have hll := hn
  unfold lim at hll
  clear hl hs hT hn hnm
  go_enter Tryd.func5, Tryd.ntmps5
  go_wp2_with fail
  refine (all_any _ l w HL.out ⟨by unfold lim; omega, HS.out⟩ HT.out).mono ?_
  rintro e w1 ⟨hA1, hb1⟩
  obtain ⟨a1, n1, c1, r1, rfl, hv1⟩ := hA1.form
  have HB1 := hid hb1
  have HV1 := hid hv1
  clear hA1 hb1 hv1
  go_wp2_with fail
  refine (rall_any _ l w1 (HL.out.ext (Ext.below HB1.out)) ⟨by unfold lim; omega, HS.out⟩).mono ?_
  rintro e w2 ⟨hA2, hb2⟩
  obtain ⟨a2, n2, c2, r2, rfl, hv2⟩ := hA2.form
  obtain ⟨rfl, A, hAl, hD1, hD2⟩ := (HV1.out.ext (Ext.below hb2)).two hv2 (fun A hA => by have := allB_len hA; omega)
  have HB2 := hid (below_trans HB1.out hb2 (Nat.le_refl _))
  have HD1 := hid hD1
  have HD2 := hid hD2
  clear hA2 hb2 hv2 hD1 hD2 HV1 HB1
  go_wp2_with fail
  refine (sameDecls_any A _ _ w2 hAl HD1.out HD2.out).mono ?_
  rintro e w3 ⟨rfl, m3, rfl⟩
  have HB3 := hid (below_dN HB2.out m3)
  generalize w2.drewN m3 = w3 at *
  clear HB2 HD1 HD2 hAl
  go_wp2_with fail
  refine (inherits_any name w3 HNM.out (HT.out.ext (Ext.below HB3.out))).mono ?_
  rintro e w4 ⟨rfl, hb4⟩
  have HB4 := hid (below_trans HB3.out hb4 (Nat.le_refl _))
  clear hb4 HB3
  go_wp2_with fail
  refine (rinherits_any name w4).mono ?_
  rintro e w5 ⟨rfl, rfl⟩
  generalize inhB name = ib at *
  go_wp2_with fail
  refine (initial_any name w5 HNM.out (HT.out.ext (Ext.below HB4.out))).mono ?_
  rintro e w6 ⟨rfl, hb6⟩
  have HB6 := hid (below_trans HB4.out hb6 (Nat.le_refl _))
  clear hb6 HB4
  go_wp2_with fail
  refine (rinitial_any name w6 HNM.out).mono ?_
  rintro e w7 ⟨rfl, hb7⟩
  have HB7 := hid (below_trans HB6.out hb7 (Nat.le_refl _))
  clear hb7 HB6
  generalize iniB name = ini at *
  go_wp2_with fail
  go_loopg [50] l.length (fun n i wr => ∃ k : Nat, n = l.length - k ∧ k ≤ l.length ∧ i = .int .i64 (k : Int) ∧ Below w.heap.size w wr)
  case atStart => exact ⟨0, rfl, Nat.zero_le _, rfl, HB7.out⟩
  case round =>
    obtain ⟨k, hn, hk, rfl, hB⟩ := hrel
    have GK := hid hn
    have HB := hid hB
    have HL' := HL.out.ext (Ext.below hB)
    rename World => wo
    clear hn hB
    clear HB7
    by_cases hlt : k < l.length
    · obtain ⟨b, off, rfl, he⟩ := Sl.at HL' hlt
      obtain ⟨d0, d1, d2⟩ := he.cells
      have HSk := hid (HS.out l[k] (List.getElem_mem hlt))
      clear he HL'
      generalize l[k] = d at *
      have HD := hid (DB.new wo d)
      obtain ⟨nm, vl, st⟩ := d
      simp only at d0 d1 d2 HD
      go_wp2_with fail
      have HBa : Hid (Below w.heap.size w (wo.alloc (.cells #[.string nm, .string vl, .bool st] 52))) := HB.out.alloc HB.out.size _
      generalize wo.alloc (.cells #[.string nm, .string vl, .bool st] 52) = w8 at *
      generalize wo.heap.size = T at *
      refine (expand_any ⟨nm, vl, st⟩ w8 HSk.out (HT.out.ext (Ext.below HBa.out))).mono ?_
      rintro e w9 ⟨hA1, hb9⟩
      obtain ⟨x1, y1, z1, r1', rfl, hv1⟩ := hA1.form
      have HB9 := hid (below_trans HBa.out hb9 (Nat.le_refl _))
      have HV1 := hid hv1
      have HD9 := hid (HD.out.below hb9)
      obtain ⟨g0, g1, g2⟩ := HD9.out.cell
      simp only at g0 g1 g2
      clear hA1 hb9 hv1 HD HBa
      go_wp2_with fail
      have HBc : Hid (Below w.heap.size w (w9.alloc (.cells #[.string nm, .string vl, .bool st] 52))) := HB9.out.alloc HB9.out.size _
      have HVc := hid (HV1.out.ext (ext_alloc w9 (.cells #[.string nm, .string vl, .bool st] 52)))
      have HDc := hid (ds_new w9 ⟨nm, vl, st⟩)
      simp only at HDc
      generalize w9.alloc (.cells #[.string nm, .string vl, .bool st] 52) = wc at *
      generalize w9.heap.size = Tc at *
      refine (rall_any _ [⟨nm, vl, st⟩] wc HDc.out ⟨by unfold lim; simp, fun y hy => by obtain rfl := List.mem_singleton.1 hy; exact HSk.out⟩).mono ?_
      rintro e wd ⟨hA2, hbd⟩
      rw [allB_one] at hA2
      obtain ⟨x2, y2, z2, r2', rfl, hv2⟩ := hA2.form
      obtain ⟨rfl, X, hXl, hX1, hX2⟩ := (HVc.out.ext (Ext.below hbd)).two hv2 (fun X hX => by have := expB_len hX; omega)
      have HBd := hid (below_trans HBc.out hbd (Nat.le_refl _))
      have HX1 := hid hX1
      have HX2 := hid hX2
      clear hA2 hbd hv2 hX1 hX2 HV1 HVc HBc HDc HB9 g0 g1 g2
      go_wp2_with fail
      refine (sameDecls_any X _ _ wd hXl HX1.out HX2.out).mono ?_
      rintro e we ⟨rfl, me, rfl⟩
      have HBe := hid (below_dN HBd.out me)
      generalize wd.drewN me = we at *
      clear HBd HX1 HX2
      go_wp2_with fail
      go_roundg (l.length - (k + 1))
      case measure => have := GK.out; omega
      case rel => exact ⟨k + 1, rfl, by omega, by go_num, HBe.out⟩
    · clear HL'
      go_wp2_with fail
      go_ret
      exact ⟨rfl, HB.out⟩
end Go.Proofs.YtnigckmaklbiaabDoor
