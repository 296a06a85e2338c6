/-
  What means and Matches answer: the plain answers. Conditions: the elements and the selector lie as they must, at most 2^20 of each.
-/
import Derived.Test.YtlodblcmpebfkaaDoorM7
namespace Go.Proofs.YtlodblcmpebfkaaDoor
open Go.RowKit

theorem eP.cells {w : World} {b o : Nat} {x : Pt} (h : eP w (fun j => w.cell? ⟨b, o + j, none⟩) x) : ∃ a cap, w.cell? ⟨b, o, none⟩ = some (.int .i64 x.join) ∧ w.cell? ⟨b, o + 1, none⟩ = some (.slice a x.tests.length cap) ∧ TsAt w (.slice a x.tests.length cap) x.tests := by
  obtain ⟨h0, v, h1, h2⟩ := h
  obtain ⟨a, cap, rfl⟩ := Sl.form h2
  exact ⟨a, cap, h0, h1, h2⟩

theorem Ext.drew (w : World) : Ext w w.drew := fun _ _ _ h => h
/-- One part back. -/
theorem rest_step {l : List Nd} {s : List Pt} {i : Nat} {os js : List Nat} {q : Pt} {j : Int} (hj : (ptAt s (i + 1)).join = j) (hq : ptAt s i = q) (h : ∀ x, x ∈ js ↔ ∃ k ∈ os, x ∈ ups l k j) :
    os.any (rest l s (i + 1)) = (js.filter (partB l · q)).any (rest l s i) := by
  rw [Bool.eq_iff_iff]
  simp only [List.any_eq_true, List.mem_filter, rest, hj, hq, Bool.and_eq_true]
  constructor
  · rintro ⟨x, hx, y, hy, h1, h2⟩
    exact ⟨y, ⟨(h y).2 ⟨x, hx, hy⟩, h1⟩, h2⟩
  · rintro ⟨y, ⟨hy, h1⟩, h2⟩
    obtain ⟨x, hx, hxy⟩ := (h y).1 hy
    exact ⟨x, hx, y, hxy, h1, h2⟩
theorem rest_zero {l : List Nd} {s : List Pt} {os : List Nat} : os.any (rest l s 0) = decide (0 < os.length) := by
  cases os <;> simp [rest]

set_option maxRecDepth 100000 in
set_option maxHeartbeats 4000000 in
theorem means_any (lv : Value) (l : List Nd) (k : Nat) (sv : Value) (s : List Pt) (w : World) (hl : NdsAt w lv l) (hs : SmNs l) (hm : Mx w) (hk : k < l.length) (hS : PsAt w sv s) (hss : SmS s) (h1 : 0 < s.length) :
    Calls Tryd.prog 13 #[lv, .int .i64 (k : Int), sv] w fun e w' => e = .returned (.bool (meansB l k s)) ∧ Below w.heap.size w w' := by
  obtain ⟨sa, scap, rfl⟩ := Sl.form hS
  have HL := hid hl
  have HN := hid hs
  have HM := hid hm
  have HP := hid hS
  have HSS := hid hss
  have hsl := hss.1
  unfold lim at hsl
  obtain ⟨t, ht⟩ : ∃ t, s.length = t + 1 := ⟨s.length - 1, by omega⟩
  have HT := hid ht
  have htl : t < s.length := by omega
  obtain ⟨b, off, rfl, he⟩ := Sl.at hS htl
  obtain ⟨ta, tcap, c0, c1, hts⟩ := he.cells
  have HTS := hid hts
  have HTL := hid (hss.part (List.getElem_mem htl))
  have hbs := lt_of_cell c0
  have HE : Hid (meansB l k s = ([k].filter (partB l · s[t])).any (rest l s t)) := by
    show meansB l k s = _
    unfold meansB
    rw [ht, Nat.add_sub_cancel, ptAt_eq htl]
    cases h : partB l k s[t] <;> simp [h]
  generalize meansB l k s = R at *
  generalize s[t] = p at *
  clear hl hs hm hS hss he hts h1 htl
  rw [ht] at hsl ⊢
  clear ht
  go_enter Tryd.func13, Tryd.ntmps13
  go_wp2_with fail
  have HB0 : Hid (Below w.heap.size w (w.alloc (.cells #[.int .i64 (k : Int)] 3))) := (Below.refl _ _).alloc (Nat.le_refl _) _
  have HI0 : Hid (IsAt (w.alloc (.cells #[.int .i64 (k : Int)] 3)) (.slice (some ⟨w.heap.size, 0, none⟩) 1 1) [k]) := by
    refine ⟨_, 1, rfl, nofun, fun i hi => ⟨w.heap.size, 0, rfl, ?_⟩⟩
    obtain rfl : i = 0 := by simp at hi; omega
    show World.cell? _ ⟨w.heap.size, 0 + 0 * 1 + 0, none⟩ = _
    rw [cell_new]; rfl
  refine (asAsked_any lv l _ [k] p _ _ (HL.out.ext (Ext.below HB0.out)) HN.out (HM.out.ext (Ext.below HB0.out)) HI0.out (by unfold lim; simp) (by simpa using hk) (HTS.out.ext (Ext.below HB0.out)) HTL.out).mono ?_
  rintro e W ⟨v, rfl, hI, hB⟩
  have HB := hid (below_trans HB0.out hB (Nat.le_refl _))
  have HI := hid hI
  obtain ⟨va, vc, rfl⟩ := Sl.form hI
  clear hI hB c0 c1 HTL HTS HB0 HI0 hbs
  go_wp2_with fail
  go_loopg [8, 9] t (fun n v i wr => ∃ (q : Nat) (os : List Nat), n = q ∧ q ≤ t ∧ i = .int .i64 (q : Int) ∧ IsAt wr v os ∧ os.length ≤ lim ∧ (∀ x ∈ os, x < l.length) ∧ R = os.any (rest l s q) ∧ Below w.heap.size w wr)
  case atStart => exact ⟨t, [k].filter (partB l · p), rfl, Nat.le_refl _, rfl, HI.out, Nat.le_trans (List.length_filter_le _ _) (by unfold lim; simp), fun x hx => by have := (List.mem_filter.1 hx).1; simp at this; subst this; exact hk, HE.out, HB.out⟩
  case round =>
    clear HI HB HE
    obtain ⟨q, os, hn, hq, rfl, hI, hol, hox, hR, hB⟩ := hrel
    have GK := hid hn
    have HI := hid hI
    have HOL := hid hol
    have HOX := hid hox
    have HR := hid hR
    have HB := hid hB
    obtain ⟨va, vc, rfl⟩ := Sl.form hI
    unfold lim at hol
    clear hn hI hox hR hB
    cases q with
    | zero =>
      have HR2 : Hid (R = decide (0 < os.length)) := by show R = _; rw [HR.out, rest_zero]
      go_wp2_with fail
      go_ret
      exact ⟨ret_bool HR2.out.symm, HB.out⟩
    | succ q =>
      by_cases h0 : os.length = 0
      · have HR2 : Hid (R = false) := by
          show R = _
          rw [HR.out]
          have : os = [] := List.length_eq_zero_iff.1 h0
          subst this; rfl
        rw [h0]
        go_wp2_with fail
        go_ret
        exact ⟨ret_bool HR2.out.symm, HB.out⟩
      · have hpos : 0 < os.length := by omega
        clear h0
        have hq1 : q + 1 < s.length := by have := HT.out; omega
        have hq0 : q < s.length := by omega
        obtain ⟨b1, off1, hb1, he1⟩ := Sl.at (HP.out.ext (Ext.below HB.out)) hq1
        injection hb1 with hb1
        injection hb1 with hb1 hb2
        subst hb1 hb2
        obtain ⟨ta1, tc1, d0, hz1, hz2⟩ := he1.cells
        clear hz1 hz2
        obtain ⟨b1, off1, hb1, he2⟩ := Sl.at (HP.out.ext (Ext.below HB.out)) hq0
        injection hb1 with hb1
        injection hb1 with hb1 hb2
        subst hb1 hb2
        obtain ⟨ta, tcap, c0, c1, hts⟩ := he2.cells
        have HTL := hid (HSS.out.part (List.getElem_mem hq0))
        have HTS := hid hts
        have HJ : Hid ((ptAt s (q + 1)).join = s[q + 1].join) := by show _ = _; rw [ptAt_eq hq1]
        have HQ : Hid (ptAt s q = s[q]) := ptAt_eq hq0
        generalize s[q + 1].join = j at *
        generalize s[q] = p2 at *
        clear he1 he2 hts hq1 hq0
        go_wp2_with fail
        have XD := Ext.drew wr
        have HXD := hid XD
        have HLD := hid ((HL.out.ext (Ext.below HB.out)).ext XD)
        have HID := hid (HI.out.ext XD)
        have HMD := hid ((HM.out.ext (Ext.below HB.out)).ext XD)
        have HTD := hid (HTS.out.ext XD)
        clear XD
        have n1 : q < t + 1 := by omega
        have n2 : (q : Int) < (t : Int) + 1 := by omega
        have n3 : (q : Int) + 1 < (t : Int) + 1 := by omega
        have n4 : (0 : Int) ≤ (q : Int) + 1 := by omega
        have n5 : ((q : Int) + 1).toNat = q + 1 := by omega
        have n6 : IntKind.i64.wrap (q : Int) = q := by
          rw [IntKind.wrap_i64]; omega
        have n7 : (0 : Int) ≤ (q : Int) := by omega
        go_region_with (first
          | (go_at_call 22; go_must (refine (joined_any lv l _ os j _ HLD.out HN.out.1 HID.out HOL.out HOX.out).mono ?_; rintro e w2 ⟨v2, js, rfl, hjs, hjl, hji, hb⟩; have c0' := Ext.below hb _ _ _ (HXD.out _ _ _ c0); have c1' := Ext.below hb _ _ _ (HXD.out _ _ _ c1); have HJS := hid hjs; have HJI := hid hji; have HJL := hid hjl; have HB2 := hid hb; clear hjs hji hjl hb))
          | (go_at_call 21; go_must (refine (asAsked_any lv l _ js p2 _ _ (HLD.out.ext (Ext.below HB2.out)) HN.out (HMD.out.ext (Ext.below HB2.out)) HJI.out HJL.out (fun x hx => by obtain ⟨k', hk', hx'⟩ := (HJS.out x).1 hx; exact ups_lt (HOX.out k' hk') hx') (HTD.out.ext (Ext.below HB2.out)) HTL.out).mono ?_; rintro e w3 ⟨v3, rfl, hI3, hB3⟩; have HI3 := hid hI3; have HB3 := hid hB3; clear hI3 hB3)))
        all_goals
          clear c0 c1 c0' c1' d0
          go_wp2_with fail
          go_roundg q
          case measure => have := GK.out; omega
          case rel =>
            refine ⟨q, js.filter (partB l · p2), rfl, by omega, by go_num, HI3.out, Nat.le_trans (List.length_filter_le _ _) HJL.out, ?_, ?_, ?_⟩
            · intro x hx
              obtain ⟨k', hk', hx'⟩ := (HJS.out x).1 (List.mem_filter.1 hx).1
              exact ups_lt (HOX.out k' hk') hx'
            · rw [HR.out]; exact rest_step HJ.out HQ.out HJS.out
            · exact below_trans (below_trans HB.out.drew HB2.out (Nat.le_refl _)) HB3.out (Nat.le_refl _)

set_option maxHeartbeats 1000000 in
theorem matches_any (lv : Value) (l : List Nd) (k : Int) (sv : Value) (s : List Pt) (w : World) (hl : NdsAt w lv l) (hs : SmNs l) (hm : Mx w) (hS : PsAt w sv s) (hss : SmS s) :
    Calls Tryd.prog 5 #[lv, .int .i64 k, sv] w fun e w' => e = .returned (.bool (matchB l k s)) ∧ Below w.heap.size w w' := by
  obtain ⟨sa, scap, rfl⟩ := Sl.form hS
  have HL := hid hl
  have HN := hid hs
  have HM := hid hm
  have HP := hid hS
  have HSS := hid hss
  have hsl := hss.1
  unfold lim at hsl
  have HE : Hid (matchB l k s = (inB l k && decide (0 < s.length) && meansB l k.toNat s)) := rfl
  generalize matchB l k s = R at *
  clear hl hs hm hS hss
  cases hb : inB l k
  · have HR : Hid (R = false) := by have := HE.out; rw [hb] at this; exact this
    go_enter Tryd.func5, Tryd.ntmps5
    go_wp2_with (go_at_call 12; refine (has_any lv l k _ HL.out).mono ?_; rintro e w' ⟨rfl, rfl⟩; rw [hb])
    go_ret
    exact ⟨ret_bool HR.out.symm, Below.refl _ _⟩
  · by_cases h0 : s.length = 0
    · have HR : Hid (R = false) := by have := HE.out; rw [hb, h0] at this; exact this
      rw [h0]
      go_enter Tryd.func5, Tryd.ntmps5
      go_wp2_with (go_at_call 12; refine (has_any lv l k _ HL.out).mono ?_; rintro e w' ⟨rfl, rfl⟩; rw [hb])
      go_ret
      exact ⟨ret_bool HR.out.symm, Below.refl _ _⟩
    · have hpos : 0 < s.length := by omega
      have hin : 0 ≤ k ∧ k < l.length := by simpa [inB] using hb
      obtain ⟨n, rfl⟩ : ∃ n : Nat, k = n := ⟨k.toNat, by omega⟩
      have HR : Hid (R = meansB l n s) := by have := HE.out; rw [hb, decide_eq_true hpos] at this; exact this
      have hn : n < l.length := by omega
      clear hin h0
      go_enter Tryd.func5, Tryd.ntmps5
      go_wp2_with (first
        | (go_at_call 12; refine (has_any lv l n _ HL.out).mono ?_; rintro e w' ⟨rfl, rfl⟩; rw [hb])
        | (go_at_call 13; refine (means_any lv l n _ s _ HL.out HN.out HM.out hn HP.out HSS.out hpos).mono ?_; rintro e w' ⟨rfl, hB⟩))
      go_ret
      exact ⟨ret_bool HR.out.symm, hB⟩
end Go.Proofs.YtlodblcmpebfkaaDoor
