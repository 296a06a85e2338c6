/-
  The law CascadeInherits: from parent to child: it returns true, whatever it is called with. Conditions: the sizes that SmNs, SmRs name, a name of at most 2^20 bytes; the tables hold what their texts say.
-/
import Derived.Test.YtfobkiglmphgjabGreatDoorKD
namespace Go.Proofs.YtfobkiglmphgjabGreatDoor
open Go.RowKit Go.Maps

theorem nm_iff (d : Dc) (name : ByteArray) : (d.name.toList == name.toList) = true ↔ nm d = name.data.toList := by
  unfold nm
  rw [Lib.toList_data, Lib.toList_data]
  simp
theorem AnsV.form {e : Ending} {r : Except Int ByteArray} (h : AnsV e r) : (∃ v, r = .ok v ∧ e = .returned (.tuple #[.string v, .int .i64 0])) ∨ ∃ c, r = .error c ∧ e = .returned (.tuple #[.string ⟨#[]⟩, .int .i64 c]) ∧ c ≠ 0 := by
  cases r with
  | ok v => exact .inl ⟨v, rfl, h⟩
  | error c => exact .inr ⟨c, rfl, h⟩
variable {l : List Nd} {rules : List Ru} {media : List ByteArray} {mv lv rv : Value}

set_option maxRecDepth 100000 in
set_option maxHeartbeats 8000000 in
theorem cascadeInherits_any (k : Int) (name : ByteArray) (w : World) (hl : NdsAt w lv l) (hs : SmNs l) (hr : RusAt w rv rules) (hrs : SmRs rules) (hm : BsAt w mv media) (hml : media.length ≤ lim) (hT : Tab w) (hn : name.size ≤ lim) :
    Calls Tryz.prog 6 #[lv, .int .i64 k, rv, mv, .string name] w fun e w' => e = .returned (.bool true) ∧ Below w.heap.size w w' := by
  obtain ⟨la, lc, rfl⟩ := Sl.form hl
  obtain ⟨ra, rc, rfl⟩ := Sl.form hr
  obtain ⟨ma, mc, rfl⟩ := Sl.form hm
  have HL := hid hl
  have HN := hid hs
  have HR := hid hr
  have HRs := hid hrs
  have HM := hid hm
  have HML : Hid (media.length ≤ 1099511627776) := by show _ ≤ _; unfold lim at hml; omega
  have HT := hid hT
  have HNm := hid hn
  clear hl hs hr hrs hm hml hT hn
  by_cases h0 : k < 0
  · go_enter Tryz.func6, Tryz.ntmps6
    go_wp2_with (go_at_call 14; refine (alive_any _ HT.out).mono ?_; rintro e w1 ⟨rfl, hb1⟩; have HB1 := hid hb1; clear hb1)
    go_ret
    exact ⟨rfl, HB1.out⟩
  by_cases h1 : (l.length : Int) ≤ k
  · go_enter Tryz.func6, Tryz.ntmps6
    go_wp2_with (go_at_call 14; refine (alive_any _ HT.out).mono ?_; rintro e w1 ⟨rfl, hb1⟩; have HB1 := hid hb1; clear hb1)
    go_ret
    exact ⟨rfl, HB1.out⟩
  obtain ⟨j, rfl⟩ : ∃ j : Nat, k = (j : Int) := ⟨k.toNat, by omega⟩
  have hj : j < l.length := by omega
  have hj' : (j : Int) < l.length := by omega
  clear h0 h1
  have HJ := hid hj
  have HP := hid (par_get hj)
  obtain ⟨b, off, rfl, he⟩ := Sl.at HL.out hj
  obtain ⟨aa, ac, d0, d1, d2, d3, d4, d5, hA⟩ := eN.cells he
  generalize l[j].parent = up at *
  have D1 := hid d1
  clear d0 d1 d2 d3 d4 d5 he hA hj
  by_cases h2 : (j : Int) ≤ up
  · go_enter Tryz.func6, Tryz.ntmps6
    go_wp2_with (go_at_call 14; refine (alive_any _ HT.out).mono ?_; rintro e w1 ⟨rfl, hb1⟩; have HB1 := hid hb1; have c1 := Ext.below hb1 _ _ _ D1.out; clear hb1)
    go_ret
    exact ⟨rfl, HB1.out⟩
  have HU : Hid (¬ (j : Int) ≤ up) := h2
  go_enter Tryz.func6, Tryz.ntmps6
  go_wp2_with (go_at_call 14; refine (alive_any _ HT.out).mono ?_; rintro e w1 ⟨rfl, hb1⟩; have HB1 := hid hb1; have c1 := Ext.below hb1 _ _ _ D1.out; clear hb1)
  have X1 := hid (Ext.below HB1.out)
  refine (declared_any (rules := rules) (media := media) (j : Int) w1 (HL.out.ext X1.out) HN.out (HR.out.ext X1.out) HRs.out (HM.out.ext X1.out) HML.out (HT.out.ext X1.out)).mono ?_
  rintro e w2 ⟨hA2, hb2⟩
  obtain ⟨a1, n1, c1', x1, rfl, hE1⟩ := hA2.form
  have E1 := hid hE1
  have HB2 := hid (below_trans HB1.out hb2 (Nat.le_refl _))
  have X2 := hid (Ext.below HB2.out)
  clear hA2 hE1 hb2 c1 X1 HB1
  go_wp2_with fail
  refine (value_any (rules := rules) (media := media) j name w2 (HL.out.ext X2.out) HN.out (HR.out.ext X2.out) HRs.out (HM.out.ext X2.out) HML.out (HT.out.ext X2.out) HNm.out).mono ?_
  rintro e w3 ⟨hV, hb3⟩
  have HB3 := hid (below_trans HB2.out hb3 (Nat.le_refl _))
  have X3 := hid (Ext.below HB3.out)
  have X23 := hid (Ext.below hb3)
  have c3 := X3.out _ _ _ D1.out
  clear hb3 X2 HB2
  cases hc : claimsB styB l j rules media with
  | error y =>
    have hE := E1.out
    rw [hc] at hE
    obtain ⟨rfl, hy, rfl, rfl, rfl⟩ := hE
    rw [value_err styB inhB iniB hc] at hV
    obtain ⟨rfl, _⟩ := hV
    clear E1 hc
    go_wp2_with fail
    go_ret
    exact ⟨rfl, HB3.out⟩
  | ok cs =>
    have hE := E1.out
    rw [hc] at hE
    obtain ⟨rfl, L, rfl, hD, hLk, hLl⟩ := hE
    have HC := hid hc
    have HD := hid hD
    have HLk := hid hLk
    clear E1 hc hD hLk
    rcases hV.form with ⟨v, hv, rfl⟩ | ⟨y, hv, rfl, hy⟩
    · have HV := hid hv
      have HF : Hid (∀ d ∈ L, (d.name.toList == name.toList) = true → v = d.val) := fun d hd he => by
        have h := (HLk.out.2 name.data.toList d).2 ⟨hd, (nm_iff d name).1 he⟩
        have h2 := value_there styB inhB iniB HC.out h
        rw [HV.out] at h2
        injection h2
      have HG : Hid ((∀ d ∈ L, (d.name.toList == name.toList) = false) → lookF cs name.data.toList = none) := fun h => by
        cases hlo : lookF cs name.data.toList with
        | none => rfl
        | some d =>
          obtain ⟨h1, h2⟩ := (HLk.out.2 name.data.toList d).1 hlo
          have := h d h1
          rw [(nm_iff d name).2 h2] at this
          cases this
      clear hV hv HLk
      go_wp2_with fail
      go_loopg [72] L.length (fun n i wr => ∃ q : Nat, n = L.length - q ∧ q ≤ L.length ∧ i = .int .i64 (q : Int) ∧ (∀ d ∈ L.take q, (d.name.toList == name.toList) = false) ∧ Below w3.heap.size w3 wr)
      case atStart => exact ⟨0, rfl, Nat.zero_le _, rfl, by simp, Below.refl _ _⟩
      case round =>
        obtain ⟨q, hn', hq, rfl, hA, hB⟩ := hrel
        rename World => wo
        have GK := hid hn'
        have HA := hid hA
        have HB := hid hB
        have XO := hid (Ext.below hB)
        clear hn' hA hB c3
        by_cases hlt : q < L.length
        · obtain ⟨b', off', rfl, he'⟩ := Sl.at ((HD.out.ext X23.out).ext XO.out) hlt
          obtain ⟨p0, p1, p2⟩ := he'.cells
          have HFj := hid (HF.out L[q] (List.getElem_mem hlt))
          have HA2 : Hid ((L[q].name.toList == name.toList) = false → ∀ d ∈ L.take (q + 1), (d.name.toList == name.toList) = false) := fun h d hd => by
            rw [List.take_succ_eq_append_getElem hlt] at hd
            rcases List.mem_append.1 hd with hd | hd
            · exact HA.out d hd
            · rw [List.mem_singleton.1 hd]; exact h
          clear he'
          generalize L[q] = d at *
          obtain ⟨dn, dl, ds⟩ := d
          simp only at p0 p1 p2 HFj HA2
          have HB2 := hid (HB.out.alloc HB.out.size (.cells #[.string dn, .string dl, .bool ds] 50))
          cases hqq : (dn.toList == name.toList)
          · have HA3 := hid (HA2.out hqq)
            clear HA2
            go_wp2_with fail
            go_roundg (L.length - (q + 1))
            case measure => have := GK.out; omega
            case rel => exact ⟨q + 1, rfl, by omega, by go_num, HA3.out, HB2.out⟩
          · obtain rfl := HFj.out hqq
            clear HA2
            go_wp2_with fail
            go_ret
            exact ⟨rfl, below_trans HB3.out HB2.out (Nat.le_refl _)⟩
        · have HO : Hid (lookF cs name.data.toList = none) := HG.out (by
            have := HA.out
            rw [List.take_of_length_le (by omega)] at this
            exact this)
          have HBo := hid (below_trans HB3.out HB.out (Nat.le_refl _))
          have Xo : Hid (Ext w wo) := X3.out.trans XO.out
          have c4 := Xo.out _ _ _ D1.out
          have IH := hid (inherits_any name wo HNm.out (HT.out.ext Xo.out))
          have II := hid (fun (w4 : World) (h : Ext w w4) => initial_any name w4 HNm.out (HT.out.ext h))
          cases hi : inhB name
          · have hv2 := value_end styB inhB iniB HC.out HO.out (name := name) (by rw [hi]; simp)
            rw [HV.out] at hv2
            injection hv2 with hv2
            subst hv2
            rw [hi] at IH
            go_wp2_with (first
              | (go_at_call 17; refine IH.out.mono ?_; rintro e w4 ⟨rfl, hb4⟩; have X4 := hid (Xo.out.trans (Ext.below hb4)); have HB4 := hid (below_trans HBo.out hb4 (Nat.le_refl _)); have c5 := X4.out _ _ _ D1.out; clear hb4)
              | (go_at_call 18; refine (II.out _ X4.out).mono ?_; rintro e w5 ⟨rfl, hb5⟩; have HB5 := hid (below_trans HB4.out hb5 (Nat.le_refl _)); clear hb5))
            go_ret
            exact ⟨rfl, HB5.out⟩
          · rw [hi] at IH
            by_cases hu : up < 0
            · have hv2 := value_end styB inhB iniB HC.out HO.out (name := name) (by rw [HP.out]; omega)
              rw [HV.out] at hv2
              injection hv2 with hv2
              subst hv2
              go_wp2_with (first
                | (go_at_call 17; refine IH.out.mono ?_; rintro e w4 ⟨rfl, hb4⟩; have X4 := hid (Xo.out.trans (Ext.below hb4)); have HB4 := hid (below_trans HBo.out hb4 (Nat.le_refl _)); have c5 := X4.out _ _ _ D1.out; clear hb4)
                | (go_at_call 18; refine (II.out _ X4.out).mono ?_; rintro e w5 ⟨rfl, hb5⟩; have HB5 := hid (below_trans HB4.out hb5 (Nat.le_refl _)); clear hb5))
              go_ret
              exact ⟨rfl, HB5.out⟩
            · have hv2 := value_up styB inhB iniB HC.out HO.out hi (by rw [HP.out]; omega) (by rw [HP.out]; have := HU.out; omega)
              rw [HV.out, HP.out] at hv2
              obtain ⟨u, rfl⟩ : ∃ u : Nat, up = (u : Int) := ⟨up.toNat, by omega⟩
              have HV2 : Hid (valueB styB inhB iniB l rules media name u = .ok v) := hv2.symm
              clear hv2
              go_wp2_with (first
                | (go_at_call 17; refine IH.out.mono ?_; rintro e w4 ⟨rfl, hb4⟩; have X4 := hid (Xo.out.trans (Ext.below hb4)); have HB4 := hid (below_trans HBo.out hb4 (Nat.le_refl _)); have c5 := X4.out _ _ _ D1.out; clear hb4))
              refine (value_any (rules := rules) (media := media) u name _ (HL.out.ext X4.out) HN.out (HR.out.ext X4.out) HRs.out (HM.out.ext X4.out) HML.out (HT.out.ext X4.out) HNm.out).mono ?_
              rintro e w5 ⟨hV5, hb5⟩
              rw [HV2.out] at hV5
              obtain rfl : e = _ := hV5
              have HB5 := hid (below_trans HB4.out hb5 (Nat.le_refl _))
              clear hb5
              go_wp2_with fail
              go_ret
              exact ⟨rfl, HB5.out⟩
    · have hu : 0 ≤ up := by
        by_cases hu : 0 ≤ up
        · exact hu
        · exfalso
          cases hlo : lookF cs name.data.toList with
          | some d =>
            have := value_there styB inhB iniB HC.out hlo
            rw [hv] at this
            cases this
          | none =>
            have := value_end styB inhB iniB HC.out hlo (name := name) (by rw [HP.out]; omega)
            rw [hv] at this
            cases this
      clear hV hv HLk
      go_wp2_with fail
      go_ret
      exact ⟨rfl, HB3.out⟩
end Go.Proofs.YtfobkiglmphgjabGreatDoor
