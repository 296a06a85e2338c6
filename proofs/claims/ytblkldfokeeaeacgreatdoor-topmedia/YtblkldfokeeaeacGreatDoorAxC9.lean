/-
  What Value does: what a property is, from parent to parent. Conditions: the sizes that SmNs, SmRs name, a name that may be; the tables hold what their texts say.
-/
import Derived.Test.YtblkldfokeeaeacGreatDoorA24
namespace Go.Proofs.YtblkldfokeeaeacGreatDoor
open Go.RowKit Go.Maps
def AnsV (e : Ending) : Except Int ByteArray → Prop
  | .ok v => e = .returned (.tuple #[.string v, .int .i64 0])
  | .error c => e = .returned (.tuple #[.string ⟨#[]⟩, .int .i64 c]) ∧ c ≠ 0
theorem claims_in {l : List Nd} {k : Nat} {rules : List Ru} {media : List ByteArray} {cs : List Cl} (h : claimsB styB l k rules media = .ok cs) : k < l.length := by
  unfold claimsB at h
  split at h
  · rename_i hi
    unfold inB at hi
    simp at hi
    omega
  · cases h
theorem par_get {l : List Nd} {k : Nat} (h : k < l.length) : par l k = l[k].parent := by
  unfold par ndAt
  simp [h]
set_option maxRecDepth 100000 in
set_option maxHeartbeats 1000000 in
theorem inhM_any (name : ByteArray) (w : World) (wk : name.size ≤ maxLen) (hT : Tab w) :
    Calls Tryz.prog 38 #[.string name] w fun e w' => e = .returned (.bool (inhB name)) ∧ Below w.heap.size w w' := by
  have HI : Hid (inhB name = ((kf7 name.data.toList).getD (false, ⟨#[]⟩)).1) := rfl
  go_enter Tryz.func38, Tryz.ntmps38
  go_wp2_with fail
  refine (known_any w hT).mono ?_
  rintro e w1 ⟨rfl, hM, hB⟩
  have HB := hid hB
  have hlk := hM.look (en := pV) Tryz.underlying138 (false, ⟨#[]⟩) (zero137 w1) (pR_mk _) pR_inv name wk
  generalize (kf7 name.data.toList).getD (false, ⟨#[]⟩) = x at *
  obtain ⟨b, s⟩ := x
  simp only [pV] at hlk
  have hfd := field137 b s
  clear hM hB wk
  go_wp2_with fail
  go_ret
  exact ⟨ret_bool HI.out.symm, HB.out⟩
set_option maxRecDepth 100000 in
set_option maxHeartbeats 1000000 in
theorem iniM_any (name : ByteArray) (w : World) (wk : name.size ≤ maxLen) (hT : Tab w) :
    Calls Tryz.prog 39 #[.string name] w fun e w' => e = .returned (.string (iniB name)) ∧ Below w.heap.size w w' := by
  have HI : Hid (iniB name = match kf7 name.data.toList with | some x => x.2 | none => noneN) := rfl
  go_enter Tryz.func39, Tryz.ntmps39
  go_wp2_with fail
  refine (known_any w hT).mono ?_
  rintro e w1 ⟨rfl, hM, hB⟩
  have HB := hid hB
  have hlk := hM.look2 (en := pV) Tryz.underlying138 (false, ⟨#[]⟩) (zero137 w1) (pR_mk _) pR_inv name wk
  generalize kf7 name.data.toList = o at *
  clear hM hB wk
  cases o with
  | none =>
    simp only [pV, Option.getD, Option.isSome] at hlk HI
    go_wp2_with fail
    go_ret
    exact ⟨ret_str HI.out.symm, HB.out.alloc HB.out.size _⟩
  | some x =>
    obtain ⟨b, s⟩ := x
    simp only [pV, Option.getD, Option.isSome] at hlk HI
    go_wp2_with fail
    go_ret
    exact ⟨ret_str HI.out.symm, HB.out.alloc HB.out.size _⟩
variable {l : List Nd} {rules : List Ru} {media : List ByteArray} {mv lv rv : Value}
set_option maxRecDepth 100000 in
set_option maxHeartbeats 8000000 in
theorem value_any (k : Nat) (name : ByteArray) (w : World) (hl : NdsAt w lv l) (hs : SmNs l) (hr : RusAt w rv rules) (hrs : SmRs rules) (hm : BsAt w mv media) (hml : media.length ≤ 1099511627776) (hT : Tab w) (hn : name.size ≤ maxLen) :
    Calls Tryz.prog 19 #[lv, .int .i64 (k : Int), rv, mv, .string name] w fun e w' => AnsV e (valueB styB inhB iniB l rules media name k) ∧ Below w.heap.size w w' := by
  obtain ⟨la, lc, rfl⟩ := Sl.form hl
  obtain ⟨ra, rc, rfl⟩ := Sl.form hr
  obtain ⟨ma, mc, rfl⟩ := Sl.form hm
  have HL := hid hl
  have HN := hid hs
  have HR := hid hr
  have HRs := hid hrs
  have HM := hid hm
  have HML := hid hml
  have HT := hid hT
  have HNm := hid hn
  clear hl hs hr hrs hm hml hT hn
  go_enter Tryz.func19, Tryz.ntmps19
  go_wp2_with fail
  go_loopg [1] k (fun n kv wr => ∃ j : Nat, n = j ∧ kv = .int .i64 (j : Int) ∧ valueB styB inhB iniB l rules media name j = valueB styB inhB iniB l rules media name k ∧ Below w.heap.size w wr)
  case atStart => exact ⟨k, rfl, rfl, rfl, Below.refl _ _⟩
  case round =>
    obtain ⟨j, hj, rfl, hE, hB⟩ := hrel
    rename World => wo
    have GK := hid hj
    have HE := hid hE
    have HB := hid hB
    have X0 := hid (Ext.below hB)
    clear hj hE hB
    have HW := hid (winners_any (rules := rules) (media := media) (j : Int) wo (HL.out.ext X0.out) HN.out (HR.out.ext X0.out) HRs.out (HM.out.ext X0.out) HML.out (HT.out.ext X0.out))
    go_wp2_with fail
    refine HW.out.mono ?_
    rintro e w1 ⟨hA, hb1⟩
    have HB1 := hid (below_trans HB.out hb1 (Nat.le_refl _))
    have X1 : Hid (Ext w w1) := X0.out.trans (Ext.below hb1)
    clear hb1 X0 HW
    cases hc : claimsB styB l j rules media with
    | error x =>
      rw [hc] at hA
      obtain ⟨rfl, hx⟩ := hA
      have HX := hid hx
      have HV : Hid (valueB styB inhB iniB l rules media name k = .error x) := HE.out.symm.trans (value_err styB inhB iniB hc)
      clear hc
      go_wp2_with fail
      go_ret2
      rw [HV.out]
      exact ⟨⟨rfl, HX.out⟩, HB1.out⟩
    | ok cs =>
      rw [hc] at hA
      obtain ⟨rfl, n, hn, hmp⟩ := hA
      have hin := claims_in hc
      have HCc := hid hc
      have hlk := hmp.look2 (en := clV) Tryz.underlying82 cl0 (zero88 _) (clR_mk _) clR_inv name HNm.out
      clear hmp hn hc
      cases ho : win name.data.toList cs with
      | some c =>
        have HV : Hid (valueB styB inhB iniB l rules media name k = .ok c.d.val) := HE.out.symm.trans (value_there styB inhB iniB HCc.out (show lookF cs name.data.toList = some c.d by unfold lookF; rw [ho]; rfl))
        rw [ho] at hlk
        obtain ⟨⟨cn, cv, cst⟩, co, ⟨xa, xb, xc⟩⟩ := c
        simp only [Option.getD, Option.isSome, clV] at hlk
        have HB2 := hid (HB1.out.alloc HB1.out.size (.cells #[.string cn, .string cv, .bool cst, .bool co, .int .i64 xa, .int .i64 xb, .int .i64 xc] 88))
        clear ho
        go_wp2_with fail
        go_ret2
        rw [HV.out]
        exact ⟨rfl, HB2.out⟩
      | none =>
        have HO : Hid (lookF cs name.data.toList = none) := by
          show _ = _
          unfold lookF
          rw [ho]
          rfl
        rw [ho] at hlk
        simp only [Option.getD, Option.isSome, clV, cl0] at hlk
        have b2 := HB1.out.alloc HB1.out.size (.cells #[.string ⟨#[]⟩, .string ⟨#[]⟩, .bool false, .bool false, .int .i64 0, .int .i64 0, .int .i64 0] 88)
        have X2 : Hid (Ext w (w1.alloc (.cells #[.string ⟨#[]⟩, .string ⟨#[]⟩, .bool false, .bool false, .int .i64 0, .int .i64 0, .int .i64 0] 88))) := X1.out.trans (ext_alloc _ _)
        have HB2 := hid b2
        obtain ⟨b, off, rfl, he⟩ := Sl.at (HL.out.ext X2.out) hin
        obtain ⟨aa, ac, d0, d1, d2, d3, d4, d5, hA⟩ := eN.cells he
        have HP := hid (par_get hin)
        have hin' : (j : Int) < l.length := by omega
        have IN := hid hin
        clear b2 ho he hA d0 d2 d3 d4 d5
        generalize hup : l[j].parent = up at *
        clear hup hin
        have IH := hid (inhM_any name (w1.alloc (.cells #[.string ⟨#[]⟩, .string ⟨#[]⟩, .bool false, .bool false, .int .i64 0, .int .i64 0, .int .i64 0] 88)) HNm.out (HT.out.ext X2.out))
        have II := hid (fun (w3 : World) (h : Ext w w3) => iniM_any name w3 HNm.out (HT.out.ext h))
        cases hi : inhB name
        · have HV : Hid (valueB styB inhB iniB l rules media name k = .ok (iniB name)) := HE.out.symm.trans (value_end styB inhB iniB HCc.out HO.out (by rw [hi]; simp))
          rw [hi] at IH
          go_wp2_with (first
            | (go_at_call 38; refine IH.out.mono ?_; rintro e w3 ⟨rfl, hb3⟩; have X3 := hid (X2.out.trans (Ext.below hb3)); have HB3 := hid (below_trans HB2.out hb3 (Nat.le_refl _)); clear hb3)
            | (go_at_call 39; refine (II.out _ X3.out).mono ?_; rintro e w4 ⟨rfl, hb4⟩; have HB4 := hid (below_trans HB3.out hb4 (Nat.le_refl _)); clear hb4))
          go_ret2
          rw [HV.out]
          exact ⟨rfl, HB4.out⟩
        · rw [hi] at IH
          by_cases h0 : up < 0
          · have HV : Hid (valueB styB inhB iniB l rules media name k = .ok (iniB name)) := HE.out.symm.trans (value_end styB inhB iniB HCc.out HO.out (by rw [HP.out]; omega))
            go_wp2_with (first
              | (go_at_call 38; refine IH.out.mono ?_; rintro e w3 ⟨rfl, hb3⟩; have X3 := hid (X2.out.trans (Ext.below hb3)); have HB3 := hid (below_trans HB2.out hb3 (Nat.le_refl _)); clear hb3)
              | (go_at_call 39; refine (II.out _ X3.out).mono ?_; rintro e w4 ⟨rfl, hb4⟩; have HB4 := hid (below_trans HB3.out hb4 (Nat.le_refl _)); clear hb4))
            go_ret2
            rw [HV.out]
            exact ⟨rfl, HB4.out⟩
          by_cases h1 : (j : Int) ≤ up
          · have HV : Hid (valueB styB inhB iniB l rules media name k = .ok (iniB name)) := HE.out.symm.trans (value_end styB inhB iniB HCc.out HO.out (by rw [HP.out]; omega))
            go_wp2_with (first
              | (go_at_call 38; refine IH.out.mono ?_; rintro e w3 ⟨rfl, hb3⟩; have X3 := hid (X2.out.trans (Ext.below hb3)); have HB3 := hid (below_trans HB2.out hb3 (Nat.le_refl _)); clear hb3)
              | (go_at_call 39; refine (II.out _ X3.out).mono ?_; rintro e w4 ⟨rfl, hb4⟩; have HB4 := hid (below_trans HB3.out hb4 (Nat.le_refl _)); clear hb4))
            go_ret2
            rw [HV.out]
            exact ⟨rfl, HB4.out⟩
          · have HV : Hid (valueB styB inhB iniB l rules media name up.toNat = valueB styB inhB iniB l rules media name k) := by
              show _ = _
              rw [← HE.out, value_up styB inhB iniB HCc.out HO.out hi (by rw [HP.out]; omega) (by rw [HP.out]; omega), HP.out]
            obtain ⟨u, rfl⟩ : ∃ u : Nat, up = (u : Int) := ⟨up.toNat, by omega⟩
            have HU : Hid (u < j) := by show _ < _; omega
            have HV2 : Hid (valueB styB inhB iniB l rules media name u = valueB styB inhB iniB l rules media name k) := HV.out
            clear HV
            go_wp2_with (first
              | (go_at_call 38; refine IH.out.mono ?_; rintro e w3 ⟨rfl, hb3⟩; have X3 := hid (X2.out.trans (Ext.below hb3)); have HB3 := hid (below_trans HB2.out hb3 (Nat.le_refl _)); clear hb3)
              | (go_at_call 39; refine (II.out _ X3.out).mono ?_; rintro e w4 ⟨rfl, hb4⟩; have HB4 := hid (below_trans HB3.out hb4 (Nat.le_refl _)); clear hb4))
            go_roundg u
            case measure => have := GK.out; have := HU.out; omega
            case rel => exact ⟨u, rfl, rfl, HV2.out, HB3.out⟩
end Go.Proofs.YtblkldfokeeaeacGreatDoor
