/-
  The law CascadeStrong: who is strong wins: it returns true, whatever it is called with. Conditions: the sizes that SmNs, SmRs name; the tables hold what their texts say.
-/
import Derived.Test.YtfobkiglmphgjabGreatDoorKD
namespace Go.Proofs.YtfobkiglmphgjabGreatDoor
open Go.RowKit Go.Maps

theorem claims_rules {l : List Nd} {k : Int} {rules : List Ru} {media : List ByteArray} {cs : List Cl} (h : claimsB styB l k rules media = .ok cs) : ∃ a, rulesC l k media rules = some a ∧ ∀ x ∈ a, x ∈ cs := by
  unfold claimsB at h
  split at h
  · cases hr : rulesC l k media rules with
    | none => rw [hr] at h; cases h
    | some a =>
      rw [hr] at h
      simp only at h
      cases ho : ownC styB (ndAt l k.toNat) with
      | error e => rw [ho] at h; cases h
      | ok b =>
        rw [ho] at h
        injection h with h
        exact ⟨a, rfl, fun x hx => by rw [← h]; exact List.mem_append_left _ hx⟩
  · cases h
/-- Whether a strong enough one of that name is there. -/
def thereB (x : Dc) (L : List Dc) : Bool := L.any fun y => y.name.toList == x.name.toList && (y.strong || !x.strong)
theorem there_next {x : Dc} {L : List Dc} {q : Nat} (hq : q < L.length) : thereB x (L.take (q + 1)) = (thereB x (L.take q) || (L[q].name.toList == x.name.toList && (L[q].strong || !x.strong))) := by
  unfold thereB
  rw [List.take_succ_eq_append_getElem hq, List.any_append]
  simp
theorem there_all {cs : List Cl} {L : List Dc} (hL : IsLook L (lookF cs)) {x : Cl} (hx : x ∈ cs) : thereB x.d L = true := by
  obtain ⟨y, hy, h1, h2⟩ := strong_wins hL hx
  unfold thereB
  rw [List.any_eq_true]
  refine ⟨y, hy, ?_⟩
  rw [h2, Bool.and_true, Lib.toList_data, Lib.toList_data]
  simpa [nm] using h1
variable {l : List Nd} {rules : List Ru} {media : List ByteArray} {mv lv rv : Value}

set_option maxRecDepth 100000 in
set_option maxHeartbeats 8000000 in
theorem cascadeStrong_any (k : Int) (w : World) (hl : NdsAt w lv l) (hs : SmNs l) (hr : RusAt w rv rules) (hrs : SmRs rules) (hm : BsAt w mv media) (hml : media.length ≤ lim) (hT : Tab w) :
    Calls Tryz.prog 5 #[lv, .int .i64 k, rv, mv] w fun e w' => e = .returned (.bool true) ∧ Below w.heap.size w w' := by
  obtain ⟨la, lc, rfl⟩ := Sl.form hl
  obtain ⟨ra, rc, rfl⟩ := Sl.form hr
  obtain ⟨ma, mc, rfl⟩ := Sl.form hm
  have HL := hid hl
  have HN := hid hs
  have HR := hid hr
  have HRs := hid hrs
  have HM := hid hm
  have HML : Hid (media.length ≤ 1099511627776) := by show _ ≤ _; unfold lim at hml; omega
  have HT := hid hT
  have hrl := hrs.len
  clear hl hs hr hrs hm hml hT
  go_enter Tryz.func5, Tryz.ntmps5
  go_wp2_with (go_at_call 14; refine (alive_any _ HT.out).mono ?_; rintro e w1 ⟨rfl, hb1⟩; have HB1 := hid hb1; clear hb1)
  have X1 := hid (Ext.below HB1.out)
  refine (declared_any (rules := rules) (media := media) k w1 (HL.out.ext X1.out) HN.out (HR.out.ext X1.out) HRs.out (HM.out.ext X1.out) HML.out (HT.out.ext X1.out)).mono ?_
  rintro e w2 ⟨hA2, hb2⟩
  obtain ⟨a1, n1, c1, x1, rfl, hE1⟩ := hA2.form
  have HB2 := hid (below_trans HB1.out hb2 (Nat.le_refl _))
  clear hA2 hb2 X1 HB1
  cases hc : claimsB styB l k rules media with
  | error y =>
    rw [hc] at hE1
    obtain ⟨rfl, hy, rfl, rfl, rfl⟩ := hE1
    clear hc
    go_wp2_with fail
    go_ret
    exact ⟨rfl, HB2.out⟩
  | ok cs =>
    rw [hc] at hE1
    obtain ⟨rfl, L, rfl, hD, hLk, hLl⟩ := hE1
    obtain ⟨ca, hca, hsub⟩ := claims_rules hc
    have HMem : Hid (∀ r ∈ rules, r.media.toList.isEmpty = true → (bestB l k r.sels).2 = true → ∃ D, allB r.decls = some D ∧ ∀ z ∈ D, thereB z L = true) := fun r hr h1 h2 => by
      obtain ⟨D, hD, hz⟩ := rules_mem hca hr h1 h2
      exact ⟨D, hD, fun z hzz => there_all hLk (hsub _ (hz z hzz))⟩
    have HD := hid hD
    clear hc hD hLk hca hsub
    go_wp2_with fail
    go_loopg [39] rules.length (fun n i wr => ∃ j : Nat, n = rules.length - j ∧ j ≤ rules.length ∧ i = .int .i64 (j : Int) ∧ Below w2.heap.size w2 wr)
    case atStart => exact ⟨0, rfl, Nat.zero_le _, rfl, Below.refl _ _⟩
    case round =>
      obtain ⟨j, hn', hj, rfl, hB⟩ := hrel
      rename World => wo
      have GK := hid hn'
      have HB := hid hB
      have HBw := hid (below_trans HB2.out hB (Nat.le_refl _))
      have X0 := hid (Ext.below HBw.out)
      clear hn' hB
      by_cases hlt : j < rules.length
      · obtain ⟨b, off, rfl, he⟩ := Sl.at (HR.out.ext X0.out) hlt
        obtain ⟨sa, sn, sc, da, dn, dc, c0, c1, c2, c3, c4, hS, hD⟩ := eR.cells he
        have HSm := hid (HRs.out.each rules[j] (List.getElem_mem hlt))
        have HMj := hid (HMem.out rules[j] (List.getElem_mem hlt))
        have HJ := hid hlt
        clear he
        generalize rules[j] = r at *
        obtain ⟨md, ss, dd, rf, rt⟩ := r
        simp only at c0 c1 c2 c3 c4 hS hD HMj
        have e1 := ext_alloc wo (.cells #[.string md, .slice sa sn sc, .slice da dn dc, .int .i64 rf, .int .i64 rt] 40)
        have b1 : Below w2.heap.size w2 (wo.alloc (.cells #[.string md, .slice sa sn sc, .slice da dn dc, .int .i64 rf, .int .i64 rt] 40)) := HB.out.alloc HB.out.size _
        have B1 := hid b1
        have X1 : Hid (Ext w (wo.alloc (.cells #[.string md, .slice sa sn sc, .slice da dn dc, .int .i64 rf, .int .i64 rt] 40))) := X0.out.trans e1
        have S1 := hid (hS.ext e1)
        have D1 := hid (hD.ext e1)
        have k0 : Hid ((wo.alloc (.cells #[.string md, .slice sa sn sc, .slice da dn dc, .int .i64 rf, .int .i64 rt] 40)).cell? ⟨wo.heap.size, 0, none⟩ = some (.string md)) := cell_new wo _ _ 0
        have k2 : Hid ((wo.alloc (.cells #[.string md, .slice sa sn sc, .slice da dn dc, .int .i64 rf, .int .i64 rt] 40)).cell? ⟨wo.heap.size, 2, none⟩ = some (.slice da dn dc)) := cell_new wo _ _ 2
        clear e1 b1 hS hD
        go_wp2_with fail
        generalize wo.alloc (.cells #[.string md, .slice sa sn sc, .slice da dn dc, .int .i64 rf, .int .i64 rt] 40) = w3 at *
        refine (best_any _ l k md ss _ da dn dc rf rt w3 (HL.out.ext X1.out) HN.out (HT.out.mx.imp fun _ h => X1.out _ _ _ h) S1.out HSm.out.sels).mono ?_
        rintro e w4 ⟨rfl, hb4⟩
        have HBB : Hid (bestB l k ss = bestTo l k ss (w00, false)) := rfl
        generalize bestTo l k ss (w00, false) = bb at *
        obtain ⟨⟨xa, xb, xc⟩, fd⟩ := bb
        simp only [bestV, wtV]
        have x4 := (Ext.below hb4).trans (ext_alloc w4 (.cells #[.int .i64 xa, .int .i64 xb, .int .i64 xc] 42))
        have b4 := below_trans B1.out hb4 (Nat.le_refl _)
        have b5 := b4.alloc b4.size (.cells #[.int .i64 xa, .int .i64 xb, .int .i64 xc] 42)
        have B5 := hid b5
        have X5 : Hid (Ext w (w4.alloc (.cells #[.int .i64 xa, .int .i64 xb, .int .i64 xc] 42))) := X1.out.trans x4
        have D5 := hid (D1.out.ext x4)
        have l0 := x4 _ _ _ k0.out
        have l2 := x4 _ _ _ k2.out
        have X25 := hid (Ext.below b5)
        clear hb4 x4 b4 b5 k0 k2 S1 D1 B1 X1
        cases fd
        · go_wp2_with fail
          go_roundg (rules.length - (j + 1))
          case measure => have := GK.out; have := HJ.out; omega
          case rel => exact ⟨j + 1, rfl, by have := HJ.out; omega, by go_num, B5.out⟩
        by_cases hmd : md = ⟨#[]⟩
        · obtain ⟨A, hA, hth⟩ := HMj.out (by subst hmd; rw [Lib.toList_data]; rfl) (by rw [HBB.out])
          have HTh := hid hth
          have hAl : A.length ≤ 4194304 := by have h1 := allB_len hA; have h2 := HSm.out.decls.1; unfold lim at h2; simp only at h2; omega
          subst hmd
          have AA := hid (all_any (.slice da dn dc) dd (w4.alloc (.cells #[.int .i64 xa, .int .i64 xb, .int .i64 xc] 42)) D5.out HSm.out.decls (HT.out.ext X5.out))
          rw [hA] at AA
          clear hA hth HMj
          go_wp2_with (go_at_call 16; refine AA.out.mono ?_; rintro e w6 ⟨⟨aa, ac, rfl, hDA⟩, hb6⟩; have HDA := hid hDA; have B6 := hid (below_trans B5.out hb6 (Nat.le_refl _)); have X26 := hid (X25.out.trans (Ext.below hb6)); clear hb6 hDA)
          go_loopg [67] A.length (fun n i wr => ∃ p : Nat, n = A.length - p ∧ p ≤ A.length ∧ i = .int .i64 (p : Int) ∧ Below w6.heap.size w6 wr)
          case atStart => exact ⟨0, rfl, Nat.zero_le _, rfl, Below.refl _ _⟩
          case round =>
            obtain ⟨p, hn2, hp, rfl, hBp⟩ := hrel
            rename World => wp
            have GP := hid hn2
            have HBp := hid hBp
            have XP := hid (Ext.below hBp)
            clear hn2 hBp
            by_cases hlp : p < A.length
            · obtain ⟨b', off', rfl, he'⟩ := Sl.at (HDA.out.ext XP.out) hlp
              obtain ⟨p0, p1, p2⟩ := he'.cells
              have HTp := hid (HTh.out A[p] (List.getElem_mem hlp))
              clear he'
              generalize A[p] = d at *
              obtain ⟨xn, xv, xs⟩ := d
              simp only at p0 p1 p2
              have HBq := hid (HBp.out.alloc HBp.out.size (.cells #[.string xn, .string xv, .bool xs] 49))
              have XQ : Hid (Ext w6 (wp.alloc (.cells #[.string xn, .string xv, .bool xs] 49))) := XP.out.trans (ext_alloc _ _)
              have q0 : Hid ((wp.alloc (.cells #[.string xn, .string xv, .bool xs] 49)).cell? ⟨wp.heap.size, 0, none⟩ = some (.string xn)) := cell_new wp _ _ 0
              have q2 : Hid ((wp.alloc (.cells #[.string xn, .string xv, .bool xs] 49)).cell? ⟨wp.heap.size, 2, none⟩ = some (.bool xs)) := cell_new wp _ _ 2
              go_wp2_with fail
              generalize wp.alloc (.cells #[.string xn, .string xv, .bool xs] 49) = wq at *
              go_loopg [19, 73] L.length (fun n t i wr => ∃ q : Nat, n = L.length - q ∧ q ≤ L.length ∧ i = .int .i64 (q : Int) ∧ t = .bool (thereB ⟨xn, xv, xs⟩ (L.take q)) ∧ Below wq.heap.size wq wr)
              case atStart => exact ⟨0, rfl, Nat.zero_le _, rfl, rfl, Below.refl _ _⟩
              case round =>
                obtain ⟨q, hn3, hq, rfl, rfl, hBr⟩ := hrel
                rename World => wt
                have GQ := hid hn3
                have HBr := hid hBr
                have XR := hid (Ext.below hBr)
                have m0 := XR.out _ _ _ q0.out
                have m2 := XR.out _ _ _ q2.out
                clear hn3 hBr
                by_cases hlq : q < L.length
                · obtain ⟨b2, off2, rfl, he2⟩ := Sl.at ((((HD.out.ext X26.out).ext XQ.out)).ext XR.out) hlq
                  obtain ⟨y0, y1, y2⟩ := he2.cells
                  have HNx := hid (there_next (x := ⟨xn, xv, xs⟩) hlq)
                  clear he2
                  generalize L[q] = d at *
                  obtain ⟨yn, yv, ys⟩ := d
                  simp only at y0 y1 y2 HNx
                  have e2 := ext_alloc wt (.cells #[.string yn, .string yv, .bool ys] 50)
                  have HBs := hid (HBr.out.alloc HBr.out.size (.cells #[.string yn, .string yv, .bool ys] 50))
                  have m0' := e2 _ _ _ m0
                  have m2' := e2 _ _ _ m2
                  clear e2
                  generalize hT1 : thereB ⟨xn, xv, xs⟩ (L.take q) = t1 at *
                  generalize hT2 : thereB ⟨xn, xv, xs⟩ (L.take (q + 1)) = t2 at *
                  have HT2 := hid hT2
                  clear hT1 hT2
                  cases t1 <;> cases hqq : (yn.toList == xn.toList) <;> cases ys <;> cases xs
                  all_goals
                    have HZ := HNx.out
                    simp [hqq] at HZ
                    subst HZ
                    go_wp2_with fail
                    go_roundg (L.length - (q + 1))
                    case measure => have := GQ.out; omega
                    case rel => exact ⟨q + 1, rfl, by omega, by go_num, by rw [HT2.out], HBs.out⟩
                · have HTt : Hid (thereB ⟨xn, xv, xs⟩ (L.take q) = true) := by
                    show _ = _
                    rw [List.take_of_length_le (by omega)]
                    exact HTp.out
                  rw [HTt.out]
                  go_wp2_with fail
                  go_roundg (A.length - (p + 1))
                  case measure => have := GP.out; omega
                  case rel => exact ⟨p + 1, rfl, by omega, by go_num, below_trans HBq.out HBr.out (Nat.le_refl _)⟩
            · go_wp2_with fail
              go_roundg (rules.length - (j + 1))
              case measure => have := GK.out; have := HJ.out; omega
              case rel => exact ⟨j + 1, rfl, by have := HJ.out; omega, by go_num, below_trans B6.out HBp.out (Nat.le_refl _)⟩
        · have hne : (md.toList == []) = false := by
            rw [Bool.eq_false_iff]
            intro h
            exact hmd (ba_ext (by rw [← Lib.toList_data]; simpa using h))
          clear hmd
          go_wp2_with fail
          go_roundg (rules.length - (j + 1))
          case measure => have := GK.out; have := HJ.out; omega
          case rel => exact ⟨j + 1, rfl, by have := HJ.out; omega, by go_num, B5.out⟩
      · go_wp2_with fail
        go_ret
        exact ⟨rfl, HBw.out⟩
end Go.Proofs.YtfobkiglmphgjabGreatDoor
