/-
  What SameRules of the statements answers where both slices hold the same rules: true. Conditions: at most 100 of each.
-/
import Derived.Test.YtblkldfokeeaeacGreatDoorAxSheetSame
namespace Go.Proofs.YtblkldfokeeaeacGreatDoor.Sh
open Go.RowKit
def Few (r : Rl) : Prop := r.sels.length ≤ 100 ∧ r.decls.length ≤ 100 ∧ ∀ p ∈ r.sels, p.length ≤ 100 ∧ ∀ q ∈ p, q.tests.length ≤ 100
set_option maxRecDepth 100000 in
set_option maxHeartbeats 4000000 in
theorem sameRules_any (l : List Rl) (b1 b2 : Nat) (v1 v2 : Value) (w : World) (hL : l.length ≤ 100) (hF : ∀ r ∈ l, Few r) (h1 : RsIn w b1 v1 l) (h2 : RsIn w b2 v2 l) :
    Calls Tryz.prog 22 #[v1, v2] w fun e w' => e = .returned (.bool true) ∧ ∃ n, w' = w.drewN n := by
  obtain ⟨a1, c1, rfl⟩ := NAt.form h1
  obtain ⟨a2, c2, rfl⟩ := NAt.form h2
  obtain ⟨LV1, m1, o1, s1⟩ := h1
  obtain ⟨LV2, m2, o2, s2⟩ := h2
  have l1 : LV1.length = l.length := by rw [← m1, List.length_map]
  have l2 : LV2.length = l.length := by rw [← m2, List.length_map]
  have O1 := hid o1
  have O2 := hid o2
  have M1 := hid m1
  have M2 := hid m2
  have S1 := hid s1
  have S2 := hid s2
  have HF := hid hF
  have L1 := hid l1
  have L2 := hid l2
  clear o1 o2 m1 m2 s1 s2 hF l1 l2
  go_enter Tryz.func22, Tryz.ntmps22
  go_wp2_with fail
  go_loopg [14] l.length (fun n i wr => ∃ k, k ≤ l.length ∧ n = l.length - k ∧ i = .int .i64 (k : Int) ∧ ∃ m, wr = w.drewN m)
  case atStart => exact ⟨0, Nat.zero_le _, rfl, rfl, 0, rfl⟩
  case round =>
    obtain ⟨k, hk, hn, rfl, hw⟩ := hrel
    have GK := hid hn
    have HW := hid hw
    clear hn
    rename World => wo
    have cw : ∀ a, w.cell? a = wo.cell? a := by obtain ⟨m, rfl⟩ := hw; intro a; rfl
    have dw : ∀ v l, DsAt w v l → DsAt wo v l := by obtain ⟨m, rfl⟩ := hw; intro v l h; exact h
    clear hw
    by_cases hlt : k < l.length
    · have k1 : k < LV1.length := by rw [L1.out]; exact hlt
      have k2 : k < LV2.length := by rw [L2.out]; exact hlt
      obtain ⟨g1, rfl, p⟩ := row_at (enc := encR) (sz := 5) (fun _ => rfl) L1.out O1.out k1 (by decide)
      obtain ⟨g2, rfl, q⟩ := row_at (enc := encR) (sz := 5) (fun _ => rfl) L2.out O2.out k2 (by decide)
      have p0 := p 0 (by decide)
      have p1 := p 1 (by decide)
      have p2 := p 2 (by decide)
      have p3 := p 3 (by decide)
      have p4 := p 4 (by decide)
      have q0 := q 0 (by decide)
      have q1 := q 1 (by decide)
      have q2 := q 2 (by decide)
      have q3 := q 3 (by decide)
      have q4 := q 4 (by decide)
      have t1 := S1.out LV1[k] (List.getElem_mem k1)
      have t2 := S2.out LV2[k] (List.getElem_mem k2)
      have e1 : LV1[k].1 = l[k] := by have := M1.out; simp [← this]
      have e2 : LV2[k].1 = l[k] := by have := M2.out; simp [← this]
      have ht := HF.out l[k] (List.getElem_mem hlt)
      have pw := p1
      have qw := q1
      simp [encR, -Go.CellFam.cellOfFamily] at pw qw
      have PW := hid pw
      have QW := hid qw
      clear pw qw
      rw [cw] at p0 p1 p2 p3 p4 q0 q1 q2 q3 q4
      simp [encR, -Go.CellFam.cellOfFamily] at p0 p1 p2 p3 p4 q0 q1 q2 q3 q4
      rw [e1] at p0 p3 p4 t1
      rw [e2] at q0 q3 q4 t2
      generalize l[k] = rk at *
      generalize LV1[k].2.1 = x1 at *
      generalize LV2[k].2.1 = x2 at *
      generalize LV1[k].2.2 = y1 at *
      generalize LV2[k].2.2 = y2 at *
      obtain ⟨md, sl, dl, fr, tt⟩ := rk
      simp only at p0 p1 p2 p3 p4 q0 q1 q2 q3 q4 t1 t2 ht
      obtain ⟨ts1, td1⟩ := t1
      obtain ⟨ts2, td2⟩ := t2
      obtain ⟨f1, f2, f3⟩ := ht
      simp only at f1 f2 f3
      obtain ⟨b1, d1, rfl⟩ := NAt.form (show SsIn w 0 x1 sl from ts1)
      obtain ⟨b2, d2, rfl⟩ := NAt.form (show SsIn w 0 x2 sl from ts2)
      obtain ⟨b3, d3, rfl⟩ := own_form td1
      obtain ⟨b4, d4, rfl⟩ := own_form td2
      have T1 := hid ts1
      have T2 := hid ts2
      have F3 := hid f3
      have TD1 := hid (dw _ _ td1)
      have TD2 := hid (dw _ _ td2)
      have F2 := hid f2
      have e33 := sneq36 fr tt
      have g33 := eg36
      have hnn : ((bs md).toList == (bs md).toList) = true := by simp
      clear dw cw ts1 ts2 td1 td2 p q e1 e2 k1 k2 f3
      go_wp2_with fail
      go_quiet (first | (go_at_call 43; exact Calls.quiet_of (sameDecls_any dl _ _ _ F2.out TD1.out TD2.out)))
      clear e33 g33 hnn p0 p2 p3 p4 q0 q2 q3 q4
      go_wp2_with fail
      obtain ⟨LW1, m1, o1, s1⟩ := T1.out
      obtain ⟨LW2, m2, o2, s2⟩ := T2.out
      have LL1 : Hid (LW1.length = sl.length) := by show LW1.length = sl.length; rw [← m1, List.length_map]
      have LL2 : Hid (LW2.length = sl.length) := by show LW2.length = sl.length; rw [← m2, List.length_map]
      have OO1 := hid o1
      have OO2 := hid o2
      have MM1 := hid m1
      have MM2 := hid m2
      have SS1 := hid s1
      have SS2 := hid s2
      clear o1 o2 m1 m2 s1 s2
      go_loopg [76] sl.length (fun n i wr => ∃ j, j ≤ sl.length ∧ n = sl.length - j ∧ i = .int .i64 (j : Int) ∧ ∃ m, wr = w.drewN m)
      case atStart =>
        obtain ⟨m, hm⟩ := HW.out
        exact ⟨0, Nat.zero_le _, rfl, rfl, m + nq, by rw [hm]; simp⟩
      case round =>
        obtain ⟨j, hj, hn, rfl, hw⟩ := hrel
        have GJ := hid hn
        have HW2 := hid hw
        clear hn
        have cw : ∀ a, w.cell? a = wr.cell? a := by obtain ⟨m, rfl⟩ := hw; intro a; rfl
        have dw : ∀ v l, PsAt w v l → PsAt wr v l := by obtain ⟨m, rfl⟩ := hw; intro v l h; exact h
        clear hw
        by_cases hjl : j < sl.length
        · have k1 : j < LW1.length := by rw [LL1.out]; exact hjl
          have k2 : j < LW2.length := by rw [LL2.out]; exact hjl
          obtain ⟨h1, rfl, p⟩ := row_at (enc := encS) (sz := 1) (fun _ => rfl) LL1.out OO1.out k1 (by decide)
          obtain ⟨h2, rfl, q⟩ := row_at (enc := encS) (sz := 1) (fun _ => rfl) LL2.out OO2.out k2 (by decide)
          have r0 := p 0 (by decide)
          have u0 := q 0 (by decide)
          have t1 := SS1.out LW1[j] (List.getElem_mem k1)
          have t2 := SS2.out LW2[j] (List.getElem_mem k2)
          have e1 : LW1[j].1 = sl[j] := by have := MM1.out; simp [← this]
          have e2 : LW2[j].1 = sl[j] := by have := MM2.out; simp [← this]
          have ff := F3.out sl[j] (List.getElem_mem hjl)
          have pw := PW.out
          have qw := QW.out
          rw [cw] at r0 u0 pw qw
          simp [encS, -Go.CellFam.cellOfFamily] at r0 u0
          rw [e1] at t1
          rw [e2] at t2
          generalize sl[j] = sj at *
          generalize LW1[j].2 = x1 at *
          generalize LW2[j].2 = x2 at *
          obtain ⟨z1, w1, rfl⟩ := NAt.form (show PsIn w 0 x1 sj from t1)
          obtain ⟨z2, w2, rfl⟩ := NAt.form (show PsIn w 0 x2 sj from t2)
          have TT1 := hid (dw _ _ t1)
          have TT2 := hid (dw _ _ t2)
          have FF := hid ff
          clear dw cw t1 t2 ff p q e1 e2 k1 k2
          go_wp2_with fail
          go_quiet (first | (go_at_call 44; exact Calls.quiet_of (sameSel_any sj _ _ _ FF.out.1 FF.out.2 TT1.out TT2.out)))
          go_wp2_with fail
          go_roundg (sl.length - (j + 1))
          case measure => have := GJ.out; omega
          case rel =>
            obtain ⟨m, hm⟩ := HW2.out
            exact ⟨j + 1, by omega, rfl, by go_num, m + nq, by rw [hm]; simp⟩
        · clear cw dw
          go_wp2_with fail
          go_roundg (l.length - (k + 1))
          case measure => have := GK.out; omega
          case rel => exact ⟨k + 1, by omega, rfl, by go_num, HW2.out⟩
    · clear cw dw
      go_wp2_with fail
      go_ret
      exact ⟨rfl, HW.out⟩
end Go.Proofs.YtblkldfokeeaeacGreatDoor.Sh
