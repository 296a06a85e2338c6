/- Texts that the statement's proof stands on: FL, FM, FTab. -/
import Derived.Test.YtblkldfokeeaeacGreatDoorA31
import Derived.Test.YtblkldfokeeaeacGreatDoorA20
import Derived.Test.YtblkldfokeeaeacGreatDoorRows
import Derived.ProofKit
import Derived.Deep.Slices
import Derived.OpenShut
import Derived.FnData
import Derived.MakeChecks
namespace Go.Proofs.YtblkldfokeeaeacGreatDoor
open Go.RowKit Go.Maps
def FoldAns (e : Ending) : Except (Nat × Nat) Bs → Prop
  | .error x => e = .returned (.tuple #[.string ⟨#[]⟩, faultV x]) ∧ x.1 ≠ 0
  | .ok T => e = .returned (.tuple #[.string (bsL T), faultV (0, 0)])
theorem made_len {L : List Sh.Nd} {R : List Sh.Rl} : (madeEds L R).length ≤ R.length + L.length := by
  rw [← reTo_all]
  exact reTo_len _
theorem made_txt {S : Bs} {L : List Sh.Nd} {R : List Sh.Rl} (h : Rd S L R) (hm : manyAt L R = none) : ∀ e ∈ madeEds L R, e.2.2.length ≤ 1048576 := fun e he => by
  unfold madeEds at he
  rcases List.mem_append.1 he with he | he
  · unfold ruleEds at he
    obtain ⟨r, _, rfl⟩ := List.mem_map.1 he
    show 1 ≤ 1048576
    decide
  · obtain ⟨⟨n, k⟩, hx, he⟩ := List.mem_flatMap.1 he
    have hk : tooMany n (lookAt (L.map ofN) (R.map ofR) k) = false := by
      unfold manyAt at hm
      have := List.find?_eq_none.1 (Option.map_eq_none_iff.1 hm) _ hx
      simpa using this
    have h1 : (newV (L.map ofN) (R.map ofR) k).length ≤ 4000 := by
      unfold newV printD
      have := Sh.printL_len ((lookAt (L.map ofN) (R.map ofR) k).map Sh.toL) 200 (fun d hd => by
        obtain ⟨x, hx, rfl⟩ := List.mem_map.1 hd
        have h1 := dcl_bd (h.plain k x hx).ok
        have h2 := Sh.printOne_len (Sh.toL x)
        omega)
      rw [List.length_map] at this
      have := many_few hk
      omega
    have h2 : ∀ v : Bs, v.length ≤ 4000 → (if v = [] then [] else Sh.at2 (Sh.styleL, v)).length ≤ 1048576 := fun v hv => by
      split
      · decide
      · rw [Sh.at2_len]
        have : Sh.styleL.length = 5 := rfl
        show _ ≤ _
        simp only [this]
        omega
    unfold restyleB at he
    split at he
    · cases he
    · cases ho : ownA n with
      | none => rw [ho] at he; rw [List.mem_singleton.1 he]; exact h2 _ h1
      | some a => rw [ho] at he; rw [List.mem_singleton.1 he]; exact h2 _ h1
theorem fold_bad {S : Bs} {x : Nat × Nat} (h : readB S = .error x) : foldB S = .error x := by unfold foldB; rw [h]
theorem fold_many {S : Bs} {L : List Sh.Nd} {R : List Sh.Rl} {p : Nat} (h : readB S = .ok (L, R)) (hm : manyAt L R = some p) : foldB S = .error (5, p) := by unfold foldB; rw [h]; simp only; rw [hm]
theorem fold_long {S : Bs} {L : List Sh.Nd} {R : List Sh.Rl} (h : readB S = .ok (L, R)) (hm : manyAt L R = none) : foldB S = if 6000 < (Sh.app S 0 (edsB S L R) S.length).length then .error (4, 0) else .ok (Sh.app S 0 (edsB S L R) S.length) := by unfold foldB; rw [h]; simp only; rw [hm]
set_option maxRecDepth 100000 in
set_option maxHeartbeats 8000000 in
theorem fold_any (s : ByteArray) (w : World) (hs : s.size ≤ 9223372036854775807) (hT : Tab w) :
    Calls Tryz.prog 16 #[.string s] w fun e w' => FoldAns e (foldB s.data.toList) ∧ Below w.heap.size w w' := by
  have HT := hid hT
  have b1 := (Below.refl w.heap.size w).alloc (Nat.le_refl _) (.cells #[.int .i64 0, .int .i64 0] 25)
  have RA := read_any s _ hs (hT.ext (Ext.below b1))
  have B1 := hid b1
  have G1 := hid (FaB.new w 0 0)
  clear hT b1
  cases hrd : readB s.data.toList with
  | error x =>
    rw [hrd] at RA
    simp only [ReadAns] at RA
    have HRA := hid RA
    have HZ := hid (fold_bad hrd)
    clear RA hrd
    obtain ⟨xe, xa⟩ := x
    go_enter Tryz.func16, Tryz.ntmps16
    go_upto_region 3 with (go_at_call 17; refine HRA.out.mono ?_; rintro e w2 ⟨⟨rfl, hx⟩, hb2⟩; have hx' : ¬ ((xe : Int) = 0) := Int.natCast_ne_zero.2 hx; have HX := hid hx; have B2 := hid (below_trans B1.out hb2 (Nat.le_refl _)); have G2 := hid (G1.out.below hb2); have lt2 := G2.out.lt; clear hx hb2; simp only [faultV])
    have G3 := hid (G2.out.alloc (.cells #[.int .i64 xe, .int .i64 xa] 25))
    have B3 := hid (below_al B2.out (o := .cells #[.int .i64 xe, .int .i64 xa] 25))
    have F3 := FaB.new w2 xe xa
    have a0 := F3.cell0
    have a1 := F3.cell1
    have t0 := G3.out.fz 0
    have t1 := G3.out.fz 1
    have v0 := G3.out.cell0
    have v1 := G3.out.cell1
    generalize w2.alloc (.cells #[.int .i64 xe, .int .i64 xa] 25) = w3 at *
    go_region
    all_goals go_wp2_with fail
    all_goals
      have FS := G3.out.set xe xa
      have p0 := FS.cell0
      have p1 := FS.cell1
      refine bodyPost_ret (v := .tuple #[.string ⟨#[]⟩, faultV (xe, xa)]) (by simp [results, Tryz.results16, go_sem, p0, p1, faultV]) rfl ?_
      exact ⟨by rw [HZ.out]; exact ⟨rfl, HX.out⟩, ((B3.out.setCell (Nat.le_refl _) _).setCell (Nat.le_refl _) _).drew⟩
  | ok p =>
    obtain ⟨L, R⟩ := p
    rw [hrd] at RA
    simp only [ReadAns] at RA
    have HRA := hid RA
    have HRd := hid (read_iff.1 hrd)
    have HFm := hid (fun q hm => fold_many (p := q) hrd hm)
    have HFl := hid (fold_long hrd)
    obtain ⟨hL120, hS6, hNd⟩ := page_bd HRd.out.page
    have h6 : s.size ≤ 6000 := by rw [Lib.size_eq s]; exact hS6
    have hR60 := HRd.out.few
    clear RA hrd hNd
    cases hmy : manyAt L R with
    | some q =>
      have HZ := hid (HFm.out q hmy)
      go_enter Tryz.func16, Tryz.ntmps16
      go_upto_region 6 with (first
        | (go_at_call 17; refine HRA.out.mono ?_; rintro e w2 ⟨⟨lv, rv, rfl, hlv, hrv⟩, hb2⟩; have B2 := hid (below_trans B1.out hb2 (Nat.le_refl _)); have G2 := hid (G1.out.below hb2); have lt2 := G2.out.lt; obtain ⟨la, lc, rfl⟩ := nd_form hlv; obtain ⟨ra, rc, rfl⟩ := rs_form hrv; have B3 := hid (below_al B2.out (o := .cells #[.int .i64 0, .int .i64 0] 25)); have AE := hid (allEdits_any HRd.out _ _ (w2.alloc (.cells #[.int .i64 0, .int .i64 0] 25)) ((nds_of hlv).ext (Ext.below (below_al (Below.refl _ _)))) ((rus_of hrv).ext (Ext.below (below_al (Below.refl _ _)))) (HT.out.ext (Ext.below B3.out))); clear hlv hrv hb2; simp only [faultV])
        | (go_at_call 31; refine AE.out.mono ?_; rintro e w4 ⟨he, hb4⟩; unfold EdAns at he; rw [hmy] at he; subst he; have F4 := (FaB.new w2 0 0).below hb4; have z0 := F4.fz 0; have z1 := F4.fz 1; have y0 := F4.cell0; have y1 := F4.cell1; have F5 := hid (F4.set 5 q); have G5 := hid ((G2.out.alloc (.cells #[.int .i64 0, .int .i64 0] 25)).below hb4 |>.other (show w.heap.size ≠ w2.heap.size by omega) 5 q); have B5 := hid (below_setF (below_trans B3.out hb4 (Nat.le_refl _)) (show w.heap.size ≤ w2.heap.size by omega) 5 q); clear hb4 F4; simp only [faultV]))
      simp only [setF] at *
      generalize (w4.setCell ⟨w2.heap.size, 0, none⟩ (.int .i64 5)).setCell ⟨w2.heap.size, 1, none⟩ (.int .i64 q) = w5 at *
      have a0 := F5.out.cell0
      have a1 := F5.out.cell1
      have t0 := G5.out.fz 0
      have t1 := G5.out.fz 1
      have v0 := G5.out.cell0
      have v1 := G5.out.cell1
      clear z0 z1 y0 y1
      go_region
      all_goals go_wp2_with fail
      all_goals
        have FS := G5.out.set 5 q
        have p0 := FS.cell0
        have p1 := FS.cell1
        refine bodyPost_ret (v := .tuple #[.string ⟨#[]⟩, faultV (5, q)]) (by simp [results, Tryz.results16, go_sem, p0, p1, faultV]) rfl ?_
        exact ⟨by rw [HZ.out]; exact ⟨rfl, by show (5 : Nat) ≠ 0; decide⟩, ((B5.out.setCell (Nat.le_refl _) _).setCell (Nat.le_refl _) _).drew⟩
    | none =>
      have HZ := hid (HFl.out hmy)
      have HSd := hid (fun (E' : List Sh.Ed) (h1 : List.Pairwise (fun x y : Sh.Ed => x.1 ≤ y.1) E') h2 => made_sorted HRd.out h1 h2)
      have HMp := hid (made_perm HRd.out)
      have HTx : Hid (∀ e ∈ edsB s.data.toList L R, e.2.2.length ≤ 1048576) := fun e he => made_txt HRd.out hmy e (HMp.out.mem_iff.2 he)
      have HWi := hid HRd.out.spread.2
      have hml := made_len (L := L) (R := R)
      generalize hAp : Sh.app s.data.toList 0 (edsB s.data.toList L R) s.data.toList.length = T at *
      have HAp := hid hAp
      have hbs := bsL_size T
      have hzt : (bsL T).size ≤ 1073741824 := by
        have := app_len (S := s.data.toList) HWi.out HTx.out
        rw [HAp.out] at this
        have hl2 := HMp.out.length_eq
        rw [hbs]
        have : (edsB s.data.toList L R).length ≤ 180 := by omega
        have : (edsB s.data.toList L R).length * 1048576 ≤ 180 * 1048576 := Nat.mul_le_mul_right _ this
        omega
      clear hAp
      go_enter Tryz.func16, Tryz.ntmps16
      by_cases hlong : 6000 < (bsL T).size
      · have HZ2 : Hid (foldB s.data.toList = .error (4, 0)) := by show _ = _; rw [HZ.out, if_pos (by rw [← hbs]; exact hlong)]
        go_wp2_with (first
  | (go_at_call 17; refine HRA.out.mono ?_; rintro e w2 ⟨⟨lv, rv, rfl, hlv, hrv⟩, hb2⟩; have B2 := hid (below_trans B1.out hb2 (Nat.le_refl _)); have G2 := hid (G1.out.below hb2); have lt2 := G2.out.lt; obtain ⟨la, lc, rfl⟩ := nd_form hlv; obtain ⟨ra, rc, rfl⟩ := rs_form hrv; have B3 := hid (below_al B2.out (o := .cells #[.int .i64 0, .int .i64 0] 25)); have AE := hid (allEdits_any HRd.out _ _ (w2.alloc (.cells #[.int .i64 0, .int .i64 0] 25)) ((nds_of hlv).ext (Ext.below (below_al (Below.refl _ _)))) ((rus_of hrv).ext (Ext.below (below_al (Below.refl _ _)))) (HT.out.ext (Ext.below B3.out))); clear hlv hrv hb2; simp only [faultV])
          | (go_at_call 31; refine AE.out.mono ?_; rintro e w4 ⟨he, hb4⟩; unfold EdAns at he; rw [hmy] at he; obtain ⟨ev, rfl, hrow⟩ := he; have F4 := (FaB.new w2 0 0).below hb4; have z0 := F4.fz 0; have z1 := F4.fz 1; have y0 := F4.cell0; have y1 := F4.cell1; have G5 := hid ((G2.out.alloc (.cells #[.int .i64 0, .int .i64 0] 25)).below hb4 |>.other (show w.heap.size ≠ w2.heap.size by omega) 0 0); have B5 := hid (below_setF (below_trans B3.out hb4 (Nat.le_refl _)) (show w.heap.size ≤ w2.heap.size by omega) 0 0); have F5 := F4.set 0 0; have y2 := F5.cell0; have y3 := F5.cell1; have hz4 := hb4.size; have AP := apply_any s _ _ ev _ (setF w4 w2.heap.size 0 0) (Sh.own_keeps hrow (F4.keep25 0 0) (by decide)) (by omega) HSd.out HWi.out h6 HTx.out (by simpa [setF] using hz4); rw [HAp.out] at AP; have HAP := hid AP; obtain ⟨ea, ec, rfl⟩ := own_form hrow; clear hb4 F4 F5 hrow AP hz4; simp only [faultV, setF] at *)
          | (go_at_call 32; refine HAP.out.mono ?_; rintro e w6 ⟨rfl, hb6⟩; have G6 : Hid (FaB w6 w.heap.size 0 0) := (hb6.block _ (by simp; omega)).trans G5.out; have B6 := hid (B5.out.trans (hb6.mono (by simp; omega))); have u0 := G6.out.fz 0; have u1 := G6.out.fz 1; have u2 := G6.out.cell0; have u3 := G6.out.cell1; clear hb6))
        have FS := G6.out.set 4 0
        have p0 := FS.cell0
        have p1 := FS.cell1
        refine bodyPost_ret (v := .tuple #[.string ⟨#[]⟩, faultV (4, 0)]) (by simp [results, Tryz.results16, go_sem, p0, p1, faultV]) rfl ?_
        exact ⟨by rw [HZ2.out]; exact ⟨rfl, by decide⟩, ((B6.out.setCell (Nat.le_refl _) _).setCell (Nat.le_refl _) _)⟩
      · have HZ2 : Hid (foldB s.data.toList = .ok T) := by show _ = _; rw [HZ.out, if_neg (by rw [← hbs]; exact hlong)]
        go_wp2_with (first
  | (go_at_call 17; refine HRA.out.mono ?_; rintro e w2 ⟨⟨lv, rv, rfl, hlv, hrv⟩, hb2⟩; have B2 := hid (below_trans B1.out hb2 (Nat.le_refl _)); have G2 := hid (G1.out.below hb2); have lt2 := G2.out.lt; obtain ⟨la, lc, rfl⟩ := nd_form hlv; obtain ⟨ra, rc, rfl⟩ := rs_form hrv; have B3 := hid (below_al B2.out (o := .cells #[.int .i64 0, .int .i64 0] 25)); have AE := hid (allEdits_any HRd.out _ _ (w2.alloc (.cells #[.int .i64 0, .int .i64 0] 25)) ((nds_of hlv).ext (Ext.below (below_al (Below.refl _ _)))) ((rus_of hrv).ext (Ext.below (below_al (Below.refl _ _)))) (HT.out.ext (Ext.below B3.out))); clear hlv hrv hb2; simp only [faultV])
          | (go_at_call 31; refine AE.out.mono ?_; rintro e w4 ⟨he, hb4⟩; unfold EdAns at he; rw [hmy] at he; obtain ⟨ev, rfl, hrow⟩ := he; have F4 := (FaB.new w2 0 0).below hb4; have z0 := F4.fz 0; have z1 := F4.fz 1; have y0 := F4.cell0; have y1 := F4.cell1; have G5 := hid ((G2.out.alloc (.cells #[.int .i64 0, .int .i64 0] 25)).below hb4 |>.other (show w.heap.size ≠ w2.heap.size by omega) 0 0); have B5 := hid (below_setF (below_trans B3.out hb4 (Nat.le_refl _)) (show w.heap.size ≤ w2.heap.size by omega) 0 0); have F5 := F4.set 0 0; have y2 := F5.cell0; have y3 := F5.cell1; have hz4 := hb4.size; have AP := apply_any s _ _ ev _ (setF w4 w2.heap.size 0 0) (Sh.own_keeps hrow (F4.keep25 0 0) (by decide)) (by omega) HSd.out HWi.out h6 HTx.out (by simpa [setF] using hz4); rw [HAp.out] at AP; have HAP := hid AP; obtain ⟨ea, ec, rfl⟩ := own_form hrow; clear hb4 F4 F5 hrow AP hz4; simp only [faultV, setF] at *)
          | (go_at_call 32; refine HAP.out.mono ?_; rintro e w6 ⟨rfl, hb6⟩; have G6 : Hid (FaB w6 w.heap.size 0 0) := (hb6.block _ (by simp; omega)).trans G5.out; have B6 := hid (B5.out.trans (hb6.mono (by simp; omega))); have u0 := G6.out.fz 0; have u1 := G6.out.fz 1; have u2 := G6.out.cell0; have u3 := G6.out.cell1; clear hb6))
        have FS := G6.out.set 0 0
        have p0 := FS.cell0
        have p1 := FS.cell1
        refine bodyPost_ret (v := .tuple #[.string (bsL T), faultV (0, 0)]) (by simp [results, Tryz.results16, go_sem, p0, p1, faultV]) rfl ?_
        exact ⟨by rw [HZ2.out]; rfl, ((B6.out.setCell (Nat.le_refl _) _).setCell (Nat.le_refl _) _)⟩
end Go.Proofs.YtblkldfokeeaeacGreatDoor
namespace Go.Proofs.YtblkldfokeeaeacGreatDoor
open Go.RowKit Go.Maps
def aliveS : Bs := [60, 115, 116, 121, 108, 101, 62, 112, 123, 99, 111, 108, 111, 114, 58, 114, 101, 100, 125, 60, 47, 115, 116, 121, 108, 101, 62, 60, 112, 62, 120, 60, 47, 112, 62]
def aliveT : Bs := [60, 115, 116, 121, 108, 101, 62, 32, 60, 47, 115, 116, 121, 108, 101, 62, 60, 112, 32, 115, 116, 121, 108, 101, 61, 34, 99, 111, 108, 111, 114, 58, 32, 114, 101, 100, 34, 62, 120, 60, 47, 112, 62]
def lookQ (l : List Nd) (Q : List Ru) (k : Nat) : List Dc := lookOf (okCl (claimsB styF l k Q []))
def edsQ (S : Bs) (L : List Sh.Nd) (R : List Sh.Rl) : List Sh.Ed := Sh.eds (fun k => printD (lookQ (L.map ofN) (R.map ofR) k)) (fun j => match L[j]? with | none => [] | some n => Sh.edR n.inFrom ((rulesAt S n).zip ((rulesAt S n).map fun _ => false))) L 0
theorem stay_no {l : List Nd} {R : List Ru} (h : ∀ r ∈ R, r.media.toList.isEmpty = true) (r : Ru) : stayB l R r = false := by
  cases hs : stayB l R r with
  | false => rfl
  | true => exact (Sh.StR.none (fun q hq hm => by rw [h q hq] at hm; cases hm) (stay_iff.1 hs)).elim
theorem goes_allB {l : List Nd} {R : List Ru} (h : ∀ r ∈ R, r.media.toList.isEmpty = true) : goesB l R = R := by
  unfold goesB
  rw [List.filter_eq_self]
  intro r hr
  rw [stay_no h]
  rfl
theorem foldQ {S T : Bs} {L : List Sh.Nd} {R : List Sh.Rl} (hr : readB S = .ok (L, R)) (hm : ∀ r ∈ R.map ofR, r.media.toList.isEmpty = true) (hk : (L.zipIdx.any fun x => tooMany x.1 (lookQ (L.map ofN) (R.map ofR) x.2)) = false) (hT : Sh.app S 0 (edsQ S L R) S.length = T) (hl : T.length ≤ 6000) : foldB S = .ok T := by
  have e1 : ∀ k, lookAt (L.map ofN) (R.map ofR) k = lookQ (L.map ofN) (R.map ofR) k := fun k => by unfold lookAt lookQ; rw [goes_allB hm]
  have e2 : manyAt L R = none := by
    unfold manyAt
    rw [Option.map_eq_none_iff, List.find?_eq_none]
    intro x hx
    rw [e1]
    rw [List.any_eq_false] at hk
    exact hk x hx
  have e3 : edsB S L R = edsQ S L R := by
    unfold edsB edsQ goneEd flagsAt
    congr 1
    · funext k
      unfold newV
      rw [e1]
    · funext j
      cases L[j]? with
      | none => rfl
      | some n => simp only [stay_no hm]
  rw [fold_long hr e2, e3, hT, if_neg (by omega)]
def aliveL : List Sh.Nd := match readB aliveS with
  | .ok p => p.1
  | .error _ => []
def aliveR : List Sh.Rl := match readB aliveS with
  | .ok p => p.2
  | .error _ => []
theorem alive_read : ∃ L R, readB aliveS = .ok (L, R) ∧ (∀ r ∈ R.map ofR, r.media.toList.isEmpty = true) ∧ (L.zipIdx.any fun x => tooMany x.1 (lookQ (L.map ofN) (R.map ofR) x.2)) = false ∧ Sh.app aliveS 0 (edsQ aliveS L R) aliveS.length = aliveT := by
  refine ⟨aliveL, aliveR, by kernel_rfl, ?_, by kernel_rfl, by kernel_rfl⟩
  exact of_decide_eq_true (by kernel_rfl)
theorem alive_fold : foldB aliveS = .ok aliveT := by
  obtain ⟨L, R, h1, h2, h3, h4⟩ := alive_read
  exact foldQ h1 h2 h3 h4 (by decide)
set_option maxRecDepth 100000 in
set_option maxHeartbeats 4000000 in
theorem alive_any (w : World) (hT : Tab w) : Calls Tryz.prog 15 #[] w fun e w' => e = .returned (.bool true) ∧ Below w.heap.size w w' := by
  have FA := fold_any ⟨aliveS.toArray⟩ w (by decide) hT
  have e1 : (⟨aliveS.toArray⟩ : ByteArray).data.toList = aliveS := rfl
  rw [e1, alive_fold] at FA
  simp only [FoldAns] at FA
  have HF := hid FA
  clear FA e1 hT
  go_enter Tryz.func15, Tryz.ntmps15
  go_wp2_with (go_at_call 16; refine HF.out.mono ?_; rintro e w2 ⟨rfl, hb2⟩; have HB := hid hb2; clear hb2; simp only [faultV])
  go_ret
  refine ⟨?_, HB.out.alloc HB.out.size _⟩
  have e : ((bsL aliveT).toList == [60, 115, 116, 121, 108, 101, 62, 32, 60, 47, 115, 116, 121, 108, 101, 62, 60, 112, 32, 115, 116, 121, 108, 101, 61, 34, 99, 111, 108, 111, 114, 58, 32, 114, 101, 100, 34, 62, 120, 60, 47, 112, 62]) = true := by
    rw [bsL_toList]
    rfl
  rw [e]
  rfl
theorem fold_len {S T : Bs} (h : foldB S = .ok T) : T.length ≤ 6000 := by
  obtain ⟨L, R, L', R', t, hf, _, _⟩ := fold_ok h
  exact (page_bd hf.again.page).2.1
set_option maxRecDepth 100000 in
set_option maxHeartbeats 4000000 in
theorem foldTwice_any (s : ByteArray) (w : World) (hs : s.size ≤ 9223372036854775807) (hT : Tab w) : Calls Tryz.prog 4 #[.string s] w fun e w' => e = .returned (.bool true) ∧ Below w.heap.size w w' := by
  have AL := hid (alive_any w hT)
  have HT := hid hT
  have FA := hid (fun w' hT' => fold_any s w' hs hT')
  clear hT
  cases hf : foldB s.data.toList with
  | error x =>
    rw [hf] at FA
    simp only [FoldAns] at FA
    obtain ⟨xe, xa⟩ := x
    go_enter Tryz.func4, Tryz.ntmps4
    go_wp2_with (first
      | (go_at_call 15; refine AL.out.mono ?_; rintro e w1 ⟨rfl, hb1⟩; have HB1 := hid hb1; clear hb1)
      | (go_at_call 16; refine (FA.out w1 (HT.out.ext (Ext.below HB1.out))).mono ?_; rintro e w2 ⟨⟨rfl, hx⟩, hb2⟩; have HB2 := hid (below_trans HB1.out hb2 (Nat.le_refl _)); have hx' : ¬ ((xe : Int) = 0) := Int.natCast_ne_zero.2 hx; clear hb2 hx; simp only [faultV]))
    go_ret
    exact ⟨rfl, below_al HB2.out⟩
  | ok T =>
    rw [hf] at FA
    simp only [FoldAns] at FA
    have HTw : Hid (foldB T = .ok T) := by
      obtain ⟨L, R, L', R', t, h1, _, _⟩ := fold_ok hf
      exact h1.twice
    have FB := hid (fun w' hT' => fold_any (bsL T) w' (by rw [bsL_size]; have := fold_len hf; omega) hT')
    rw [show (bsL T).data.toList = T from rfl, HTw.out] at FB
    simp only [FoldAns] at FB
    generalize bsL T = bt at *
    go_enter Tryz.func4, Tryz.ntmps4
    go_wp2_with (first
      | (go_at_call 15; refine AL.out.mono ?_; rintro e w1 ⟨rfl, hb1⟩; have HB1 := hid hb1; clear hb1)
      | (go_at_call 16; refine (FB.out _ (HT.out.ext (Ext.below HB3.out))).mono ?_; rintro e w4 ⟨rfl, hb4⟩; have F4 := HF2.out.below hb4; have z0 := F4.fz 0; have z1 := F4.fz 1; have y0 := F4.cell0; have y1 := F4.cell1; have F5 := F4.set 0 0; have y2 := F5.cell0; have y3 := F5.cell1; have HB5 := hid (below_setF (below_trans HB3.out hb4 (Nat.le_refl _)) HB2.out.size 0 0); clear hb4 F4 F5; simp only [faultV])
      | (go_at_call 16; refine (FA.out w1 (HT.out.ext (Ext.below HB1.out))).mono ?_; rintro e w2 ⟨rfl, hb2⟩; have HB2 := hid (below_trans HB1.out hb2 (Nat.le_refl _)); have HF2 := hid (FaB.new w2 0 0); have HB3 := hid (below_al HB2.out (o := .cells #[.int .i64 0, .int .i64 0] 25)); clear hb2; simp only [faultV]))
    go_ret
    exact ⟨rfl, HB5.out⟩
end Go.Proofs.YtblkldfokeeaeacGreatDoor
namespace Go.Proofs.YtblkldfokeeaeacGreatDoor
open Go.RowKit
theorem cl9 : Tryz.prog.cellsOf 9 = 1 := by kernel_rfl
theorem cl3 : Tryz.prog.cellsOf 3 = 1 := by kernel_rfl
theorem cl184 : Tryz.prog.cellsOf 184 = 4 := by kernel_rfl
theorem cl252 : Tryz.prog.cellsOf 252 = 4 := by kernel_rfl
theorem gS : Tryz.prog.globalNamed "inkwell/props.sides" = some 0 := by kernel_rfl
theorem gI : Tryz.prog.globalNamed "inkwell/props.instead" = some 1 := by kernel_rfl
theorem tS : (Tryz.prog.globals[0]?).map (·.type) = some 184 := by kernel_rfl
theorem tI : (Tryz.prog.globals[1]?).map (·.type) = some 252 := by kernel_rfl
set_option maxRecDepth 100000 in
set_option maxRecDepth 100000 in
theorem arr4 {W : World} {fuel : Nat} {cs : List Value} {p : List MemPlace} {a b c d : List UInt8}
    (h : DataW.trod (fun _ => ()) Tryz.prog W 0 (fun _ => true) false fuel 184 cs = some (.agg [.lit (.string a), .lit (.string b), .lit (.string c), .lit (.string d)], p)) :
    cs = [.string ⟨⟨a⟩⟩, .string ⟨⟨b⟩⟩, .string ⟨⟨c⟩⟩, .string ⟨⟨d⟩⟩] := by
  obtain ⟨xs, m, rfl, hx, hl, hn, hel⟩ := DataW.trod_array Tryz.underlying184 h
  rw [cl184] at hl
  rw [cl9] at hel
  simp only [Prod.mk.injEq, DataW.agg.injEq] at hx
  match cs, hl, xs, hn, hx with
  | [c0, c1, c2, c3], _, [x0, x1, x2, x3], _, hx =>
    simp only [List.map_cons, List.map_nil, List.cons.injEq, and_true] at hx
    obtain ⟨⟨q0, q1, q2, q3⟩, _⟩ := hx
    have one : ∀ {v : Value} {x : DataW Unit × List MemPlace} {z : List UInt8}, DataW.trod (fun _ => ()) Tryz.prog W 0 (fun _ => true) false m 9 [v] = some x → (DataW.lit (.string z) : DataW Unit) = x.1 → v = .string ⟨⟨z⟩⟩ := fun {v x z} h e => by
      obtain ⟨y, hy, hy', _⟩ := DataW.trod_string Tryz.underlying9 h
      rw [hy'] at e
      simp only [DataW.lit.injEq, Lit.string.injEq] at e
      injection hy with hy _
      rw [hy, e]
    rw [one (hel 0 (by decide)) q0, one (hel 1 (by decide)) q1, one (hel 2 (by decide)) q2, one (hel 3 (by decide)) q3]
set_option maxRecDepth 100000 in
set_option maxRecDepth 100000 in
theorem arr4i {W : World} {fuel : Nat} {cs : List Value} {p : List MemPlace} {a b c d : Int}
    (h : DataW.trod (fun _ => ()) Tryz.prog W 0 (fun _ => true) false fuel 252 cs = some (.agg [.lit (.int .i64 a), .lit (.int .i64 b), .lit (.int .i64 c), .lit (.int .i64 d)], p)) :
    cs = [.int .i64 a, .int .i64 b, .int .i64 c, .int .i64 d] := by
  obtain ⟨xs, m, rfl, hx, hl, hn, hel⟩ := DataW.trod_array Tryz.underlying252 h
  rw [cl252] at hl
  rw [cl3] at hel
  simp only [Prod.mk.injEq, DataW.agg.injEq] at hx
  match cs, hl, xs, hn, hx with
  | [c0, c1, c2, c3], _, [x0, x1, x2, x3], _, hx =>
    simp only [List.map_cons, List.map_nil, List.cons.injEq, and_true] at hx
    obtain ⟨⟨q0, q1, q2, q3⟩, _⟩ := hx
    have one : ∀ {v : Value} {x : DataW Unit × List MemPlace} {z : Int}, DataW.trod (fun _ => ()) Tryz.prog W 0 (fun _ => true) false m 3 [v] = some x → (DataW.lit (.int .i64 z) : DataW Unit) = x.1 → v = .int .i64 z := fun {v x z} h e => by
      obtain ⟨y, hy, hy', _⟩ := DataW.trod_int Tryz.underlying3 h
      rw [hy'] at e
      simp only [DataW.lit.injEq, Lit.int.injEq, true_and] at e
      injection hy with hy _
      rw [hy, e]
    rw [one (hel 0 (by decide)) q0, one (hel 1 (by decide)) q1, one (hel 2 (by decide)) q2, one (hel 3 (by decide)) q3]
set_option maxRecDepth 100000 in
theorem tab_of {W : World} (h : laidMetH Tryz.prog [("unicode/utf8.acceptRanges", Rows.laid_unicode_utf8_acceptRanges), ("inkwell/props.sides", Rows.laid_inkwell_props_sides), ("inkwell/props.instead", Rows.laid_inkwell_props_instead), ("unicode/utf8.first", Rows.laid_unicode_utf8_first)] W)
    (hm : ∃ m : Int, W.cell? ⟨2, 0, none⟩ = some (.int .i64 m)) : Tab W := by
  rw [MakeChecks.laidMetH_plain _ _ _ (by kernel_rfl)] at h
  obtain ⟨ps, ⟨_, _, _, _, _, _, _, _, _, _, ⟨g0, t0, cs0, f0, p0, q0, hg0, ht0, hv0, hd0, ⟨g1, t1, cs1, f1, p1, q1, hg1, ht1, hv1, hd1, _, _⟩, _⟩, _⟩, _, _⟩ := h
  obtain rfl := Option.some.inj (gS.symm.trans hg0)
  obtain rfl := Option.some.inj (gI.symm.trans hg1)
  obtain rfl := Option.some.inj (tS.symm.trans ht0)
  obtain rfl := Option.some.inj (tI.symm.trans ht1)
  have e0 := arr4 hd0
  have e1 := arr4i hd1
  have c0 : ∀ i, W.cell? ⟨0, i, none⟩ = cs0.toList[i]? := fun i => by rw [World.var?_cell hg0 hv0 i]; simp
  have c1 : ∀ i, W.cell? ⟨1, i, none⟩ = cs1.toList[i]? := fun i => by rw [World.var?_cell hg1 hv1 i]; simp
  rw [e0] at c0
  rw [e1] at c1
  exact ⟨c0 0, c0 1, c0 2, c0 3, c1 0, c1 1, c1 2, c1 3, hm⟩
end Go.Proofs.YtblkldfokeeaeacGreatDoor
