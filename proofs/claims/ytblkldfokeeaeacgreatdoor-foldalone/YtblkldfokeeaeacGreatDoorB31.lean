/- Texts that the statement's proof stands on: FL, FM, FTab, R1, R2, R25. -/
import Derived.Test.YtblkldfokeeaeacGreatDoorB30
import Derived.Test.YtblkldfokeeaeacGreatDoorB19
import Derived.Test.YtblkldfokeeaeacGreatDoorRows
import Derived.ProofKit
import Derived.Deep.Slices
import Derived.OpenShut
import Derived.FnData
import Derived.MakeChecks
import Derived.Test.YtblkldfokeeaeacGreatDoorB17
import Derived.Maps.Own
import Derived.Maps.OwnOps
import Derived.Maps.OwnSet
import Derived.Maps.Views
import Derived.Maps.StringElems
import Derived.Deep.RegionHeld3
namespace Go.Proofs.YtblkldfokeeaeacGreatDoor
open Go.RowKit Go.Maps
def FoldAns (e : Ending) : Except (Nat × Nat) Bs → Prop
  | .error x => e = .returned (.tuple #[.string ⟨#[]⟩, faultV x]) ∧ x.1 ≠ 0
  | .ok T => e = .returned (.tuple #[.string (bsL T), faultV (0, 0)])
theorem made_len {L : List Sh.Nd} {R : List Sh.Rl} : (madeEds L R).length ≤ R.length + L.length := by
  rw [← reTo_all]
  exact reTo_len _
theorem made_txt {S : Bs} {L : List Sh.Nd} {R : List Sh.Rl} (h : Rd S L R) (hm : manyAt L R = none) : ∀ e ∈ madeEds L R, e.2.2.length ≤ 1048576 := fun e he => by
  unfold madeEds at he
  rcases List.mem_append.1 he with he | he
  · unfold ruleEds at he
    obtain ⟨r, _, rfl⟩ := List.mem_map.1 he
    show 1 ≤ 1048576
    decide
  · obtain ⟨⟨n, k⟩, hx, he⟩ := List.mem_flatMap.1 he
    have hk : tooMany n (lookAt (L.map ofN) (R.map ofR) k) = false := by
      unfold manyAt at hm
      have := List.find?_eq_none.1 (Option.map_eq_none_iff.1 hm) _ hx
      simpa using this
    have h1 : (newV (L.map ofN) (R.map ofR) k).length ≤ 4000 := by
      unfold newV printD
      have := Sh.printL_len ((lookAt (L.map ofN) (R.map ofR) k).map Sh.toL) 200 (fun d hd => by
        obtain ⟨x, hx, rfl⟩ := List.mem_map.1 hd
        have h1 := dcl_bd (h.plain k x hx).ok
        have h2 := Sh.printOne_len (Sh.toL x)
        omega)
      rw [List.length_map] at this
      have := many_few hk
      omega
    have h2 : ∀ v : Bs, v.length ≤ 4000 → (if v = [] then [] else Sh.at2 (Sh.styleL, v)).length ≤ 1048576 := fun v hv => by
      split
      · decide
      · rw [Sh.at2_len]
        have : Sh.styleL.length = 5 := rfl
        show _ ≤ _
        simp only [this]
        omega
    unfold restyleB at he
    split at he
    · cases he
    · cases ho : ownA n with
      | none => rw [ho] at he; rw [List.mem_singleton.1 he]; exact h2 _ h1
      | some a => rw [ho] at he; rw [List.mem_singleton.1 he]; exact h2 _ h1
theorem fold_bad {S : Bs} {x : Nat × Nat} (h : readB S = .error x) : foldB S = .error x := by unfold foldB; rw [h]
theorem fold_many {S : Bs} {L : List Sh.Nd} {R : List Sh.Rl} {p : Nat} (h : readB S = .ok (L, R)) (hm : manyAt L R = some p) : foldB S = .error (5, p) := by unfold foldB; rw [h]; simp only; rw [hm]
theorem fold_long {S : Bs} {L : List Sh.Nd} {R : List Sh.Rl} (h : readB S = .ok (L, R)) (hm : manyAt L R = none) : foldB S = if 6000 < (Sh.app S 0 (edsB S L R) S.length).length then .error (4, 0) else .ok (Sh.app S 0 (edsB S L R) S.length) := by unfold foldB; rw [h]; simp only; rw [hm]
set_option maxRecDepth 100000 in
set_option maxHeartbeats 8000000 in
theorem fold_any (s : ByteArray) (w : World) (hs : s.size ≤ 9223372036854775807) (hT : Tab w) :
    Calls Tryz.prog 16 #[.string s] w fun e w' => FoldAns e (foldB s.data.toList) ∧ Below w.heap.size w w' := by
  have HT := hid hT
  have b1 := (Below.refl w.heap.size w).alloc (Nat.le_refl _) (.cells #[.int .i64 0, .int .i64 0] 25)
  have RA := read_any s _ hs (hT.ext (Ext.below b1))
  have B1 := hid b1
  have G1 := hid (FaB.new w 0 0)
  clear hT b1
  cases hrd : readB s.data.toList with
  | error x =>
    rw [hrd] at RA
    simp only [ReadAns] at RA
    have HRA := hid RA
    have HZ := hid (fold_bad hrd)
    clear RA hrd
    obtain ⟨xe, xa⟩ := x
    go_enter Tryz.func16, Tryz.ntmps16
    go_upto_region 3 with (go_at_call 17; refine HRA.out.mono ?_; rintro e w2 ⟨⟨rfl, hx⟩, hb2⟩; have hx' : ¬ ((xe : Int) = 0) := Int.natCast_ne_zero.2 hx; have HX := hid hx; have B2 := hid (below_trans B1.out hb2 (Nat.le_refl _)); have G2 := hid (G1.out.below hb2); have lt2 := G2.out.lt; clear hx hb2; simp only [faultV])
    have G3 := hid (G2.out.alloc (.cells #[.int .i64 xe, .int .i64 xa] 25))
    have B3 := hid (below_al B2.out (o := .cells #[.int .i64 xe, .int .i64 xa] 25))
    have F3 := FaB.new w2 xe xa
    have a0 := F3.cell0
    have a1 := F3.cell1
    have t0 := G3.out.fz 0
    have t1 := G3.out.fz 1
    have v0 := G3.out.cell0
    have v1 := G3.out.cell1
    generalize w2.alloc (.cells #[.int .i64 xe, .int .i64 xa] 25) = w3 at *
    go_region
    all_goals go_wp2_with fail
    all_goals
      have FS := G3.out.set xe xa
      have p0 := FS.cell0
      have p1 := FS.cell1
      refine bodyPost_ret (v := .tuple #[.string ⟨#[]⟩, faultV (xe, xa)]) (by simp [results, Tryz.results16, go_sem, p0, p1, faultV]) rfl ?_
      exact ⟨by rw [HZ.out]; exact ⟨rfl, HX.out⟩, ((B3.out.setCell (Nat.le_refl _) _).setCell (Nat.le_refl _) _).drew⟩
  | ok p =>
    obtain ⟨L, R⟩ := p
    rw [hrd] at RA
    simp only [ReadAns] at RA
    have HRA := hid RA
    have HRd := hid (read_iff.1 hrd)
    have HFm := hid (fun q hm => fold_many (p := q) hrd hm)
    have HFl := hid (fold_long hrd)
    obtain ⟨hL120, hS6, hNd⟩ := page_bd HRd.out.page
    have h6 : s.size ≤ 6000 := by rw [Lib.size_eq s]; exact hS6
    have hR60 := HRd.out.few
    clear RA hrd hNd
    cases hmy : manyAt L R with
    | some q =>
      have HZ := hid (HFm.out q hmy)
      go_enter Tryz.func16, Tryz.ntmps16
      go_upto_region 6 with (first
        | (go_at_call 17; refine HRA.out.mono ?_; rintro e w2 ⟨⟨lv, rv, rfl, hlv, hrv⟩, hb2⟩; have B2 := hid (below_trans B1.out hb2 (Nat.le_refl _)); have G2 := hid (G1.out.below hb2); have lt2 := G2.out.lt; obtain ⟨la, lc, rfl⟩ := nd_form hlv; obtain ⟨ra, rc, rfl⟩ := rs_form hrv; have B3 := hid (below_al B2.out (o := .cells #[.int .i64 0, .int .i64 0] 25)); have AE := hid (allEdits_any HRd.out _ _ (w2.alloc (.cells #[.int .i64 0, .int .i64 0] 25)) ((nds_of hlv).ext (Ext.below (below_al (Below.refl _ _)))) ((rus_of hrv).ext (Ext.below (below_al (Below.refl _ _)))) (HT.out.ext (Ext.below B3.out))); clear hlv hrv hb2; simp only [faultV])
        | (go_at_call 31; refine AE.out.mono ?_; rintro e w4 ⟨he, hb4⟩; unfold EdAns at he; rw [hmy] at he; subst he; have F4 := (FaB.new w2 0 0).below hb4; have z0 := F4.fz 0; have z1 := F4.fz 1; have y0 := F4.cell0; have y1 := F4.cell1; have F5 := hid (F4.set 5 q); have G5 := hid ((G2.out.alloc (.cells #[.int .i64 0, .int .i64 0] 25)).below hb4 |>.other (show w.heap.size ≠ w2.heap.size by omega) 5 q); have B5 := hid (below_setF (below_trans B3.out hb4 (Nat.le_refl _)) (show w.heap.size ≤ w2.heap.size by omega) 5 q); clear hb4 F4; simp only [faultV]))
      simp only [setF] at *
      generalize (w4.setCell ⟨w2.heap.size, 0, none⟩ (.int .i64 5)).setCell ⟨w2.heap.size, 1, none⟩ (.int .i64 q) = w5 at *
      have a0 := F5.out.cell0
      have a1 := F5.out.cell1
      have t0 := G5.out.fz 0
      have t1 := G5.out.fz 1
      have v0 := G5.out.cell0
      have v1 := G5.out.cell1
      clear z0 z1 y0 y1
      go_region
      all_goals go_wp2_with fail
      all_goals
        have FS := G5.out.set 5 q
        have p0 := FS.cell0
        have p1 := FS.cell1
        refine bodyPost_ret (v := .tuple #[.string ⟨#[]⟩, faultV (5, q)]) (by simp [results, Tryz.results16, go_sem, p0, p1, faultV]) rfl ?_
        exact ⟨by rw [HZ.out]; exact ⟨rfl, by show (5 : Nat) ≠ 0; decide⟩, ((B5.out.setCell (Nat.le_refl _) _).setCell (Nat.le_refl _) _).drew⟩
    | none =>
      have HZ := hid (HFl.out hmy)
      have HSd := hid (fun (E' : List Sh.Ed) (h1 : List.Pairwise (fun x y : Sh.Ed => x.1 ≤ y.1) E') h2 => made_sorted HRd.out h1 h2)
      have HMp := hid (made_perm HRd.out)
      have HTx : Hid (∀ e ∈ edsB s.data.toList L R, e.2.2.length ≤ 1048576) := fun e he => made_txt HRd.out hmy e (HMp.out.mem_iff.2 he)
      have HWi := hid HRd.out.spread.2
      have hml := made_len (L := L) (R := R)
      generalize hAp : Sh.app s.data.toList 0 (edsB s.data.toList L R) s.data.toList.length = T at *
      have HAp := hid hAp
      have hbs := bsL_size T
      have hzt : (bsL T).size ≤ 1073741824 := by
        have := app_len (S := s.data.toList) HWi.out HTx.out
        rw [HAp.out] at this
        have hl2 := HMp.out.length_eq
        rw [hbs]
        have : (edsB s.data.toList L R).length ≤ 180 := by omega
        have : (edsB s.data.toList L R).length * 1048576 ≤ 180 * 1048576 := Nat.mul_le_mul_right _ this
        omega
      clear hAp
      go_enter Tryz.func16, Tryz.ntmps16
      by_cases hlong : 6000 < (bsL T).size
      · have HZ2 : Hid (foldB s.data.toList = .error (4, 0)) := by show _ = _; rw [HZ.out, if_pos (by rw [← hbs]; exact hlong)]
        go_wp2_with (first
  | (go_at_call 17; refine HRA.out.mono ?_; rintro e w2 ⟨⟨lv, rv, rfl, hlv, hrv⟩, hb2⟩; have B2 := hid (below_trans B1.out hb2 (Nat.le_refl _)); have G2 := hid (G1.out.below hb2); have lt2 := G2.out.lt; obtain ⟨la, lc, rfl⟩ := nd_form hlv; obtain ⟨ra, rc, rfl⟩ := rs_form hrv; have B3 := hid (below_al B2.out (o := .cells #[.int .i64 0, .int .i64 0] 25)); have AE := hid (allEdits_any HRd.out _ _ (w2.alloc (.cells #[.int .i64 0, .int .i64 0] 25)) ((nds_of hlv).ext (Ext.below (below_al (Below.refl _ _)))) ((rus_of hrv).ext (Ext.below (below_al (Below.refl _ _)))) (HT.out.ext (Ext.below B3.out))); clear hlv hrv hb2; simp only [faultV])
          | (go_at_call 31; refine AE.out.mono ?_; rintro e w4 ⟨he, hb4⟩; unfold EdAns at he; rw [hmy] at he; obtain ⟨ev, rfl, hrow⟩ := he; have F4 := (FaB.new w2 0 0).below hb4; have z0 := F4.fz 0; have z1 := F4.fz 1; have y0 := F4.cell0; have y1 := F4.cell1; have G5 := hid ((G2.out.alloc (.cells #[.int .i64 0, .int .i64 0] 25)).below hb4 |>.other (show w.heap.size ≠ w2.heap.size by omega) 0 0); have B5 := hid (below_setF (below_trans B3.out hb4 (Nat.le_refl _)) (show w.heap.size ≤ w2.heap.size by omega) 0 0); have F5 := F4.set 0 0; have y2 := F5.cell0; have y3 := F5.cell1; have hz4 := hb4.size; have AP := apply_any s _ _ ev _ (setF w4 w2.heap.size 0 0) (Sh.own_keeps hrow (F4.keep25 0 0) (by decide)) (by omega) HSd.out HWi.out h6 HTx.out (by simpa [setF] using hz4); rw [HAp.out] at AP; have HAP := hid AP; obtain ⟨ea, ec, rfl⟩ := own_form hrow; clear hb4 F4 F5 hrow AP hz4; simp only [faultV, setF] at *)
          | (go_at_call 32; refine HAP.out.mono ?_; rintro e w6 ⟨rfl, hb6⟩; have G6 : Hid (FaB w6 w.heap.size 0 0) := (hb6.block _ (by simp; omega)).trans G5.out; have B6 := hid (B5.out.trans (hb6.mono (by simp; omega))); have u0 := G6.out.fz 0; have u1 := G6.out.fz 1; have u2 := G6.out.cell0; have u3 := G6.out.cell1; clear hb6))
        have FS := G6.out.set 4 0
        have p0 := FS.cell0
        have p1 := FS.cell1
        refine bodyPost_ret (v := .tuple #[.string ⟨#[]⟩, faultV (4, 0)]) (by simp [results, Tryz.results16, go_sem, p0, p1, faultV]) rfl ?_
        exact ⟨by rw [HZ2.out]; exact ⟨rfl, by decide⟩, ((B6.out.setCell (Nat.le_refl _) _).setCell (Nat.le_refl _) _)⟩
      · have HZ2 : Hid (foldB s.data.toList = .ok T) := by show _ = _; rw [HZ.out, if_neg (by rw [← hbs]; exact hlong)]
        go_wp2_with (first
  | (go_at_call 17; refine HRA.out.mono ?_; rintro e w2 ⟨⟨lv, rv, rfl, hlv, hrv⟩, hb2⟩; have B2 := hid (below_trans B1.out hb2 (Nat.le_refl _)); have G2 := hid (G1.out.below hb2); have lt2 := G2.out.lt; obtain ⟨la, lc, rfl⟩ := nd_form hlv; obtain ⟨ra, rc, rfl⟩ := rs_form hrv; have B3 := hid (below_al B2.out (o := .cells #[.int .i64 0, .int .i64 0] 25)); have AE := hid (allEdits_any HRd.out _ _ (w2.alloc (.cells #[.int .i64 0, .int .i64 0] 25)) ((nds_of hlv).ext (Ext.below (below_al (Below.refl _ _)))) ((rus_of hrv).ext (Ext.below (below_al (Below.refl _ _)))) (HT.out.ext (Ext.below B3.out))); clear hlv hrv hb2; simp only [faultV])
          | (go_at_call 31; refine AE.out.mono ?_; rintro e w4 ⟨he, hb4⟩; unfold EdAns at he; rw [hmy] at he; obtain ⟨ev, rfl, hrow⟩ := he; have F4 := (FaB.new w2 0 0).below hb4; have z0 := F4.fz 0; have z1 := F4.fz 1; have y0 := F4.cell0; have y1 := F4.cell1; have G5 := hid ((G2.out.alloc (.cells #[.int .i64 0, .int .i64 0] 25)).below hb4 |>.other (show w.heap.size ≠ w2.heap.size by omega) 0 0); have B5 := hid (below_setF (below_trans B3.out hb4 (Nat.le_refl _)) (show w.heap.size ≤ w2.heap.size by omega) 0 0); have F5 := F4.set 0 0; have y2 := F5.cell0; have y3 := F5.cell1; have hz4 := hb4.size; have AP := apply_any s _ _ ev _ (setF w4 w2.heap.size 0 0) (Sh.own_keeps hrow (F4.keep25 0 0) (by decide)) (by omega) HSd.out HWi.out h6 HTx.out (by simpa [setF] using hz4); rw [HAp.out] at AP; have HAP := hid AP; obtain ⟨ea, ec, rfl⟩ := own_form hrow; clear hb4 F4 F5 hrow AP hz4; simp only [faultV, setF] at *)
          | (go_at_call 32; refine HAP.out.mono ?_; rintro e w6 ⟨rfl, hb6⟩; have G6 : Hid (FaB w6 w.heap.size 0 0) := (hb6.block _ (by simp; omega)).trans G5.out; have B6 := hid (B5.out.trans (hb6.mono (by simp; omega))); have u0 := G6.out.fz 0; have u1 := G6.out.fz 1; have u2 := G6.out.cell0; have u3 := G6.out.cell1; clear hb6))
        have FS := G6.out.set 0 0
        have p0 := FS.cell0
        have p1 := FS.cell1
        refine bodyPost_ret (v := .tuple #[.string (bsL T), faultV (0, 0)]) (by simp [results, Tryz.results16, go_sem, p0, p1, faultV]) rfl ?_
        exact ⟨by rw [HZ2.out]; rfl, ((B6.out.setCell (Nat.le_refl _) _).setCell (Nat.le_refl _) _)⟩
end Go.Proofs.YtblkldfokeeaeacGreatDoor
namespace Go.Proofs.YtblkldfokeeaeacGreatDoor
open Go.RowKit Go.Maps
def aliveS : Bs := [60, 115, 116, 121, 108, 101, 62, 112, 123, 99, 111, 108, 111, 114, 58, 114, 101, 100, 125, 60, 47, 115, 116, 121, 108, 101, 62, 60, 112, 62, 120, 60, 47, 112, 62]
def aliveT : Bs := [60, 115, 116, 121, 108, 101, 62, 32, 60, 47, 115, 116, 121, 108, 101, 62, 60, 112, 32, 115, 116, 121, 108, 101, 61, 34, 99, 111, 108, 111, 114, 58, 32, 114, 101, 100, 34, 62, 120, 60, 47, 112, 62]
def lookQ (l : List Nd) (Q : List Ru) (k : Nat) : List Dc := lookOf (okCl (claimsB styF l k Q []))
def edsQ (S : Bs) (L : List Sh.Nd) (R : List Sh.Rl) : List Sh.Ed := Sh.eds (fun k => printD (lookQ (L.map ofN) (R.map ofR) k)) (fun j => match L[j]? with | none => [] | some n => Sh.edR n.inFrom ((rulesAt S n).zip ((rulesAt S n).map fun _ => false))) L 0
theorem stay_no {l : List Nd} {R : List Ru} (h : ∀ r ∈ R, r.media.toList.isEmpty = true) (r : Ru) : stayB l R r = false := by
  cases hs : stayB l R r with
  | false => rfl
  | true => exact (Sh.StR.none (fun q hq hm => by rw [h q hq] at hm; cases hm) (stay_iff.1 hs)).elim
theorem goes_allB {l : List Nd} {R : List Ru} (h : ∀ r ∈ R, r.media.toList.isEmpty = true) : goesB l R = R := by
  unfold goesB
  rw [List.filter_eq_self]
  intro r hr
  rw [stay_no h]
  rfl
theorem foldQ {S T : Bs} {L : List Sh.Nd} {R : List Sh.Rl} (hr : readB S = .ok (L, R)) (hm : ∀ r ∈ R.map ofR, r.media.toList.isEmpty = true) (hk : (L.zipIdx.any fun x => tooMany x.1 (lookQ (L.map ofN) (R.map ofR) x.2)) = false) (hT : Sh.app S 0 (edsQ S L R) S.length = T) (hl : T.length ≤ 6000) : foldB S = .ok T := by
  have e1 : ∀ k, lookAt (L.map ofN) (R.map ofR) k = lookQ (L.map ofN) (R.map ofR) k := fun k => by unfold lookAt lookQ; rw [goes_allB hm]
  have e2 : manyAt L R = none := by
    unfold manyAt
    rw [Option.map_eq_none_iff, List.find?_eq_none]
    intro x hx
    rw [e1]
    rw [List.any_eq_false] at hk
    exact hk x hx
  have e3 : edsB S L R = edsQ S L R := by
    unfold edsB edsQ goneEd flagsAt
    congr 1
    · funext k
      unfold newV
      rw [e1]
    · funext j
      cases L[j]? with
      | none => rfl
      | some n => simp only [stay_no hm]
  rw [fold_long hr e2, e3, hT, if_neg (by omega)]
def aliveL : List Sh.Nd := match readB aliveS with
  | .ok p => p.1
  | .error _ => []
def aliveR : List Sh.Rl := match readB aliveS with
  | .ok p => p.2
  | .error _ => []
theorem alive_read : ∃ L R, readB aliveS = .ok (L, R) ∧ (∀ r ∈ R.map ofR, r.media.toList.isEmpty = true) ∧ (L.zipIdx.any fun x => tooMany x.1 (lookQ (L.map ofN) (R.map ofR) x.2)) = false ∧ Sh.app aliveS 0 (edsQ aliveS L R) aliveS.length = aliveT := by
  refine ⟨aliveL, aliveR, by kernel_rfl, ?_, by kernel_rfl, by kernel_rfl⟩
  exact of_decide_eq_true (by kernel_rfl)
theorem alive_fold : foldB aliveS = .ok aliveT := by
  obtain ⟨L, R, h1, h2, h3, h4⟩ := alive_read
  exact foldQ h1 h2 h3 h4 (by decide)
set_option maxRecDepth 100000 in
set_option maxHeartbeats 4000000 in
theorem alive_any (w : World) (hT : Tab w) : Calls Tryz.prog 15 #[] w fun e w' => e = .returned (.bool true) ∧ Below w.heap.size w w' := by
  have FA := fold_any ⟨aliveS.toArray⟩ w (by decide) hT
  have e1 : (⟨aliveS.toArray⟩ : ByteArray).data.toList = aliveS := rfl
  rw [e1, alive_fold] at FA
  simp only [FoldAns] at FA
  have HF := hid FA
  clear FA e1 hT
  go_enter Tryz.func15, Tryz.ntmps15
  go_wp2_with (go_at_call 16; refine HF.out.mono ?_; rintro e w2 ⟨rfl, hb2⟩; have HB := hid hb2; clear hb2; simp only [faultV])
  go_ret
  refine ⟨?_, HB.out.alloc HB.out.size _⟩
  have e : ((bsL aliveT).toList == [60, 115, 116, 121, 108, 101, 62, 32, 60, 47, 115, 116, 121, 108, 101, 62, 60, 112, 32, 115, 116, 121, 108, 101, 61, 34, 99, 111, 108, 111, 114, 58, 32, 114, 101, 100, 34, 62, 120, 60, 47, 112, 62]) = true := by
    rw [bsL_toList]
    rfl
  rw [e]
  rfl
theorem fold_len {S T : Bs} (h : foldB S = .ok T) : T.length ≤ 6000 := by
  obtain ⟨L, R, L', R', t, hf, _, _⟩ := fold_ok h
  exact (page_bd hf.again.page).2.1
end Go.Proofs.YtblkldfokeeaeacGreatDoor
namespace Go.Proofs.YtblkldfokeeaeacGreatDoor
open Go.RowKit
theorem cl9 : Tryz.prog.cellsOf 9 = 1 := by kernel_rfl
theorem cl3 : Tryz.prog.cellsOf 3 = 1 := by kernel_rfl
theorem cl184 : Tryz.prog.cellsOf 184 = 4 := by kernel_rfl
theorem cl252 : Tryz.prog.cellsOf 252 = 4 := by kernel_rfl
theorem gS : Tryz.prog.globalNamed "inkwell/props.sides" = some 0 := by kernel_rfl
theorem gI : Tryz.prog.globalNamed "inkwell/props.instead" = some 1 := by kernel_rfl
theorem tS : (Tryz.prog.globals[0]?).map (·.type) = some 184 := by kernel_rfl
theorem tI : (Tryz.prog.globals[1]?).map (·.type) = some 252 := by kernel_rfl
set_option maxRecDepth 100000 in
set_option maxRecDepth 100000 in
theorem arr4 {W : World} {fuel : Nat} {cs : List Value} {p : List MemPlace} {a b c d : List UInt8}
    (h : DataW.trod (fun _ => ()) Tryz.prog W 0 (fun _ => true) false fuel 184 cs = some (.agg [.lit (.string a), .lit (.string b), .lit (.string c), .lit (.string d)], p)) :
    cs = [.string ⟨⟨a⟩⟩, .string ⟨⟨b⟩⟩, .string ⟨⟨c⟩⟩, .string ⟨⟨d⟩⟩] := by
  obtain ⟨xs, m, rfl, hx, hl, hn, hel⟩ := DataW.trod_array Tryz.underlying184 h
  rw [cl184] at hl
  rw [cl9] at hel
  simp only [Prod.mk.injEq, DataW.agg.injEq] at hx
  match cs, hl, xs, hn, hx with
  | [c0, c1, c2, c3], _, [x0, x1, x2, x3], _, hx =>
    simp only [List.map_cons, List.map_nil, List.cons.injEq, and_true] at hx
    obtain ⟨⟨q0, q1, q2, q3⟩, _⟩ := hx
    have one : ∀ {v : Value} {x : DataW Unit × List MemPlace} {z : List UInt8}, DataW.trod (fun _ => ()) Tryz.prog W 0 (fun _ => true) false m 9 [v] = some x → (DataW.lit (.string z) : DataW Unit) = x.1 → v = .string ⟨⟨z⟩⟩ := fun {v x z} h e => by
      obtain ⟨y, hy, hy', _⟩ := DataW.trod_string Tryz.underlying9 h
      rw [hy'] at e
      simp only [DataW.lit.injEq, Lit.string.injEq] at e
      injection hy with hy _
      rw [hy, e]
    rw [one (hel 0 (by decide)) q0, one (hel 1 (by decide)) q1, one (hel 2 (by decide)) q2, one (hel 3 (by decide)) q3]
set_option maxRecDepth 100000 in
set_option maxRecDepth 100000 in
theorem arr4i {W : World} {fuel : Nat} {cs : List Value} {p : List MemPlace} {a b c d : Int}
    (h : DataW.trod (fun _ => ()) Tryz.prog W 0 (fun _ => true) false fuel 252 cs = some (.agg [.lit (.int .i64 a), .lit (.int .i64 b), .lit (.int .i64 c), .lit (.int .i64 d)], p)) :
    cs = [.int .i64 a, .int .i64 b, .int .i64 c, .int .i64 d] := by
  obtain ⟨xs, m, rfl, hx, hl, hn, hel⟩ := DataW.trod_array Tryz.underlying252 h
  rw [cl252] at hl
  rw [cl3] at hel
  simp only [Prod.mk.injEq, DataW.agg.injEq] at hx
  match cs, hl, xs, hn, hx with
  | [c0, c1, c2, c3], _, [x0, x1, x2, x3], _, hx =>
    simp only [List.map_cons, List.map_nil, List.cons.injEq, and_true] at hx
    obtain ⟨⟨q0, q1, q2, q3⟩, _⟩ := hx
    have one : ∀ {v : Value} {x : DataW Unit × List MemPlace} {z : Int}, DataW.trod (fun _ => ()) Tryz.prog W 0 (fun _ => true) false m 3 [v] = some x → (DataW.lit (.int .i64 z) : DataW Unit) = x.1 → v = .int .i64 z := fun {v x z} h e => by
      obtain ⟨y, hy, hy', _⟩ := DataW.trod_int Tryz.underlying3 h
      rw [hy'] at e
      simp only [DataW.lit.injEq, Lit.int.injEq, true_and] at e
      injection hy with hy _
      rw [hy, e]
    rw [one (hel 0 (by decide)) q0, one (hel 1 (by decide)) q1, one (hel 2 (by decide)) q2, one (hel 3 (by decide)) q3]
set_option maxRecDepth 100000 in
theorem tab_of {W : World} (h : laidMetH Tryz.prog [("unicode/utf8.acceptRanges", Rows.laid_unicode_utf8_acceptRanges), ("inkwell/props.sides", Rows.laid_inkwell_props_sides), ("inkwell/props.instead", Rows.laid_inkwell_props_instead), ("unicode/utf8.first", Rows.laid_unicode_utf8_first)] W)
    (hm : ∃ m : Int, W.cell? ⟨2, 0, none⟩ = some (.int .i64 m)) : Tab W := by
  rw [MakeChecks.laidMetH_plain _ _ _ (by kernel_rfl)] at h
  obtain ⟨ps, ⟨_, _, _, _, _, _, _, _, _, _, ⟨g0, t0, cs0, f0, p0, q0, hg0, ht0, hv0, hd0, ⟨g1, t1, cs1, f1, p1, q1, hg1, ht1, hv1, hd1, _, _⟩, _⟩, _⟩, _, _⟩ := h
  obtain rfl := Option.some.inj (gS.symm.trans hg0)
  obtain rfl := Option.some.inj (gI.symm.trans hg1)
  obtain rfl := Option.some.inj (tS.symm.trans ht0)
  obtain rfl := Option.some.inj (tI.symm.trans ht1)
  have e0 := arr4 hd0
  have e1 := arr4i hd1
  have c0 : ∀ i, W.cell? ⟨0, i, none⟩ = cs0.toList[i]? := fun i => by rw [World.var?_cell hg0 hv0 i]; simp
  have c1 : ∀ i, W.cell? ⟨1, i, none⟩ = cs1.toList[i]? := fun i => by rw [World.var?_cell hg1 hv1 i]; simp
  rw [e0] at c0
  rw [e1] at c1
  exact ⟨c0 0, c0 1, c0 2, c0 3, c1 0, c1 1, c1 2, c1 3, hm⟩
end Go.Proofs.YtblkldfokeeaeacGreatDoor
namespace Go.Proofs.YtblkldfokeeaeacGreatDoor.Rf
open Go.RowKit
set_option maxHeartbeats 1000000 in
theorem rget_any (x : Nd) (av : Value) (name : ByteArray) (w : World) (hA : AtsAt w av x.attrs) (hs : SmN x) :
    Calls Tryz.prog 146 #[nodeV x av, .string name] w fun e w' => e = .returned (getV (getA name x.attrs)) ∧ Below w.heap.size w w' := by
  obtain ⟨a, cap, rfl⟩ := Sl.form hA
  obtain ⟨nm, pr, l, ne, fr, tt⟩ := x
  obtain ⟨hl, hv⟩ := hs
  simp only at hA hl hv
  have HL := hid hA
  unfold lim at hl
  clear hA hv
  simp only [nodeV]
  go_enter Tryz.func146, Tryz.ntmps146
  go_wp2_with fail
  have HB0 : Hid (Below w.heap.size w (w.alloc (.cells #[.string nm, .int .i64 pr, .slice a l.length cap, .int .i64 ne, .int .i64 fr, .int .i64 tt] 49))) := (Below.refl _ _).alloc (Nat.le_refl _) _
  have d2 := cell_new w #[.string nm, .int .i64 pr, .slice a l.length cap, .int .i64 ne, .int .i64 fr, .int .i64 tt] 49 2
  have D2 : Hid ((w.alloc (.cells #[.string nm, .int .i64 pr, .slice a l.length cap, .int .i64 ne, .int .i64 fr, .int .i64 tt] 49)).cell? ⟨w.heap.size, 2, none⟩ = some (.slice a l.length cap)) := d2
  clear d2
  generalize w.alloc (.cells #[.string nm, .int .i64 pr, .slice a l.length cap, .int .i64 ne, .int .i64 fr, .int .i64 tt] 49) = W at *
  go_loopg [10] l.length (fun n i wr => ∃ k : Nat, n = l.length - k ∧ k ≤ l.length ∧ i = .int .i64 (k : Int) ∧ getA name l = getA name (l.drop k) ∧ wr = W)
  case atStart => exact ⟨0, rfl, Nat.zero_le _, rfl, rfl, rfl⟩
  case round =>
    obtain ⟨k, hn, hk, rfl, hG, hw⟩ := hrel
    subst hw
    have GK := hid hn
    have HG := hid hG
    clear hn hG
    have d2 := D2.out
    by_cases hlt : k < l.length
    · obtain ⟨b, off, rfl, he⟩ := Sl.at (AtsAt.ext HL.out (Ext.below HB0.out)) hlt
      obtain ⟨c0, c1, c2, c3⟩ := he.cells
      have HG2 : Hid (getA name l = if l[k].name.toList == name.toList then some l[k].val else getA name (l.drop (k + 1))) := by
        show getA name l = _
        rw [HG.out, List.drop_eq_getElem_cons hlt]; rfl
      clear he c2 c3
      generalize l[k] = x at *
      obtain ⟨xn, xv, xf, xt⟩ := x
      simp only at c0 c1 HG2
      cases hq : (xn.toList == name.toList)
      · have HG3 : Hid (getA name l = getA name (l.drop (k + 1))) := by have := HG2.out; rw [hq] at this; exact this
        clear HG2
        go_wp2_with fail
        go_roundg (l.length - (k + 1))
        case measure => have := GK.out; omega
        case rel => exact ⟨k + 1, rfl, by omega, by go_num, HG3.out, rfl⟩
      · have HG3 : Hid (getA name l = some xv) := by have := HG2.out; rw [hq] at this; exact this
        clear HG2
        go_wp2_with fail
        go_ret2
        exact ⟨by rw [HG3.out]; rfl, HB0.out⟩
    · have HG3 : Hid (getA name l = none) := by
        show getA name l = none
        rw [HG.out, List.drop_eq_nil_of_le (by omega)]; rfl
      go_wp2_with fail
      go_ret2
      exact ⟨by rw [HG3.out]; rfl, HB0.out⟩
set_option maxHeartbeats 1000000 in
theorem rahead_any (lv : Value) (l : List Nd) (k : Nat) (w : World) (hl : NdsAt w lv l) (hs : l.length ≤ lim) (hk : k < l.length) :
    Calls Tryz.prog 109 #[lv, .int .i64 (k : Int)] w fun e w' => e = .returned (.int .i64 (ahead l k)) ∧ ∃ n, w' = w.drewN n := by
  obtain ⟨a, cap, rfl⟩ := Sl.form hl
  unfold lim at hs
  have HL := hid hl
  obtain ⟨b, off, rfl, hc⟩ := Sl.at hl hk
  have c1 := hc.c1
  clear hl hc
  have hp : par l k = l[k].parent := by simp [par, ndAt_eq hk]
  rw [← hp] at c1
  clear hp
  have E0 : Hid (ahead l k = aheadTo l (par l k) k) := rfl
  generalize ahead l k = A at *
  generalize par l k = p at *
  have hk2 : decide ((k : Int) < (l.length : Int)) = true := by simp; omega
  go_enter Tryz.func109, Tryz.ntmps109
  go_wp2_with fail
  go_loopg [5, 6] k (fun n o i wr => ∃ j : Nat, n = k - j ∧ j ≤ k ∧ i = .int .i64 (j : Int) ∧ o = .int .i64 (aheadTo l p j) ∧ ∃ m, wr = w.drewN m)
  case atStart => exact ⟨0, rfl, Nat.zero_le _, rfl, rfl, 0, rfl⟩
  case round =>
    obtain ⟨j, hn, hj, rfl, rfl, m, rfl⟩ := hrel
    have GK := hid hn
    clear hn
    by_cases hlt : j < k
    · obtain ⟨b', off', hb, hd⟩ := Sl.at HL.out (show j < l.length by omega)
      injection hb with hb
      injection hb with hb1 hb2
      subst hb1 hb2
      have d1 := hd.c1
      have hp : par l j = l[j].parent := by simp [par, ndAt_eq (show j < l.length by omega)]
      rw [← hp] at d1
      clear hp hd
      have GE : Hid (aheadTo l p (j + 1) = if par l j = p then (j : Int) else aheadTo l p j) := rfl
      generalize par l j = q at *
      have hjl : j < l.length := by omega
      generalize aheadTo l p j = aj at *
      by_cases hq : q = p
      · have hq' : (q == p) = true := by simp [hq]
        have GX : Hid (aheadTo l p (j + 1) = j) := by have := GE.out; rw [if_pos hq] at this; exact this
        clear hq
        go_wp2_with fail
        go_quiet (fail)
        go_wp2_with fail
        go_roundg (k - (j + 1))
        case measure => have := GK.out; omega
        case rel => exact ⟨j + 1, rfl, by omega, by go_num, by rw [GX.out], _, rfl⟩
      · have hq' : (q == p) = false := by simp [hq]
        have GX : Hid (aheadTo l p (j + 1) = aj) := by have := GE.out; rw [if_neg hq] at this; exact this
        clear hq
        go_wp2_with fail
        go_quiet (fail)
        go_wp2_with fail
        go_roundg (k - (j + 1))
        case measure => have := GK.out; omega
        case rel => exact ⟨j + 1, rfl, by omega, by go_num, by rw [GX.out], _, rfl⟩
    · have hE : j = k := by omega
      subst hE
      go_wp2_with fail
      go_ret
      exact ⟨ret_int E0.out.symm, m, rfl⟩
end Go.Proofs.YtblkldfokeeaeacGreatDoor.Rf
namespace Go.Proofs.YtblkldfokeeaeacGreatDoor.Rf
open Go.RowKit Go.Maps
theorem keyI : Keyed Tryz.prog 3 := int_keyed Tryz.underlying3
theorem zero9 (w : World) : (zeroValue 9).run Tryz.prog w = .ok (.string ⟨#[]⟩) w := by kernel_rfl
def upd (f : Int → ByteArray) (k : Int) (s : ByteArray) : Int → ByteArray := fun q => if q = k then s else f q
def Mm (w : World) (B n : Nat) (f : Int → ByteArray) : Prop :=
  ∃ D : DataW Unit, w.ownsMap Tryz.prog 3 (plainElem Tryz.prog 9) B n D ∧ (∀ q, D.atKey (.int .i64 q) (.lit (.string [])) = .lit (.string (f q).data.toList))
theorem Mm.made (w : World) : Mm (w.alloc (.map #[] 0)) w.heap.size 0 (fun _ => ⟨#[]⟩) := ⟨_, World.ownsMap_made w _ _ _, fun _ => rfl⟩
theorem Mm.drew {w : World} {B n : Nat} {f : Int → ByteArray} (h : Mm w B n f) : Mm w.drew B n f := h
set_option maxRecDepth 100000 in
theorem Mm.ins {w : World} {B n : Nat} {f : Int → ByteArray} (h : Mm w B n f) (hn : n < 100) (k : Int) (wk : (Lit.int .i64 k).wf = true) (s : ByteArray) (hs : s.size ≤ maxLen) :
    ∃ w', (Instr.mapUpdate 227 (.map (some B)) (.int .i64 k) (.string s)).run Tryz.prog w = .ok () w' ∧ Mm w' B (n + 1) (upd f k s) ∧ w.grownBy w' (some B) := by
  obtain ⟨D, ho, hf⟩ := h
  obtain ⟨w', h1, h2, h3⟩ := ho.update keyI Tryz.underlying227 (by unfold maxLen; omega) (keyOf_int_mk Tryz.underlying3 wk) (plainElem_string Tryz.underlying9 hs)
  refine ⟨w', h1, ⟨_, h2, fun q => ?_⟩, h3⟩
  unfold upd
  split
  · rename_i e
    subst e
    exact atKey_put_same (by obtain ⟨es, c, _, _, _, hD⟩ := ho; exact ⟨_, hD⟩) (by simp [WideAt.IsKeyLit]) _ _
  · rename_i e
    rw [atKey_put_other (by intro h; injection h with _ h; exact e h), hf q]
set_option maxRecDepth 100000 in
theorem Mm.look {w : World} {B n : Nat} {f : Int → ByteArray} (h : Mm w B n f) (q : Int) (wq : (Lit.int .i64 q).wf = true) : (Instr.lookup 227 (.map (some B)) (.int .i64 q) false).run Tryz.prog w = .ok (.string (f q)) w := by
  obtain ⟨D, ho, hf⟩ := h
  obtain ⟨v, ps, h1, h2⟩ := ho.lookup keyI Tryz.underlying227 (zero9 w) (plainElem_string (H := Unit) Tryz.underlying9 (s := ⟨#[]⟩) (by decide)) (keyOf_int_mk Tryz.underlying3 wq)
  obtain ⟨s, rfl, h3, _⟩ := plainElem_string_inv Tryz.underlying9 h2
  simp only [Prod.mk.injEq] at h3
  have := h3.1
  rw [show (DataW.lit (.string (⟨#[]⟩ : ByteArray).data.toList) : DataW Unit) = .lit (.string []) from rfl, hf q] at this
  injection this with this
  injection this with this
  have e : f q = s := ByteArray.ext (Array.toList_inj.1 this)
  rw [h1, e]
def nmK (kd : Int) (nm : ByteArray) : ByteArray := if kd = 2 then clsN else if kd = 3 then idN else if kd = 4 then nm else if kd = 5 then nm else ⟨#[]⟩
end Go.Proofs.YtblkldfokeeaeacGreatDoor.Rf
namespace Go.Proofs.YtblkldfokeeaeacGreatDoor.Rf
open Go.RowKit
def words : List UInt8 → List (List UInt8)
  | [] => [[]]
  | b :: l => if b = 32 then [] :: words l else match words l with
    | [] => [[b]]
    | p :: ps => (b :: p) :: ps
def piece (l : List UInt8) : List UInt8 := l.takeWhile (fun b => b != 32)
def refW : Bool → List UInt8 → List UInt8 → Bool
  | st, [], nm => st && ((piece []).length != 0 && piece [] == nm)
  | st, b :: l, nm => (st && ((piece (b :: l)).length != 0 && piece (b :: l) == nm)) || refW (b == 32) l nm
theorem words_split : ∀ s : List UInt8, Lib.splitK [32] 0 (Lib.count s [32]) s = words s
  | [] => rfl
  | b :: l => by
    have ih := words_split l
    unfold words
    split
    · rename_i e
      subst e
      rw [Lib.count_cons_eq, Nat.add_comm, ← ih]
      have e0 : Lib.index (32 :: l) [32] = 0 := by simp [Lib.index]
      simp [Lib.splitK, e0]
    · rename_i hne
      rw [Lib.count_cons_ne _ _ _ hne, ← ih]
      cases Lib.count l [32] with
      | zero => rfl
      | succ k =>
        have e1 : Lib.index (b :: l) [32] = if Lib.index l [32] == -1 then -1 else Lib.index l [32] + 1 := by
          have : (32 == b) = false := by simp; exact fun h => hne h.symm
          simp [Lib.index, List.isPrefixOf, this]
        have hge := Lib.index_ge l [32]
        simp only [Lib.splitK, e1]
        cases hq : (Lib.index l [32] == -1)
        · have hq' : Lib.index l [32] ≠ -1 := by simpa using hq
          have e2 : (Lib.index l [32] + 1 == -1) = false := by simp; omega
          have e3 : (Lib.index l [32] + 1).toNat = (Lib.index l [32]).toNat + 1 := by omega
          simp [e2, e3]
        · simp
theorem words_head : ∀ l : List UInt8, ∃ ps, words l = piece l :: ps
  | [] => ⟨[], rfl⟩
  | b :: l => by
    obtain ⟨ps, h⟩ := words_head l
    unfold words
    split
    · rename_i e; exact ⟨words l, by rw [e]; simp [piece]⟩
    · rename_i e; exact ⟨ps, by rw [h]; simp [piece, e]⟩
theorem refW_words (nm : List UInt8) (hn : nm ≠ []) : ∀ l : List UInt8, (refW true l nm = true ↔ nm ∈ words l) ∧ (refW false l nm = true ↔ nm ∈ (words l).tail)
  | [] => by simp [refW, words, piece, hn]
  | b :: l => by
    obtain ⟨i1, i2⟩ := refW_words nm hn l
    obtain ⟨ps, h⟩ := words_head l
    by_cases e : b = 32
    · subst e
      simp [refW, words, piece, hn, i1]
    · have e' : (b == 32) = false := by simp [e]
      rw [h] at i2
      simp only [List.tail_cons] at i2
      have hp : piece (b :: l) = b :: piece l := by simp [piece, e]
      simp only [refW, e', words, if_neg e, h, hp, List.length_cons, List.tail_cons, List.mem_cons, i2, Bool.or_eq_true, Bool.and_eq_true, Bool.false_and, Bool.true_and, beq_iff_eq, bne_iff_ne]
      constructor
      · constructor
        · rintro (⟨_, h⟩ | h)
          · exact .inl h.symm
          · exact .inr h
        · rintro (h | h)
          · exact .inl ⟨by omega, h.symm⟩
          · exact .inr h
      · simp
theorem refW_nil : ∀ (st : Bool) (l : List UInt8), refW st l [] = false
  | st, [] => by simp [refW, piece]
  | st, b :: l => by
    rw [refW, refW_nil]
    cases h : piece (b :: l) <;> simp
theorem cls_ref (v nm : ByteArray) : clsB v nm = refW true v.data.toList nm.data.toList := by
  unfold clsB
  cases hq : nm.toList.isEmpty
  · have hn : nm.data.toList ≠ [] := by
      intro h
      rw [Lib.toList_data, h] at hq
      cases hq
    have h1 := (refW_words _ hn v.data.toList).1
    have h2 := Lib.splitB_data blank 0 (Lib.countB v blank) v
    rw [Bool.eq_iff_iff, h1, ← words_split]
    simp only [Bool.not_false, Bool.true_and]
    rw [Lib.containsS_iff, show Lib.splitK [32] 0 (Lib.count v.data.toList [32]) v.data.toList = _ from h2.symm, List.mem_map]
    constructor
    · exact fun h => ⟨nm, h, rfl⟩
    · rintro ⟨x, hx, e⟩
      rw [← ByteArray.ext (Array.toList_inj.1 e)]
      exact hx
  · have hn : nm.data.toList = [] := by
      rw [Lib.toList_data] at hq
      exact List.isEmpty_iff.1 hq
    rw [hn, refW_nil]
    rfl
theorem refW_end (st : Bool) (nm : List UInt8) : refW st [] nm = false := by simp [refW, piece]
def refAt (L nm : List UInt8) (j : Nat) : Bool := refW (j == 0 || L[j - 1]? == some 32) (L.drop j) nm
theorem refAt_end {L nm : List UInt8} {j : Nat} (h : L.length ≤ j) : refAt L nm j = false := by
  unfold refAt
  rw [List.drop_eq_nil_of_le h, refW_end]
theorem refAt_skip {L nm : List UInt8} {j : Nat} {c : UInt8} (h : L[j]? = some c) (hc : c ≠ 32) : refAt L nm (j + 1) = refAt L nm (j + 2) := by
  by_cases hl : j + 1 < L.length
  · unfold refAt
    rw [List.drop_eq_getElem_cons hl]
    have e1 : (j + 1 == 0 || L[j + 1 - 1]? == some 32) = false := by simp [h, hc]
    have e2 : (j + 2 == 0 || L[j + 2 - 1]? == some 32) = (L[j + 1] == 32) := by
      rw [show j + 2 - 1 = j + 1 from rfl, List.getElem?_eq_getElem hl]
      simp
    rw [e1, e2]
    simp [refW]
  · rw [refAt_end (by omega), refAt_end (by omega)]
theorem refAt_start {L nm : List UInt8} {j : Nat} (h : (j == 0 || L[j - 1]? == some 32) = true) : refAt L nm j = (((piece (L.drop j)).length != 0 && piece (L.drop j) == nm) || refAt L nm (j + 1)) := by
  by_cases hl : j < L.length
  · have e2 : (j + 1 == 0 || L[j + 1 - 1]? == some 32) = (L[j] == 32) := by
      rw [show j + 1 - 1 = j from rfl, List.getElem?_eq_getElem hl]
      simp
    unfold refAt
    rw [h, e2, List.drop_eq_getElem_cons hl]
    simp [refW]
  · rw [refAt_end (by omega), refAt_end (by omega), List.drop_eq_nil_of_le (by omega)]
    simp [piece]
theorem piece_step {L : List UInt8} {e : Nat} {c : UInt8} (h : L[e]? = some c) (hc : c ≠ 32) : piece (L.drop e) = c :: piece (L.drop (e + 1)) := by
  obtain ⟨hl, rfl⟩ := List.getElem?_eq_some_iff.1 h
  rw [List.drop_eq_getElem_cons hl]
  unfold piece
  rw [List.takeWhile_cons, if_pos (by simpa using hc)]
theorem piece_stop {L : List UInt8} {e : Nat} (h : L[e]? = some 32 ∨ L.length ≤ e) : piece (L.drop e) = [] := by
  rcases h with h | h
  · obtain ⟨hl, hc⟩ := List.getElem?_eq_some_iff.1 h
    rw [List.drop_eq_getElem_cons hl, hc]
    simp [piece]
  · rw [List.drop_eq_nil_of_le h]
    rfl
def Run (L : List UInt8) (j e : Nat) : Prop := piece (L.drop j) = (L.drop j).take (e - j) ++ piece (L.drop e)
theorem Run.start (L : List UInt8) (j : Nat) : Run L j j := by simp [Run]
theorem Run.step {L : List UInt8} {j e : Nat} {c : UInt8} (h : Run L j e) (hj : j ≤ e) (he : L[e]? = some c) (hc : c ≠ 32) : Run L j (e + 1) := by
  unfold Run at *
  have hl := (List.getElem?_eq_some_iff.1 he).1
  rw [h, piece_step he hc, show e + 1 - j = (e - j) + 1 by omega, List.take_succ_eq_append_getElem (by simp; omega)]
  simp only [List.getElem_drop, List.append_assoc, List.singleton_append]
  obtain ⟨_, rfl⟩ := List.getElem?_eq_some_iff.1 he
  congr 3
  congr 1
  omega
theorem Run.stop {L : List UInt8} {j e : Nat} (h : Run L j e) (he : L[e]? = some 32 ∨ L.length ≤ e) : piece (L.drop j) = (L.drop j).take (e - j) := by
  unfold Run at h
  rw [h, piece_stop he, List.append_nil]
theorem extract_run (v : ByteArray) (j e : Nat) : (v.extract j e).toList = (v.data.toList.drop j).take (e - j) := by
  rw [Lib.toList_data, ByteArray.data_extract]
  simp [Array.toList_extract, List.extract]
theorem cls_at (v nm : ByteArray) : clsB v nm = refAt v.data.toList nm.data.toList 0 := cls_ref v nm
theorem clsOf_at (l : List At) (nm : ByteArray) : clsOf l nm = refAt ((getA clsN l).getD ⟨#[]⟩).data.toList nm.data.toList 0 := by
  unfold clsOf
  cases getA clsN l with
  | none => exact (refAt_end (Nat.zero_le _)).symm
  | some v => exact cls_at v nm
end Go.Proofs.YtblkldfokeeaeacGreatDoor.Rf
