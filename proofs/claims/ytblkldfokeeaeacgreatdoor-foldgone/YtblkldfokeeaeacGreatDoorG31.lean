/-
  What Fold of package fold answers: the plain answer. Conditions: the tables hold what their texts say; the page is shorter than 2 to the 63.
  What Fold answers of one page. And FoldTwice.
  What SameDecls, SameSelector and SameRules of the statements answer where both slices hold the same: true. Conditions: at most 100 of each.
  What SameRules of the statements answers where both slices hold the same rules: true. Conditions: at most 100 of each.
  The law FoldGone returns true. Conditions: the tables hold what their texts say; the page is shorter than 2 to the 63.
-/
import Derived.Test.YtblkldfokeeaeacGreatDoorG30
import Derived.Test.YtblkldfokeeaeacGreatDoorG29
import Derived.Test.YtblkldfokeeaeacGreatDoorG14
import Derived.Laws.StructEq
namespace Go.Proofs.YtblkldfokeeaeacGreatDoor
open Go.RowKit Go.Maps

def FoldAns (e : Ending) : Except (Nat × Nat) Bs → Prop
  | .error x => e = .returned (.tuple #[.string ⟨#[]⟩, faultV x]) ∧ x.1 ≠ 0
  | .ok T => e = .returned (.tuple #[.string (bsL T), faultV (0, 0)])
theorem made_len {L : List Sh.Nd} {R : List Sh.Rl} : (madeEds L R).length ≤ R.length + L.length := by
  rw [← reTo_all]
  exact reTo_len _
theorem made_txt {S : Bs} {L : List Sh.Nd} {R : List Sh.Rl} (h : Rd S L R) (hm : manyAt L R = none) : ∀ e ∈ madeEds L R, e.2.2.length ≤ 1048576 := fun e he => by
  unfold madeEds at he
  rcases List.mem_append.1 he with he | he
  · unfold ruleEds at he
    obtain ⟨r, _, rfl⟩ := List.mem_map.1 he
    show 1 ≤ 1048576
    decide
  · obtain ⟨⟨n, k⟩, hx, he⟩ := List.mem_flatMap.1 he
    have hk : tooMany n (lookAt (L.map ofN) (R.map ofR) k) = false := by
      unfold manyAt at hm
      have := List.find?_eq_none.1 (Option.map_eq_none_iff.1 hm) _ hx
      simpa using this
    have h1 : (newV (L.map ofN) (R.map ofR) k).length ≤ 4000 := by
      unfold newV printD
      have := Sh.printL_len ((lookAt (L.map ofN) (R.map ofR) k).map Sh.toL) 200 (fun d hd => by
        obtain ⟨x, hx, rfl⟩ := List.mem_map.1 hd
        have h1 := dcl_bd (h.plain k x hx).ok
        have h2 := Sh.printOne_len (Sh.toL x)
        omega)
      rw [List.length_map] at this
      have := many_few hk
      omega
    have h2 : ∀ v : Bs, v.length ≤ 4000 → (if v = [] then [] else Sh.at2 (Sh.styleL, v)).length ≤ 1048576 := fun v hv => by
      split
      · decide
      · rw [Sh.at2_len]
        have : Sh.styleL.length = 5 := rfl
        show _ ≤ _
        simp only [this]
        omega
    unfold restyleB at he
    split at he
    · cases he
    · cases ho : ownA n with
      | none => rw [ho] at he; rw [List.mem_singleton.1 he]; exact h2 _ h1
      | some a => rw [ho] at he; rw [List.mem_singleton.1 he]; exact h2 _ h1
theorem fold_bad {S : Bs} {x : Nat × Nat} (h : readB S = .error x) : foldB S = .error x := by unfold foldB; rw [h]
theorem fold_many {S : Bs} {L : List Sh.Nd} {R : List Sh.Rl} {p : Nat} (h : readB S = .ok (L, R)) (hm : manyAt L R = some p) : foldB S = .error (5, p) := by unfold foldB; rw [h]; simp only; rw [hm]
theorem fold_long {S : Bs} {L : List Sh.Nd} {R : List Sh.Rl} (h : readB S = .ok (L, R)) (hm : manyAt L R = none) : foldB S = if 6000 < (Sh.app S 0 (edsB S L R) S.length).length then .error (4, 0) else .ok (Sh.app S 0 (edsB S L R) S.length) := by unfold foldB; rw [h]; simp only; rw [hm]
set_option maxRecDepth 100000 in
set_option maxHeartbeats 8000000 in
theorem fold_any (s : ByteArray) (w : World) (hs : s.size ≤ 9223372036854775807) (hT : Tab w) :
    Calls Tryz.prog 16 #[.string s] w fun e w' => FoldAns e (foldB s.data.toList) ∧ Below w.heap.size w w' := by
  have HT := hid hT
  have b1 := (Below.refl w.heap.size w).alloc (Nat.le_refl _) (.cells #[.int .i64 0, .int .i64 0] 25)
  have RA := read_any s _ hs (hT.ext (Ext.below b1))
  have B1 := hid b1
  have G1 := hid (FaB.new w 0 0)
  clear hT b1
  cases hrd : readB s.data.toList with
  | error x =>
    rw [hrd] at RA
    simp only [ReadAns] at RA
    have HRA := hid RA
    have HZ := hid (fold_bad hrd)
    clear RA hrd
    obtain ⟨xe, xa⟩ := x
    go_enter Tryz.func16, Tryz.ntmps16
    go_upto_region 3 with (go_at_call 17; refine HRA.out.mono ?_; rintro e w2 ⟨⟨rfl, hx⟩, hb2⟩; have hx' : ¬ ((xe : Int) = 0) := Int.natCast_ne_zero.2 hx; have HX := hid hx; have B2 := hid (below_trans B1.out hb2 (Nat.le_refl _)); have G2 := hid (G1.out.below hb2); have lt2 := G2.out.lt; clear hx hb2; simp only [faultV])
    have G3 := hid (G2.out.alloc (.cells #[.int .i64 xe, .int .i64 xa] 25))
    have B3 := hid (below_al B2.out (o := .cells #[.int .i64 xe, .int .i64 xa] 25))
    have F3 := FaB.new w2 xe xa
    have a0 := F3.cell0
    have a1 := F3.cell1
    have t0 := G3.out.fz 0
    have t1 := G3.out.fz 1
    have v0 := G3.out.cell0
    have v1 := G3.out.cell1
    generalize w2.alloc (.cells #[.int .i64 xe, .int .i64 xa] 25) = w3 at *
    go_region
    all_goals go_wp2_with fail
    all_goals
      have FS := G3.out.set xe xa
      have p0 := FS.cell0
      have p1 := FS.cell1
      refine bodyPost_ret (v := .tuple #[.string ⟨#[]⟩, faultV (xe, xa)]) (by simp [results, Tryz.results16, go_sem, p0, p1, faultV]) rfl ?_
      exact ⟨by rw [HZ.out]; exact ⟨rfl, HX.out⟩, ((B3.out.setCell (Nat.le_refl _) _).setCell (Nat.le_refl _) _).drew⟩
  | ok p =>
    obtain ⟨L, R⟩ := p
    rw [hrd] at RA
    simp only [ReadAns] at RA
    have HRA := hid RA
    have HRd := hid (read_iff.1 hrd)
    have HFm := hid (fun q hm => fold_many (p := q) hrd hm)
    have HFl := hid (fold_long hrd)
    obtain ⟨hL120, hS6, hNd⟩ := page_bd HRd.out.page
    have h6 : s.size ≤ 6000 := by rw [Lib.size_eq s]; exact hS6
    have hR60 := HRd.out.few
    clear RA hrd hNd
    cases hmy : manyAt L R with
    | some q =>
      have HZ := hid (HFm.out q hmy)
      go_enter Tryz.func16, Tryz.ntmps16
      go_upto_region 6 with (first
        | (go_at_call 17; refine HRA.out.mono ?_; rintro e w2 ⟨⟨lv, rv, rfl, hlv, hrv⟩, hb2⟩; have B2 := hid (below_trans B1.out hb2 (Nat.le_refl _)); have G2 := hid (G1.out.below hb2); have lt2 := G2.out.lt; obtain ⟨la, lc, rfl⟩ := nd_form hlv; obtain ⟨ra, rc, rfl⟩ := rs_form hrv; have B3 := hid (below_al B2.out (o := .cells #[.int .i64 0, .int .i64 0] 25)); have AE := hid (allEdits_any HRd.out _ _ (w2.alloc (.cells #[.int .i64 0, .int .i64 0] 25)) ((nds_of hlv).ext (Ext.below (below_al (Below.refl _ _)))) ((rus_of hrv).ext (Ext.below (below_al (Below.refl _ _)))) (HT.out.ext (Ext.below B3.out))); clear hlv hrv hb2; simp only [faultV])
        | (go_at_call 31; refine AE.out.mono ?_; rintro e w4 ⟨he, hb4⟩; unfold EdAns at he; rw [hmy] at he; subst he; have F4 := (FaB.new w2 0 0).below hb4; have z0 := F4.fz 0; have z1 := F4.fz 1; have y0 := F4.cell0; have y1 := F4.cell1; have F5 := hid (F4.set 5 q); have G5 := hid ((G2.out.alloc (.cells #[.int .i64 0, .int .i64 0] 25)).below hb4 |>.other (show w.heap.size ≠ w2.heap.size by omega) 5 q); have B5 := hid (below_setF (below_trans B3.out hb4 (Nat.le_refl _)) (show w.heap.size ≤ w2.heap.size by omega) 5 q); clear hb4 F4; simp only [faultV]))
      simp only [setF] at *
      generalize (w4.setCell ⟨w2.heap.size, 0, none⟩ (.int .i64 5)).setCell ⟨w2.heap.size, 1, none⟩ (.int .i64 q) = w5 at *
      have a0 := F5.out.cell0
      have a1 := F5.out.cell1
      have t0 := G5.out.fz 0
      have t1 := G5.out.fz 1
      have v0 := G5.out.cell0
      have v1 := G5.out.cell1
      clear z0 z1 y0 y1
      go_region
      all_goals go_wp2_with fail
      all_goals
        have FS := G5.out.set 5 q
        have p0 := FS.cell0
        have p1 := FS.cell1
        refine bodyPost_ret (v := .tuple #[.string ⟨#[]⟩, faultV (5, q)]) (by simp [results, Tryz.results16, go_sem, p0, p1, faultV]) rfl ?_
        exact ⟨by rw [HZ.out]; exact ⟨rfl, by show (5 : Nat) ≠ 0; decide⟩, ((B5.out.setCell (Nat.le_refl _) _).setCell (Nat.le_refl _) _).drew⟩
    | none =>
      have HZ := hid (HFl.out hmy)
      have HSd := hid (fun (E' : List Sh.Ed) (h1 : List.Pairwise (fun x y : Sh.Ed => x.1 ≤ y.1) E') h2 => made_sorted HRd.out h1 h2)
      have HMp := hid (made_perm HRd.out)
      have HTx : Hid (∀ e ∈ edsB s.data.toList L R, e.2.2.length ≤ 1048576) := fun e he => made_txt HRd.out hmy e (HMp.out.mem_iff.2 he)
      have HWi := hid HRd.out.spread.2
      have hml := made_len (L := L) (R := R)
      generalize hAp : Sh.app s.data.toList 0 (edsB s.data.toList L R) s.data.toList.length = T at *
      have HAp := hid hAp
      have hbs := bsL_size T
      have hzt : (bsL T).size ≤ 1073741824 := by
        have := app_len (S := s.data.toList) HWi.out HTx.out
        rw [HAp.out] at this
        have hl2 := HMp.out.length_eq
        rw [hbs]
        have : (edsB s.data.toList L R).length ≤ 180 := by omega
        have : (edsB s.data.toList L R).length * 1048576 ≤ 180 * 1048576 := Nat.mul_le_mul_right _ this
        omega
      clear hAp
      go_enter Tryz.func16, Tryz.ntmps16
      by_cases hlong : 6000 < (bsL T).size
      · have HZ2 : Hid (foldB s.data.toList = .error (4, 0)) := by show _ = _; rw [HZ.out, if_pos (by rw [← hbs]; exact hlong)]
        go_wp2_with (first
  | (go_at_call 17; refine HRA.out.mono ?_; rintro e w2 ⟨⟨lv, rv, rfl, hlv, hrv⟩, hb2⟩; have B2 := hid (below_trans B1.out hb2 (Nat.le_refl _)); have G2 := hid (G1.out.below hb2); have lt2 := G2.out.lt; obtain ⟨la, lc, rfl⟩ := nd_form hlv; obtain ⟨ra, rc, rfl⟩ := rs_form hrv; have B3 := hid (below_al B2.out (o := .cells #[.int .i64 0, .int .i64 0] 25)); have AE := hid (allEdits_any HRd.out _ _ (w2.alloc (.cells #[.int .i64 0, .int .i64 0] 25)) ((nds_of hlv).ext (Ext.below (below_al (Below.refl _ _)))) ((rus_of hrv).ext (Ext.below (below_al (Below.refl _ _)))) (HT.out.ext (Ext.below B3.out))); clear hlv hrv hb2; simp only [faultV])
          | (go_at_call 31; refine AE.out.mono ?_; rintro e w4 ⟨he, hb4⟩; unfold EdAns at he; rw [hmy] at he; obtain ⟨ev, rfl, hrow⟩ := he; have F4 := (FaB.new w2 0 0).below hb4; have z0 := F4.fz 0; have z1 := F4.fz 1; have y0 := F4.cell0; have y1 := F4.cell1; have G5 := hid ((G2.out.alloc (.cells #[.int .i64 0, .int .i64 0] 25)).below hb4 |>.other (show w.heap.size ≠ w2.heap.size by omega) 0 0); have B5 := hid (below_setF (below_trans B3.out hb4 (Nat.le_refl _)) (show w.heap.size ≤ w2.heap.size by omega) 0 0); have F5 := F4.set 0 0; have y2 := F5.cell0; have y3 := F5.cell1; have hz4 := hb4.size; have AP := apply_any s _ _ ev _ (setF w4 w2.heap.size 0 0) (Sh.own_keeps hrow (F4.keep25 0 0) (by decide)) (by omega) HSd.out HWi.out h6 HTx.out (by simpa [setF] using hz4); rw [HAp.out] at AP; have HAP := hid AP; obtain ⟨ea, ec, rfl⟩ := own_form hrow; clear hb4 F4 F5 hrow AP hz4; simp only [faultV, setF] at *)
          | (go_at_call 32; refine HAP.out.mono ?_; rintro e w6 ⟨rfl, hb6⟩; have G6 : Hid (FaB w6 w.heap.size 0 0) := (hb6.block _ (by simp; omega)).trans G5.out; have B6 := hid (B5.out.trans (hb6.mono (by simp; omega))); have u0 := G6.out.fz 0; have u1 := G6.out.fz 1; have u2 := G6.out.cell0; have u3 := G6.out.cell1; clear hb6))
        have FS := G6.out.set 4 0
        have p0 := FS.cell0
        have p1 := FS.cell1
        refine bodyPost_ret (v := .tuple #[.string ⟨#[]⟩, faultV (4, 0)]) (by simp [results, Tryz.results16, go_sem, p0, p1, faultV]) rfl ?_
        exact ⟨by rw [HZ2.out]; exact ⟨rfl, by decide⟩, ((B6.out.setCell (Nat.le_refl _) _).setCell (Nat.le_refl _) _)⟩
      · have HZ2 : Hid (foldB s.data.toList = .ok T) := by show _ = _; rw [HZ.out, if_neg (by rw [← hbs]; exact hlong)]
        go_wp2_with (first
  | (go_at_call 17; refine HRA.out.mono ?_; rintro e w2 ⟨⟨lv, rv, rfl, hlv, hrv⟩, hb2⟩; have B2 := hid (below_trans B1.out hb2 (Nat.le_refl _)); have G2 := hid (G1.out.below hb2); have lt2 := G2.out.lt; obtain ⟨la, lc, rfl⟩ := nd_form hlv; obtain ⟨ra, rc, rfl⟩ := rs_form hrv; have B3 := hid (below_al B2.out (o := .cells #[.int .i64 0, .int .i64 0] 25)); have AE := hid (allEdits_any HRd.out _ _ (w2.alloc (.cells #[.int .i64 0, .int .i64 0] 25)) ((nds_of hlv).ext (Ext.below (below_al (Below.refl _ _)))) ((rus_of hrv).ext (Ext.below (below_al (Below.refl _ _)))) (HT.out.ext (Ext.below B3.out))); clear hlv hrv hb2; simp only [faultV])
          | (go_at_call 31; refine AE.out.mono ?_; rintro e w4 ⟨he, hb4⟩; unfold EdAns at he; rw [hmy] at he; obtain ⟨ev, rfl, hrow⟩ := he; have F4 := (FaB.new w2 0 0).below hb4; have z0 := F4.fz 0; have z1 := F4.fz 1; have y0 := F4.cell0; have y1 := F4.cell1; have G5 := hid ((G2.out.alloc (.cells #[.int .i64 0, .int .i64 0] 25)).below hb4 |>.other (show w.heap.size ≠ w2.heap.size by omega) 0 0); have B5 := hid (below_setF (below_trans B3.out hb4 (Nat.le_refl _)) (show w.heap.size ≤ w2.heap.size by omega) 0 0); have F5 := F4.set 0 0; have y2 := F5.cell0; have y3 := F5.cell1; have hz4 := hb4.size; have AP := apply_any s _ _ ev _ (setF w4 w2.heap.size 0 0) (Sh.own_keeps hrow (F4.keep25 0 0) (by decide)) (by omega) HSd.out HWi.out h6 HTx.out (by simpa [setF] using hz4); rw [HAp.out] at AP; have HAP := hid AP; obtain ⟨ea, ec, rfl⟩ := own_form hrow; clear hb4 F4 F5 hrow AP hz4; simp only [faultV, setF] at *)
          | (go_at_call 32; refine HAP.out.mono ?_; rintro e w6 ⟨rfl, hb6⟩; have G6 : Hid (FaB w6 w.heap.size 0 0) := (hb6.block _ (by simp; omega)).trans G5.out; have B6 := hid (B5.out.trans (hb6.mono (by simp; omega))); have u0 := G6.out.fz 0; have u1 := G6.out.fz 1; have u2 := G6.out.cell0; have u3 := G6.out.cell1; clear hb6))
        have FS := G6.out.set 0 0
        have p0 := FS.cell0
        have p1 := FS.cell1
        refine bodyPost_ret (v := .tuple #[.string (bsL T), faultV (0, 0)]) (by simp [results, Tryz.results16, go_sem, p0, p1, faultV]) rfl ?_
        exact ⟨by rw [HZ2.out]; rfl, ((B6.out.setCell (Nat.le_refl _) _).setCell (Nat.le_refl _) _)⟩
end Go.Proofs.YtblkldfokeeaeacGreatDoor

namespace Go.Proofs.YtblkldfokeeaeacGreatDoor
open Go.RowKit Go.Maps

def aliveS : Bs := [60, 115, 116, 121, 108, 101, 62, 112, 123, 99, 111, 108, 111, 114, 58, 114, 101, 100, 125, 60, 47, 115, 116, 121, 108, 101, 62, 60, 112, 62, 120, 60, 47, 112, 62]
def aliveT : Bs := [60, 115, 116, 121, 108, 101, 62, 32, 60, 47, 115, 116, 121, 108, 101, 62, 60, 112, 32, 115, 116, 121, 108, 101, 61, 34, 99, 111, 108, 111, 114, 58, 32, 114, 101, 100, 34, 62, 120, 60, 47, 112, 62]
/-! ### pages of which no rule has media -/
def lookQ (l : List Nd) (Q : List Ru) (k : Nat) : List Dc := lookOf (okCl (claimsB styF l k Q []))
def edsQ (S : Bs) (L : List Sh.Nd) (R : List Sh.Rl) : List Sh.Ed := Sh.eds (fun k => printD (lookQ (L.map ofN) (R.map ofR) k)) (fun j => match L[j]? with | none => [] | some n => Sh.edR n.inFrom ((rulesAt S n).zip ((rulesAt S n).map fun _ => false))) L 0
theorem stay_no {l : List Nd} {R : List Ru} (h : ∀ r ∈ R, r.media.toList.isEmpty = true) (r : Ru) : stayB l R r = false := by
  cases hs : stayB l R r with
  | false => rfl
  | true => exact (Sh.StR.none (fun q hq hm => by rw [h q hq] at hm; cases hm) (stay_iff.1 hs)).elim
theorem goes_allB {l : List Nd} {R : List Ru} (h : ∀ r ∈ R, r.media.toList.isEmpty = true) : goesB l R = R := by
  unfold goesB
  rw [List.filter_eq_self]
  intro r hr
  rw [stay_no h]
  rfl
theorem foldQ {S T : Bs} {L : List Sh.Nd} {R : List Sh.Rl} (hr : readB S = .ok (L, R)) (hm : ∀ r ∈ R.map ofR, r.media.toList.isEmpty = true) (hk : (L.zipIdx.any fun x => tooMany x.1 (lookQ (L.map ofN) (R.map ofR) x.2)) = false) (hT : Sh.app S 0 (edsQ S L R) S.length = T) (hl : T.length ≤ 6000) : foldB S = .ok T := by
  have e1 : ∀ k, lookAt (L.map ofN) (R.map ofR) k = lookQ (L.map ofN) (R.map ofR) k := fun k => by unfold lookAt lookQ; rw [goes_allB hm]
  have e2 : manyAt L R = none := by
    unfold manyAt
    rw [Option.map_eq_none_iff, List.find?_eq_none]
    intro x hx
    rw [e1]
    rw [List.any_eq_false] at hk
    exact hk x hx
  have e3 : edsB S L R = edsQ S L R := by
    unfold edsB edsQ goneEd flagsAt
    congr 1
    · funext k
      unfold newV
      rw [e1]
    · funext j
      cases L[j]? with
      | none => rfl
      | some n => simp only [stay_no hm]
  rw [fold_long hr e2, e3, hT, if_neg (by omega)]
def aliveL : List Sh.Nd := match readB aliveS with
  | .ok p => p.1
  | .error _ => []
def aliveR : List Sh.Rl := match readB aliveS with
  | .ok p => p.2
  | .error _ => []
theorem alive_read : ∃ L R, readB aliveS = .ok (L, R) ∧ (∀ r ∈ R.map ofR, r.media.toList.isEmpty = true) ∧ (L.zipIdx.any fun x => tooMany x.1 (lookQ (L.map ofN) (R.map ofR) x.2)) = false ∧ Sh.app aliveS 0 (edsQ aliveS L R) aliveS.length = aliveT := by
  refine ⟨aliveL, aliveR, by kernel_rfl, ?_, by kernel_rfl, by kernel_rfl⟩
  exact of_decide_eq_true (by kernel_rfl)
theorem alive_fold : foldB aliveS = .ok aliveT := by
  obtain ⟨L, R, h1, h2, h3, h4⟩ := alive_read
  exact foldQ h1 h2 h3 h4 (by decide)
set_option maxRecDepth 100000 in
set_option maxHeartbeats 4000000 in
theorem alive_any (w : World) (hT : Tab w) : Calls Tryz.prog 15 #[] w fun e w' => e = .returned (.bool true) ∧ Below w.heap.size w w' := by
  have FA := fold_any ⟨aliveS.toArray⟩ w (by decide) hT
  have e1 : (⟨aliveS.toArray⟩ : ByteArray).data.toList = aliveS := rfl
  rw [e1, alive_fold] at FA
  simp only [FoldAns] at FA
  have HF := hid FA
  clear FA e1 hT
  go_enter Tryz.func15, Tryz.ntmps15
  go_wp2_with (go_at_call 16; refine HF.out.mono ?_; rintro e w2 ⟨rfl, hb2⟩; have HB := hid hb2; clear hb2; simp only [faultV])
  go_ret
  refine ⟨?_, HB.out.alloc HB.out.size _⟩
  have e : ((bsL aliveT).toList == [60, 115, 116, 121, 108, 101, 62, 32, 60, 47, 115, 116, 121, 108, 101, 62, 60, 112, 32, 115, 116, 121, 108, 101, 61, 34, 99, 111, 108, 111, 114, 58, 32, 114, 101, 100, 34, 62, 120, 60, 47, 112, 62]) = true := by
    rw [bsL_toList]
    rfl
  rw [e]
  rfl
theorem fold_len {S T : Bs} (h : foldB S = .ok T) : T.length ≤ 6000 := by
  obtain ⟨L, R, L', R', t, hf, _, _⟩ := fold_ok h
  exact (page_bd hf.again.page).2.1
end Go.Proofs.YtblkldfokeeaeacGreatDoor

namespace Go.Proofs.YtblkldfokeeaeacGreatDoor.Sh
open Go.RowKit

theorem us36 : Tryz.prog.underlying 36 = some (.struct (Tryz.prog.fieldsOf 36)) := by kernel_rfl
theorem us40 : Tryz.prog.underlying 40 = some (.struct (Tryz.prog.fieldsOf 40)) := by kernel_rfl
theorem us152 : Tryz.prog.underlying 152 = some (.struct (Tryz.prog.fieldsOf 152)) := by kernel_rfl
theorem st36 : Tryz.prog.stoodInHeld 36 = false := by kernel_rfl
theorem st40 : Tryz.prog.stoodInHeld 40 = false := by kernel_rfl
theorem st152 : Tryz.prog.stoodInHeld 152 = false := by kernel_rfl
theorem fs36 : (Tryz.prog.fieldsOf 36).toList.map (fun f => (f.name, f.type, f.offset)) = [("From", 3, 0), ("To", 3, 1)] := by kernel_rfl
theorem fs40 : (Tryz.prog.fieldsOf 40).toList.map (fun f => (f.name, f.type, f.offset)) = [("Name", 9, 0), ("Val", 9, 1), ("Strong", 4, 2)] := by kernel_rfl
theorem fs152 : (Tryz.prog.fieldsOf 152).toList.map (fun f => (f.name, f.type, f.offset)) = [("Kind", 3, 0), ("Name", 9, 1), ("Val", 9, 2)] := by kernel_rfl
theorem eg36 : Tryz.prog.eqGuardType Tryz.prog.depth 36 = false := by kernel_rfl
theorem eg40 : Tryz.prog.eqGuardType Tryz.prog.depth 40 = false := by kernel_rfl
theorem eg152 : Tryz.prog.eqGuardType Tryz.prog.depth 152 = false := by kernel_rfl

/-- Two aggregates whose fields are equal one by one are equal. -/
theorem fields_eq (P : Program) (d : Nat) (xs ys : Array Value) (w : World) : ∀ fs : List Field, (∀ f ∈ fs, ∃ a b, (Go.part f.type xs f.offset).run P w = .ok a w ∧ (Go.part f.type ys f.offset).run P w = .ok b w ∧ (Op.equalIn d f.type a b).run P w = .ok true w) → (Op.eqFields d xs ys fs).run P w = .ok true w
  | [], _ => by simp [Op.eqFields]
  | f :: fs, h => by
    obtain ⟨a, b, h1, h2, h3⟩ := h f (List.mem_cons_self ..)
    have ih := fields_eq P d xs ys w fs (fun g hg => h g (List.mem_cons_of_mem _ hg))
    simp only [Op.eqFields]
    split
    · simp [Sem.run_bind, h1, h2, h3, ih]
    · exact ih

theorem seq36 (d : Nat) (f t : Int) (w : World) : (Op.equalIn (d + 2) 36 (.agg #[.int .i64 f, .int .i64 t]) (.agg #[.int .i64 f, .int .i64 t])).run Tryz.prog w = .ok true w := by
  rw [run_equalIn_struct w (d + 1) 36 _ _ us36 st36]
  refine fields_eq _ _ _ _ _ _ fun g hg => ?_
  have hm : (g.name, g.type, g.offset) ∈ [("From", 3, 0), ("To", 3, 1)] := by rw [← fs36]; exact List.mem_map_of_mem hg
  simp at hm
  rcases hm with ⟨_, h1, h2⟩ | ⟨_, h1, h2⟩
  · rw [h1, h2]
    refine ⟨.int .i64 f, .int .i64 f, by simp [Go.part, go_sem], by simp [Go.part, go_sem], ?_⟩
    rw [run_equalIn_int w d 3 .i64 .i64 f f Tryz.underlying3]; simp
  · rw [h1, h2]
    refine ⟨.int .i64 t, .int .i64 t, by simp [Go.part, go_sem], by simp [Go.part, go_sem], ?_⟩
    rw [run_equalIn_int w d 3 .i64 .i64 t t Tryz.underlying3]; simp
theorem seq40 (d : Nat) (a b : ByteArray) (t : Bool) (w : World) : (Op.equalIn (d + 2) 40 (.agg #[.string a, .string b, .bool t]) (.agg #[.string a, .string b, .bool t])).run Tryz.prog w = .ok true w := by
  rw [run_equalIn_struct w (d + 1) 40 _ _ us40 st40]
  refine fields_eq _ _ _ _ _ _ fun g hg => ?_
  have hm : (g.name, g.type, g.offset) ∈ [("Name", 9, 0), ("Val", 9, 1), ("Strong", 4, 2)] := by rw [← fs40]; exact List.mem_map_of_mem hg
  simp at hm
  rcases hm with ⟨_, h1, h2⟩ | ⟨_, h1, h2⟩ | ⟨_, h1, h2⟩
  · rw [h1, h2]
    refine ⟨.string a, .string a, by simp [Go.part, go_sem], by simp [Go.part, go_sem], ?_⟩
    rw [run_equalIn_string w d 9 a a Tryz.underlying9]; simp
  · rw [h1, h2]
    refine ⟨.string b, .string b, by simp [Go.part, go_sem], by simp [Go.part, go_sem], ?_⟩
    rw [run_equalIn_string w d 9 b b Tryz.underlying9]; simp
  · rw [h1, h2]
    refine ⟨.bool t, .bool t, by simp [Go.part, go_sem], by simp [Go.part, go_sem], ?_⟩
    rw [run_equalIn_bool' w d 4 t t Tryz.underlying4]; simp
theorem seq152 (d : Nat) (k : Int) (a b : ByteArray) (w : World) : (Op.equalIn (d + 2) 152 (.agg #[.int .i64 k, .string a, .string b]) (.agg #[.int .i64 k, .string a, .string b])).run Tryz.prog w = .ok true w := by
  rw [run_equalIn_struct w (d + 1) 152 _ _ us152 st152]
  refine fields_eq _ _ _ _ _ _ fun g hg => ?_
  have hm : (g.name, g.type, g.offset) ∈ [("Kind", 3, 0), ("Name", 9, 1), ("Val", 9, 2)] := by rw [← fs152]; exact List.mem_map_of_mem hg
  simp at hm
  rcases hm with ⟨_, h1, h2⟩ | ⟨_, h1, h2⟩ | ⟨_, h1, h2⟩
  · rw [h1, h2]
    refine ⟨.int .i64 k, .int .i64 k, by simp [Go.part, go_sem], by simp [Go.part, go_sem], ?_⟩
    rw [run_equalIn_int w d 3 .i64 .i64 k k Tryz.underlying3]; simp
  · rw [h1, h2]
    refine ⟨.string a, .string a, by simp [Go.part, go_sem], by simp [Go.part, go_sem], ?_⟩
    rw [run_equalIn_string w d 9 a a Tryz.underlying9]; simp
  · rw [h1, h2]
    refine ⟨.string b, .string b, by simp [Go.part, go_sem], by simp [Go.part, go_sem], ?_⟩
    rw [run_equalIn_string w d 9 b b Tryz.underlying9]; simp
theorem sneq36 (f t : Int) (w : World) : (binOp .neq 36 (.agg #[.int .i64 f, .int .i64 t]) (.agg #[.int .i64 f, .int .i64 t])).run Tryz.prog w = .ok (.bool false) w := by
  rw [run_neq_struct, seq36 9998]; rfl
theorem sneq40 (a b : ByteArray) (t : Bool) (w : World) : (binOp .neq 40 (.agg #[.string a, .string b, .bool t]) (.agg #[.string a, .string b, .bool t])).run Tryz.prog w = .ok (.bool false) w := by
  rw [run_neq_struct, seq40 9998]; rfl
theorem sneq152 (k : Int) (a b : ByteArray) (w : World) : (binOp .neq 152 (.agg #[.int .i64 k, .string a, .string b]) (.agg #[.int .i64 k, .string a, .string b])).run Tryz.prog w = .ok (.bool false) w := by
  rw [run_neq_struct, seq152 9998]; rfl

set_option maxHeartbeats 2000000 in
theorem sameDecls_any (l : List Dcl) (v1 v2 : Value) (w : World) (hL : l.length ≤ 100) (h1 : DsAt w v1 l) (h2 : DsAt w v2 l) :
    Calls Tryz.prog 43 #[v1, v2] w fun e w' => e = .returned (.bool true) ∧ ∃ n, w' = w.drewN n := by
  obtain ⟨a1, c1, rfl⟩ := own_form h1
  obtain ⟨a2, c2, rfl⟩ := own_form h2
  have H1 := hid h1
  have H2 := hid h2
  clear h1 h2
  go_enter Tryz.func43, Tryz.ntmps43
  go_wp2_with fail
  go_loopg [13] l.length (fun n i wr => ∃ k, k ≤ l.length ∧ n = l.length - k ∧ i = .int .i64 (k : Int) ∧ ∃ m, wr = w.drewN m)
  case atStart => exact ⟨0, Nat.zero_le _, rfl, rfl, 0, rfl⟩
  case round =>
    obtain ⟨k, hk, hn, rfl, m, rfl⟩ := hrel
    have GK := hid hn
    clear hn
    by_cases hlt : k < l.length
    · obtain ⟨g1, rfl, p⟩ := row_at (enc := encD) (sz := 3) (fun _ => rfl) rfl (show w.ownsRow 0 40 3 _ _ _ from H1.out) hlt (by decide)
      obtain ⟨g2, rfl, q⟩ := row_at (enc := encD) (sz := 3) (fun _ => rfl) rfl (show w.ownsRow 0 40 3 _ _ _ from H2.out) hlt (by decide)
      have p0 := p 0 (by decide)
      have p1 := p 1 (by decide)
      have p2 := p 2 (by decide)
      have q0 := q 0 (by decide)
      have q1 := q 1 (by decide)
      have q2 := q 2 (by decide)
      simp [encD, -Go.CellFam.cellOfFamily] at p0 p1 p2 q0 q1 q2
      generalize l[k] = d at *
      obtain ⟨nm, vl, st⟩ := d
      simp only at p0 p1 p2 q0 q1 q2
      have e77 := sneq40 (bs nm) (bs vl) st
      have g77 := eg40
      clear p q
      go_wp2_with fail
      go_quiet (fail)
      go_wp2_with fail
      go_roundg (l.length - (k + 1))
      case measure => have := GK.out; omega
      case rel => exact ⟨k + 1, by omega, rfl, by go_num, _, rfl⟩
    · go_wp2_with fail
      go_ret
      exact ⟨rfl, m, rfl⟩

set_option maxRecDepth 100000 in
set_option maxHeartbeats 4000000 in
theorem sameSel_any (l : List Prt) (v1 v2 : Value) (w : World) (hL : l.length ≤ 100) (hT : ∀ p ∈ l, p.tests.length ≤ 100) (h1 : PsAt w v1 l) (h2 : PsAt w v2 l) :
    Calls Tryz.prog 44 #[v1, v2] w fun e w' => e = .returned (.bool true) ∧ ∃ n, w' = w.drewN n := by
  obtain ⟨a1, c1, rfl⟩ := NAt.form (show PsIn w 0 v1 l from h1)
  obtain ⟨a2, c2, rfl⟩ := NAt.form (show PsIn w 0 v2 l from h2)
  obtain ⟨LV1, m1, o1, s1⟩ := h1
  obtain ⟨LV2, m2, o2, s2⟩ := h2
  have l1 : LV1.length = l.length := by rw [← m1, List.length_map]
  have l2 : LV2.length = l.length := by rw [← m2, List.length_map]
  have O1 := hid o1
  have O2 := hid o2
  have M1 := hid m1
  have M2 := hid m2
  have S1 := hid s1
  have S2 := hid s2
  have HT := hid hT
  have L1 := hid l1
  have L2 := hid l2
  clear o1 o2 m1 m2 s1 s2 hT l1 l2
  go_enter Tryz.func44, Tryz.ntmps44
  go_wp2_with fail
  go_loopg [14] l.length (fun n i wr => ∃ k, k ≤ l.length ∧ n = l.length - k ∧ i = .int .i64 (k : Int) ∧ ∃ m, wr = w.drewN m)
  case atStart => exact ⟨0, Nat.zero_le _, rfl, rfl, 0, rfl⟩
  case round =>
    obtain ⟨k, hk, hn, rfl, m, rfl⟩ := hrel
    have GK := hid hn
    clear hn
    by_cases hlt : k < l.length
    · have k1 : k < LV1.length := by rw [L1.out]; exact hlt
      have k2 : k < LV2.length := by rw [L2.out]; exact hlt
      obtain ⟨g1, rfl, p⟩ := row_at (enc := encP) (sz := 2) (fun _ => rfl) L1.out O1.out k1 (by decide)
      obtain ⟨g2, rfl, q⟩ := row_at (enc := encP) (sz := 2) (fun _ => rfl) L2.out O2.out k2 (by decide)
      have p0 := p 0 (by decide)
      have p1 := p 1 (by decide)
      have q0 := q 0 (by decide)
      have q1 := q 1 (by decide)
      have t1 := S1.out LV1[k] (List.getElem_mem k1)
      have t2 := S2.out LV2[k] (List.getElem_mem k2)
      have e1 : LV1[k].1 = l[k] := by have := M1.out; simp [← this]
      have e2 : LV2[k].1 = l[k] := by have := M2.out; simp [← this]
      have ht := HT.out l[k] (List.getElem_mem hlt)
      simp [encP, -Go.CellFam.cellOfFamily] at p0 p1 q0 q1
      rw [e1] at p0 t1
      rw [e2] at q0 t2
      generalize l[k] = pk at *
      generalize LV1[k].2 = x1 at *
      generalize LV2[k].2 = x2 at *
      obtain ⟨jn, ts⟩ := pk
      simp only at p0 p1 q0 q1 t1 t2 ht
      obtain ⟨b1, d1, rfl⟩ := own_form t1
      obtain ⟨b2, d2, rfl⟩ := own_form t2
      have T1 := hid t1
      have T2 := hid t2
      clear t1 t2 p q e1 e2 k1 k2
      go_wp2_with fail
      go_quiet (fail)
      go_wp2_with fail
      go_loopg [49] ts.length (fun n i wr => ∃ j, j ≤ ts.length ∧ n = ts.length - j ∧ i = .int .i64 (j : Int) ∧ ∃ m, wr = w.drewN m)
      case atStart => exact ⟨0, Nat.zero_le _, rfl, rfl, m + nq, rfl⟩
      case round =>
        obtain ⟨j, hj, hn, rfl, m2, rfl⟩ := hrel
        have GJ := hid hn
        clear hn
        by_cases hjl : j < ts.length
        · obtain ⟨h1, rfl, p⟩ := row_at (enc := encT) (sz := 3) (fun _ => rfl) rfl (show w.ownsRow 0 152 3 _ _ _ from T1.out) hjl (by decide)
          obtain ⟨h2, rfl, q⟩ := row_at (enc := encT) (sz := 3) (fun _ => rfl) rfl (show w.ownsRow 0 152 3 _ _ _ from T2.out) hjl (by decide)
          have r0 := p 0 (by decide)
          have r1 := p 1 (by decide)
          have r2 := p 2 (by decide)
          have u0 := q 0 (by decide)
          have u1 := q 1 (by decide)
          have u2 := q 2 (by decide)
          simp [encT, -Go.CellFam.cellOfFamily] at r0 r1 r2 u0 u1 u2
          generalize ts[j] = tj at *
          obtain ⟨kd, nm, vl⟩ := tj
          simp only at r0 r1 r2 u0 u1 u2
          have e104 := sneq152 kd (bs nm) (bs vl)
          have g104 := eg152
          clear p q
          go_wp2_with fail
          go_quiet (fail)
          go_wp2_with fail
          go_roundg (ts.length - (j + 1))
          case measure => have := GJ.out; omega
          case rel => exact ⟨j + 1, by omega, rfl, by go_num, _, rfl⟩
        · go_wp2_with fail
          go_roundg (l.length - (k + 1))
          case measure => have := GK.out; omega
          case rel => exact ⟨k + 1, by omega, rfl, by go_num, m2, rfl⟩
    · go_wp2_with fail
      go_ret
      exact ⟨rfl, m, rfl⟩
end Go.Proofs.YtblkldfokeeaeacGreatDoor.Sh

namespace Go.Proofs.YtblkldfokeeaeacGreatDoor.Sh
open Go.RowKit

/-- Of everything at most 100. -/
def Few (r : Rl) : Prop := r.sels.length ≤ 100 ∧ r.decls.length ≤ 100 ∧ ∀ p ∈ r.sels, p.length ≤ 100 ∧ ∀ q ∈ p, q.tests.length ≤ 100

set_option maxRecDepth 100000 in
set_option maxHeartbeats 4000000 in
theorem sameRules_any (l : List Rl) (b1 b2 : Nat) (v1 v2 : Value) (w : World) (hL : l.length ≤ 100) (hF : ∀ r ∈ l, Few r) (h1 : RsIn w b1 v1 l) (h2 : RsIn w b2 v2 l) :
    Calls Tryz.prog 22 #[v1, v2] w fun e w' => e = .returned (.bool true) ∧ ∃ n, w' = w.drewN n := by
  obtain ⟨a1, c1, rfl⟩ := NAt.form h1
  obtain ⟨a2, c2, rfl⟩ := NAt.form h2
  obtain ⟨LV1, m1, o1, s1⟩ := h1
  obtain ⟨LV2, m2, o2, s2⟩ := h2
  have l1 : LV1.length = l.length := by rw [← m1, List.length_map]
  have l2 : LV2.length = l.length := by rw [← m2, List.length_map]
  have O1 := hid o1
  have O2 := hid o2
  have M1 := hid m1
  have M2 := hid m2
  have S1 := hid s1
  have S2 := hid s2
  have HF := hid hF
  have L1 := hid l1
  have L2 := hid l2
  clear o1 o2 m1 m2 s1 s2 hF l1 l2
  go_enter Tryz.func22, Tryz.ntmps22
  go_wp2_with fail
  go_loopg [14] l.length (fun n i wr => ∃ k, k ≤ l.length ∧ n = l.length - k ∧ i = .int .i64 (k : Int) ∧ ∃ m, wr = w.drewN m)
  case atStart => exact ⟨0, Nat.zero_le _, rfl, rfl, 0, rfl⟩
  case round =>
    obtain ⟨k, hk, hn, rfl, hw⟩ := hrel
    have GK := hid hn
    have HW := hid hw
    clear hn
    rename World => wo
    have cw : ∀ a, w.cell? a = wo.cell? a := by obtain ⟨m, rfl⟩ := hw; intro a; rfl
    have dw : ∀ v l, DsAt w v l → DsAt wo v l := by obtain ⟨m, rfl⟩ := hw; intro v l h; exact h
    clear hw
    by_cases hlt : k < l.length
    · have k1 : k < LV1.length := by rw [L1.out]; exact hlt
      have k2 : k < LV2.length := by rw [L2.out]; exact hlt
      obtain ⟨g1, rfl, p⟩ := row_at (enc := encR) (sz := 5) (fun _ => rfl) L1.out O1.out k1 (by decide)
      obtain ⟨g2, rfl, q⟩ := row_at (enc := encR) (sz := 5) (fun _ => rfl) L2.out O2.out k2 (by decide)
      have p0 := p 0 (by decide)
      have p1 := p 1 (by decide)
      have p2 := p 2 (by decide)
      have p3 := p 3 (by decide)
      have p4 := p 4 (by decide)
      have q0 := q 0 (by decide)
      have q1 := q 1 (by decide)
      have q2 := q 2 (by decide)
      have q3 := q 3 (by decide)
      have q4 := q 4 (by decide)
      have t1 := S1.out LV1[k] (List.getElem_mem k1)
      have t2 := S2.out LV2[k] (List.getElem_mem k2)
      have e1 : LV1[k].1 = l[k] := by have := M1.out; simp [← this]
      have e2 : LV2[k].1 = l[k] := by have := M2.out; simp [← this]
      have ht := HF.out l[k] (List.getElem_mem hlt)
      have pw := p1
      have qw := q1
      simp [encR, -Go.CellFam.cellOfFamily] at pw qw
      have PW := hid pw
      have QW := hid qw
      clear pw qw
      rw [cw] at p0 p1 p2 p3 p4 q0 q1 q2 q3 q4
      simp [encR, -Go.CellFam.cellOfFamily] at p0 p1 p2 p3 p4 q0 q1 q2 q3 q4
      rw [e1] at p0 p3 p4 t1
      rw [e2] at q0 q3 q4 t2
      generalize l[k] = rk at *
      generalize LV1[k].2.1 = x1 at *
      generalize LV2[k].2.1 = x2 at *
      generalize LV1[k].2.2 = y1 at *
      generalize LV2[k].2.2 = y2 at *
      obtain ⟨md, sl, dl, fr, tt⟩ := rk
      simp only at p0 p1 p2 p3 p4 q0 q1 q2 q3 q4 t1 t2 ht
      obtain ⟨ts1, td1⟩ := t1
      obtain ⟨ts2, td2⟩ := t2
      obtain ⟨f1, f2, f3⟩ := ht
      simp only at f1 f2 f3
      obtain ⟨b1, d1, rfl⟩ := NAt.form (show SsIn w 0 x1 sl from ts1)
      obtain ⟨b2, d2, rfl⟩ := NAt.form (show SsIn w 0 x2 sl from ts2)
      obtain ⟨b3, d3, rfl⟩ := own_form td1
      obtain ⟨b4, d4, rfl⟩ := own_form td2
      have T1 := hid ts1
      have T2 := hid ts2
      have F3 := hid f3
      have TD1 := hid (dw _ _ td1)
      have TD2 := hid (dw _ _ td2)
      have F2 := hid f2
      have e33 := sneq36 fr tt
      have g33 := eg36
      have hnn : ((bs md).toList == (bs md).toList) = true := by simp
      clear dw cw ts1 ts2 td1 td2 p q e1 e2 k1 k2 f3
      go_wp2_with fail
      go_quiet (first | (go_at_call 43; exact Calls.quiet_of (sameDecls_any dl _ _ _ F2.out TD1.out TD2.out)))
      clear e33 g33 hnn p0 p2 p3 p4 q0 q2 q3 q4
      go_wp2_with fail
      obtain ⟨LW1, m1, o1, s1⟩ := T1.out
      obtain ⟨LW2, m2, o2, s2⟩ := T2.out
      have LL1 : Hid (LW1.length = sl.length) := by show LW1.length = sl.length; rw [← m1, List.length_map]
      have LL2 : Hid (LW2.length = sl.length) := by show LW2.length = sl.length; rw [← m2, List.length_map]
      have OO1 := hid o1
      have OO2 := hid o2
      have MM1 := hid m1
      have MM2 := hid m2
      have SS1 := hid s1
      have SS2 := hid s2
      clear o1 o2 m1 m2 s1 s2
      go_loopg [76] sl.length (fun n i wr => ∃ j, j ≤ sl.length ∧ n = sl.length - j ∧ i = .int .i64 (j : Int) ∧ ∃ m, wr = w.drewN m)
      case atStart =>
        obtain ⟨m, hm⟩ := HW.out
        exact ⟨0, Nat.zero_le _, rfl, rfl, m + nq, by rw [hm]; simp⟩
      case round =>
        obtain ⟨j, hj, hn, rfl, hw⟩ := hrel
        have GJ := hid hn
        have HW2 := hid hw
        clear hn
        have cw : ∀ a, w.cell? a = wr.cell? a := by obtain ⟨m, rfl⟩ := hw; intro a; rfl
        have dw : ∀ v l, PsAt w v l → PsAt wr v l := by obtain ⟨m, rfl⟩ := hw; intro v l h; exact h
        clear hw
        by_cases hjl : j < sl.length
        · have k1 : j < LW1.length := by rw [LL1.out]; exact hjl
          have k2 : j < LW2.length := by rw [LL2.out]; exact hjl
          obtain ⟨h1, rfl, p⟩ := row_at (enc := encS) (sz := 1) (fun _ => rfl) LL1.out OO1.out k1 (by decide)
          obtain ⟨h2, rfl, q⟩ := row_at (enc := encS) (sz := 1) (fun _ => rfl) LL2.out OO2.out k2 (by decide)
          have r0 := p 0 (by decide)
          have u0 := q 0 (by decide)
          have t1 := SS1.out LW1[j] (List.getElem_mem k1)
          have t2 := SS2.out LW2[j] (List.getElem_mem k2)
          have e1 : LW1[j].1 = sl[j] := by have := MM1.out; simp [← this]
          have e2 : LW2[j].1 = sl[j] := by have := MM2.out; simp [← this]
          have ff := F3.out sl[j] (List.getElem_mem hjl)
          have pw := PW.out
          have qw := QW.out
          rw [cw] at r0 u0 pw qw
          simp [encS, -Go.CellFam.cellOfFamily] at r0 u0
          rw [e1] at t1
          rw [e2] at t2
          generalize sl[j] = sj at *
          generalize LW1[j].2 = x1 at *
          generalize LW2[j].2 = x2 at *
          obtain ⟨z1, w1, rfl⟩ := NAt.form (show PsIn w 0 x1 sj from t1)
          obtain ⟨z2, w2, rfl⟩ := NAt.form (show PsIn w 0 x2 sj from t2)
          have TT1 := hid (dw _ _ t1)
          have TT2 := hid (dw _ _ t2)
          have FF := hid ff
          clear dw cw t1 t2 ff p q e1 e2 k1 k2
          go_wp2_with fail
          go_quiet (first | (go_at_call 44; exact Calls.quiet_of (sameSel_any sj _ _ _ FF.out.1 FF.out.2 TT1.out TT2.out)))
          go_wp2_with fail
          go_roundg (sl.length - (j + 1))
          case measure => have := GJ.out; omega
          case rel =>
            obtain ⟨m, hm⟩ := HW2.out
            exact ⟨j + 1, by omega, rfl, by go_num, m + nq, by rw [hm]; simp⟩
        · clear cw dw
          go_wp2_with fail
          go_roundg (l.length - (k + 1))
          case measure => have := GK.out; omega
          case rel => exact ⟨k + 1, by omega, rfl, by go_num, HW2.out⟩
    · clear cw dw
      go_wp2_with fail
      go_ret
      exact ⟨rfl, HW.out⟩
end Go.Proofs.YtblkldfokeeaeacGreatDoor.Sh

namespace Go.Proofs.YtblkldfokeeaeacGreatDoor
open Go.RowKit Go.Maps

/-! ### the rules that stay, one by one -/
section
variable (st : Sh.Rl → Bool) (R : List Sh.Rl)
def stTo (j : Nat) : Nat := ((R.take j).filter st).length
def mdTo (j : Nat) : Bool := (R.take j).any fun r => !r.media.isEmpty
theorem stTo_yes {j : Nat} (hj : j < R.length) (h : st R[j] = true) : stTo st R (j + 1) = stTo st R j + 1 := by
  unfold stTo
  rw [List.take_succ_eq_append_getElem hj, List.filter_append]
  simp [h]
theorem stTo_no {j : Nat} (hj : j < R.length) (h : st R[j] = false) : stTo st R (j + 1) = stTo st R j := by
  unfold stTo
  rw [List.take_succ_eq_append_getElem hj, List.filter_append]
  simp [h]
theorem stTo_all : stTo st R R.length = (R.filter st).length := by unfold stTo; rw [List.take_length]
theorem stTo_at {j : Nat} (hj : j < R.length) (h : st R[j] = true) : (R.filter st)[stTo st R j]? = some R[j] := by
  have e : R.filter st = (R.take j).filter st ++ (R[j] :: (R.drop (j + 1)).filter st) := by
    conv => lhs; rw [← List.take_append_drop j R, List.drop_eq_getElem_cons hj]
    rw [List.filter_append, List.filter_cons, if_pos h]
  rw [e]
  unfold stTo
  rw [List.getElem?_append_right (Nat.le_refl _), Nat.sub_self]
  rfl
theorem mdTo_next {j : Nat} (hj : j < R.length) : mdTo R (j + 1) = (mdTo R j || !R[j].media.isEmpty) := by
  unfold mdTo
  rw [List.take_succ_eq_append_getElem hj, List.any_append]
  simp
theorem mdTo_no {j : Nat} (hj : R.length ≤ j) (h : mdTo R j = false) : ∀ r ∈ R, r.media = [] := fun r hr => by
  unfold mdTo at h
  rw [List.take_of_length_le hj, List.any_eq_false] at h
  have := h r hr
  cases hm : r.media with
  | nil => rfl
  | cons a l => rw [hm] at this; simp at this
end
/-- A rule of a page that is folded, and what was left of it. -/
theorem left_of {R R' : List Sh.Rl} {st : Sh.Rl → Bool} (h : R'.map Sh.bare = (R.filter st).map Sh.bare) {j : Nat} (hj : j < R.length) (hs : st R[j] = true) : ∃ hk : stTo st R j < R'.length, R'[stTo st R j].media = R[j].media ∧ R'[stTo st R j].sels = R[j].sels ∧ R'[stTo st R j].decls = R[j].decls := by
  have h1 := stTo_at st R hj hs
  have h2 : (R'.map Sh.bare)[stTo st R j]? = some (Sh.bare R[j]) := by rw [h, List.getElem?_map, h1]; rfl
  rw [List.getElem?_map] at h2
  cases h3 : R'[stTo st R j]? with
  | none => rw [h3] at h2; cases h2
  | some r =>
    rw [h3] at h2
    obtain ⟨hk, hr⟩ := List.getElem?_eq_some_iff.1 h3
    have h4 : Sh.bare r = Sh.bare R[j] := Option.some.inj h2
    refine ⟨hk, ?_⟩
    rw [hr]
    exact ⟨congrArg (·.media) h4, congrArg (·.sels) h4, congrArg (·.decls) h4⟩
/-! ### a row of one rule -/
theorem hA_new {X : World} {T : TypeId} {P : Nat} {cs : Array Value} (h : X.heap.size = P) : (X.alloc (.cells cs T)).heap[P]? = some (.cells cs T (0, 0)) := h ▸ heap_alloc_new X _
theorem hA_al {X : World} {P : Nat} {o o' : Obj} (h : X.heap[P]? = some o) : (X.alloc o').heap[P]? = some o := (Below.heap_alloc _ _ _ (lt_heap h)).trans h
theorem hA_dr {X : World} {P : Nat} {o : Obj} (h : X.heap[P]? = some o) : X.drew.heap[P]? = some o := h
theorem one_rule {X : World} {P : Nat} {r : Sh.Rl} {sv dv : Value} (h : X.heap[P]? = some (.cells #[.string (Sh.bs r.media), sv, dv, .int .i64 r.from_, .int .i64 r.to_] 38 (0, 0))) (hs : Sh.SsAt X sv r.sels) (hd : Sh.DsAt X dv r.decls) : Sh.RsIn X 0 (.slice (some ⟨P, 0, none⟩) 1 1) [r] :=
  ⟨[(r, (sv, dv))], rfl, ⟨rfl, .inr ⟨P, 1, _, rfl, Nat.zero_le _, h, Nat.le_refl _, by unfold maxLen; omega, rfl, rfl⟩⟩, fun p hp => by rw [List.mem_singleton.1 hp]; exact ⟨hs, hd⟩⟩
theorem few_of {r : Sh.Rl} (h : RlBd r) : Sh.Few r := ⟨h.sels, Nat.le_trans h.decls (by decide), h.parts⟩
theorem ss_below {w w' : World} {v : Value} {l : List (List Sh.Prt)} (h : Sh.SsAt w v l) (hb : Below w.heap.size w w') : Sh.SsAt w' v l := h.keeps (Sh.Keeps.below (Ts := fun _ => True) hb) ⟨trivial, trivial, trivial⟩
theorem ds_below {w w' : World} {v : Value} {l : List Sh.Dcl} (h : Sh.DsAt w v l) (hb : Below w.heap.size w w') : Sh.DsAt w' v l := h.keeps (Sh.Keeps.below (Ts := fun _ => True) hb) trivial
end Go.Proofs.YtblkldfokeeaeacGreatDoor
