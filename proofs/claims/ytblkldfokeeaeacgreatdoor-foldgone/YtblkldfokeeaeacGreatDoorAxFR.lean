/-
  The law FoldGone returns true. Conditions: the tables hold what their texts say; the page is shorter than 2 to the 63.
-/
import Derived.Test.YtblkldfokeeaeacGreatDoorAxFQ
namespace Go.Proofs.YtblkldfokeeaeacGreatDoor
open Go.RowKit Go.Maps
set_option maxRecDepth 100000 in
set_option maxHeartbeats 16000000 in
theorem foldGone_any (s : ByteArray) (w : World) (hs : s.size ≤ 9223372036854775807) (hT : Tab w) : Calls Tryz.prog 6 #[.string s] w fun e w' => e = .returned (.bool true) ∧ Below w.heap.size w w' := by
  have AL := hid (alive_any w hT)
  have HT := hid hT
  have FA := hid (fun w' hT' => fold_any s w' hs hT')
  clear hT
  cases hf : foldB s.data.toList with
  | error x =>
    rw [hf] at FA
    simp only [FoldAns] at FA
    obtain ⟨xe, xa⟩ := x
    go_enter Tryz.func6, Tryz.ntmps6
    go_wp2_with (first
      | (go_at_call 15; refine AL.out.mono ?_; rintro e w1 ⟨rfl, hb1⟩; have HB1 := hid hb1; clear hb1)
      | (go_at_call 16; refine (FA.out w1 (HT.out.ext (Ext.below HB1.out))).mono ?_; rintro e w2 ⟨⟨rfl, hx⟩, hb2⟩; have HB2 := hid (below_trans HB1.out hb2 (Nat.le_refl _)); have hx' : ¬ ((xe : Int) = 0) := Int.natCast_ne_zero.2 hx; clear hb2 hx; simp only [faultV]))
    go_ret
    exact ⟨rfl, below_al HB2.out⟩
  | ok T =>
    rw [hf] at FA
    simp only [FoldAns] at FA
    obtain ⟨L, R, L', R', t, h1, _, _⟩ := fold_ok hf
    have RA := hid (fun w' hT' => read_any s w' hs hT')
    rw [read_iff.2 h1.read] at RA
    simp only [ReadAns] at RA
    have RB := hid (fun w' hT' => read_any (bsL T) w' (by rw [bsL_size]; have := fold_len hf; omega) hT')
    rw [show (bsL T).data.toList = T from rfl, read_iff.2 h1.again] at RB
    simp only [ReadAns] at RB
    have HSt := hid h1.stay
    have HNo := hid h1.none
    have HRd := hid h1.read
    have HBd := hid h1.read.bd
    have hR60 := h1.read.few
    have hR60' := h1.again.few
    obtain ⟨hL120, hS6, hNd⟩ := page_bd h1.read.page
    have HSn := hid (sm_nodes hL120 (fun n hn => ndBd_mono (hNd n hn) hS6))
    have HRl : Hid ((R.map ofR).length = R.length) := List.length_map ..
    have ST := hid (fun w' lv rv hl' hr' hT' => stays_any lv rv (L.map ofN) (R.map ofR) w' hl' HSn.out hT' hr' (fun r hr => by
      obtain ⟨x, hx, rfl⟩ := List.mem_map.1 hr
      exact sm_rule (HBd.out x hx)) HRd.out.decls (by rw [HRl.out]; omega) (fun r hr => by
      obtain ⟨x, hx, rfl⟩ := List.mem_map.1 hr
      exact nameA_bd (HBd.out x hx) (HRd.out.rlOk x hx).dcl))
    rw [HRl.out] at ST
    clear h1 hf hNd hL120
    generalize bsL T = bt at *
    go_enter Tryz.func6, Tryz.ntmps6
    go_wp2_with (first
      | (go_at_call 15; refine AL.out.mono ?_; rintro e w1 ⟨rfl, hb1⟩; have HB1 := hid hb1; clear hb1)
      | (go_at_call 16; refine (FA.out w1 (HT.out.ext (Ext.below HB1.out))).mono ?_; rintro e w2 ⟨rfl, hb2⟩; have HB2 := hid (below_trans HB1.out hb2 (Nat.le_refl _)); have HB3 := hid (below_al HB2.out (o := .cells #[.int .i64 0, .int .i64 0] 25)); clear hb2; simp only [faultV])
      | (go_at_call 17; refine (RB.out _ (HT.out.ext (Ext.below HB5.out))).mono ?_; rintro e w6 ⟨⟨lv', rv', rfl, hlv', hrv'⟩, hb6⟩; have HB6 := hid (below_trans HB5.out hb6 (Nat.le_refl _)); have HN6 := hid (nd_below HN5.out hb6); have HR6 := hid (rs_keeps HR5.out hb6); have HQ6 := hid hrv'; obtain ⟨qa, qc, rfl⟩ := rs_form hrv'; obtain ⟨ma, mc, rfl⟩ := nd_form hlv'; have HB7 := hid (below_al HB6.out (o := .cells #[.int .i64 0, .int .i64 0] 25)); have HN7 := hid (nd_below HN6.out (below_al (o := .cells #[.int .i64 0, .int .i64 0] 25) (Below.refl _ _))); have HR7 := hid (rs_keeps HR6.out (below_al (o := .cells #[.int .i64 0, .int .i64 0] 25) (Below.refl _ _))); have HQ7 := hid (rs_keeps HQ6.out (below_al (o := .cells #[.int .i64 0, .int .i64 0] 25) (Below.refl _ _))); clear hb6 hlv' hrv'; simp only [faultV])
      | (go_at_call 17; refine (RA.out _ (HT.out.ext (Ext.below HB3.out))).mono ?_; rintro e w4 ⟨⟨lv, rv, rfl, hlv, hrv⟩, hb4⟩; have HB4 := hid (below_trans HB3.out hb4 (Nat.le_refl _)); have HB5 := hid (below_al HB4.out (o := .cells #[.int .i64 0, .int .i64 0] 25)); obtain ⟨la, lc, rfl⟩ := nd_form hlv; obtain ⟨ra, rc, rfl⟩ := rs_form hrv; have HN5 := hid (nd_below hlv (below_al (o := .cells #[.int .i64 0, .int .i64 0] 25) (Below.refl _ _))); have HR5 := hid (rs_keeps hrv (below_al (o := .cells #[.int .i64 0, .int .i64 0] 25) (Below.refl _ _))); clear hb4 hlv hrv; simp only [faultV])
      | (go_at_call 21; refine (ST.out _ _ _ (nds_of HN7.out) (rus_of HR7.out) (HT.out.ext (Ext.below HB7.out))).mono ?_; rintro e w8 ⟨Gb, rfl, hG, _, hb8⟩; have HB8 := hid (below_trans HB7.out hb8 (Nat.le_refl _)); have HG := hid hG; have HR8 := hid (rs_keeps HR7.out hb8); have HQ8 := hid (rs_keeps HQ7.out hb8); clear hG hb8))
    have HFa : Hid (∀ (j : Nat) (hj : j < R.length), w8.cell? ⟨Gb, j, none⟩ = some (.bool (stayB (L.map ofN) (R.map ofR) (ofR R[j])))) := fun j hj => by
      rw [Sh.cell_of HG.out, bsV_at (by simpa using hj)]
      simp
    obtain ⟨st, hst⟩ : ∃ st : Sh.Rl → Bool, st = fun r => stayB (L.map ofN) (R.map ofR) (ofR r) := ⟨_, rfl⟩
    have HFb : Hid (∀ (j : Nat) (hj : j < R.length), w8.cell? ⟨Gb, j, none⟩ = some (.bool (st R[j]))) := by rw [hst]; exact HFa.out
    rw [← hst] at HSt
    clear HFa HG ST hst HRl HSn HRd
    have HLn : Hid (R'.length = stTo st R R.length) := by
      show _ = _
      have := congrArg List.length HSt.out
      rw [List.length_map, List.length_map] at this
      rw [stTo_all, this]
    go_loopg [12, 13, 51] R.length (fun g kv sv i wr => ∃ j : Nat, g = R.length - j ∧ j ≤ R.length ∧ i = .int .i64 (j : Int) ∧ kv = .int .i64 (stTo st R j : Int) ∧ sv = .bool (mdTo R j) ∧ Below w8.heap.size w8 wr)
    case atStart => exact ⟨0, rfl, Nat.zero_le _, rfl, rfl, rfl, Below.refl _ _⟩
    case round =>
      obtain ⟨j, hg, hj, rfl, rfl, rfl, hB⟩ := hrel
      rename World => wr
      have GK := hid hg
      have HBr := hid hB
      clear hg hB
      by_cases hlt : j < R.length
      · obtain ⟨g, sv, dv, cur, rfl, _, _, hS, hD, c0, c1, c2, c3, c4⟩ := (rs_keeps HR8.out HBr.out).cells rfl hlt
        have cF : ∀ bb, st R[j] = bb → wr.cell? ⟨Gb, j, none⟩ = some (.bool bb) := fun bb hbb => (Ext.below HBr.out _ _ _ (HFb.out j hlt)).trans (by rw [hbb])
        have HMd := hid (mdTo_next R hlt)
        have HFw := hid (few_of (HBd.out R[j] (List.getElem_mem hlt)))
        have hme : (Sh.bs R[j].media).toList.isEmpty = R[j].media.isEmpty := by
          have : (Sh.bs R[j].media).toList = R[j].media := bsL_toList _
          rw [this]
        have HJ := hid hlt
        cases hsj : st R[j]
        · replace cF := cF _ hsj
          have HSn := hid (stTo_no st R hlt hsj)
          clear hsj
          generalize R[j] = r at *
          generalize Sh.bs r.media = bm at *
          generalize r.media.isEmpty = me at *
          generalize mdTo R j = md at *
          generalize stTo st R j = kk at *
          cases md <;> cases me
          all_goals
            go_wp2_with fail
            go_roundg (R.length - (j + 1))
            case measure => have := GK.out; have := HJ.out; omega
            case rel => exact ⟨j + 1, rfl, by have := HJ.out; omega, by go_num, by rw [HSn.out], by rw [HMd.out]; rfl, HBr.out⟩
        · replace cF := cF _ hsj
          have HSn := hid (stTo_yes st R hlt hsj)
          obtain ⟨hk, em, es, ed⟩ := left_of HSt.out hlt hsj
          obtain ⟨g', sv', dv', cur', rfl, _, _, hS', hD', e0, e1, e2, e3, e4⟩ := (rs_keeps HQ8.out HBr.out).cells rfl hk
          rw [em] at e0
          rw [es] at hS'
          rw [ed] at hD'
          obtain ⟨sa, sc, rfl⟩ := Sh.NAt.form (show Sh.SsIn wr 0 sv R[j].sels from hS)
          obtain ⟨da, dc, rfl⟩ := Sh.own_form hD
          obtain ⟨sa', sc', rfl⟩ := Sh.NAt.form (show Sh.SsIn wr 0 sv' R[j].sels from hS')
          obtain ⟨da', dc', rfl⟩ := Sh.own_form hD'
          generalize R'[stTo st R j].from_ = fr' at *
          generalize R'[stTo st R j].to_ = to' at *
          clear hsj em es ed
          have hbl : Below wr.heap.size wr (wr.alloc (.cells #[.string (Sh.bs R[j].media), .slice sa' R[j].sels.length sc', .slice da' R[j].decls.length dc', .int .i64 R[j].from_, .int .i64 R[j].to_] 38)) := (Below.refl _ _).alloc (Nat.le_refl _) _
          have HBx := hid (heap_alloc_new wr (.cells #[.string (Sh.bs R[j].media), .slice sa' R[j].sels.length sc', .slice da' R[j].decls.length dc', .int .i64 R[j].from_, .int .i64 R[j].to_] 38))
          have HS1 := hid (ss_below hS hbl)
          have HD1 := hid (ds_below hD hbl)
          have HS2 := hid (ss_below hS' hbl)
          have HD2 := hid (ds_below hD' hbl)
          have HBb := hid (below_trans HBr.out hbl (Nat.le_refl _))
          have HCs := hid (And.intro c0 (And.intro c1 (And.intro c2 (And.intro c3 c4))))
          have HBl := hid hbl
          clear hS hD hS' hD' hbl
          have hkl : stTo st R j < R'.length := hk
          have hgl := lt_of_cell c0
          have hnk : ¬ R'.length ≤ stTo st R j := by omega
          clear hk
          generalize hrr : R[j] = r at *
          generalize hbm : Sh.bs r.media = bm at *
          have HBm := hid hbm
          generalize r.media.isEmpty = me at *
          generalize mdTo R j = md at *
          generalize stTo st R j = kk at *
          clear hrr hbm
          have MS : ∀ {w' : World}, Below (wr.alloc (.cells #[.string bm, .slice sa' r.sels.length sc', .slice da' r.decls.length dc', .int .i64 r.from_, .int .i64 r.to_] 38)).heap.size (wr.alloc (.cells #[.string bm, .slice sa' r.sels.length sc', .slice da' r.decls.length dc', .int .i64 r.from_, .int .i64 r.to_] 38)) w' → w'.cell? ⟨g, j * 5, none⟩ = some (.string bm) ∧ w'.cell? ⟨g, j * 5 + 1, none⟩ = some (.slice sa r.sels.length sc) ∧ w'.cell? ⟨g, j * 5 + 2, none⟩ = some (.slice da r.decls.length dc) ∧ w'.cell? ⟨g, j * 5 + 3, none⟩ = some (.int .i64 (r.from_ : Int)) ∧ w'.cell? ⟨g, j * 5 + 4, none⟩ = some (.int .i64 (r.to_ : Int)) ∧ w'.cell? ⟨wr.heap.size, 0, none⟩ = some (.string bm) ∧ w'.cell? ⟨wr.heap.size, 1, none⟩ = some (.slice sa' r.sels.length sc') ∧ w'.cell? ⟨wr.heap.size, 2, none⟩ = some (.slice da' r.decls.length dc') ∧ w'.cell? ⟨wr.heap.size, 3, none⟩ = some (.int .i64 (r.from_ : Int)) ∧ w'.cell? ⟨wr.heap.size, 4, none⟩ = some (.int .i64 (r.to_ : Int)) := fun hb => by
            have hx := fun a b c h => Ext.below hb a b c (Ext.below HBl.out a b c h)
            have hb5 := five_of ((hb.block _ (lt_heap HBx.out)).trans HBx.out)
            exact ⟨hx _ _ _ HCs.out.1, hx _ _ _ HCs.out.2.1, hx _ _ _ HCs.out.2.2.1, hx _ _ _ HCs.out.2.2.2.1, hx _ _ _ HCs.out.2.2.2.2, hb5⟩
          cases md <;> cases me
          all_goals
            go_upto_region 23 with fail
            generalize wr.alloc (.cells #[.string bm, .slice sa' r.sels.length sc', .slice da' r.decls.length dc', .int .i64 r.from_, .int .i64 r.to_] 38) = wb at *
            have hS0 := MS (Below.refl _ _)
            clear c0 c1 c2 c3 c4 e0 e1 e2 e3 e4 cF
            go_region_held3 (fun w' => w'.cell? ⟨g, j * 5, none⟩ = some (.string bm) ∧ w'.cell? ⟨g, j * 5 + 1, none⟩ = some (.slice sa r.sels.length sc) ∧ w'.cell? ⟨g, j * 5 + 2, none⟩ = some (.slice da r.decls.length dc) ∧ w'.cell? ⟨g, j * 5 + 3, none⟩ = some (.int .i64 (r.from_ : Int)) ∧ w'.cell? ⟨g, j * 5 + 4, none⟩ = some (.int .i64 (r.to_ : Int)) ∧ w'.cell? ⟨wr.heap.size, 0, none⟩ = some (.string bm) ∧ w'.cell? ⟨wr.heap.size, 1, none⟩ = some (.slice sa' r.sels.length sc') ∧ w'.cell? ⟨wr.heap.size, 2, none⟩ = some (.slice da' r.decls.length dc') ∧ w'.cell? ⟨wr.heap.size, 3, none⟩ = some (.int .i64 (r.from_ : Int)) ∧ w'.cell? ⟨wr.heap.size, 4, none⟩ = some (.int .i64 (r.to_ : Int))) (first | assumption | exact hS0 | (with_reducible refine MS ?_; repeat' (with_reducible first | refine below_al ?_ | refine below_dr ?_ | exact HBd6.out | exact Below.refl _ _))) (first
              | (go_at_call 22; refine have_of (?_ : Below wb.heap.size wb _) (fun hb0 => (Sh.sameRules_any [r] 0 0 _ _ _ (by show 1 ≤ 100; decide) (fun x hx => by rw [List.mem_singleton.1 hx]; exact HFw.out) (one_rule (r := r) (sv := .slice sa r.sels.length sc) (dv := .slice da r.decls.length dc) ?_ (ss_below HS1.out hb0) (ds_below HD1.out hb0)) (one_rule (r := r) (sv := .slice sa' r.sels.length sc') (dv := .slice da' r.decls.length dc') ?_ (ss_below HS2.out hb0) (ds_below HD2.out hb0))).mono ?_); (· repeat' (with_reducible first | refine below_al ?_ | refine below_dr ?_ | exact Below.refl _ _)); (· rw [HBm.out]; repeat' (with_reducible first | exact hA_new rfl | (refine hA_new ?_; simp; done) | refine hA_al ?_ | refine hA_dr ?_)); (· rw [HBm.out]; repeat' (with_reducible first | exact hA_new rfl | (refine hA_new ?_; simp; done) | refine hA_al ?_ | refine hA_dr ?_)); rintro e w9 ⟨rfl, n9, hw9⟩; have HBd6 : Hid (Below wb.heap.size wb w9) := hw9 ▸ below_dN hb0 n9; clear hw9))
            all_goals
              go_wp2_with fail
              go_roundg (R.length - (j + 1))
              case measure => have := GK.out; have := HJ.out; omega
              case rel => exact ⟨j + 1, rfl, by have := HJ.out; omega, by go_num, by rw [HSn.out]; go_num, by rw [HMd.out]; rfl, below_trans HBb.out HBd6.out (Nat.le_refl _)⟩
      · have hjl : j = R.length := by omega
        subst hjl
        have hkl := HLn.out
        have HBe := hid (below_trans HB8.out HBr.out (Nat.le_refl _))
        cases hmd : mdTo R R.length
        · have hr0 : R' = [] := HNo.out (mdTo_no R (Nat.le_refl _) hmd)
          have hl0 : R'.length = 0 := by rw [hr0]; rfl
          rw [hmd] at *
          rw [← hkl, hl0] at *
          clear hr0 hmd
          go_wp2_with fail
          go_ret
          exact ⟨rfl, HBe.out⟩
        · rw [← hkl]
          clear hmd
          go_wp2_with fail
          go_ret
          exact ⟨rfl, HBe.out⟩
end Go.Proofs.YtblkldfokeeaeacGreatDoor
