/-
  A rule is its selectors: the walk of the statement's function. Conditions: the elements and the selectors lie as they must, at most 2^20 of each.
-/
import Derived.Test.YtlodblcmpebfkabDoorMRule
namespace Go.Proofs.YtlodblcmpebfkabDoor
open Go.RowKit

/-- The rule that is told back: its selectors so far; the best weight; the rule handed in. -/
structure St (W0 : World) (P0 TB : Nat) (bw : Wt) (LV : List (List Pt × Value)) (bv : Value) (wr : World) : Prop where
  wb : WB wr TB bw.a bw.b bw.c
  bk : wr.heap[TB + 1]? = some (.cells #[.string ⟨#[]⟩, bv, .slice none 0 0, .int .i64 0, .int .i64 0] 37 (0, 0))
  row : wr.ownsRow (TB + 1 + 1) 24 1 bv LV.length (LV.map (·.2))
  box : Below (P0 + 1) W0 wr
variable {W0 : World} {P0 TB : Nat} {bw : Wt} {LV : List (List Pt × Value)} {bv : Value} {wr w' : World}
theorem St.below (h : St W0 P0 TB bw LV bv wr) (hP : P0 + 1 ≤ W0.heap.size) (hb : Below wr.heap.size wr w') : St W0 P0 TB bw LV bv w' :=
  ⟨h.wb.below hb, (hb.block _ (Array.getElem?_eq_some_iff.1 h.bk).1).trans h.bk, own_ext h.row hb, below_trans h.box hb hP⟩
theorem St.bkc (h : St W0 P0 TB bw LV bv wr) : wr.cell? ⟨TB + 1, 0, none⟩ = some (.string ⟨#[]⟩) ∧ wr.cell? ⟨TB + 1, 1, none⟩ = some bv ∧ wr.cell? ⟨TB + 1, 2, none⟩ = some (.slice none 0 0) ∧ wr.cell? ⟨TB + 1, 3, none⟩ = some (.int .i64 0) ∧ wr.cell? ⟨TB + 1, 4, none⟩ = some (.int .i64 0) := by
  have hb := h.bk
  unfold World.cell?
  rw [hb]
  exact ⟨rfl, rfl, rfl, rfl, rfl⟩
theorem St.bkf (h : St W0 P0 TB bw LV bv wr) : wr.frozen? ⟨TB + 1, 1, none⟩ = false := by
  have hb := h.bk
  simp [World.frozen?, hb]
theorem St.far {o : Obj} {w6 : World} (h : St W0 P0 TB bw LV bv wr) (hg : (wr.alloc o).grownBy w6 bv.ownBlock) : w6.cell? ⟨TB + 1, 1, none⟩ = some bv ∧ w6.frozen? ⟨TB + 1, 1, none⟩ = false := by
  have row := h.row
  have lt1 := (Array.getElem?_eq_some_iff.1 h.bk).1
  have e : w6.heap[TB + 1]? = wr.heap[TB + 1]? := by
    rw [hg.block (TB + 1) (by simp; omega) (fun e => by have := row.lt _ e.symm; omega)]
    exact Below.heap_alloc _ _ _ lt1
  rw [h.bk] at e
  exact ⟨by unfold World.cell?; rw [e]; rfl, by simp [World.frozen?, e]⟩
/-- One selector more. -/
theorem St.push {o : Obj} {w6 : World} {s : List Pt} {sv v' : Value} (h : St W0 P0 TB bw LV bv wr) (hP : P0 < TB) (hg : (wr.alloc o).grownBy w6 bv.ownBlock) (hr : w6.ownsRow (TB + 1 + 1) 24 1 v' (LV.length + 1) (LV.map (·.2) ++ [sv])) :
    St W0 P0 TB bw (LV ++ [(s, sv)]) v' (w6.setCell ⟨TB + 1, 1, none⟩ v') := by
  have row := h.row
  have keep : ∀ j, j < TB + 1 + 1 → j < wr.heap.size → w6.heap[j]? = wr.heap[j]? := fun j hj hs => by
    rw [hg.block j (by simp; omega) (fun e => by have := row.lt j e.symm; omega)]
    exact Below.heap_alloc _ _ _ hs
  have lt1 := (Array.getElem?_eq_some_iff.1 h.bk).1
  refine ⟨?_, ?_, ?_, ?_⟩
  · exact (h.wb.keep (keep TB (by omega) h.wb.lt)).other (by simp) _
  · have e := (keep (TB + 1) (by omega) lt1).trans h.bk
    simp [World.setCell, Array.getElem?_modify, e]
  · have := ownsRow_setCell_below hr (a := ⟨TB + 1, 1, none⟩) (by show TB + 1 < TB + 1 + 1; omega) v'
    simpa using this
  · refine Below.setCell (Below.trans h.box ?_) (by show P0 + 1 ≤ TB + 1; omega) _
    refine ⟨hg.os, hg.tape, hg.output, Nat.le_trans (by simp) hg.size, fun j hj => ?_⟩
    exact keep j (by omega) (by omega)
theorem SsAt.own {base : Nat} (h : wr.ownsRow base 24 1 bv LV.length (LV.map (·.2))) (hs : ∀ p ∈ LV, PsAt wr p.2 p.1) : SsAt wr bv (LV.map (·.1)) := by
  have h' : wr.ownsRow base 24 1 bv LV.length (LV.flatMap fun p => [p.2]) := by
    have e : (LV.flatMap fun p => [p.2]) = LV.map (·.2) := by
      clear h hs
      induction LV with
      | nil => rfl
      | cons a l ih => simp [ih]
    rw [e]; exact h
  obtain ⟨a, cap, rfl, hn, hc⟩ := own_at (sz := 1) (f := fun p : List Pt × Value => [p.2]) (fun _ => rfl) (by decide) h'
  refine ⟨a, cap, by simp, hn, fun i hi => ?_⟩
  have hi' : i < LV.length := by simpa using hi
  obtain ⟨b, off, rfl, hh⟩ := hc i hi'
  refine ⟨b, off, rfl, LV[i].2, hh 0 (by decide), ?_⟩
  have := hs LV[i] (List.getElem_mem hi')
  simpa using this
theorem Tryd.infoS : (Tryd.prog.info? 24).map (fun i => (i.zero, i.size, i.bytes)) = some (some (.slice none 0 0), 1, 24) := by kernel_rfl

set_option maxRecDepth 100000 in
set_option maxHeartbeats 8000000 in
theorem matchRule_any (lv : Value) (l : List Nd) (k : Int) (md : ByteArray) (ss : List (List Pt)) (ssv : Value) (da : Option Addr) (dn dc : Nat) (rf rt : Int) (w : World) (hl : NdsAt w lv l) (hs : SmNs l) (hm : Mx w) (hS : SsAt w ssv ss) (hss : SmSs ss) :
    Calls Tryd.prog 4 #[lv, .int .i64 k, ruleV md ssv (.slice da dn dc) rf rt] w fun e w' => e = .returned (.bool true) ∧ Below w.heap.size w w' := by
  obtain ⟨sa, scap, rfl⟩ := Sl.form hS
  have HL := hid hl
  have HN := hid hs
  have HM := hid hm
  have HP := hid hS
  have HSS := hid hss
  have hsl := hss.1
  unfold lim at hsl
  obtain ⟨i0, hi', hz0, hz1, hz2⟩ := info_parts Tryd.infoS
  have HJ := hid hi'
  have HZ : Hid (i0.zero = some (.slice none 0 0) ∧ i0.size = 1 ∧ i0.bytes = 24) := ⟨hz0, hz1, hz2⟩
  clear hl hs hm hS hss hi' hz0 hz1 hz2
  simp only [ruleV]
  go_enter Tryd.func4, Tryd.ntmps4
  go_wp2_with fail
  have HB0 : Hid (Below w.heap.size w (w.alloc (.cells #[.string md, .slice sa ss.length scap, .slice da dn dc, .int .i64 rf, .int .i64 rt] 37))) := (Below.refl _ _).alloc (Nat.le_refl _) _
  have r0 := cell_new w #[.string md, .slice sa ss.length scap, .slice da dn dc, .int .i64 rf, .int .i64 rt] 37
  have RC : Hid (∀ j, (w.alloc (.cells #[.string md, .slice sa ss.length scap, .slice da dn dc, .int .i64 rf, .int .i64 rt] 37)).cell? ⟨w.heap.size, j, none⟩ = (#[Value.string md, .slice sa ss.length scap, .slice da dn dc, .int .i64 rf, .int .i64 rt])[j]?) := r0
  have hP0 : w.heap.size + 1 ≤ (w.alloc (.cells #[.string md, .slice sa ss.length scap, .slice da dn dc, .int .i64 rf, .int .i64 rt] 37)).heap.size := by simp
  clear r0
  generalize w.alloc (.cells #[.string md, .slice sa ss.length scap, .slice da dn dc, .int .i64 rf, .int .i64 rt] 37) = W0 at *
  refine (alive_any W0 (HM.out.ext (Ext.below HB0.out))).mono ?_
  rintro e w1 ⟨rfl, hb⟩
  have HB1 := hid (below_trans HB0.out hb (Nat.le_refl _))
  have HX1 : Hid (Below W0.heap.size W0 w1) := hb
  have X1 := Ext.below hb
  have c0 := X1 _ _ _ (RC.out 0)
  have c1 := X1 _ _ _ (RC.out 1)
  have c2 := X1 _ _ _ (RC.out 2)
  have c3 := X1 _ _ _ (RC.out 3)
  have c4 := X1 _ _ _ (RC.out 4)
  clear hb X1
  go_wp2_with fail
  refine (best_any lv l k md ss (.slice sa ss.length scap) da dn dc rf rt w1 (HL.out.ext (Ext.below HB1.out)) HN.out (HM.out.ext (Ext.below HB1.out)) (HP.out.ext (Ext.below HB1.out)) HSS.out).mono ?_
  rintro e w2 ⟨rfl, hb⟩
  have HB2 := hid (below_trans HB1.out hb (Nat.le_refl _))
  have HX2 := hid (below_trans HX1.out hb (Nat.le_refl _))
  have HBS := hid (best_spec l k ss w00 false)
  have HRV := hid (best_rev l k ss)
  clear hb c0 c1 c2 c3 c4 HX1 HB1
  generalize bestTo l k ss (w00, false) = B at *
  obtain ⟨bw, fd⟩ := B
  obtain ⟨ba, bb, bc⟩ := bw
  simp only [bestV, wtV]
  have c1 := Ext.below HX2.out _ _ _ (RC.out 1)
  have hws := lt_of_cell c1
  go_wp2_with fail
  have HT0 : Hid (St W0 w.heap.size w2.heap.size ⟨ba, bb, bc⟩ [] (.slice none 0 0) ((w2.alloc (.cells #[.int .i64 ba, .int .i64 bb, .int .i64 bc] 39)).alloc (.cells #[.string ⟨#[]⟩, .slice none 0 0, .slice none 0 0, .int .i64 0, .int .i64 0] 37))) := by
    refine ⟨(WB.new w2 ba bb bc).alloc _, ?_, World.ownsRow_nil _ _ _ _, ?_⟩
    · have h := heap_alloc_new (w2.alloc (.cells #[.int .i64 ba, .int .i64 bb, .int .i64 bc] 39)) (.cells #[.string ⟨#[]⟩, .slice none 0 0, .slice none 0 0, .int .i64 0, .int .i64 0] 37)
      rw [show (w2.alloc (.cells #[.int .i64 ba, .int .i64 bb, .int .i64 bc] 39)).heap.size = w2.heap.size + 1 by simp] at h
      exact h
    · exact ((HX2.out.mono hP0).alloc (by omega) _).alloc (by simp; omega) _
  have HB3 : Hid (Below w.heap.size w ((w2.alloc (.cells #[.int .i64 ba, .int .i64 bb, .int .i64 bc] 39)).alloc (.cells #[.string ⟨#[]⟩, .slice none 0 0, .slice none 0 0, .int .i64 0, .int .i64 0] 37))) := (HB2.out.alloc HB2.out.size _).alloc (HB2.out.alloc HB2.out.size _).size _
  generalize (w2.alloc (.cells #[.int .i64 ba, .int .i64 bb, .int .i64 bc] 39)).alloc (.cells #[.string ⟨#[]⟩, .slice none 0 0, .slice none 0 0, .int .i64 0, .int .i64 0] 37) = w3 at *
  generalize w2.heap.size = TB at *
  clear HX2 HB2 c1
  go_loopg [9, 10, 12] ss.length (fun n so mo i wr => ∃ (q : Nat) (LV : List (List Pt × Value)) (bv : Value) (sb mb : Bool), n = q ∧ q ≤ ss.length ∧ i = .int .i64 ((q : Int) - 1) ∧ so = .bool sb ∧ mo = .bool mb ∧ sb = (ss.drop q).any (matchB l k) ∧ mb = (ss.drop q).any (fun s => matchB l k s && wEq (wts s) ⟨ba, bb, bc⟩) ∧
      LV.map (·.1) = (ss.drop q).reverse ∧ (∀ p ∈ LV, PsAt w p.2 p.1) ∧ St W0 w.heap.size TB ⟨ba, bb, bc⟩ LV bv wr ∧ Below w.heap.size w wr)
  case atStart => exact ⟨ss.length, [], .slice none 0 0, false, false, rfl, Nat.le_refl _, rfl, rfl, rfl, by simp, by simp, by simp, by simp, HT0.out, HB3.out⟩
  case round =>
    clear HT0 HB3
    obtain ⟨q, LV, bv, sb, mb, hn, hq, rfl, rfl, rfl, hsb, hmb, hLV, hPs, hSt, hB⟩ := hrel
    have GK := hid hn
    have HSB := hid hsb
    have HMB := hid hmb
    have HLV := hid hLV
    have HPS := hid hPs
    have HST := hid hSt
    have HB := hid hB
    have hlv : LV.length ≤ 1048576 := by
      have := congrArg List.length hLV
      simp at this
      omega
    obtain ⟨va, vc, rfl⟩ := own_form hSt.row
    clear hn hsb hmb hLV hPs hSt hB
    cases q with
    | zero =>
      have HLV2 : Hid (LV.map (·.1) = ss.reverse) := HLV.out
      have HF1 : Hid (sb = fd) := by
        have h1 := HSB.out
        have h2 := HBS.out.any
        show sb = fd
        rw [h1, h2]; simp
      have HF2 : Hid (fd = true → mb = true) := by
        intro h
        have h1 := HMB.out
        have h2 := HBS.out
        subst h
        rw [h1]
        exact best_most h2
      obtain ⟨k0', k1', k2', k3', k4'⟩ := HST.out.bkc
      have hk := lt_of_cell k0'
      go_wp2_with fail
      refine (best_any lv l k ⟨#[]⟩ ss.reverse (.slice va LV.length vc) none 0 0 0 0 wr (HL.out.ext (Ext.below HB.out)) HN.out (HM.out.ext (Ext.below HB.out)) ?_ ⟨by rw [List.length_reverse]; exact HSS.out.1, fun s hs => HSS.out.2 s (by simpa using hs)⟩).mono ?_
      · have h := SsAt.own HST.out.row (fun p hp => (HPS.out p hp).ext (Ext.below HB.out))
        rw [HLV2.out] at h
        exact h
      rintro e w4 ⟨rfl, hb⟩
      have HB4 := hid (below_trans HB.out hb (Nat.le_refl _))
      have HW4 := hid (HST.out.wb.below hb)
      clear hb k0' k1' k2' k3' k4'
      rw [HRV.out]
      simp only [bestV, wtV]
      have e39 : ∀ w, (binOp .eql 39 (.agg #[.int .i64 ba, .int .i64 bb, .int .i64 bc]) (.agg #[.int .i64 ba, .int .i64 bb, .int .i64 bc])).run Tryd.prog w = .ok (.bool true) w := fun w => by rw [weq]; simp
      have i39 : ∀ w, (Op.equalIn 10000 39 (.agg #[.int .i64 ba, .int .i64 bb, .int .i64 bc]) (.agg #[.int .i64 ba, .int .i64 bb, .int .i64 bc])).run Tryd.prog w = .ok true w := fun w => by rw [weqIn 9998]; simp
      have g39 := eg39
      obtain ⟨z0, z1, z2⟩ := HW4.out.cell
      have hz := HW4.out.lt
      obtain rfl := HF1.out
      cases sb
      · go_wp2_with fail
        go_ret
        exact ⟨rfl, HB4.out.alloc HB4.out.size _⟩
      · obtain rfl := HF2.out rfl
        go_wp2_with fail
        go_ret
        exact ⟨rfl, HB4.out.alloc HB4.out.size _⟩
    | succ q =>
      have hq1 : q < ss.length := by omega
      have e1 : ((q + 1 : Nat) : Int) - 1 = q := by omega
      rw [e1]
      clear e1
      obtain ⟨b, off, rfl, he⟩ := Sl.at HP.out hq1
      obtain ⟨pa, pc, g0, hps⟩ := he.cells
      rw [Nat.mul_one] at g0
      have c1 := (HST.out.box.cell (p := ⟨w.heap.size, 1, none⟩) (Nat.lt_succ_self _)).trans (RC.out 1)
      have d1 := Ext.below HB.out _ _ _ g0
      have hds := lt_of_cell d1
      obtain ⟨k0', k1', k2', k3', k4'⟩ := HST.out.bkc
      have HPQ := hid hps
      have HSM := hid (HSS.out.2 ss[q] (List.getElem_mem hq1))
      have HA1 : Hid ((ss.drop q).any (matchB l k) = (matchB l k ss[q] || (ss.drop (q + 1)).any (matchB l k))) := by show _ = _; rw [List.drop_eq_getElem_cons hq1]; rfl
      have HA2 : Hid ((ss.drop q).any (fun s => matchB l k s && wEq (wts s) ⟨ba, bb, bc⟩) = ((matchB l k ss[q] && wEq (wts ss[q]) ⟨ba, bb, bc⟩) || (ss.drop (q + 1)).any (fun s => matchB l k s && wEq (wts s) ⟨ba, bb, bc⟩))) := by show _ = _; rw [List.drop_eq_getElem_cons hq1]; rfl
      have HA3 : Hid ((ss.drop q).reverse = (ss.drop (q + 1)).reverse ++ [ss[q]]) := by show _ = _; rw [List.drop_eq_getElem_cons hq1, List.reverse_cons]
      have HTP := hid (HBS.out.top ss[q] (List.getElem_mem hq1))
      clear he hps g0
      generalize ss[q] = s at *
      have hb2 := HST.out.wb.lt
      go_wp2_with (at_builtin; refine wpList_append_lies _ rfl (.tmp 40) (.tmp 42) 32 rfl (TB + 1 + 1) 24 i0 (.slice none 0 0) 1 24 Tryd.underlying32 HJ.out HZ.out.1 HZ.out.2.1 HZ.out.2.2 rfl (by decide) (.slice va LV.length vc) LV.length (LV.map (·.2)) rfl (World.ownsRow.alloc HST.out.row _) ⟨wr.heap.size, 0, none⟩ 1 1 [.slice pa s.length pc] rfl rfl (World.news_of_block (heap_alloc_new wr _)) (by simp [Value.oneCell']) (by decide) (by unfold maxLen; omega) (by omega) (by have := lt_of_cell k1'; simp; omega) _ rfl ?_; intro gg cap w6 hown hgrow hat hlt6; obtain ⟨f1, f2⟩ := HST.out.far hgrow; have HG6 := hid hgrow; have HO6 := hid hown; clear hown hgrow hat hlt6)
      have HB7 := hid ((below_grown HB.out HB.out.size HST.out.row (by omega) HG6.out).setCell (p := ⟨TB + 1, 1, none⟩) (show w.heap.size ≤ TB + 1 by omega) (.slice (some ⟨gg, 0, none⟩) (LV.length + 1) cap))
      have HS7 := hid (HST.out.push (s := s) hws HG6.out HO6.out)
      clear c1 d1 hds k0' k1' k2' k3' k4' f1 f2 HG6 HO6 HST HB hb2
      generalize w6.setCell ⟨TB + 1, 1, none⟩ (.slice (some ⟨gg, 0, none⟩) (LV.length + 1) cap) = w7 at *
      have HP7 : Hid (∀ p ∈ LV ++ [(s, Value.slice pa s.length pc)], PsAt w p.2 p.1) := fun p hp => by
        rcases List.mem_append.1 hp with hp | hp
        · exact HPS.out p hp
        · simp at hp; subst hp; exact HPQ.out
      have HL7 : Hid ((LV ++ [(s, Value.slice pa s.length pc)]).map (·.1) = (ss.drop q).reverse) := by
        show _ = _
        rw [List.map_append, HLV.out, HA3.out]; rfl
      refine (matches_any lv l k _ s w7 (HL.out.ext (Ext.below HB7.out)) HN.out (HM.out.ext (Ext.below HB7.out)) (HPQ.out.ext (Ext.below HB7.out)) HSM.out).mono ?_
      rintro e w8 ⟨rfl, hb⟩
      have HB8 := hid (below_trans HB7.out hb (Nat.le_refl _))
      have HS8 := hid (HS7.out.below hP0 hb)
      clear hb HB7 HS7
      cases hmt : matchB l k s
      · have HA1' : Hid (sb = (ss.drop q).any (matchB l k)) := by show _ = _; rw [HSB.out, HA1.out, hmt]; rfl
        have HA2' : Hid (mb = (ss.drop q).any (fun s => matchB l k s && wEq (wts s) ⟨ba, bb, bc⟩)) := by show _ = _; rw [HMB.out, HA2.out, hmt]; rfl
        go_wp2_with fail
        go_roundg q
        case measure => have := GK.out; omega
        case rel => exact ⟨q, _, _, sb, mb, rfl, by omega, rfl, rfl, rfl, HA1'.out, HA2'.out, HL7.out, HP7.out, HS8.out, HB8.out⟩
      · have HA1' : Hid (true = (ss.drop q).any (matchB l k)) := by show _ = _; rw [HA1.out, hmt]; rfl
        have HA2' : Hid ((wEq (wts s) ⟨ba, bb, bc⟩ || mb) = (ss.drop q).any (fun s => matchB l k s && wEq (wts s) ⟨ba, bb, bc⟩)) := by show _ = _; rw [HMB.out, HA2.out, hmt]; rfl
        have HTQ := hid (HTP.out hmt)
        go_wp2_with fail
        refine (weigh_any _ s w8 (HPQ.out.ext (Ext.below HB8.out)) HSM.out).mono ?_
        rintro e w9 ⟨rfl, hb⟩
        have HB9 := hid (below_trans HB8.out hb (Nat.le_refl _))
        have HS9 := hid (HS8.out.below hP0 hb)
        clear hb HB8 HS8
        generalize wts s = x at *
        obtain ⟨xa, xb, xc⟩ := x
        obtain ⟨ev, hev⟩ : ∃ ev, wEq ⟨xa, xb, xc⟩ ⟨ba, bb, bc⟩ = ev := ⟨_, rfl⟩
        have e39 : ∀ w, (binOp .eql 39 (.agg #[.int .i64 xa, .int .i64 xb, .int .i64 xc]) (.agg #[.int .i64 ba, .int .i64 bb, .int .i64 bc])).run Tryd.prog w = .ok (.bool ev) w := fun w => by rw [weq, ← hev]; rfl
        have i39 : ∀ w, (Op.equalIn 10000 39 (.agg #[.int .i64 xa, .int .i64 xb, .int .i64 xc]) (.agg #[.int .i64 ba, .int .i64 bb, .int .i64 bc])).run Tryd.prog w = .ok ev w := fun w => by rw [weqIn 9998, ← hev]; rfl
        have g39 := eg39
        have HA3' : Hid ((ev || mb) = (ss.drop q).any (fun s => matchB l k s && wEq (wts s) ⟨ba, bb, bc⟩)) := by show _ = _; rw [← hev]; exact HA2'.out
        have HLS : Hid (decide (cmp3 ⟨ba, bb, bc⟩ ⟨xa, xb, xc⟩ < 0) = false) := by
          show _ = _
          rw [decide_eq_false_iff_not, cmp_neg]
          exact HTQ.out
        clear hev
        obtain ⟨z0, z1, z2⟩ := HS9.out.wb.cell
        have hz := HS9.out.wb.lt
        have HBA := hid (HB9.out.alloc HB9.out.size (.cells #[.int .i64 xa, .int .i64 xb, .int .i64 xc] 39))
        have HSA := hid (HS9.out.below hP0 ((Below.refl _ _).alloc (Nat.le_refl _) (.cells #[.int .i64 xa, .int .i64 xb, .int .i64 xc] 39)))
        simp only [wtV]
        cases mb
        · have HA4 : Hid (ev = (ss.drop q).any (fun s => matchB l k s && wEq (wts s) ⟨ba, bb, bc⟩)) := by have := HA3'.out; rw [Bool.or_false] at this; exact this
          go_wp2_with (go_at_call 10; refine (less_any ⟨ba, bb, bc⟩ ⟨xa, xb, xc⟩ _).mono ?_; rintro e wc ⟨rfl, hb⟩; rw [HLS.out]; have HBC := hid (below_trans HBA.out hb (Nat.le_refl _)); have HSC := hid (HSA.out.below hP0 hb); clear hb)
          go_roundg q
          case measure => have := GK.out; omega
          case rel => exact ⟨q, _, _, true, ev, rfl, by omega, rfl, rfl, rfl, HA1'.out, HA4.out, HL7.out, HP7.out, HSC.out, HBC.out⟩
        · have HA4 : Hid (true = (ss.drop q).any (fun s => matchB l k s && wEq (wts s) ⟨ba, bb, bc⟩)) := by have := HA3'.out; rw [Bool.or_true] at this; exact this
          go_wp2_with (go_at_call 10; refine (less_any ⟨ba, bb, bc⟩ ⟨xa, xb, xc⟩ _).mono ?_; rintro e wc ⟨rfl, hb⟩; rw [HLS.out]; have HBC := hid (below_trans HBA.out hb (Nat.le_refl _)); have HSC := hid (HSA.out.below hP0 hb); clear hb)
          go_roundg q
          case measure => have := GK.out; omega
          case rel => exact ⟨q, _, _, true, true, rfl, by omega, rfl, rfl, rfl, HA1'.out, HA4.out, HL7.out, HP7.out, HSC.out, HBC.out⟩
end Go.Proofs.YtlodblcmpebfkabDoor
