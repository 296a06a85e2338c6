/-
  What the document's own Meant answers: the plain answer at each element. Conditions: the elements and the selector lie as they must, at most 2^20 of each.
-/
import Derived.Test.YtlodblcmpebfkaaDoorR7
namespace Go.Proofs.YtlodblcmpebfkaaDoor
open Go.RowKit

/-- The row so far: none ahead of the first part. -/
def Now (w : World) (B0 : Nat) (l : List Nd) (s : List Pt) : Nat → Value → Prop
  | 0, v => v = .slice none 0 0
  | i + 1, v => ∃ T, v = .slice (some ⟨T, 0, none⟩) l.length l.length ∧ FB w T l.length (mB l s i) ∧ B0 ≤ T

theorem Now.below {w w' : World} {B0 : Nat} {l : List Nd} {s : List Pt} : ∀ {i : Nat} {v : Value}, Now w B0 l s i v → Below w.heap.size w w' → Now w' B0 l s i v
  | 0, _, h, _ => h
  | _ + 1, _, ⟨T, h1, h2, h3⟩, hb => ⟨T, h1, h2.below hb h2.lt, h3⟩

set_option maxRecDepth 100000 in
set_option maxHeartbeats 8000000 in
theorem rmeant_any (lv sv : Value) (l : List Nd) (s : List Pt) (w : World) (hs : SmNs l) (hss : SmS s) (hw : WfS s) (hl : NdsAt w lv l) (hp : PsAt w sv s) :
    Calls Tryd.prog 6 #[lv, sv] w fun e w' => ∃ T, e = .returned (.slice (some ⟨T, 0, none⟩) l.length l.length) ∧ FB w' T l.length (fun k => decide (0 < s.length) && meansB l k s) ∧ Below w.heap.size w w' := by
  obtain ⟨la, lcap, rfl⟩ := Sl.form hl
  obtain ⟨sa, scap, rfl⟩ := Sl.form hp
  have HL := hid hl
  have HP := hid hp
  have HS := hid hs
  have HSS := hid hss
  have HWF := hid hw
  have hln := hs.1
  have hsn := hss.1
  unfold lim at hln hsn
  obtain ⟨i1, hi1, hy0, hy1, hy2⟩ := info_parts Tryd.infoB
  have HJ1 := hid hi1
  have HZ1 : Hid (i1.zero = some (.bool false) ∧ i1.size = 1 ∧ i1.bytes = 1) := ⟨hy0, hy1, hy2⟩
  clear hl hp hs hss hw hi1 hy0 hy1 hy2
  go_enter Tryd.func6, Tryd.ntmps6
  go_wp2_with fail
  go_loopg [5, 18] s.length (fun n v iv wr => ∃ i : Nat, n = s.length - i ∧ i ≤ s.length ∧ iv = .int .i64 (i : Int) ∧ Now wr w.heap.size l s i v ∧ Below w.heap.size w wr)
  case atStart => exact ⟨0, rfl, Nat.zero_le _, rfl, rfl, Below.refl _ _⟩
  case round =>
    rename World => wo
    obtain ⟨i, hn, hi, rfl, hN, hB⟩ := hrel
    have GK := hid hn
    have HB := hid hB
    have HNW := hid hN
    clear hn hB hN
    by_cases hlt : i < s.length
    · obtain ⟨b, off, rfl, he⟩ := Sl.at HP.out hlt
      obtain ⟨ta, tcap, e0, e1, hts⟩ := he.cells
      have c0 := Ext.below HB.out _ _ _ e0
      have c1 := Ext.below HB.out _ _ _ e1
      clear e0 e1
      have HTS := hid hts
      have htl := HSS.out.part (List.getElem_mem hlt)
      unfold lim at htl
      have HQ : Hid (ptAt s i = s[i]) := ptAt_eq hlt
      have HWP := hid (HWF.out _ (List.getElem_mem hlt))
      generalize s[i] = p at *
      obtain ⟨jn, ts⟩ := p
      simp only at c0 c1 hts htl HTS HWP
      clear he hts
      have hwosz := HB.out.size
      go_wp2_with (at_make; refine wpList_make_full _ rfl _ _ 32 rfl (wo.heap.size + 1) 4 i1 (.bool false) 1 Tryd.underlying32 HJ1.out HZ1.out.1 HZ1.out.2.1 _ _ _ _ l.length rfl rfl rfl rfl (by rw [HZ1.out.2.2]; omega) (by unfold maxLen; omega) (by simp) ?_; intro W hown hgrow)
      rw [show (wo.alloc (.cells #[.int .i64 jn, .slice ta ts.length tcap] 45)).heap.size = wo.heap.size + 1 by simp] at hown
      have hT : FB W (wo.heap.size + 1) l.length (fun _ => false) := FB.made (w := wo.alloc (.cells #[.int .i64 jn, .slice ta ts.length tcap] 45)) (by rw [show (wo.alloc (.cells #[.int .i64 jn, .slice ta ts.length tcap] 45)).heap.size = wo.heap.size + 1 by simp]; exact hown)
      have hBo : Below wo.heap.size wo W := ((Below.refl _ _).alloc (Nat.le_refl _) _).grown hgrow (by simp) (by simp)
      have hBo2 : Below (wo.heap.size + 1) (wo.alloc (.cells #[.int .i64 jn, .slice ta ts.length tcap] 45)) W := (Below.refl _ _).grown hgrow (by simp) (by simp)
      have x0 : W.cell? ⟨wo.heap.size, 0, none⟩ = some (.int .i64 jn) := (hBo2.cell (p := ⟨wo.heap.size, 0, none⟩) (Nat.lt_succ_self _)).trans (cell_new _ _ _ 0)
      have x1 : W.cell? ⟨wo.heap.size, 1, none⟩ = some (.slice ta ts.length tcap) := (hBo2.cell (p := ⟨wo.heap.size, 1, none⟩) (Nat.lt_succ_self _)).trans (cell_new _ _ _ 1)
      have HT := hid hT
      have hTl := hT.lt
      have HBW := hid (below_trans HB.out hBo (Nat.le_refl _))
      have HBo := hid hBo
      clear hown hgrow hT hBo hBo2 c0 c1
      cases i with
      | zero =>
        obtain rfl : u5 = .slice none 0 0 := HNW.out
        go_loopg [28] l.length (fun n kv wr => ∃ k : Nat, n = l.length - k ∧ k ≤ l.length ∧ kv = .int .i64 (k : Int) ∧ FB wr (wo.heap.size + 1) l.length (fun j => decide (j < k) && mB l s 0 j) ∧ Below (wo.heap.size + 1) W wr)
        case atStart => exact ⟨0, rfl, Nat.zero_le _, rfl, HT.out.same (fun _ _ => by simp), Below.refl _ _⟩
        case round =>
          clear HT
          obtain ⟨k, hn, hk, rfl, hF, hBk⟩ := hrel
          have GQ := hid hn
          have HF := hid hF
          have HBk := hid hBk
          have HBr := hid (HBW.out.trans (hBk.mono (Nat.le_succ_of_le hwosz)))
          clear hn hF hBk
          by_cases hkl : k < l.length
          · have y0 := (HBk.out.cell (p := ⟨wo.heap.size, 0, none⟩) (Nat.lt_succ_self _)).trans x0
            have y1 := (HBk.out.cell (p := ⟨wo.heap.size, 1, none⟩) (Nat.lt_succ_self _)).trans x1
            go_wp2_with fail
            go_loopg [10, 34] ts.length (fun n g jv wt => ∃ j : Nat, n = ts.length - j ∧ j ≤ ts.length ∧ jv = .int .i64 (j : Int) ∧ g = .bool ((ts.take j).all (testB l k)) ∧ Below wr.heap.size wr wt)
            case atStart => exact ⟨0, rfl, Nat.zero_le _, rfl, rfl, Below.refl _ _⟩
            case round =>
              rename World => wt
              obtain ⟨j, hn, hj, rfl, rfl, hBt⟩ := hrel
              have GJ := hid hn
              have HBt := hid hBt
              clear hn hBt y0 y1
              by_cases hjl : j < ts.length
              · obtain ⟨b3, off3, rfl, he⟩ := Sl.at (HTS.out.ext (Ext.below (below_trans HBr.out HBt.out (Nat.le_refl _)))) hjl
                obtain ⟨d0, d1, d2⟩ := he.cells
                have HA : Hid ((ts.take (j + 1)).all (testB l k) = ((ts.take j).all (testB l k) && testB l k ts[j])) := by
                  show _ = _
                  rw [List.take_succ_eq_append_getElem hjl, List.all_append]
                  simp
                have HWT := hid (HWP.out _ (List.getElem_mem hjl))
                clear he
                generalize ts[j] = t at *
                have HBa : ∀ o, Hid (Below wr.heap.size wr (wt.alloc o)) := fun o => HBt.out.alloc HBt.out.size o
                cases hg : (ts.take j).all (testB l k)
                · have HA2 : Hid ((ts.take (j + 1)).all (testB l k) = false) := by have := HA.out; rw [hg] at this; exact this
                  go_wp2_with fail
                  go_roundg (ts.length - (j + 1))
                  case measure => have := GJ.out; omega
                  case rel => exact ⟨j + 1, rfl, by omega, by go_num, by rw [HA2.out], (HBa _).out⟩
                · have HA2 : Hid ((ts.take (j + 1)).all (testB l k) = testB l k t) := by have := HA.out; rw [hg] at this; exact this
                  go_wp2_with (go_at_call 14; refine (rtest_any _ l k t _ (HL.out.ext (Ext.below (below_trans HBr.out (HBa _).out (Nat.le_refl _)))) HS.out hkl HWT.out).mono ?_; rintro e w' ⟨rfl, hb⟩; have HB4 := hid (below_trans (HBa _).out hb (Nat.le_refl _)); clear hb)
                  go_roundg (ts.length - (j + 1))
                  case measure => have := GJ.out; omega
                  case rel => exact ⟨j + 1, rfl, by omega, by go_num, by rw [HA2.out], HB4.out⟩
              · have HG2 : Hid ((ts.take j).all (testB l k) = partB l k (ptAt s 0)) := by
                  show _ = _
                  rw [HQ.out, List.take_of_length_le (by omega)]; rfl
                rw [HG2.out]
                have HF3 := hid (HF.out.below HBt.out HF.out.lt)
                have HB3 := hid (HBk.out.trans (HBt.out.mono (Nat.le_of_lt HF.out.lt)))
                have HBz := hid (below_trans HBr.out HBt.out (Nat.le_refl _))
                have q0 := HF3.out.cell hkl
                have q1 := HF3.out.fz k
                clear HG2 HBt
                have HX : Hid (partB l k (ptAt s 0) = mB l s 0 k) := (mB_zero l s k).symm
                go_wp2_with fail
                go_roundg (l.length - (k + 1))
                case measure => have := GQ.out; omega
                case rel => exact ⟨k + 1, rfl, by omega, by go_num, HF3.out.next hkl (HX.out), HB3.out.setCell (Nat.le_refl _) _⟩
          · have HF3 : Hid (FB wr (wo.heap.size + 1) l.length (mB l s 0)) := HF.out.same (fun j hj => by rw [decide_eq_true (by omega), Bool.true_and])
            go_wp2_with fail
            go_roundg (s.length - (0 + 1))
            case measure => have := GK.out; omega
            case rel => exact ⟨0 + 1, rfl, by omega, by go_num, ⟨wo.heap.size + 1, rfl, HF3.out, by omega⟩, HBW.out.trans (HBk.out.mono (by omega))⟩
      | succ i =>
        obtain ⟨T, rfl, hTN, hTw⟩ := HNW.out
        have hTlt := hTN.lt
        have HTN := hid (hTN.below HBo.out hTlt)
        clear hTN HNW
        go_loopg [28] l.length (fun n kv wr => ∃ k : Nat, n = l.length - k ∧ k ≤ l.length ∧ kv = .int .i64 (k : Int) ∧ FB wr (wo.heap.size + 1) l.length (fun j => decide (j < k) && mB l s (i + 1) j) ∧ Below (wo.heap.size + 1) W wr)
        case atStart => exact ⟨0, rfl, Nat.zero_le _, rfl, HT.out.same (fun _ _ => by simp), Below.refl _ _⟩
        case round =>
          clear HT
          obtain ⟨k, hn, hk, rfl, hF, hBk⟩ := hrel
          have GQ := hid hn
          have HF := hid hF
          have HBk := hid hBk
          have HBr := hid (HBW.out.trans (hBk.mono (Nat.le_succ_of_le hwosz)))
          clear hn hF hBk
          by_cases hkl : k < l.length
          · have y0 := (HBk.out.cell (p := ⟨wo.heap.size, 0, none⟩) (Nat.lt_succ_self _)).trans x0
            have y1 := (HBk.out.cell (p := ⟨wo.heap.size, 1, none⟩) (Nat.lt_succ_self _)).trans x1
            go_wp2_with fail
            go_loopg [10, 34] ts.length (fun n g jv wt => ∃ j : Nat, n = ts.length - j ∧ j ≤ ts.length ∧ jv = .int .i64 (j : Int) ∧ g = .bool ((ts.take j).all (testB l k)) ∧ Below wr.heap.size wr wt)
            case atStart => exact ⟨0, rfl, Nat.zero_le _, rfl, rfl, Below.refl _ _⟩
            case round =>
              rename World => wt
              obtain ⟨j, hn, hj, rfl, rfl, hBt⟩ := hrel
              have GJ := hid hn
              have HBt := hid hBt
              clear hn hBt y0 y1
              by_cases hjl : j < ts.length
              · obtain ⟨b3, off3, rfl, he⟩ := Sl.at (HTS.out.ext (Ext.below (below_trans HBr.out HBt.out (Nat.le_refl _)))) hjl
                obtain ⟨d0, d1, d2⟩ := he.cells
                have HA : Hid ((ts.take (j + 1)).all (testB l k) = ((ts.take j).all (testB l k) && testB l k ts[j])) := by
                  show _ = _
                  rw [List.take_succ_eq_append_getElem hjl, List.all_append]
                  simp
                have HWT := hid (HWP.out _ (List.getElem_mem hjl))
                clear he
                generalize ts[j] = t at *
                have HBa : ∀ o, Hid (Below wr.heap.size wr (wt.alloc o)) := fun o => HBt.out.alloc HBt.out.size o
                cases hg : (ts.take j).all (testB l k)
                · have HA2 : Hid ((ts.take (j + 1)).all (testB l k) = false) := by have := HA.out; rw [hg] at this; exact this
                  go_wp2_with fail
                  go_roundg (ts.length - (j + 1))
                  case measure => have := GJ.out; omega
                  case rel => exact ⟨j + 1, rfl, by omega, by go_num, by rw [HA2.out], (HBa _).out⟩
                · have HA2 : Hid ((ts.take (j + 1)).all (testB l k) = testB l k t) := by have := HA.out; rw [hg] at this; exact this
                  go_wp2_with (go_at_call 14; refine (rtest_any _ l k t _ (HL.out.ext (Ext.below (below_trans HBr.out (HBa _).out (Nat.le_refl _)))) HS.out hkl HWT.out).mono ?_; rintro e w' ⟨rfl, hb⟩; have HB4 := hid (below_trans (HBa _).out hb (Nat.le_refl _)); clear hb)
                  go_roundg (ts.length - (j + 1))
                  case measure => have := GJ.out; omega
                  case rel => exact ⟨j + 1, rfl, by omega, by go_num, by rw [HA2.out], HB4.out⟩
              · have HG2 : Hid ((ts.take j).all (testB l k) = partB l k (ptAt s (i + 1))) := by
                  show _ = _
                  rw [HQ.out, List.take_of_length_le (by omega)]; rfl
                rw [HG2.out]
                have HF3 := hid (HF.out.below HBt.out HF.out.lt)
                have HB3 := hid (HBk.out.trans (HBt.out.mono (Nat.le_of_lt HF.out.lt)))
                have HBz := hid (below_trans HBr.out HBt.out (Nat.le_refl _))
                have q0 := HF3.out.cell hkl
                have q1 := HF3.out.fz k
                clear HG2 HBt
                have HM : Hid (mB l s (i + 1) k = (partB l k (ptAt s (i + 1)) && (ups l k jn).any (mB l s i))) := by
                  show _ = _
                  rw [mB_succ, HQ.out]
                have HTN3 := hid (HTN.out.below HB3.out (Nat.lt_succ_of_lt hTlt))
                have z0 := (HB3.out.cell (p := ⟨wo.heap.size, 0, none⟩) (Nat.lt_succ_self _)).trans x0
                generalize hF : mB l s i = F at *
                clear hF
                cases hpb : partB l k (ptAt s (i + 1))
                · have HX : Hid (false = mB l s (i + 1) k) := by have := HM.out; rw [hpb] at this; exact this.symm
                  go_wp2_with fail
                  go_roundg (l.length - (k + 1))
                  case measure => have := GQ.out; omega
                  case rel => exact ⟨k + 1, rfl, by omega, by go_num, HF3.out.next hkl (HX.out), HB3.out.setCell (Nat.le_refl _) _⟩
                · have HM2 : Hid (mB l s (i + 1) k = (ups l k jn).any F) := by have := HM.out; rw [hpb] at this; exact this
                  have HU : Hid (ups l k jn = if jn = 1 then aboves l k else if 0 ≤ single l k jn ∧ single l k jn < l.length then [(single l k jn).toNat] else []) := rfl
                  obtain ⟨b4, off4, rfl, hd⟩ := Sl.at (HL.out.ext (Ext.below HBz.out)) hkl
                  have p1 := hd.c1
                  have hpar : par l k = (l[k]'hkl).parent := by unfold par; rw [ndAt_eq hkl]
                  rw [← hpar] at p1
                  clear hpar hd HM hpb
                  by_cases h2 : jn = 2
                  · subst h2
                    have HU2 : Hid (ups l k 2 = if 0 ≤ par l k ∧ par l k < l.length then [(par l k).toNat] else []) := HU.out
                    by_cases hr : 0 ≤ par l k ∧ par l k < l.length
                    · obtain ⟨u, hu⟩ : ∃ u : Nat, par l k = u := ⟨(par l k).toNat, by omega⟩
                      have HX : Hid (F u = mB l s (i + 1) k) := by
                        show _ = _
                        rw [HM2.out, HU2.out, if_pos hr, hu]
                        simp
                      rw [hu] at p1 hr
                      have hul : u < l.length := by omega
                      have g0 := HTN3.out.cell hul
                      clear HU HU2 HM2 hu hr
                      go_wp2_with fail
                      go_roundg (l.length - (k + 1))
                      case measure => have := GQ.out; omega
                      case rel => exact ⟨k + 1, rfl, by omega, by go_num, HF3.out.next hkl (HX.out), HB3.out.setCell (Nat.le_refl _) _⟩
                    · have HX : Hid (false = mB l s (i + 1) k) := by
                        show _ = _
                        rw [HM2.out, HU2.out, if_neg hr]
                        rfl
                      clear HU HU2 HM2
                      generalize par l k = u at *
                      by_cases h0 : 0 ≤ u
                      · have h1 : ¬ u < (l.length : Int) := fun h => hr ⟨h0, h⟩
                        clear hr
                        go_wp2_with fail
                        go_roundg (l.length - (k + 1))
                        case measure => have := GQ.out; omega
                        case rel => exact ⟨k + 1, rfl, by omega, by go_num, HF3.out.next hkl (HX.out), HB3.out.setCell (Nat.le_refl _) _⟩
                      · clear hr
                        go_wp2_with fail
                        go_roundg (l.length - (k + 1))
                        case measure => have := GQ.out; omega
                        case rel => exact ⟨k + 1, rfl, by omega, by go_num, HF3.out.next hkl (HX.out), HB3.out.setCell (Nat.le_refl _) _⟩
                  by_cases h3 : jn = 3
                  · subst h3
                    have HU2 : Hid (ups l k 3 = if 0 ≤ ahead l k ∧ ahead l k < l.length then [(ahead l k).toNat] else []) := HU.out
                    have hbd := ahead_bd l k
                    have HAN := hid (rahead_any (.slice (some ⟨b4, off4, none⟩) l.length lcap) l k wt (HL.out.ext (Ext.below HBz.out)) HS.out.1 hkl)
                    by_cases hr : 0 ≤ ahead l k
                    · obtain ⟨u, hu⟩ : ∃ u : Nat, ahead l k = u := ⟨(ahead l k).toNat, by omega⟩
                      have HX : Hid (F u = mB l s (i + 1) k) := by
                        show _ = _
                        rw [HM2.out, HU2.out, if_pos ⟨hr, by omega⟩, hu]
                        simp
                      have hul : u < l.length := by omega
                      have g0 := HTN3.out.cell hul
                      rw [hu] at HAN
                      clear HU HU2 HM2 hu hr hbd p1
                      go_wp2_with (go_at_call 15; refine HAN.out.mono ?_; rintro e w' ⟨rfl, n, rfl⟩; have g0' : (wt.drewN n).cell? ⟨T, u, none⟩ = some (.bool (F u)) := g0; have q0' : (wt.drewN n).cell? ⟨wo.heap.size + 1, k, none⟩ = _ := q0; have q1' : (wt.drewN n).frozen? ⟨wo.heap.size + 1, k, none⟩ = false := q1)
                      go_roundg (l.length - (k + 1))
                      case measure => have := GQ.out; omega
                      case rel => exact ⟨k + 1, rfl, by omega, by go_num, (show FB (wt.drewN n) _ _ _ from HF3.out).next hkl (HX.out), (below_dN HB3.out n).setCell (Nat.le_refl _) _⟩
                    · have HX : Hid (false = mB l s (i + 1) k) := by
                        show _ = _
                        rw [HM2.out, HU2.out, if_neg (fun h => hr h.1)]
                        rfl
                      clear HU HU2 HM2 hbd p1
                      generalize ahead l k = u at *
                      go_wp2_with (go_at_call 15; refine HAN.out.mono ?_; rintro e w' ⟨rfl, n, rfl⟩; have q0' : (wt.drewN n).cell? ⟨wo.heap.size + 1, k, none⟩ = _ := q0; have q1' : (wt.drewN n).frozen? ⟨wo.heap.size + 1, k, none⟩ = false := q1)
                      go_roundg (l.length - (k + 1))
                      case measure => have := GQ.out; omega
                      case rel => exact ⟨k + 1, rfl, by omega, by go_num, (show FB (wt.drewN n) _ _ _ from HF3.out).next hkl (HX.out), (below_dN HB3.out n).setCell (Nat.le_refl _) _⟩
                  by_cases h1 : jn = 1
                  · subst h1
                    have HX0 : Hid (mB l s (i + 1) k = (false || (aboves l k).any F)) := HM2.out
                    clear HU HM2 p1
                    go_wp2_with fail
                    go_loopg [10, 15] k (fun n gv qv wz => ∃ (q : Nat) (g : Bool), n = q ∧ q ≤ k ∧ qv = .int .i64 (q : Int) ∧ gv = .bool g ∧ mB l s (i + 1) k = (g || (aboves l q).any F) ∧ wz = wt)
                    case atStart => exact ⟨k, false, rfl, Nat.le_refl _, rfl, rfl, HX0.out, rfl⟩
                    case round =>
                      clear HX0
                      obtain ⟨q, g, hn, hqk, rfl, rfl, hX, rfl⟩ := hrel
                      have GX := hid hn
                      have HX1 := hid hX
                      clear hn hX
                      have hql : q < l.length := by omega
                      obtain ⟨b5, off5, hb5, hd⟩ := Sl.at (HL.out.ext (Ext.below HBz.out)) hql
                      injection hb5 with hb5
                      injection hb5 with hb5 hb6
                      subst hb5 hb6
                      have p1 := hd.c1
                      have hpar : par l q = (l[q]'hql).parent := by unfold par; rw [ndAt_eq hql]
                      rw [← hpar] at p1
                      clear hpar hd
                      by_cases hr : 0 ≤ par l q ∧ par l q < q
                      · obtain ⟨u, hu⟩ : ∃ u : Nat, par l q = u := ⟨(par l q).toNat, by omega⟩
                        have HX2 : Hid (mB l s (i + 1) k = ((g || F u) || (aboves l u).any F)) := by
                          show _ = _
                          rw [HX1.out, aboves_pos hr.1 hr.2, hu]
                          simp [Bool.or_assoc]
                        rw [hu] at p1 hr
                        have huq : u < q := by omega
                        have hul : u < l.length := by omega
                        have g0 := HTN3.out.cell hul
                        clear HX1 hu hr
                        cases g
                        · have HX3 : Hid (mB l s (i + 1) k = (F u || (aboves l u).any F)) := HX2.out
                          go_wp2_with fail
                          go_roundg u
                          case measure => have := GX.out; omega
                          case rel => exact ⟨u, F u, rfl, by omega, rfl, rfl, HX3.out, rfl⟩
                        · have HX3 : Hid (mB l s (i + 1) k = (true || (aboves l u).any F)) := HX2.out
                          go_wp2_with fail
                          go_roundg u
                          case measure => have := GX.out; omega
                          case rel => exact ⟨u, true, rfl, by omega, rfl, rfl, HX3.out, rfl⟩
                      · have HX : Hid (g = mB l s (i + 1) k) := by
                          show _ = _
                          rw [HX1.out, aboves_neg hr]
                          simp
                        clear HX1
                        generalize par l q = u at *
                        by_cases h0 : 0 ≤ u
                        · have h1 : ¬ u < (q : Int) := fun h => hr ⟨h0, h⟩
                          clear hr
                          go_wp2_with fail
                          go_roundg (l.length - (k + 1))
                          case measure => have := GQ.out; omega
                          case rel => exact ⟨k + 1, rfl, by omega, by go_num, HF3.out.next hkl (HX.out), HB3.out.setCell (Nat.le_refl _) _⟩
                        · clear hr
                          go_wp2_with fail
                          go_roundg (l.length - (k + 1))
                          case measure => have := GQ.out; omega
                          case rel => exact ⟨k + 1, rfl, by omega, by go_num, HF3.out.next hkl (HX.out), HB3.out.setCell (Nat.le_refl _) _⟩
                  · have HX : Hid (false = mB l s (i + 1) k) := by
                      show _ = _
                      rw [HM2.out, HU.out, if_neg h1, if_neg]
                      · rfl
                      · intro h
                        unfold single at h
                        rw [if_neg h2, if_neg h3] at h
                        omega
                    clear HU HM2
                    go_wp2_with fail
                    go_roundg (l.length - (k + 1))
                    case measure => have := GQ.out; omega
                    case rel => exact ⟨k + 1, rfl, by omega, by go_num, HF3.out.next hkl (HX.out), HB3.out.setCell (Nat.le_refl _) _⟩
          · have HF3 : Hid (FB wr (wo.heap.size + 1) l.length (mB l s (i + 1))) := HF.out.same (fun j hj => by rw [decide_eq_true (by omega), Bool.true_and])
            go_wp2_with fail
            go_roundg (s.length - ((i + 1) + 1))
            case measure => have := GK.out; omega
            case rel => exact ⟨(i + 1) + 1, rfl, by omega, by go_num, ⟨wo.heap.size + 1, rfl, HF3.out, by omega⟩, HBW.out.trans (HBk.out.mono (by omega))⟩
    · have hnil : ∀ (a : Option Addr) (n c : Nat) (w : World), (binOp .eql 32 (.slice a n c) (.slice none 0 0)).run Tryd.prog w = .ok (.bool a.isNone) w := fun a n c w => Lib.run_eql_slice_nil w 32 4 a n c 0 0 Tryd.underlying32
      cases i with
      | zero =>
        obtain rfl : u5 = .slice none 0 0 := HNW.out
        go_wp2_with (at_make; refine wpList_make_full _ rfl _ _ 32 rfl wo.heap.size 4 i1 (.bool false) 1 Tryd.underlying32 HJ1.out HZ1.out.1 HZ1.out.2.1 _ _ _ _ l.length rfl rfl rfl rfl (by rw [HZ1.out.2.2]; omega) (by unfold maxLen; omega) (Nat.le_refl _) ?_; intro W hown hgrow)
        go_ret
        have hz : s.length = 0 := by omega
        refine ⟨_, rfl, (FB.made (w := wo) hown).same (fun j _ => by rw [hz]; rfl), below_trans HB.out ((Below.refl _ _).grown hgrow (Nat.le_refl _) (by simp)) (Nat.le_refl _)⟩
      | succ i =>
        obtain ⟨T, rfl, hTN, hTw⟩ := HNW.out
        have HTN := hid hTN
        clear hTN
        have HE : Hid (s.length = i + 1) := by show _ = _; omega
        go_wp2_with fail
        go_ret
        refine ⟨T, rfl, HTN.out.same (fun j _ => ?_), HB.out⟩
        rw [meansB, HE.out]
        simp [mB]
end Go.Proofs.YtlodblcmpebfkaaDoor
