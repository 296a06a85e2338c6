/-
  What the document's own Means answers: the plain answer. Conditions: the elements and the selector lie as they must, at most 2^20 of each.
-/
import Derived.Test.YtlodblcmpebfkaaDoorR3
import Derived.Test.YtlodblcmpebfkaaDoorM8
namespace Go.Proofs.YtlodblcmpebfkaaDoor
open Go.RowKit

def WfS (s : List Pt) : Prop := ∀ p ∈ s, ∀ t ∈ p.tests, WfT t
theorem rest_succ (l : List Nd) (s : List Pt) (i x : Nat) : rest l s (i + 1) x = (ups l x (ptAt s (i + 1)).join).any fun y => partB l y (ptAt s i) && rest l s i y := rfl

set_option maxRecDepth 100000 in
set_option maxHeartbeats 4000000 in
theorem rmeans_any (lv sv : Value) (l : List Nd) (s : List Pt) (hs : SmNs l) (hss : SmS s) (hw : WfS s) : ∀ (i k : Nat) (w : World), NdsAt w lv l → PsAt w sv s → k < l.length → i < s.length →
    Calls Tryd.prog 17 #[lv, .int .i64 (k : Int), sv, .int .i64 (i : Int)] w fun e w' => e = .returned (.bool (partB l k (ptAt s i) && rest l s i k)) ∧ Below w.heap.size w w' := by
  intro i
  induction i using Nat.strongRecOn with
  | ind i ih =>
  intro k w hl hp hk hi
  have IH := hid ih
  clear ih
  obtain ⟨a, cap, rfl⟩ := Sl.form hl
  obtain ⟨a2, cap2, rfl⟩ := Sl.form hp
  have HL := hid hl
  have HP := hid hp
  have HS := hid hs
  have HSS := hid hss
  have HK := hid hk
  have HI := hid hi
  have hln := hs.1
  unfold lim at hln
  have hsn := hss.1
  unfold lim at hsn
  obtain ⟨b, off, rfl, he⟩ := Sl.at hp hi
  obtain ⟨b2, off2, rfl, hd⟩ := Sl.at hl hk
  obtain ⟨ta, tcap, c0, c1, hts⟩ := he.cells
  have p1 := hd.c1
  have hpar : par l k = (l[k]'hk).parent := by unfold par; rw [ndAt_eq hk]
  rw [← hpar] at p1
  have hts2 := hss.part (List.getElem_mem hi)
  unfold lim at hts2
  have HW : Hid (∀ t ∈ (s[i]'hi).tests, WfT t) := hw _ (List.getElem_mem hi)
  have HE : Hid ((partB l k (ptAt s i) && rest l s i k) = ((s[i]'hi).tests.all (testB l k) && rest l s i k)) := by
    show _ = _
    rw [ptAt_eq hi]; rfl
  have HJ : Hid ((ptAt s i).join = (s[i]'hi).join) := by show _ = _; rw [ptAt_eq hi]
  generalize (partB l k (ptAt s i) && rest l s i k) = R at *
  generalize s[i]'hi = p at *
  obtain ⟨jn, ts⟩ := p
  simp only at c0 c1 hts hts2 HW HE HJ
  have HT := hid hts
  have C0 := hid c0
  have P1 := hid p1
  clear hl hp hs hss hw he hd hts hpar p1 c0
  go_enter Tryd.func17, Tryd.ntmps17
  go_wp2_with fail
  go_loopg [20] ts.length (fun n iv wr => ∃ j : Nat, n = ts.length - j ∧ j ≤ ts.length ∧ iv = .int .i64 (j : Int) ∧ R = ((ts.drop j).all (testB l k) && rest l s i k) ∧ Below w.heap.size w wr)
  case atStart => exact ⟨0, rfl, Nat.zero_le _, rfl, HE.out, Below.refl _ _⟩
  case round =>
    obtain ⟨j, hn, hj, rfl, hR, hB⟩ := hrel
    have GK := hid hn
    have HB := hid hB
    have HR := hid hR
    clear hn hB hR c1
    by_cases hlt : j < ts.length
    · obtain ⟨b3, off3, rfl, he⟩ := Sl.at (TsAt.ext HT.out (Ext.below HB.out)) hlt
      obtain ⟨c0, c1, c2⟩ := he.cells
      have HR2 : Hid (R = (testB l k ts[j] && ((ts.drop (j + 1)).all (testB l k) && rest l s i k))) := by
        show R = _
        rw [HR.out, List.drop_eq_getElem_cons hlt, ← Bool.and_assoc]; rfl
      have HWT := hid (HW.out _ (List.getElem_mem hlt))
      clear he
      generalize ts[j] = t at *
      have HB3 : ∀ o, Hid (Below w.heap.size w (wr.alloc o)) := fun o => HB.out.alloc HB.out.size o
      go_wp2_with (go_at_call 14; refine (rtest_any _ l k t _ (HL.out.ext (Ext.below (HB3 _).out)) HS.out HK.out HWT.out).mono ?_; rintro e w' ⟨rfl, hb⟩; have HB4 := hid (below_trans (HB3 _).out hb (Nat.le_refl _)); clear hb; rcases htb : testB l k t)
      · have HR3 : Hid (R = false) := by have := HR2.out; rw [htb] at this; exact this
        go_ret
        exact ⟨ret_bool HR3.out.symm, HB4.out⟩
      · have HR3 : Hid (R = ((ts.drop (j + 1)).all (testB l k) && rest l s i k)) := by have := HR2.out; rw [htb] at this; exact this
        go_roundg (ts.length - (j + 1))
        case measure => have := GK.out; omega
        case rel => exact ⟨j + 1, rfl, by omega, by go_num, HR3.out, HB4.out⟩
    · have HR3 : Hid (R = rest l s i k) := by
        show R = _
        rw [HR.out, List.drop_eq_nil_of_le (by omega)]; rfl
      clear HR HE
      cases i with
      | zero =>
        have HR4 : Hid (R = true) := HR3.out
        go_wp2_with fail
        go_ret
        exact ⟨ret_bool HR4.out.symm, HB.out⟩
      | succ i =>
        have HR4 : Hid (R = (ups l k jn).any fun y => partB l y (ptAt s i) && rest l s i y) := by
          show R = _
          rw [HR3.out, rest_succ, HJ.out]
        have IH2 : Hid (∀ (y : Nat) (w2 : World), Below w.heap.size w w2 → y < l.length → Calls Tryd.prog 17 #[.slice (some ⟨b2, off2, none⟩) l.length cap, .int .i64 (y : Int), .slice (some ⟨b, off, none⟩) s.length cap2, .int .i64 (i : Int)] w2 fun e w' => e = .returned (.bool (partB l y (ptAt s i) && rest l s i y)) ∧ Below w.heap.size w w') :=
          fun y w2 hb hy => (IH.out i (Nat.lt_succ_self i) y w2 (HL.out.ext (Ext.below hb)) (HP.out.ext (Ext.below hb)) hy (Nat.lt_of_succ_lt HI.out)).mono fun e w' h => ⟨h.1, below_trans hb h.2 (Nat.le_refl _)⟩
        have c0 := Ext.below HB.out _ _ _ C0.out
        have p1 := Ext.below HB.out _ _ _ P1.out
        have HU : Hid (ups l k jn = if jn = 1 then aboves l k else if 0 ≤ single l k jn ∧ single l k jn < l.length then [(single l k jn).toNat] else []) := rfl
        clear HR3 IH HJ HT HW C0 P1
        generalize hF : (fun y => partB l y (ptAt s i) && rest l s i y) = F at *
        have HF : ∀ y, (partB l y (ptAt s i) && rest l s i y) = F y := fun y => by rw [← hF]
        simp only [HF] at IH2
        clear hF HF
        by_cases h2 : jn = 2
        · subst h2
          have HU2 : Hid (ups l k 2 = if 0 ≤ par l k ∧ par l k < l.length then [(par l k).toNat] else []) := HU.out
          by_cases hr : 0 ≤ par l k ∧ par l k < l.length
          · obtain ⟨u, hu⟩ : ∃ u : Nat, par l k = u := ⟨(par l k).toNat, by omega⟩
            have HR5 : Hid (R = F u) := by
              show R = _
              rw [HR4.out, HU2.out, if_pos hr, hu]
              simp
            rw [hu] at p1 hr
            have hul : u < l.length := by omega
            clear HU HU2 HR4 hu hr
            go_wp2_with (go_at_call 17; refine (IH2.out u _ HB.out hul).mono ?_; rintro e w' ⟨rfl, hb⟩)
            go_ret
            exact ⟨ret_bool HR5.out.symm, hb⟩
          · have HR5 : Hid (R = false) := by
              show R = _
              rw [HR4.out, HU2.out, if_neg hr]
              rfl
            clear HU HU2 HR4
            generalize par l k = u at *
            by_cases h0 : 0 ≤ u
            · have h1 : ¬ u < (l.length : Int) := fun h => hr ⟨h0, h⟩
              clear hr
              go_wp2_with fail
              go_ret
              exact ⟨ret_bool HR5.out.symm, HB.out⟩
            · clear hr
              go_wp2_with fail
              go_ret
              exact ⟨ret_bool HR5.out.symm, HB.out⟩
        by_cases h3 : jn = 3
        · subst h3
          have HU2 : Hid (ups l k 3 = if 0 ≤ ahead l k ∧ ahead l k < l.length then [(ahead l k).toNat] else []) := HU.out
          have hbd := ahead_bd l k
          have HAN := hid (rahead_any (.slice (some ⟨b2, off2, none⟩) l.length cap) l k wr (HL.out.ext (Ext.below HB.out)) HS.out.1 HK.out)
          by_cases hr : 0 ≤ ahead l k
          · obtain ⟨u, hu⟩ : ∃ u : Nat, ahead l k = u := ⟨(ahead l k).toNat, by omega⟩
            have HR5 : Hid (R = F u) := by
              show R = _
              rw [HR4.out, HU2.out, if_pos ⟨hr, by omega⟩, hu]
              simp
            have hul : u < l.length := by omega
            rw [hu] at HAN
            clear HU HU2 HR4 hr hbd hu
            go_wp2_with (first | (go_at_call 15; refine HAN.out.mono ?_; rintro e w' ⟨rfl, n, rfl⟩) | (go_at_call 17; refine (IH2.out u _ (below_dN HB.out n) hul).mono ?_; rintro e w' ⟨rfl, hb⟩))
            go_ret
            exact ⟨ret_bool HR5.out.symm, hb⟩
          · have HR5 : Hid (R = false) := by
              show R = _
              rw [HR4.out, HU2.out, if_neg (fun h => hr h.1)]
              rfl
            clear HU HU2 HR4 hbd
            generalize ahead l k = u at *
            go_wp2_with (go_at_call 15; refine HAN.out.mono ?_; rintro e w' ⟨rfl, n, rfl⟩)
            go_ret
            exact ⟨ret_bool HR5.out.symm, below_dN HB.out n⟩
        by_cases h1 : jn = 1
        · subst h1
          have HR5 : Hid (R = (aboves l k).any F) := HR4.out
          clear HU HR4 p1
          go_wp2_with fail
          go_loopg [13] k (fun n iv wr => ∃ q : Nat, n = q ∧ q ≤ k ∧ iv = .int .i64 (q : Int) ∧ R = (aboves l q).any F ∧ Below w.heap.size w wr)
          case atStart => exact ⟨k, rfl, Nat.le_refl _, rfl, HR5.out, HB.out⟩
          case round =>
            clear c0 HB HR5
            obtain ⟨q, hn, hqk, rfl, hR, hB⟩ := hrel
            have GQ := hid hn
            have HB := hid hB
            have HR := hid hR
            clear hn hB hR
            have hql : q < l.length := by have := HK.out; omega
            obtain ⟨b4, off4, hb4, hd⟩ := Sl.at (HL.out.ext (Ext.below HB.out)) hql
            injection hb4 with hb4
            injection hb4 with hb4 hb5
            subst hb4 hb5
            have p1 := hd.c1
            have hpar : par l q = l[q].parent := by unfold par; rw [ndAt_eq hql]
            rw [← hpar] at p1
            clear hpar hd
            by_cases hr : 0 ≤ par l q ∧ par l q < q
            · obtain ⟨u, hu⟩ : ∃ u : Nat, par l q = u := ⟨(par l q).toNat, by omega⟩
              have HR2 : Hid (R = (F u || (aboves l u).any F)) := by
                show R = _
                rw [HR.out, aboves_pos hr.1 hr.2, hu]
                simp
              rw [hu] at p1 hr
              have huq : u < q := by omega
              have hul : u < l.length := by omega
              clear HR hu hr
              go_wp2_with (go_at_call 17; refine (IH2.out u _ HB.out hul).mono ?_; rintro e w' ⟨rfl, hb⟩; have HB4 := hid hb; clear hb; rcases hf : F u)
              · have HR6 : Hid (R = (aboves l u).any F) := by have := HR2.out; rw [hf] at this; exact this
                go_roundg u
                case measure => have := GQ.out; omega
                case rel => exact ⟨u, rfl, by omega, rfl, HR6.out, HB4.out⟩
              · have HR6 : Hid (R = true) := by have := HR2.out; rw [hf] at this; exact this
                go_ret
                exact ⟨ret_bool HR6.out.symm, HB4.out⟩
            · have HR2 : Hid (R = false) := by
                show R = _
                rw [HR.out, aboves_neg hr]
                rfl
              clear HR
              generalize par l q = u at *
              by_cases h0 : 0 ≤ u
              · have h1 : ¬ u < (q : Int) := fun h => hr ⟨h0, h⟩
                clear hr
                go_wp2_with fail
                go_ret
                exact ⟨ret_bool HR2.out.symm, HB.out⟩
              · clear hr
                go_wp2_with fail
                go_ret
                exact ⟨ret_bool HR2.out.symm, HB.out⟩
        · have HR5 : Hid (R = false) := by
            show R = _
            rw [HR4.out, HU.out, if_neg h1, if_neg]
            · rfl
            · intro h
              unfold single at h
              rw [if_neg h2, if_neg h3] at h
              omega
          clear HU HR4
          go_wp2_with fail
          go_ret
          exact ⟨ret_bool HR5.out.symm, HB.out⟩
end Go.Proofs.YtlodblcmpebfkaaDoor
