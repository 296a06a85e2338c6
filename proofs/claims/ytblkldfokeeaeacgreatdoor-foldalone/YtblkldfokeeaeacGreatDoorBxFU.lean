/-
  The law FoldAlone returns true. Conditions: the tables hold what their texts say; the page is shorter than 2 to the 63.
-/
import Derived.Test.YtblkldfokeeaeacGreatDoorB35
import Derived.Laws.StructEq
namespace Go.Proofs.YtblkldfokeeaeacGreatDoor
open Go.RowKit Go.Maps
theorem decl_ok {l : List Nd} {rules : List Ru} {lv rv : Value} {k : Nat} {cs : List Cl} (hc : claimsB styF l k rules [] = .ok cs) (w : World) (hl : NdsAt w lv l) (hs : SmNs l) (hr : RusAt w rv rules) (hrs : SmRs rules) (hT : Tab w) :
    Calls Tryz.prog 23 #[lv, .int .i64 (k : Int), rv, .slice none 0 0] w fun e w' => (∃ a c, e = .returned (.tuple #[.slice a (lookOf cs).length c, .int .i64 0]) ∧ DsAt w' (.slice a (lookOf cs).length c) (lookOf cs) ∧ (lookOf cs).length ≤ 2199023255700) ∧ Below w.heap.size w w' := by
  have DA := declared_any (l := l) (rules := rules) (media := []) (mv := .slice none 0 0) (k : Int) w hl hs hr hrs (bs_nil _) (by simp) hT
  rw [sty_eq, hc] at DA
  simp only [AnsD] at DA
  refine DA.mono fun e w' ⟨⟨a, c, X, he, hd, hk, hl⟩, hb⟩ => ?_
  rw [look_eq hk] at he hd hl
  exact ⟨⟨a, c, he, hd, hl⟩, hb⟩
theorem rus_nil (w : World) : RusAt w (.slice none 0 0) [] := ⟨none, 0, rfl, fun _ => rfl, fun i hi => absurd hi (by simp)⟩
set_option maxRecDepth 100000 in
set_option maxHeartbeats 16000000 in
theorem foldAlone_any (s : ByteArray) (w : World) (hs : s.size ≤ 9223372036854775807) (hT : Tab w) : Calls Tryz.prog 7 #[.string s] w fun e w' => e = .returned (.bool true) ∧ Below w.heap.size w w' := by
  have AL := hid (alive_any w hT)
  have HT := hid hT
  have FA := hid (fun w' hT' => fold_any s w' hs hT')
  clear hT
  cases hf : foldB s.data.toList with
  | error x =>
    rw [hf] at FA
    simp only [FoldAns] at FA
    obtain ⟨xe, xa⟩ := x
    go_enter Tryz.func7, Tryz.ntmps7
    go_wp2_with (first
      | (go_at_call 15; refine AL.out.mono ?_; rintro e w1 ⟨rfl, hb1⟩; have HB1 := hid hb1; clear hb1)
      | (go_at_call 16; refine (FA.out w1 (HT.out.ext (Ext.below HB1.out))).mono ?_; rintro e w2 ⟨⟨rfl, hx⟩, hb2⟩; have HB2 := hid (below_trans HB1.out hb2 (Nat.le_refl _)); have hx' : ¬ ((xe : Int) = 0) := Int.natCast_ne_zero.2 hx; clear hb2 hx; simp only [faultV]))
    go_ret
    exact ⟨rfl, below_al HB2.out⟩
  | ok T =>
    rw [hf] at FA
    simp only [FoldAns] at FA
    obtain ⟨L, R, L', R', t, h1, _, _⟩ := fold_ok hf
    have RA := hid (fun w' hT' => read_any s w' hs hT')
    rw [read_iff.2 h1.read] at RA
    simp only [ReadAns] at RA
    have RB := hid (fun w' hT' => read_any (bsL T) w' (by rw [bsL_size]; have := fold_len hf; omega) hT')
    rw [show (bsL T).data.toList = T from rfl, read_iff.2 h1.again] at RB
    simp only [ReadAns] at RB
    have HLen := hid h1.len
    have hR60' := h1.again.few
    obtain ⟨hL120, hS6, hNd⟩ := page_bd h1.read.page
    obtain ⟨hL120', hS6', hNd'⟩ := page_bd h1.again.page
    have HSn := hid (sm_nodes hL120 (fun n hn => ndBd_mono (hNd n hn) hS6))
    have HSn' := hid (sm_nodes hL120' (fun n hn => ndBd_mono (hNd' n hn) hS6'))
    have HSr := hid (sm_rules (R := R) (by have := h1.read.few; omega) h1.read.bd)
    have HSr0 : Hid (SmRs []) := sm_rules (R := []) (by simp) (by simp)
    have HBd' := hid h1.again.bd
    have HWf : Hid (∀ r ∈ R', ∀ s ∈ (ofR r).sels, Rf.WfS s) := fun r hr s hs => by
      obtain ⟨q, hq, rfl⟩ := List.mem_map.1 hs
      exact wfS_of (h1.again.tstW r hr q hq)
    have HDc : Hid (∀ (k : Nat), k < L.length → ∃ cs cs', claimsB styF (L.map ofN) k (R.map ofR) [] = .ok cs ∧ claimsB styF (L'.map ofN) k [] [] = .ok cs' ∧ ∀ d ∈ lookOf cs, (∀ r ∈ R', touchB (L'.map ofN) k (ofR r) (nm d) = false) → d ∈ lookOf cs') := fun k hk => by
      have e1 := h1.read.claims hk [] (Q := R.map ofR) (fun _ hr => hr)
      have e2 := h1.again.claims (show k < L'.length by rw [h1.len]; exact hk) [] (Q := []) (fun _ hr => by cases hr)
      refine ⟨_, _, e1, e2, fun d hd hf => ?_⟩
      have := h1.alone hk (d := d) (by rw [e1]; exact hd) hf
      rw [e2] at this
      exact this
    clear h1 hf hNd hNd' hS6 hS6' hL120'
    generalize bsL T = bt at *
    go_enter Tryz.func7, Tryz.ntmps7
    go_wp2_with (first
      | (go_at_call 15; refine AL.out.mono ?_; rintro e w1 ⟨rfl, hb1⟩; have HB1 := hid hb1; clear hb1)
      | (go_at_call 16; refine (FA.out w1 (HT.out.ext (Ext.below HB1.out))).mono ?_; rintro e w2 ⟨rfl, hb2⟩; have HB2 := hid (below_trans HB1.out hb2 (Nat.le_refl _)); have HB3 := hid (below_al HB2.out (o := .cells #[.int .i64 0, .int .i64 0] 25)); clear hb2; simp only [faultV])
      | (go_at_call 17; refine (RB.out _ (HT.out.ext (Ext.below HB5.out))).mono ?_; rintro e w6 ⟨⟨lv', rv', rfl, hlv', hrv'⟩, hb6⟩; have HB6 := hid (below_trans HB5.out hb6 (Nat.le_refl _)); obtain ⟨ma, mc, rfl⟩ := nd_form hlv'; obtain ⟨qa, qc, rfl⟩ := rs_form hrv'; have bA := below_al (o := .cells #[.int .i64 0, .int .i64 0] 25) (Below.refl w6.heap.size w6); have HB7 := hid (below_al HB6.out (o := .cells #[.int .i64 0, .int .i64 0] 25)); have HN7 := hid (nds_of (nd_below (nd_below HN5.out hb6) bA)); have HM7 := hid (nds_of (nd_below hlv' bA)); have HR7 := hid (rus_of (rs_keeps (rs_keeps HR5.out hb6) bA)); have HQ7 := hid (rus_of (rs_keeps hrv' bA)); clear hb6 hlv' hrv' bA; simp only [faultV, HLen.out])
      | (go_at_call 17; refine (RA.out _ (HT.out.ext (Ext.below HB3.out))).mono ?_; rintro e w4 ⟨⟨lv, rv, rfl, hlv, hrv⟩, hb4⟩; have HB4 := hid (below_trans HB3.out hb4 (Nat.le_refl _)); have HB5 := hid (below_al HB4.out (o := .cells #[.int .i64 0, .int .i64 0] 25)); obtain ⟨la, lc, rfl⟩ := nd_form hlv; obtain ⟨ra, rc, rfl⟩ := rs_form hrv; have HN5 := hid (nd_below hlv (below_al (o := .cells #[.int .i64 0, .int .i64 0] 25) (Below.refl _ _))); have HR5 := hid (rs_keeps hrv (below_al (o := .cells #[.int .i64 0, .int .i64 0] 25) (Below.refl _ _))); clear hb4 hlv hrv; simp only [faultV]))
    generalize w6.alloc (.cells #[.int .i64 0, .int .i64 0] 25) = w7 at *
    have HT7 := hid (HT.out.ext (Ext.below HB7.out))
    rw [HLen.out] at HM7
    clear HB1 HB2 HB3 HN5 HR5 HB4 HB5 HB6 FA RA RB AL HT
    go_loopg [58] L.length (fun g i wr => ∃ k : Nat, g = L.length - k ∧ k ≤ L.length ∧ i = .int .i64 (k : Int) ∧ Below w7.heap.size w7 wr)
    case atStart => exact ⟨0, rfl, Nat.zero_le _, rfl, Below.refl _ _⟩
    case round =>
      obtain ⟨k, hg, hk, rfl, hB⟩ := hrel
      rename World => wk
      have GK := hid hg
      have HBk := hid hB
      clear hg hB
      by_cases hlk : k < L.length
      · obtain ⟨cs, cs', hc, hc', hal⟩ := HDc.out k hlk
        have xk := Ext.below HBk.out
        have D1 := hid (decl_ok hc wk (HN7.out.ext xk) HSn.out (HR7.out.ext xk) HSr.out (HT7.out.ext xk))
        have D2 := hid (fun w' (hb : Below w7.heap.size w7 w') => decl_ok hc' w' (HM7.out.ext (Ext.below hb)) HSn'.out (rus_nil _) HSr0.out (HT7.out.ext (Ext.below hb)))
        have HAl := hid hal
        have HJ := hid hlk
        clear hc hc' hal xk
        generalize lookOf cs = X at *
        generalize lookOf cs' = Y at *
        go_wp2_with (first
          | (go_at_call 23; refine (D2.out w8 HB8.out).mono ?_; rintro e w9 ⟨⟨ya, yc, rfl, hyd, hyl⟩, hb9⟩; have HB9 := hid (below_trans HB8.out hb9 (Nat.le_refl _)); have HX9 := hid (HX8.out.ext (Ext.below hb9)); have HY9 := hid hyd; clear hb9 hyd)
          | (go_at_call 23; refine D1.out.mono ?_; rintro e w8 ⟨⟨xa, xc, rfl, hxd, hxl⟩, hb8⟩; have HB8 := hid (below_trans HBk.out hb8 (Nat.le_refl _)); have HX8 := hid hxd; clear hb8 hxd))
        clear D1 D2 HX8 HB8
        go_loopg [82] X.length (fun g i wr => ∃ j : Nat, g = X.length - j ∧ j ≤ X.length ∧ i = .int .i64 (j : Int) ∧ Below w9.heap.size w9 wr)
        case atStart => exact ⟨0, rfl, Nat.zero_le _, rfl, Below.refl _ _⟩
        case round =>
          obtain ⟨j, hg, hj, rfl, hB⟩ := hrel
          rename World => wj
          have GK2 := hid hg
          have HBj := hid hB
          clear hg hB
          by_cases hlj : j < X.length
          · obtain ⟨db, dof, rfl, he⟩ := Sl.at (HX9.out.ext (Ext.below HBj.out)) hlj
            obtain ⟨c0, c1, c2⟩ := he.cells
            have HAd := hid (HAl.out X[j] (List.getElem_mem hlj))
            have HJ2 := hid hlj
            clear he
            generalize X[j] = d at *
            have HXd := hid (heap_alloc_new wj (.cells #[.string d.name, .string d.val, .bool d.strong] 60))
            have HB10 := hid (below_al HBj.out (o := .cells #[.string d.name, .string d.val, .bool d.strong] 60))
            go_wp2_with fail
            generalize hPd : wj.heap.size = Pd at *
            generalize wj.alloc (.cells #[.string d.name, .string d.val, .bool d.strong] 60) = wd at *
            clear c0 c1 c2
            go_loopg [18, 88] Y.length (fun g th i wr => ∃ (q : Nat) (tb : Bool), g = Y.length - q ∧ q ≤ Y.length ∧ i = .int .i64 (q : Int) ∧ th = .bool tb ∧ (d ∈ Y.take q → tb = true) ∧ Below wd.heap.size wd wr)
            case atStart => exact ⟨0, false, rfl, Nat.zero_le _, rfl, rfl, (fun h => by simp at h), Below.refl _ _⟩
            case round =>
              obtain ⟨q, tb, hg, hq, rfl, rfl, htb, hB⟩ := hrel
              rename World => wq
              have GK3 := hid hg
              have HBq := hid hB
              have HTb := hid htb
              have hbl := (HBq.out.block _ (lt_heap HXd.out)).trans HXd.out
              have f0 := Sh.cell_of hbl 0
              have f1 := Sh.cell_of hbl 1
              have f2 := Sh.cell_of hbl 2
              clear hg hB htb hbl
              by_cases hlq : q < Y.length
              · obtain ⟨yb, yo, rfl, he⟩ := Sl.at (HY9.out.ext (Ext.below (below_trans HB10.out HBq.out (Nat.le_refl _)))) hlq
                obtain ⟨c0, c1, c2⟩ := he.cells
                have HTn : Hid (∀ c : Bool, (Y[q] = d → c = true) → d ∈ Y.take (q + 1) → (tb || c) = true) := fun c hc hm => by
                  rw [List.take_succ_eq_append_getElem hlq, List.mem_append, List.mem_singleton] at hm
                  rcases hm with hm | hm
                  · rw [HTb.out hm]; rfl
                  · rw [hc hm.symm, Bool.or_true]
                have HJ3 := hid hlq
                clear he
                generalize Y[q] = y at *
                have bx := Ext.below (below_al (o := .cells #[.string y.name, .string y.val, .bool y.strong] 60) (Below.refl wq.heap.size wq))
                have k0 := bx _ _ _ f0
                have k1 := bx _ _ _ f1
                have k2 := bx _ _ _ f2
                clear bx
                cases tb
                all_goals
                  go_wp2_with fail
                  all_goals
                    go_roundg (Y.length - (q + 1))
                    case measure => have := GK3.out; have := HJ3.out; omega
                    case rel => first
                      | exact ⟨q + 1, true, rfl, by have := HJ3.out; omega, by go_num, rfl, fun _ => rfl, below_al HBq.out⟩
                      | exact ⟨q + 1, false, rfl, by have := HJ3.out; omega, by go_num, rfl, fun h => HTn.out false (fun e => by subst e; contradiction) h, below_al HBq.out⟩
              · have hqe : q = Y.length := by omega
                subst hqe
                rw [List.take_length] at HTb
                have HBx := hid (below_trans HB10.out HBq.out (Nat.le_refl _))
                have HXq := hid ((HBq.out.block _ (lt_heap HXd.out)).trans HXd.out)
                clear f0 f1 f2
                go_wp2_with fail
                go_loopg [19, 101] R'.length (fun g fr i wr => ∃ (p : Nat) (fb : Bool), g = R'.length - p ∧ p ≤ R'.length ∧ i = .int .i64 (p : Int) ∧ fr = .bool fb ∧ (fb = true → ∀ r ∈ R'.take p, touchB (L'.map ofN) k (ofR r) (nm d) = false) ∧ Below wq.heap.size wq wr)
                case atStart => exact ⟨0, true, rfl, Nat.zero_le _, rfl, rfl, (fun _ r h => by simp at h), Below.refl _ _⟩
                case round =>
                  obtain ⟨p, fb, hg, hp, rfl, rfl, hfb, hB⟩ := hrel
                  rename World => wp
                  have GK4 := hid hg
                  have HBp := hid hB
                  have HFb := hid hfb
                  have hbl := (HBp.out.block _ (lt_heap HXq.out)).trans HXq.out
                  have f0 := Sh.cell_of hbl 0
                  clear hg hB hfb hbl
                  by_cases hlp : p < R'.length
                  · obtain ⟨rb, ro, rfl, he⟩ := Sl.at (HQ7.out.ext (Ext.below (below_trans HB9.out (below_trans HBx.out HBp.out (Nat.le_refl _)) (Nat.le_refl _)))) (i := p) (by rw [List.length_map]; exact hlp)
                    rw [List.getElem_map] at he
                    obtain ⟨sa, sn, sc, da, dn, dc, c0, c1, c2, c3, c4, hS, hD⟩ := eR.cells he
                    have hmem := List.getElem_mem hlp
                    have hsm := sm_rule (HBd'.out _ hmem)
                    have HTo := hid (fun w' (hb : Below wp.heap.size wp w') => touch_any (.slice ma L.length mc) (L'.map ofN) k (ofR R'[p]) sa da sn sc dn dc d.name w' (HM7.out.ext (Ext.below (below_trans HB9.out (below_trans HBx.out (below_trans HBp.out hb (Nat.le_refl _)) (Nat.le_refl _)) (Nat.le_refl _)))) HSn'.out (hS.ext (Ext.below hb)) hsm.1 (HWf.out _ hmem) (hD.ext (Ext.below hb)) hsm.2 (fun A hA => by
                      have h1 := allB_len hA
                      have h2 : (ofR R'[p]).decls.length = R'[p].decls.length := List.length_map ..
                      have h3 := (HBd'.out _ hmem).decls
                      omega))
                    have HTk := hid (fun q => List.take_succ_eq_append_getElem (i := q) (l := R'))
                    have HFn : Hid (∀ c : Bool, c = touchB (L'.map ofN) k (ofR R'[p]) (nm d) → (fb && !c) = true → ∀ r ∈ R'.take (p + 1), touchB (L'.map ofN) k (ofR r) (nm d) = false) := fun c hc hb r hr => by
                      obtain ⟨b1, b2⟩ := Bool.and_eq_true_iff.1 hb
                      rw [List.take_succ_eq_append_getElem hlp, List.mem_append, List.mem_singleton] at hr
                      rcases hr with hr | hr
                      · exact HFb.out b1 r hr
                      · rw [hr, ← hc]; simpa using b2
                    have HJ4 := hid hlp
                    clear he hS hD hmem hsm HTk
                    generalize R'[p] = r at *
                    have hnm : nm d = d.name.data.toList := rfl
                    rw [← hnm] at HTo
                    have k0 := Ext.below (below_al (o := .cells #[.string (ofR r).media, .slice sa sn sc, .slice da dn dc, .int .i64 (ofR r).rf, .int .i64 (ofR r).rt] 38) (Below.refl wp.heap.size wp)) _ _ _ f0
                    generalize touchB (L'.map ofN) k (ofR r) (nm d) = tc at *
                    cases fb
                    · go_wp2_with fail
                      go_roundg (R'.length - (p + 1))
                      case measure => have := GK4.out; have := HJ4.out; omega
                      case rel => exact ⟨p + 1, false, rfl, by have := HJ4.out; omega, by go_num, rfl, nofun, below_al HBp.out⟩
                    · go_wp2_with (go_at_call 24; refine (HTo.out _ (below_al (Below.refl _ _))).mono ?_; rintro e w12 ⟨rfl, hb12⟩; have HB12 := hid (below_trans (below_al HBp.out) hb12 (Nat.le_refl _)); clear hb12)
                      go_roundg (R'.length - (p + 1))
                      case measure => have := GK4.out; have := HJ4.out; omega
                      case rel => exact ⟨p + 1, !tc, rfl, by have := HJ4.out; omega, by go_num, rfl, (fun h => HFn.out tc rfl h), HB12.out⟩
                  · have hpe : p = R'.length := by omega
                    subst hpe
                    rw [List.take_length] at HFb
                    have HBz := hid (below_trans HBx.out HBp.out (Nat.le_refl _))
                    cases fb
                    · go_wp2_with fail
                      go_roundg (X.length - (j + 1))
                      case measure => have := GK2.out; have := HJ2.out; omega
                      case rel => exact ⟨j + 1, rfl, by have := HJ2.out; omega, by go_num, HBz.out⟩
                    · obtain rfl : tb = true := HTb.out (HAd.out (HFb.out rfl))
                      go_wp2_with fail
                      go_roundg (X.length - (j + 1))
                      case measure => have := GK2.out; have := HJ2.out; omega
                      case rel => exact ⟨j + 1, rfl, by have := HJ2.out; omega, by go_num, HBz.out⟩
          · go_wp2_with fail
            go_roundg (L.length - (k + 1))
            case measure => have := GK.out; have := HJ.out; omega
            case rel => exact ⟨k + 1, rfl, by have := HJ.out; omega, by go_num, below_trans HB9.out HBj.out (Nat.le_refl _)⟩
      · go_wp2_with fail
        go_ret
        exact ⟨rfl, below_trans HB7.out HBk.out (Nat.le_refl _)⟩
end Go.Proofs.YtblkldfokeeaeacGreatDoor
