/- Texts that the statement's proof stands on: FI, FJ, FK. -/
import Derived.Test.YtblkldfokeeaeacGreatDoorA30
import Derived.Test.YtblkldfokeeaeacGreatDoorA09
import Derived.Shelf.SlSortCmp.WholeK
namespace Go.Proofs.YtblkldfokeeaeacGreatDoor
open Go.RowKit Go.Maps
def EdAns (w : World) (base : Nat) (e : Ending) (L : List Sh.Nd) (R : List Sh.Rl) : Prop := match manyAt L R with
  | some p => e = .returned (.tuple #[.slice none 0 0, faultV (5, p)])
  | none => ∃ v, e = .returned (.tuple #[v, faultV (0, 0)]) ∧ w.ownsRow base 113 3 v (madeEds L R).length ((madeEds L R).flatMap encE)
theorem nameA_bd {r : Sh.Rl} (h : RlBd r) (hd : ∀ d ∈ r.decls, Sh.DclOK d) : (namesA (ofR r)).length ≤ 1048576 ∧ ∀ k ∈ namesA (ofR r), k.size ≤ 1048576 := by
  unfold namesA
  cases ha : allB (ofR r).decls with
  | none => simp
  | some A =>
    have h1 := allB_len ha
    have h2 : (ofR r).decls.length = r.decls.length := List.length_map ..
    have h3 := h.decls
    refine ⟨by rw [List.length_map]; show A.length ≤ _; omega, fun k hk => ?_⟩
    obtain ⟨x, hx, rfl⟩ := List.mem_map.1 hk
    have := (dcl_bd (Sh.all_ok (fun e he => by
      obtain ⟨y, hy, rfl⟩ := List.mem_map.1 he
      rw [Sh.toL_ofL]
      exact hd y hy) ha x hx)).1
    have e : (Sh.toL x).name.length = x.name.size := by show x.name.data.toList.length = x.name.data.size; exact Array.length_toList
    omega
theorem goes_sm {L : List Sh.Nd} {R : List Sh.Rl} (h60 : R.length ≤ 60) (h : ∀ r ∈ R, RlBd r) : SmRs (goesB (L.map ofN) (R.map ofR)) := by
  unfold goesB
  rw [List.filter_map]
  refine sm_rules ?_ fun r hr => h r (List.mem_filter.1 hr).1
  have := List.length_filter_le ((fun r => !stayB (L.map ofN) (R.map ofR) r) ∘ ofR) R
  omega
theorem bs_nil (w : World) : BsAt w (.slice none 0 0) [] := ⟨none, 0, rfl, fun _ => rfl, fun i hi => absurd hi (by simp)⟩
theorem six_of {w' : World} {P : Nat} {nn : ByteArray} {av : Value} {p a b c : Int} (h : w'.heap[P]? = some (.cells #[.string nn, .int .i64 p, av, .int .i64 a, .int .i64 b, .int .i64 c] 49)) : w'.cell? ⟨P, 0, none⟩ = some (.string nn) ∧ w'.cell? ⟨P, 1, none⟩ = some (.int .i64 p) ∧ w'.cell? ⟨P, 2, none⟩ = some av ∧ w'.cell? ⟨P, 3, none⟩ = some (.int .i64 a) ∧ w'.cell? ⟨P, 4, none⟩ = some (.int .i64 b) ∧ w'.cell? ⟨P, 5, none⟩ = some (.int .i64 c) :=
  ⟨Sh.cell_of h 0, Sh.cell_of h 1, Sh.cell_of h 2, Sh.cell_of h 3, Sh.cell_of h 4, Sh.cell_of h 5⟩
theorem plain_sz {d : Dc} (h : Plain d) : d.name.size ≤ 20 ∧ d.val.size ≤ 60 := by
  have h1 := dcl_bd h.ok
  have e1 : (Sh.toL d).name.length = d.name.size := by show d.name.data.toList.length = d.name.data.size; exact Array.length_toList
  have e2 : (Sh.toL d).val.length = d.val.size := by show d.val.data.toList.length = d.val.data.size; exact Array.length_toList
  omega
theorem printD_len {D : List Dc} (h : ∀ d ∈ D, Plain d) (hl : D.length ≤ 20) : (printD D).length ≤ 1048576 := by
  unfold printD
  have := Sh.printL_len (D.map Sh.toL) 200 (fun d hd => by
    obtain ⟨x, hx, rfl⟩ := List.mem_map.1 hd
    have h1 := dcl_bd (h x hx).ok
    have h2 := Sh.printOne_len (Sh.toL x)
    omega)
  rw [List.length_map] at this
  omega
theorem many_few {n : Sh.Nd} {D : List Dc} (h : tooMany n D = false) : D.length ≤ 20 := by
  unfold tooMany at h
  simp at h
  omega
theorem ed_done {w0 w X w' : World} {Gb P : Nat} {flags : List Bool} {gv ev ev' : Value} {G : List Ru} {E E' : List Sh.Ed} {cs : Array Value} (h : EdW w0 w Gb flags gv ev G E) (hx : w.heap[P]? = some (.cells cs 49)) (hg : X.grownBy w' ev.ownBlock) (ho : w'.ownsRow w0.heap.size 113 3 ev' (E.length + E'.length) (E.flatMap encE ++ E'.flatMap encE)) (hb : Below w.heap.size w X) : EdW w0 w' Gb flags gv ev' G (E ++ E') ∧ w'.heap[P]? = some (.cells cs 49) := by
  have hX := h.below hb
  have e := (hb.block P (lt_heap hx)).trans hx
  exact ⟨hX.grownE hg ho, (grown_keeps hX.ed hg P cs 49 _ (by decide) e).trans e⟩
set_option maxRecDepth 100000 in
set_option maxHeartbeats 16000000 in
theorem allEdits_any {S : Bs} {L : List Sh.Nd} {R : List Sh.Rl} (h : Rd S L R) (lv rv : Value) (w : World) (hl : NdsAt w lv (L.map ofN)) (hr : RusAt w rv (R.map ofR)) (hT : Tab w) :
    Calls Tryz.prog 31 #[lv, rv] w fun e w' => EdAns w' w.heap.size e L R ∧ Below w.heap.size w w' := by
  obtain ⟨la, lc, rfl⟩ := Sl.form hl
  obtain ⟨ra, rc, rfl⟩ := Sl.form hr
  obtain ⟨hL120, hS6, hNd⟩ := page_bd h.page
  have hR60 := h.few
  have HD := hid h
  have HL := hid hl
  have HR := hid hr
  have HT := hid hT
  have HBd := hid h.bd
  have HNd := hid hNd
  have HSn := hid (sm_nodes hL120 (fun n hn => ndBd_mono (hNd n hn) hS6))
  have HLl : Hid ((L.map ofN).length = L.length) := List.length_map ..
  have HRl : Hid ((R.map ofR).length = R.length) := List.length_map ..
  have b1 := (Below.refl w.heap.size w).alloc (Nat.le_refl _) (.cells #[.int .i64 0, .int .i64 0] 25)
  have HB1 := hid b1
  have HF1 := hid (FaB.new w 0 0)
  have ST := hid (stays_any _ _ (L.map ofN) (R.map ofR) _ (hl.ext (Ext.below b1)) HSn.out (hT.ext (Ext.below b1)) (hr.ext (Ext.below b1)) (fun r hr => by
    obtain ⟨x, hx, rfl⟩ := List.mem_map.1 hr
    exact sm_rule (h.bd x hx)) h.decls (by rw [HRl.out]; omega) (fun r hr => by
    obtain ⟨x, hx, rfl⟩ := List.mem_map.1 hr
    exact nameA_bd (h.bd x hx) (h.rlOk x hx).dcl))
  clear h hl hr hT hNd b1
  rw [HLl.out, HRl.out] at ST
  rw [HLl.out, HRl.out]
  go_enter Tryz.func31, Tryz.ntmps31
  go_wp2_with (go_at_call 21; refine ST.out.mono ?_; rintro e w2 ⟨Gb, rfl, hG, hGb, hb2⟩; have HE0 : Hid (EdW w w2 Gb ((R.map ofR).map (stayB (L.map ofN) (R.map ofR))) (.slice none 0 0) (.slice none 0 0) [] []) := ⟨GoIn.nil _ _ _, World.ownsRow_nil _ _ _ _, hG, HF1.out.below hb2, below_trans HB1.out hb2 (Nat.le_refl _)⟩; clear hG hb2)
  have HFl : Hid (((R.map ofR).map (stayB (L.map ofN) (R.map ofR))).length = R.length) := by show _ = _; rw [List.length_map, HRl.out]
  have HFa : Hid (∀ (j : Nat) (hj : j < R.length), (bsV ((R.map ofR).map (stayB (L.map ofN) (R.map ofR))))[j]? = some (.bool (stayB (L.map ofN) (R.map ofR) (ofR R[j])))) := fun j hj => by
    rw [bsV_at (by rw [HFl.out]; exact hj)]
    simp
  generalize (R.map ofR).map (stayB (L.map ofN) (R.map ofR)) = flags at *
  go_loopg [6, 7, 18] R.length (fun g ev gv i wr => ∃ j : Nat, g = R.length - j ∧ j ≤ R.length ∧ i = .int .i64 (j : Int) ∧ EdW w wr Gb flags gv ev (goTo L R j) (edTo L R j))
  case atStart => exact ⟨0, rfl, Nat.zero_le _, rfl, by simpa [goTo, edTo] using HE0.out⟩
  case round =>
    obtain ⟨j, hg, hj, rfl, hE⟩ := hrel
    rename World => wo
    have GK := hid hg
    have HE := hid hE
    obtain ⟨ga, gc, rfl⟩ := hE.go.form
    obtain ⟨ea, ec, rfl⟩ := own_form hE.ed
    clear hg hE HE0
    have hgl := (goTo_len (L := L) (R := R) j).1
    have hel := (goTo_len (L := L) (R := R) j).2
    by_cases hlt : j < R.length
    · have cF : ∀ bb, stayB (L.map ofN) (R.map ofR) (ofR R[j]) = bb → wo.cell? ⟨Gb, j, none⟩ = some (.bool bb) := fun bb hbb => (Sh.cell_of HE.out.fl j).trans ((HFa.out j hlt).trans (by rw [hbb]))
      obtain ⟨b, off, rfl, he⟩ := Sl.at HR.out (i := j) (by rw [HRl.out]; exact hlt)
      rw [List.getElem_map] at he
      obtain ⟨sa, sn, sc, da, dn, dc, c0, c1, c2, c3, c4, hS, hD⟩ := eR.cells he
      have HC := hid (And.intro c0 (And.intro c1 (And.intro c2 (And.intro c3 c4))))
      have x := Ext.below HE.out.b
      have d0 := x _ _ _ c0
      have d1 := x _ _ _ c1
      have d2 := x _ _ _ c2
      have d3 := x _ _ _ c3
      have d4 := x _ _ _ c4
      have HSD := hid (And.intro hS hD)
      have HJ := hid hlt
      clear he c0 c1 c2 c3 c4 hS hD x
      cases hst : stayB (L.map ofN) (R.map ofR) (ofR R[j])
      · replace cF := cF _ hst
        have HNx := hid (goTo_go hlt hst)
        obtain ⟨VS, hv1, hv2, hv3⟩ := HE.out.go
        have HV1 := hid hv1
        have HV3 := hid hv3
        have e1 : Below wo.heap.size wo (wo.alloc (.cells #[.string (ofR R[j]).media, .slice sa sn sc, .slice da dn dc, .int .i64 (ofR R[j]).rf, .int .i64 (ofR R[j]).rt] 38)) := (Below.refl _ _).alloc (Nat.le_refl _) _
        have HE1 := hid (HE.out.below e1)
        have HO1 := hid (own_ext hv2 e1)
        have HS1 : Hid (Src (wo.alloc (.cells #[.string (ofR R[j]).media, .slice sa sn sc, .slice da dn dc, .int .i64 (ofR R[j]).rf, .int .i64 (ofR R[j]).rt] 38)) (.slice (some ⟨wo.heap.size, 0, none⟩) 1 1) 1 (encG (ofR R[j], (.slice sa sn sc, .slice da dn dc)))) := .inr ⟨_, 1, rfl, World.news_of_block (heap_alloc_new wo _)⟩
        have hone := hid (one_g (ofR R[j]).media sa da sn sc dn dc (ofR R[j]).rf (ofR R[j]).rt)
        clear hv1 hv2 hv3 e1 hst
        have hrf : (ofR R[j]).rf = (R[j].from_ : Int) := rfl
        have hrt : (ofR R[j]).rt = (R[j].to_ : Int) := rfl
        rw [hrf, hrt] at *
        generalize R[j] = r at *
        generalize hgt : goTo L R j = gt at *
        generalize het : edTo L R j = et at *
        go_wp2_with (first
          | (at_builtin; refine wpList_app rfl (.tmp 25) (.tmp 30) 29 rfl w.heap.size 38 _ 5 80 Tryz.underlying29 Tryz.infoRl rfl (by decide) (.slice ga gt.length gc) gt.length (VS.flatMap encG) rfl HO1.out _ 1 (encG (ofR r, (.slice sa sn sc, .slice da dn dc))) rfl HS1.out rfl hone.out (by unfold maxLen; omega) (by omega) HE1.out.b.size ?_; intro v5 w5 hv5 hg5; have HE5 := hid (HE1.out.grownG HV1.out HO1.out HV3.out HSD.out hg5 hv5); have k3 := Ext.below HE5.out.b _ _ _ HC.out.2.2.2.1; have k4 := Ext.below HE5.out.b _ _ _ HC.out.2.2.2.2; obtain ⟨ga', gc', rfl⟩ := HE5.out.go.form; clear hv5 hg5)
          | (at_builtin; refine wpList_app rfl (.tmp 32) (.tmp 39) 73 rfl w.heap.size 113 _ 3 32 Tryz.underlying73 Tryz.infoEd rfl (by decide) (.slice ea et.length ec) et.length (et.flatMap encE) rfl (HE5.out.below (below_al (Below.refl _ _))).ed _ 1 (encE (r.from_, r.to_, [32])) rfl (src_ed' rfl rfl) rfl (one_ed _) (by unfold maxLen; omega) (by omega) (HE5.out.below (below_al (Below.refl _ _))).b.size ?_; intro v7 w7 hv7 hg7; have HE7 := hid ((HE5.out.below (below_al (Below.refl _ _))).grownE (E' := [(r.from_, r.to_, [32])]) hg7 (by simpa using hv7)); clear hv7 hg7))
        go_roundg (R.length - (j + 1))
        case measure => have := GK.out; have := HJ.out; omega
        case rel => exact ⟨j + 1, rfl, by have := HJ.out; omega, by go_num, by have t := HE7.out; rw [show (gt ++ [ofR r]).length = gt.length + 1 by simp] at t; rw [HNx.out.1, HNx.out.2]; exact t⟩
      · replace cF := cF _ hst
        have HNx := hid (goTo_stay hlt hst)
        clear hst
        go_wp2_with fail
        go_roundg (R.length - (j + 1))
        case measure => have := GK.out; have := HJ.out; omega
        case rel => exact ⟨j + 1, rfl, by have := HJ.out; omega, by go_num, by rw [HNx.out.1, HNx.out.2]; exact HE.out⟩
    · have hjl : j = R.length := by omega
      subst hjl
      have HE2 : Hid (EdW w wo Gb flags (.slice ga (goTo L R R.length).length gc) (.slice ea (edTo L R R.length).length ec) (goesB (L.map ofN) (R.map ofR)) (reTo L R 0)) := by
        show EdW _ _ _ _ _ _ _ _
        rw [reTo_zero, ← goTo_all.1, ← goTo_all.2]
        exact HE.out
      have hgl2 : (goTo L R R.length).length = (goesB (L.map ofN) (R.map ofR)).length := by rw [goTo_all.1]
      rw [hgl2] at HE2 ⊢
      have HSr := hid (goes_sm (HD.out.few) HBd.out (L := L))
      clear HE hgl hel hgl2
      clear hj
      generalize hgg : (edTo L R R.length).length = en at *
      clear hgg
      go_wp2_with fail
      go_loopg [6, 44] L.length (fun g ev i wr => ∃ k : Nat, g = L.length - k ∧ k ≤ L.length ∧ i = .int .i64 (k : Int) ∧ manyAt L R = manyFrom L R k ∧ EdW w wr Gb flags (.slice ga (goesB (L.map ofN) (R.map ofR)).length gc) ev (goesB (L.map ofN) (R.map ofR)) (reTo L R k))
      case atStart => exact ⟨0, rfl, Nat.zero_le _, rfl, many_zero.symm, HE2.out⟩
      case round =>
        obtain ⟨k, hg, hk, rfl, hmy, hE⟩ := hrel
        rename World => wk
        have GK2 := hid hg
        have HE3 := hid hE
        have HMy := hid hmy
        obtain ⟨ka, kc, rfl⟩ := own_form hE.ed
        clear hg hE hmy HE2
        have hrl := reTo_len (L := L) (R := R) k
        have y0 := HE3.out.fa.cell0
        have y1 := HE3.out.fa.cell1
        have z0 := HE3.out.fa.fz 0
        have z1 := HE3.out.fa.fz 1
        by_cases hlt2 : k < L.length
        · obtain ⟨b, off, rfl, he⟩ := Sl.at (HL.out.ext (Ext.below HE3.out.b)) (i := k) (by rw [HLl.out]; exact hlt2)
          rw [List.getElem_map] at he
          obtain ⟨aa, ac, c0, c1, c2, c3, c4, c5, hA⟩ := nd_cells he
          have hbd := HNd.out L[k] (List.getElem_mem hlt2)
          have HFw := hid hbd.few
          have e1 : Below wk.heap.size wk (wk.alloc (.cells #[.string (bsL L[k].name), .int .i64 L[k].parent, .slice aa L[k].attrs.length ac, .int .i64 L[k].nameEnd, .int .i64 L[k].inFrom, .int .i64 L[k].inTo] 49)) := (Below.refl _ _).alloc (Nat.le_refl _) _
          have HX := hid (heap_alloc_new wk (.cells #[.string (bsL L[k].name), .int .i64 L[k].parent, .slice aa L[k].attrs.length ac, .int .i64 L[k].nameEnd, .int .i64 L[k].inFrom, .int .i64 L[k].inTo] 49))
          have HE4 := hid (HE3.out.below e1)
          have HA4 := hid (hA.ext (Ext.below e1))
          have x4 := Ext.below HE4.out.b
          have DA := declared_any (l := L.map ofN) (rules := goesB (L.map ofN) (R.map ofR)) (media := []) (mv := .slice none 0 0) (k : Int) _ (HL.out.ext x4) HSn.out (HE4.out.go.rus x4) HSr.out (bs_nil _) (by simp) (HT.out.ext x4)
          rw [sty_eq, HD.out.claims hlt2 [] goes_sub] at DA
          simp only [AnsD] at DA
          rw [HLl.out] at DA
          have HDA := hid DA
          have HLk : Hid (∀ D, IsLook D (lookF ((goesB (L.map ofN) (R.map ofR)).flatMap (ruCl (L.map ofN) k []) ++ asC true w00 (ownD L[k]))) → D = lookAt (L.map ofN) (R.map ofR) k) := fun D hD => by rw [look_eq hD, HD.out.look hlt2]
          have HPl := hid (HD.out.plain k)
          have HMs := hid (many_step (R := R) hlt2)
          have HRt := hid (reTo_next (R := R) hlt2)
          have HNV : Hid (newV (L.map ofN) (R.map ofR) k = printD (lookAt (L.map ofN) (R.map ofR) k)) := rfl
          have HJ := hid hlt2
          clear he hA hbd e1 x4 DA
          generalize L[k] = n at *
          generalize lookAt (L.map ofN) (R.map ofR) k = D at *
          generalize newV (L.map ofN) (R.map ofR) k = NV at *
          have TM := hid (fun w' da dc hA hD => tooMany_any n aa da ac dc D w' hA HFw.out hD)
          have RS := hid (fun w' hA hV => restyle_any n aa ac NV w' hA HFw.out hV)
          generalize hnn : bsL n.name = nn at *
          generalize reTo L R k = rt at *
          cases htm : tooMany n D
          · have HMs2 : Hid (manyFrom L R k = manyFrom L R (k + 1)) := by have := HMs.out; rw [htm] at this; exact this
            have hD20 := many_few htm
            go_upto_region 16 with (first
              | (go_at_call 23; refine HDA.out.mono ?_; rintro e w2 ⟨⟨da, dc, D', rfl, hds, hik, hdl⟩, hb2⟩; have hDD := HLk.out D' hik; subst hDD; have HDs := hid hds; have HE5 := hid (HE4.out.below hb2); have HA5 := hid (HA4.out.ext (Ext.below hb2)); have HX5 := hid ((hb2.block _ (lt_heap HX.out)).trans HX.out); obtain ⟨g0, g1, g2, g3, g4, g5⟩ := six_of HX5.out; have HDl := hid hdl; clear hds hik hb2 hdl)
              | (go_at_call 52; refine (TM.out w2 _ _ HA5.out HDl.out).mono ?_; rintro e w3 ⟨rfl, hb3⟩; have HE6 := hid (HE5.out.below hb3); have HA6 := hid (HA5.out.ext (Ext.below hb3)); have HX6 := hid ((hb3.block _ (lt_heap HX5.out)).trans HX5.out); have HDs6 := hid (HDs.out.ext (Ext.below hb3)); have six6 := six_of HX6.out; clear hb3; rw [htm]))
            have MS : ∀ {w' : World}, Below w3.heap.size w3 w' → w'.cell? ⟨wk.heap.size, 0, none⟩ = some (.string nn) ∧ w'.cell? ⟨wk.heap.size, 1, none⟩ = some (.int .i64 n.parent) ∧ w'.cell? ⟨wk.heap.size, 2, none⟩ = some (.slice aa n.attrs.length ac) ∧ w'.cell? ⟨wk.heap.size, 3, none⟩ = some (.int .i64 n.nameEnd) ∧ w'.cell? ⟨wk.heap.size, 4, none⟩ = some (.int .i64 n.inFrom) ∧ w'.cell? ⟨wk.heap.size, 5, none⟩ = some (.int .i64 n.inTo) := fun hb => six_of ((hb.block _ (lt_heap HX6.out)).trans HX6.out)
            have HD20 := hid hD20
            clear c0 c1 c2 c3 c4 c5 g0 g1 g2 g3 g4 g5 y0 y1 z0 z1
            go_region_held3 (fun w' => w'.cell? ⟨wk.heap.size, 0, none⟩ = some (.string nn) ∧ w'.cell? ⟨wk.heap.size, 1, none⟩ = some (.int .i64 n.parent) ∧ w'.cell? ⟨wk.heap.size, 2, none⟩ = some (.slice aa n.attrs.length ac) ∧ w'.cell? ⟨wk.heap.size, 3, none⟩ = some (.int .i64 n.nameEnd) ∧ w'.cell? ⟨wk.heap.size, 4, none⟩ = some (.int .i64 n.inFrom) ∧ w'.cell? ⟨wk.heap.size, 5, none⟩ = some (.int .i64 n.inTo)) (first | assumption | (with_reducible refine MS ?_; repeat' (with_reducible first | refine below_al ?_ | refine below_dr ?_ | exact HB5.out | exact HB4.out | exact Below.refl _ _))) (first
              | (go_at_call 54; refine have_of (?_ : Below w3.heap.size w3 _) (fun hb0 => (printed_any _ D' _ (HDs6.out.ext (Ext.below hb0)) (by omega) (fun d hd => by have := plain_sz (HPl.out d hd); omega)).mono ?_); (· repeat' (with_reducible first | refine below_al ?_ | refine below_dr ?_ | exact Below.refl _ _)); rintro e w4 ⟨rfl, hb4⟩; rw [← HNV.out]; have HB4 := hid (below_trans hb0 hb4 (Nat.le_refl _)); clear hb4)
              | (go_at_call 53; refine have_of (?_ : Below w4.heap.size w4 _) (fun hb0 => have_of (below_trans HB4.out hb0 (Nat.le_refl _)) fun hb1 => (RS.out _ (HA6.out.ext (Ext.below hb1)) (by rw [HNV.out]; exact printD_len HPl.out HD20.out)).mono ?_); (· repeat' (with_reducible first | refine below_al ?_ | refine below_dr ?_ | exact Below.refl _ _)); rintro e w5 ⟨sv, rfl, hsv, hb5⟩; have HB5 := hid (below_trans hb1 hb5 (Nat.le_refl _)); have HSv := hid hsv; clear hb5 hsv)
              | (refine step_app (by rfl) (.tmp 62) (.tmp 66) 73 rfl w.heap.size 113 _ 3 32 Tryz.underlying73 Tryz.infoEd rfl (by decide) (.slice ka rt.length kc) rt.length (rt.flatMap encE) (by rfl) (own_ext HE6.out.ed (below_trans HB5.out (by repeat' (with_reducible first | refine below_al ?_ | refine below_dr ?_ | exact Below.refl _ _)) (Nat.le_refl _))) sv (restyleB n NV).length ((restyleB n NV).flatMap encE) (by rfl) (HSv.out.ext (Ext.below (by repeat' (with_reducible first | refine below_al ?_ | refine below_dr ?_ | exact Below.refl _ _)))) (eds_len _) (one_eds _) (by have := restyle_len n NV; unfold maxLen; omega) (by have := restyle_len n NV; omega) (Nat.le_trans HE6.out.b.size (below_trans HB5.out (by repeat' (with_reducible first | refine below_al ?_ | refine below_dr ?_ | exact Below.refl _ _)) (Nat.le_refl _)).size) ?_; intro v7 w7 hv7 hg7; have hdn := ed_done HE6.out HX6.out hg7 hv7 (below_trans HB5.out (by repeat' (with_reducible first | refine below_al ?_ | refine below_dr ?_ | exact Below.refl _ _)) (Nat.le_refl _)); have HE7 := hid hdn.1; have hS7 := six_of hdn.2; clear hv7 hg7 hdn))
            all_goals
              go_wp2_with fail
              go_roundg (L.length - (k + 1))
              case measure => have := GK2.out; have := HJ.out; omega
              case rel => exact ⟨k + 1, rfl, by have := HJ.out; omega, by go_num, by rw [HMy.out, HMs2.out], by rw [HRt.out]; exact HE7.out⟩
          · have HMs2 : Hid (manyAt L R = some n.nameEnd) := by have := HMs.out; rw [htm] at this; show _ = _; rw [HMy.out, this]; rfl
            go_upto_region 15 with (first
              | (go_at_call 23; refine HDA.out.mono ?_; rintro e w2 ⟨⟨da, dc, D', rfl, hds, hik, hdl⟩, hb2⟩; have hDD := HLk.out D' hik; subst hDD; have HE5 := hid (HE4.out.below hb2); have HA5 := hid (HA4.out.ext (Ext.below hb2)); have HX5 := hid ((hb2.block _ (lt_heap HX.out)).trans HX.out); obtain ⟨g0, g1, g2, g3, g4, g5⟩ := six_of HX5.out; have HDl := hid hdl; clear hds hik hb2 hdl)
              | (go_at_call 52; refine (TM.out w2 _ _ HA5.out HDl.out).mono ?_; rintro e w3 ⟨rfl, hb3⟩; have HE6 := hid (HE5.out.below hb3); have HX6 := hid ((hb3.block _ (lt_heap HX5.out)).trans HX5.out); have six6 := six_of HX6.out; clear hb3; rw [htm]))
            obtain ⟨l0, l1, l2, l3, l4, l5⟩ := six6
            have t0 := HE6.out.fa.fz 0
            have t1 := HE6.out.fa.fz 1
            have v0 := HE6.out.fa.cell0
            have v1 := HE6.out.fa.cell1
            clear c0 c1 c2 c3 c4 c5 g0 g1 g2 g3 g4 g5 y0 y1 z0 z1
            go_region
            all_goals go_wp2_with fail
            all_goals
              have FS := HE6.out.fa.set 5 n.nameEnd
              have q0 := FS.cell0
              have q1 := FS.cell1
              refine bodyPost_ret (v := .tuple #[.slice none 0 0, faultV (5, n.nameEnd)]) (by simp [results, Tryz.results31, go_sem, q0, q1, faultV]) rfl ?_
              exact ⟨by unfold EdAns; rw [HMs2.out], ((HE6.out.b.setCell (Nat.le_refl _) _).setCell (Nat.le_refl _) _).drew⟩
        · have hkl : k = L.length := by omega
          subst hkl
          have HM2 : Hid (manyAt L R = none) := by show _ = _; rw [HMy.out, many_end]
          have HE8 := hid HE3.out
          go_wp2_with fail
          have FS := HE8.out.fa.set 0 0
          have q0 := FS.cell0
          have q1 := FS.cell1
          refine bodyPost_ret (v := .tuple #[.slice ka (reTo L R L.length).length kc, faultV (0, 0)]) (by simp [results, Tryz.results31, go_sem, q0, q1, faultV]) rfl ?_
          have k1 : Sh.Keeps (· ≠ 25) wk (wk.setCell ⟨w.heap.size, 0, none⟩ (.int .i64 0)) := Sh.Keeps.set (a := ⟨w.heap.size, 0, none⟩) HE8.out.fa (by decide) _
          have h2 := Sh.heap_set HE8.out.fa 0 (.int .i64 0)
          have k2 : Sh.Keeps (· ≠ 25) (wk.setCell ⟨w.heap.size, 0, none⟩ (.int .i64 0)) ((wk.setCell ⟨w.heap.size, 0, none⟩ (.int .i64 0)).setCell ⟨w.heap.size, 1, none⟩ (.int .i64 0)) := Sh.Keeps.set (a := ⟨w.heap.size, 1, none⟩) h2 (by decide) _
          refine ⟨?_, ((HE8.out.b.setCell (Nat.le_refl _) _).setCell (Nat.le_refl _) _)⟩
          unfold EdAns
          rw [HM2.out]
          exact ⟨_, rfl, by rw [← reTo_all]; exact Sh.own_keeps HE8.out.ed (k1.trans k2) (by decide)⟩
end Go.Proofs.YtblkldfokeeaeacGreatDoor
namespace Go.Proofs.YtblkldfokeeaeacGreatDoor
open Go.RowKit Go.Maps Go.Shelf Go.Sort
theorem isNaN_any (x : Int) (w : World) : Calls Tryz.prog 90 #[.int .i64 x] w fun e w' => e = .returned (.bool false) ∧ w' = w := by
  go_enter Tryz.func90, Tryz.ntmps90
  go_wp2
  go_ret
  simp
set_option maxHeartbeats 1000000 in
theorem compareI_any (x y : Int) (w : World) : Calls Tryz.prog 57 #[.int .i64 x, .int .i64 y] w fun e w' => e = .returned (.int .i64 (Lib.compareInt x y)) ∧ w' = w := by
  go_enter Tryz.func57, Tryz.ntmps57
  by_cases h1 : x < y
  · go_wp2_with (go_at_call 90; refine (isNaN_any _ _).mono ?_; rintro e w' ⟨rfl, rfl⟩)
    all_goals (go_ret; exact ⟨by simp [Lib.compareInt, h1], rfl⟩)
  · by_cases h2 : y < x
    · go_wp2_with (go_at_call 90; refine (isNaN_any _ _).mono ?_; rintro e w' ⟨rfl, rfl⟩)
      all_goals (go_ret; exact ⟨by simp [Lib.compareInt, h1, h2], rfl⟩)
    · go_wp2_with (go_at_call 90; refine (isNaN_any _ _).mono ?_; rintro e w' ⟨rfl, rfl⟩)
      all_goals (go_ret; exact ⟨by unfold Lib.compareInt; rw [if_neg (by omega), if_neg (by omega)]; rfl, rfl⟩)
def cmpE (x y : Sh.Ed) : Int := Lib.compareInt (x.1 : Int) (y.1 : Int)
set_option maxHeartbeats 1000000 in
theorem closure56 (x y : Sh.Ed) (W : World) : Calls Tryz.prog 56 #[.agg (encE x).toArray, .agg (encE y).toArray] W fun e w' => e = .returned (.int .i64 (cmpE x y)) ∧ ∃ q os', w' = Sort.grow (W.drewN q) os' := by
  have hcon := fun W' => compareI_any (x.1 : Int) (y.1 : Int) W'
  show Calls Tryz.prog 56 #[.agg #[.int .i64 (x.1 : Int), .int .i64 (x.2.1 : Int), .string (bsL x.2.2)], .agg #[.int .i64 (y.1 : Int), .int .i64 (y.2.1 : Int), .string (bsL y.2.2)]] W _
  unfold cmpE
  generalize Lib.compareInt (x.1 : Int) (y.1 : Int) = r at hcon ⊢
  go_enter Tryz.func56, Tryz.ntmps56
  go_wp2_with (go_at_call 57; refine (hcon _).mono ?_; rintro e w' ⟨rfl, rfl⟩)
  go_ret
  exact ⟨rfl, 0, _, by rw [Sort.alloc_eq_grow, Sort.alloc_eq_grow, Sort.grow_grow]; rfl⟩
theorem ltE (x y : Sh.Ed) : ltOf cmpE x y = decide (x.1 < y.1) := by
  unfold ltOf cmpE Lib.compareInt
  by_cases h1 : x.1 < y.1
  · simp [h1]
  · by_cases h2 : y.1 < x.1 <;> simp [h1, h2]
theorem swoE : Sort.SWO (ltOf cmpE) where
  irrefl x := by rw [ltE]; simp
  trans x y z h1 h2 := by rw [ltE] at *; simp at *; omega
  ntrans x y z h1 h2 := by rw [ltE] at *; simp at *; omega
theorem isAgg_ed (w : World) : (isAgg 113).run Tryz.prog w = .ok true w := by kernel_rfl
theorem sizeOf_ed (w : World) : (Go.sizeOf 113).run Tryz.prog w = .ok 3 w := by kernel_rfl
theorem lays56 (blk off size : Nat) (w : World) : CmpLays Tryz.prog 56 #[] encE 3 cmpE blk off size w := fun _ _ _ _ x y => closure56 x y _
theorem flat_getD {E : List Sh.Ed} : ∀ {j : Nat}, j < E.length * 3 → (flatK encE 3 E.toArray)[j]! = (E.flatMap encE)[j]! := fun {j} hj => by
  rw [get_flatK _ _ _ _ (by simpa using hj)]
  induction E generalizing j with
  | nil => simp at hj
  | cons e E ih =>
    rw [List.flatMap_cons]
    by_cases h3 : j < 3
    · have e1 : j / 3 = 0 := by omega
      have e2 : j % 3 = j := by omega
      rw [e1, e2]
      have : j < (encE e).length := h3
      simp [List.getElem?_append_left, getElem!_def, this]
    · obtain ⟨i, rfl⟩ : ∃ i, j = i + 3 := ⟨j - 3, by omega⟩
      have hi : i < E.length * 3 := by simp at hj; omega
      have e1 : (i + 3) / 3 = i / 3 + 1 := by omega
      have e2 : (i + 3) % 3 = i % 3 := by omega
      rw [e1, e2]
      have := ih hi
      have h4 : ¬ i + 3 < (encE e).length := by show ¬ i + 3 < 3; omega
      simp only [getElem!_def, List.getElem?_append, h4, if_false]
      have h5 : i + 3 - (encE e).length = i := by show i + 3 - 3 = i; omega
      rw [h5]
      simpa [getElem!_def] using this
theorem own_holds {w : World} {base g cap : Nat} {E : List Sh.Ed} (h : w.ownsRow base 113 3 (.slice (some ⟨g, 0, none⟩) E.length cap) E.length (E.flatMap encE)) : HoldsK encE 3 w g 0 E.toArray := by
  rcases h.2 with ⟨h1, _⟩ | ⟨g', cap', cur, h1, h2, h3, h4, h5, h6, h7⟩
  · cases h1
  · injection h1 with h1 _ h1c
    injection h1 with h1
    injection h1 with h1
    subst h1 h1c
    intro j hj
    have hj' : j < E.length * 3 := by simpa using hj
    have hjc : j < cur.size := by rw [h6]; exact Nat.lt_of_lt_of_le hj' (Nat.mul_le_mul_right _ h4)
    refine ⟨?_, Sh.fz_of h3 _⟩
    rw [Sh.cell_of h3, Nat.zero_add]
    show _ = some ((flatK encE 3 E.toArray)[j]!)
    rw [flat_getD hj', ← h7]
    rw [getElem!_def, List.getElem?_take_of_lt hj', Array.getElem?_toList, Array.getElem?_eq_getElem hjc]
theorem sorted_list {E : List Sh.Ed} {d' : Array Sh.Ed} (hp : Sort.PermIn 0 E.toArray.size E.toArray d') (hs : Sort.SortedIn (ltOf cmpE) 0 E.toArray.size d') : d'.toList.Perm E ∧ d'.toList.Pairwise (fun x y => x.1 ≤ y.1) := by
  obtain ⟨h1, _, h3⟩ := hp
  constructor
  · have e1 : d'.extract 0 E.toArray.size = d' := by rw [← h1]; exact Array.extract_size
    have e2 : E.toArray.extract 0 E.toArray.size = E.toArray := Array.extract_size
    rw [e1, e2] at h3
    exact h3
  · rw [List.pairwise_iff_getElem]
    intro i j hi hj hij
    have hj' : j < d'.size := by simpa using hj
    have hi' : i < d'.size := by simpa using hi
    have := hs i j (Nat.zero_le _) hij (by rw [← h1]; exact hj')
    rw [ltE, getElem!_pos d' j hj', getElem!_pos d' i hi'] at this
    simp at this
    simpa using this
theorem kept_row {w : World} {base g cap n : Nat} {E : List Sh.Ed} {d' : Array Sh.Ed} {os : Array Obj} (h : w.ownsRow base 113 3 (.slice (some ⟨g, 0, none⟩) E.length cap) E.length (E.flatMap encE)) (hd : d'.size = E.length) :
    (sortWorldK encE 3 w g 0 n d' os).ownsRow base 113 3 (.slice (some ⟨g, 0, none⟩) E.length cap) E.length (d'.toList.flatMap encE) ∧ Below base w (sortWorldK encE 3 w g 0 n d' os) := by
  rcases h.2 with ⟨h1, _⟩ | ⟨g', cap', cur, h1, h2, h3, h4, h5, h6, h7⟩
  · cases h1
  · injection h1 with h1 _ h1c
    injection h1 with h1
    injection h1 with h1
    subst h1 h1c
    have hg : g < w.heap.size := lt_heap h3
    have hh : (sortWorldK encE 3 w g 0 n d' os).heap[g]? = some (.cells (Sort.putCells id 0 (flatK encE 3 d') cur) 113 (0, 0)) := by
      unfold sortWorldK putRowK
      rw [Sort.heap_grow_old _ _ (by simpa [Sort.putRow, Sort.mapBlock, Sort.ahead] using hg)]
      simp [Sort.putRow, Sort.mapBlock, Sort.ahead, Array.getElem?_modify, h3, Sort.onCells]
    constructor
    · refine ⟨by rw [eds_len]; simp [hd], .inr ⟨g, cap, _, rfl, h2, hh, h4, h5, by simpa [Sort.putCells] using h6, ?_⟩⟩
      apply List.ext_getElem?
      intro j
      by_cases hj : j < E.length * 3
      · have hjc : j < cur.size := by rw [h6]; exact Nat.lt_of_lt_of_le hj (Nat.mul_le_mul_right _ h4)
        have hjd : j < d'.toList.length * 3 := by simp [hd]; exact hj
        rw [List.getElem?_take_of_lt hj, Array.getElem?_toList]
        unfold Sort.putCells
        rw [Array.getElem?_mapIdx, Array.getElem?_eq_getElem hjc, Option.map_some, if_pos ⟨Nat.zero_le _, by simp [hd]; exact hj⟩]
        have := flat_getD (E := d'.toList) hjd
        rw [Array.toArray_toList] at this
        simp only [Nat.sub_zero, id]
        rw [this, getElem!_def, List.getElem?_eq_getElem (by rw [eds_len]; exact hjd)]
      · rw [List.getElem?_take_eq_none (by omega), List.getElem?_eq_none (by rw [eds_len]; simp [hd]; omega)]
    · refine ⟨rfl, rfl, rfl, size_sortWorldK_c _ _ _ _ _ _ _ _, fun k hk => ?_⟩
      have hne : g ≠ k := by omega
      unfold sortWorldK putRowK
      rw [Sort.heap_grow_old _ _ (by simp [Sort.putRow, Sort.mapBlock, Sort.ahead]; omega)]
      simp [Sort.putRow, Sort.mapBlock, Sort.ahead, Array.getElem?_modify, hne]
set_option maxRecDepth 100000 in
set_option maxHeartbeats 4000000 in
theorem insert_nil (w : World) : Calls Tryz.prog 115 #[.slice none 0 0, .int .i64 0, .int .i64 0, .func (.func 56) #[] #[]] w fun e w' => e = .returned (.tuple #[]) ∧ w' = w := by
  go_enter Tryz.func115, Tryz.ntmps115
  go_wp2_with fail
  go_loopg [8] 0 (fun _ i wr => i = .int .i64 1 ∧ wr = w)
  case atStart => exact ⟨rfl, rfl⟩
  case round =>
    obtain ⟨rfl, rfl⟩ := hrel
    go_wp2_with fail
    go_end0
    exact ⟨rfl, rfl⟩
set_option maxRecDepth 100000 in
set_option maxHeartbeats 4000000 in
theorem pdq_nil (k : Int) (w : World) : Calls Tryz.prog 88 #[.slice none 0 0, .int .i64 0, .int .i64 0, .int .i64 k, .func (.func 56) #[] #[]] w fun e w' => e = .returned (.tuple #[]) ∧ w' = w := by
  go_enter Tryz.func88, Tryz.ntmps88
  go_wp2_with fail
  go_loopg [1, 2] 0 (fun _ a b wr => a = .int .i64 0 ∧ b = .int .i64 0 ∧ wr = w)
  case atStart => exact ⟨rfl, rfl, rfl⟩
  case round =>
    obtain ⟨rfl, rfl, rfl⟩ := hrel
    go_wp2_with (go_at_call 115; refine (insert_nil _).mono ?_; rintro e w' ⟨rfl, rfl⟩)
    refine bodyPost_ret (results_none rfl _ _ _) rfl ?_
    exact ⟨rfl, rfl⟩
theorem len89 (n : Nat) (w : World) (h : n < 4611686018427387904) : Calls Tryz.prog 89 #[.int .u64 (n : Int)] w fun e w' => (∃ k : Int, e = .returned (.int .i64 k)) ∧ w' = w :=
  (Any.bits_Len (SlLaysF0.n15.bits (P := Tryz.prog) (ρ := Tryz.sortF55_ren) { Tryz.sortF55 with }) (n : Int) w (by omega) (by omega)).mono fun _ _ ⟨he, hw⟩ => ⟨⟨_, he⟩, hw⟩
set_option maxRecDepth 100000 in
set_option maxHeartbeats 4000000 in
theorem sort_nil (w : World) : Calls Tryz.prog 55 #[.slice none 0 0, .func (.func 56) #[] #[]] w fun e w' => e = .returned (.tuple #[]) ∧ w' = w := by
  have H0 := hid (len89 0 w (by decide))
  go_enter Tryz.func55, Tryz.ntmps55
  go_wp2_with (first
    | (go_at_call 89; refine H0.out.mono ?_; rintro e w' ⟨⟨k, rfl⟩, rfl⟩)
    | (go_at_call 88; refine (pdq_nil _ _).mono ?_; rintro e w' ⟨rfl, rfl⟩))
  go_end0
  exact ⟨rfl, rfl⟩
theorem sort_any (E : List Sh.Ed) (v : Value) (base : Nat) (w : World) (h : w.ownsRow base 113 3 v E.length (E.flatMap encE)) (hl : E.length ≤ 1048576) :
    Calls Tryz.prog 55 #[v, .func (.func 56) #[] #[]] w fun e w' => e = .returned (.tuple #[]) ∧ ∃ E' : List Sh.Ed, E'.Perm E ∧ E'.Pairwise (fun x y => x.1 ≤ y.1) ∧ w'.ownsRow base 113 3 v E.length (E'.flatMap encE) ∧ RowKit.Below base w w' := by
  rcases h.2 with ⟨rfl, h0⟩ | ⟨g, cap, cur, rfl, h2, h3, _⟩
  · have hE : E = [] := List.eq_nil_of_length_eq_zero h0
    subst hE
    exact (sort_nil w).mono fun e w' ⟨he, hw⟩ => ⟨he, [], List.Perm.refl _, List.Pairwise.nil, by rw [hw]; exact h, by rw [hw]; exact Below.refl _ _⟩
  · have eg : ∀ args w, (callFunc 56 args).run Tryz.prog w = .ok (.enter 56 args) w := enters_of Tryz.func56 (by kernel_rfl) rfl
    have hcon := AnyQ.slices_SortFunc Tryz.sortF55 3 isAgg_ed sizeOf_ed encE (fun _ => rfl) one_ed cmpE swoE 56 #[] g 0 cap E.toArray w eg (lays56 _ _ _ _) (own_holds h) (lt_heap h3) (by simp; omega)
    change Calls Tryz.prog 55 _ _ _ at hcon
    rw [show E.toArray.size = E.length by simp] at hcon
    refine hcon.mono fun e w' ⟨he, d', n, os, hp, hs, hw⟩ => ?_
    rw [show E.length = E.toArray.size by simp] at hp hs
    have h1 := sorted_list hp hs
    have hd : d'.size = E.length := by rw [hp.1]; simp
    have h5 := kept_row (n := n) (os := os) h hd
    rw [← hw] at h5
    exact ⟨he, d'.toList, h1.1, h1.2, h5.1, h5.2⟩
end Go.Proofs.YtblkldfokeeaeacGreatDoor
namespace Go.Proofs.YtblkldfokeeaeacGreatDoor
open Go.RowKit Go.Maps
theorem sub_str (s : ByteArray) (a b : Nat) : (s.extract a b).data.toList = Sh.sub s.data.toList a b := Lib.extract_data s a b
theorem drop_str (s : ByteArray) (a : Nat) : (s.extract a s.size).data.toList = Sh.sub s.data.toList a s.data.toList.length := by
  rw [sub_str]
  have : s.size = s.data.toList.length := Lib.size_eq s
  rw [this]
def eEd (c : Nat → Option Value) (e : Sh.Ed) : Prop := c 0 = some (.int .i64 (e.1 : Int)) ∧ c 1 = some (.int .i64 (e.2.1 : Int)) ∧ c 2 = some (.string (bsL e.2.2))
theorem eds_of {w : World} {base : Nat} {v : Value} {E : List Sh.Ed} (h : w.ownsRow base 113 3 v E.length (E.flatMap encE)) : Sl w 3 eEd v E := by
  obtain ⟨a, cap, rfl, hn, hc⟩ := own_at (sz := 3) (f := encE) (fun _ => rfl) (by decide) h
  refine ⟨a, cap, rfl, hn, fun i hi => ?_⟩
  obtain ⟨b, off, rfl, hh⟩ := hc i hi
  exact ⟨b, off, rfl, hh 0 (by decide), hh 1 (by decide), hh 2 (by decide)⟩
theorem eds_ext {w w' : World} {v : Value} {E : List Sh.Ed} (h : Sl w 3 eEd v E) (e : Ext w w') : Sl w' 3 eEd v E :=
  Sl.mono h fun _ _ _ ⟨h0, h1, h2⟩ => ⟨e _ _ _ h0, e _ _ _ h1, e _ _ _ h2⟩
theorem eEd.cells {w : World} {b o : Nat} {e : Sh.Ed} (h : eEd (fun j => w.cell? ⟨b, o + j, none⟩) e) : w.cell? ⟨b, o, none⟩ = some (.int .i64 (e.1 : Int)) ∧ w.cell? ⟨b, o + 1, none⟩ = some (.int .i64 (e.2.1 : Int)) ∧ w.cell? ⟨b, o + 2, none⟩ = some (.string (bsL e.2.2)) := h
theorem Within.up {E : List Sh.Ed} : ∀ {k m : Nat}, Sh.Within k E m → ∀ e ∈ E, e.1 ≤ m ∧ e.2.1 ≤ m := by
  induction E with
  | nil => intro k m _ e he; cases he
  | cons a E ih =>
    intro k m h e he
    have h1 := h.2.2.le
    rcases List.mem_cons.1 he with rfl | he
    · exact ⟨Nat.le_trans h.2.1 h1, h1⟩
    · exact ih h.2.2 e he
theorem sub_le (S : Bs) (a b : Nat) : (Sh.sub S a b).length ≤ b - a := by
  unfold Sh.sub
  rw [List.length_take]
  omega
theorem app_len {S : Bs} {t : Nat} : ∀ {E : List Sh.Ed} {k m : Nat}, Sh.Within k E m → (∀ e ∈ E, e.2.2.length ≤ t) → (Sh.app S k E m).length ≤ (m - k) + E.length * t
  | [], k, m, _, _ => by simpa [Sh.app] using sub_le S k m
  | e :: E, k, m, h, ht => by
    have h1 := app_len (S := S) h.2.2 (fun x hx => ht x (List.mem_cons_of_mem _ hx))
    have h2 := sub_le S k e.1
    have h3 := ht e (List.mem_cons_self ..)
    have h4 := h.1
    have h5 := h.2.1
    have h6 := h.2.2.le
    unfold Sh.app
    simp only [List.length_append, List.length_cons, Nat.add_mul]
    omega
theorem bld_dr {w : World} {B b : Nat} {l : Bs} (h : Sh.Bld w B b l) : Sh.Bld w.drew B b l := h
theorem below_trans' {B : Nat} {a b c : World} (h : RowKit.Below B a b) (k : RowKit.Below B b c) : RowKit.Below B a c := h.trans k
set_option maxRecDepth 100000 in
set_option maxHeartbeats 8000000 in
theorem apply_any (s : ByteArray) (M F : List Sh.Ed) (v : Value) (base : Nat) (w : World) (h : w.ownsRow base 113 3 v M.length (M.flatMap encE)) (hl : M.length ≤ 1048576) (hF : ∀ E' : List Sh.Ed, E'.Pairwise (fun x y => x.1 ≤ y.1) → E'.Perm M → E' = F) (hW : Sh.Within 0 F s.data.toList.length) (hs : s.size ≤ 6000) (ht : ∀ e ∈ F, e.2.2.length ≤ 1048576) (hbw : base ≤ w.heap.size) :
    Calls Tryz.prog 32 #[.string s, v] w fun e w' => e = .returned (.string (bsL (Sh.app s.data.toList 0 F s.data.toList.length))) ∧ RowKit.Below base w w' := by
  have HSo := hid (sort_any M v base w h hl)
  have HFx := hid hF
  have HW := hid hW
  have HTx := hid ht
  have HSz : Hid (s.size = s.data.toList.length) := Lib.size_eq s
  obtain ⟨va, vc, rfl⟩ := own_form h
  generalize hZ : bsL (Sh.app s.data.toList 0 F s.data.toList.length) = Z at *
  have HZ := hid hZ
  clear h hF hW ht hZ
  go_enter Tryz.func32, Tryz.ntmps32
  go_wp2_with (go_at_call 55; refine HSo.out.mono ?_; rintro e w1 ⟨rfl, E', hp, hs', hrow, hb1⟩; obtain rfl := HFx.out E' hs' hp; have hlen := hp.length_eq; have HRow := hid (eds_of (by rw [hlen]; exact hrow)); have HB1 := hid hb1; have HB1b := hid (Nat.le_trans hbw hb1.size); clear hp hs' hrow hb1)
  have bb : Hid (Sh.Bld (w1.alloc (.cells #[.pointer none, .slice none 0 0] 122)) w1.heap.size w1.heap.size []) := .inl ⟨Nat.le_refl _, .slice none 0 0, heap_alloc_new w1 _, World.ownsRow_nil _ _ _ _, by simp [Value.ownBlock]⟩
  have bw : Hid (RowKit.Below w1.heap.size w1 (w1.alloc (.cells #[.pointer none, .slice none 0 0] 122))) := below_al (Below.refl _ _)
  generalize hS : s.data.toList = S at *
  have HS := hid hS
  clear hS HFx
  rw [← hlen] at HRow hl ⊢
  clear hlen HSo
  generalize E' = F at *
  generalize hT : Sh.app S 0 F S.length = T at *
  have HT := hid hT
  have HTl : Hid (T.length ≤ 6000 + F.length * 1048576) := by
    have := app_len (S := S) HW.out HTx.out
    rw [HT.out] at this
    have h6 := HSz.out
    show T.length ≤ _
    omega
  clear hT
  generalize w1.alloc (.cells #[.pointer none, .slice none 0 0] 122) = w2 at *
  go_loopg [6, 13] F.length (fun g dn i wr => ∃ (j k : Nat) (acc : Bs), g = F.length - j ∧ j ≤ F.length ∧ i = .int .i64 (j : Int) ∧ dn = .int .i64 (k : Int) ∧ Sh.Bld wr w1.heap.size w1.heap.size acc ∧ RowKit.Below w1.heap.size w1 wr ∧ T = acc ++ Sh.app S k (F.drop j) S.length ∧ Sh.Within k (F.drop j) S.length)
  case atStart => exact ⟨0, 0, [], rfl, Nat.zero_le _, rfl, rfl, bb.out, bw.out, HT.out.symm, HW.out⟩
  case round =>
    obtain ⟨j, k, acc, hg, hj, rfl, rfl, hbl, hbw', hTa, hWk⟩ := hrel
    rename World => wr
    have GK := hid hg
    have HBl := hid hbl
    have HBw := hid hbw'
    have HTa := hid hTa
    have hacc : acc.length ≤ T.length := by rw [hTa, List.length_append]; omega
    have hTl := HTl.out
    have h6 := HSz.out
    clear hg hbl hbw' bb bw hTa
    by_cases hlt : j < F.length
    · obtain ⟨b, off, rfl, he⟩ := Sl.at (eds_ext HRow.out (Ext.below HBw.out)) hlt
      obtain ⟨c0, c1, c2⟩ := eEd.cells he
      rw [List.drop_eq_getElem_cons hlt] at hWk
      have hk1 := hWk.1
      have hk2 := hWk.2.1
      have HWn := hid hWk.2.2
      have hk3 := hWk.2.2.le
      have htx := HTx.out F[j] (List.getElem_mem hlt)
      have HTn : Hid (T = acc ++ (Sh.sub S k F[j].1 ++ F[j].2.2) ++ Sh.app S F[j].2.1 (F.drop (j + 1)) S.length) := by
        show T = _
        rw [HTa.out, List.drop_eq_getElem_cons hlt]
        simp [Sh.app]
      have HJ := hid hlt
      clear he hWk
      generalize F[j] = e at *
      obtain ⟨f, t, x⟩ := e
      simp only at *
      have hxs : (bsL x).size ≤ 1048576 := by rw [bsL_size]; exact htx
      have HXd : Hid ((bsL x).data.toList = x) := bsL_data x
      have hbox := heap_alloc_new wr (.cells #[.int .i64 (f : Int), .int .i64 (t : Int), .string (bsL x)] 113)
      have HB3 := hid (HBl.out.alloc (.cells #[.int .i64 (f : Int), .int .i64 (t : Int), .string (bsL x)] 113))
      have HB4 : Hid (RowKit.Below w1.heap.size w1 (wr.alloc (.cells #[.int .i64 (f : Int), .int .i64 (t : Int), .string (bsL x)] 113))) := HBw.out.alloc HBw.out.size _
      go_upto_region 7 with fail
      generalize bsL x = bx at *
      generalize wr.alloc (.cells #[.int .i64 (f : Int), .int .i64 (t : Int), .string bx] 113) = wb at *
      have HX := hid hbox
      have c3 : wb.cell? ⟨wr.heap.size, 0, none⟩ = some (.int .i64 (f : Int)) := Sh.cell_of hbox 0
      have c4 : wb.cell? ⟨wr.heap.size, 1, none⟩ = some (.int .i64 (t : Int)) := Sh.cell_of hbox 1
      have c5 : wb.cell? ⟨wr.heap.size, 2, none⟩ = some (.string bx) := Sh.cell_of hbox 2
      clear c0 c1 c2 hbox
      have MS : ∀ {w' : World}, w'.heap[wr.heap.size]? = some (.cells #[.int .i64 (f : Int), .int .i64 (t : Int), .string bx] 113) → w'.cell? ⟨wr.heap.size, 0, none⟩ = some (.int .i64 (f : Int)) ∧ w'.cell? ⟨wr.heap.size, 1, none⟩ = some (.int .i64 (t : Int)) ∧ w'.cell? ⟨wr.heap.size, 2, none⟩ = some (.string bx) := fun h => ⟨Sh.cell_of h 0, Sh.cell_of h 1, Sh.cell_of h 2⟩
      have hS0 := MS HX.out
      have hx2 : (s.extract k f ++ bx).size ≤ 2000000 := by rw [ByteArray.size_append, ByteArray.size_extract]; omega
      have HXt : Hid ((s.extract k f ++ bx).data.toList = Sh.sub S k f ++ x) := by
        show _ = _
        rw [ByteArray.data_append, Array.toList_append, sub_str, HXd.out, HS.out]
      have i0 : (0 : Int) ≤ (k : Int) := by omega
      have i1 : (k : Int) ≤ (f : Int) := by omega
      have i2 : (f : Int) ≤ (s.size : Int) := by omega
      have i3 : (0 : Int) ≤ (f : Int) := by omega
      have n1 : k ≤ f := hk1
      have n2 : f ≤ s.size := by omega
      have n3 : f ≤ S.length := by omega
      have n4 : ¬ (9223372036854775807 < f - k + bx.size) := by omega
      have H6 := hid h6
      clear h6 i0 i3
      go_region_held3 (fun w' => w'.cell? ⟨wr.heap.size, 0, none⟩ = some (.int .i64 (f : Int)) ∧ w'.cell? ⟨wr.heap.size, 1, none⟩ = some (.int .i64 (t : Int)) ∧ w'.cell? ⟨wr.heap.size, 2, none⟩ = some (.string bx)) (first | assumption | exact hS0 | exact hS5) (first
        | (go_at_call 58; refine (Sh.writeString_any w1.heap.size w1.heap.size acc (s.extract k f ++ bx) _ (bld_dr HB3.out) (by omega) (below_dr HB4.out).size).mono ?_; rintro e w5 ⟨rfl, hb5, hbe5, hk5⟩; have HB5 := hid hb5; have HE5 := hid (below_trans' (below_dr HB4.out) hbe5); have hS5 := MS ((hk5 _ _ 113 _ (by decide) HX.out).trans HX.out); clear hb5 hbe5 hk5)
        | (go_at_call 58; refine (Sh.writeString_any w1.heap.size w1.heap.size acc (s.extract k f ++ bx) _ HB3.out (by omega) HB4.out.size).mono ?_; rintro e w5 ⟨rfl, hb5, hbe5, hk5⟩; have HB5 := hid hb5; have HE5 := hid (below_trans' HB4.out hbe5); have hS5 := MS ((hk5 _ _ 113 _ (by decide) HX.out).trans HX.out); clear hb5 hbe5 hk5))
      all_goals
        obtain ⟨k0, k1, k2⟩ := hS5
        go_wp2_with fail
        go_roundg (F.length - (j + 1))
        case measure => have := GK.out; have := HJ.out; omega
        case rel => exact ⟨j + 1, t, _, rfl, by have := HJ.out; omega, by go_num, rfl, HB5.out, HE5.out, by rw [HXt.out]; exact HTn.out, HWn.out⟩
    · have hjl : j = F.length := by omega
      subst hjl
      rw [List.drop_length] at hWk
      have hk : k ≤ S.length := hWk
      have HTe : Hid (T = acc ++ (s.extract k s.size).data.toList) := by
        show T = _
        rw [HTa.out, List.drop_length, drop_str, HS.out]
        rfl
      have HTe2 : Hid ((⟨(acc ++ List.take (s.size - k) (List.drop k s.data.toList)).toArray⟩ : ByteArray) = Z) := by
        show _ = _
        rw [← HZ.out, HTe.out, sub_str]
        rfl
      have i0 : (0 : Int) ≤ (k : Int) := by omega
      have i1 : (k : Int) ≤ (s.size : Int) := by omega
      have n1 : k ≤ s.size := by omega
      have hx2 : (s.extract k s.size).size ≤ 6000 := by rw [ByteArray.size_extract]; omega
      have H6 := hid h6
      clear h6 hWk
      go_wp2_with (first
        | (go_at_call 58; refine (Sh.writeString_any w1.heap.size w1.heap.size acc (s.extract k s.size) _ HBl.out (by omega) HBw.out.size).mono ?_; rintro e w5 ⟨rfl, hb5, hbe5, hk5⟩; have HB5 := hid hb5; have HE5 := hid (below_trans' HBw.out hbe5); clear hb5 hbe5 hk5)
        | (go_at_call 59; refine (Tryz.Builder_String_any w1.heap.size w1.heap.size _ _ HB5.out HE5.out.size).mono ?_; rintro e w6 ⟨rfl, hb6⟩; have HE6 := hid (below_trans' HE5.out hb6); clear hb6))
      go_ret
      refine ⟨?_, ?_⟩
      · exact congrArg (fun z => Ending.returned (Value.string z)) HTe2.out
      · exact HB1.out.trans (HE6.out.mono HB1b.out)
end Go.Proofs.YtblkldfokeeaeacGreatDoor
