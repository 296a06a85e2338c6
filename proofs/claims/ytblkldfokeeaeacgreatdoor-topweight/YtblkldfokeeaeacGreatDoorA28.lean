/- Texts that the statement's proof stands on: F9, FA, FB, FC. -/
import Derived.Test.YtblkldfokeeaeacGreatDoorA27
import Derived.Deep.AppendSrc
namespace Go.Proofs.YtblkldfokeeaeacGreatDoor
open Go.RowKit Go.Maps
set_option maxRecDepth 100000 in
set_option maxHeartbeats 4000000 in
theorem containsI_any (v f : Value) (l ks : List Nat) (w : World) (h : IsAt w v l) (hl : l.length ≤ 1048576) (hk : ∀ k ∈ l, k ≤ 1048576) (hf : BlI w f ks) :
    Calls Tryz.prog 74 #[v, f] w fun e w' => e = .returned (.bool (l.any fun k => ks.contains k)) ∧ Below w.heap.size w w' := by
  have HR := hid h
  have HK := hid hk
  have HF := hid hf
  obtain ⟨a, cap, rfl⟩ := Sl.form h
  obtain ⟨B, M, n, rfl, hB, hM⟩ := hf
  clear h hk hB hM
  go_enter Tryz.func74, Tryz.ntmps74
  go_wp2_with (go_at_call 104; refine (indexI_any _ _ l ks w HR.out hl HK.out HF.out).mono ?_; rintro e w1 ⟨r, rfl, hr, hb⟩; have HE := hid hr; have HB := hid hb; clear hr hb)
  go_ret
  exact ⟨by rw [← HE.out]; rfl, HB.out⟩
set_option maxRecDepth 100000 in
set_option maxHeartbeats 4000000 in
theorem containsS_any (v f : Value) (l ks : List ByteArray) (w : World) (h : BsAt w v l) (hl : l.length ≤ 1048576) (hk : ∀ k ∈ l, k.size ≤ 1048576) (hf : BlS w f ks) :
    Calls Tryz.prog 75 #[v, f] w fun e w' => e = .returned (.bool ((l.map fun k => k.data.toList).any fun k => (ks.map fun k => k.data.toList).contains k)) ∧ Below w.heap.size w w' := by
  have HR := hid h
  have HK := hid hk
  have HF := hid hf
  obtain ⟨a, cap, rfl⟩ := Sl.form h
  obtain ⟨B, M, n, rfl, hB, hM⟩ := hf
  clear h hk hB hM
  go_enter Tryz.func75, Tryz.ntmps75
  go_wp2_with (go_at_call 105; refine (indexS_any _ _ l ks w HR.out hl HK.out HF.out).mono ?_; rintro e w1 ⟨r, rfl, hr, hb⟩; have HE := hid hr; have HB := hid hb; clear hr hb)
  go_ret
  exact ⟨by rw [← HE.out]; rfl, HB.out⟩
set_option maxRecDepth 100000 in
set_option maxHeartbeats 4000000 in
theorem meets_any (f : Value) (ea na : Option Addr) (en ec nn nc : Nat) (es es' : List Nat) (ns ns' : List ByteArray) (w : World) (hE : IsAt w (.slice ea en ec) es') (hN : BsAt w (.slice na nn nc) ns') (hel : es'.length ≤ 1048576) (hek : ∀ k ∈ es', k ≤ 1048576) (hnl : ns'.length ≤ 1048576) (hnk : ∀ k ∈ ns', k.size ≤ 1048576) (hf : Mt w f es ns) :
    ∃ P Q, f = .func (.func 73) #[] #[.pointer (some ⟨P, 0, none⟩), .pointer (some ⟨Q, 0, none⟩)] ∧ Calls Tryz.prog 73 #[.agg #[.slice ea en ec, .slice na nn nc], .pointer (some ⟨P, 0, none⟩), .pointer (some ⟨Q, 0, none⟩)] w fun e w' => e = .returned (.bool ((es'.any fun k => es.contains k) && ((ns'.map fun k => k.data.toList).any fun k => (ns.map fun k => k.data.toList).contains k))) ∧ Below w.heap.size w w' := by
  obtain ⟨P, Q, fi, fs, rfl, hP, hQ, hI, hS⟩ := hf
  refine ⟨P, Q, rfl, ?_⟩
  have b1 := (Below.refl w.heap.size w).alloc (Nat.le_refl _) (.cells #[.slice ea en ec, .slice na nn nc] 96)
  have HE := hid (hE.ext (Ext.below b1))
  have HN := hid (hN.ext (Ext.below b1))
  have HEk := hid hek
  have HNk := hid hnk
  have HB := hid b1
  have HI := hid (hI.below b1)
  have HS := hid (hS.below b1)
  have p0 := Ext.below b1 _ _ _ hP
  have p1 := Ext.below b1 _ _ _ hQ
  have c0 : (w.alloc (.cells #[.slice ea en ec, .slice na nn nc] 96)).cell? ⟨w.heap.size, 0, none⟩ = some (.slice ea en ec) := cell_new w _ _ 0
  have c1 : (w.alloc (.cells #[.slice ea en ec, .slice na nn nc] 96)).cell? ⟨w.heap.size, 1, none⟩ = some (.slice na nn nc) := cell_new w _ _ 1
  obtain ⟨Bi, Mi, ni, rfl, _, _⟩ := hI
  obtain ⟨Bs, Ms, ms, rfl, _, _⟩ := hS
  clear hE hN hek hnk b1 hP hQ
  go_enter Tryz.func73, Tryz.ntmps73
  go_wp2_with fail
  generalize w.alloc (.cells #[.slice ea en ec, .slice na nn nc] 96) = w1 at *
  go_wp2_with (first
    | (go_at_call 74; refine (containsI_any _ _ es' es w1 HE.out hel HEk.out HI.out).mono ?_; rintro e w2 ⟨rfl, hb⟩; have HB2 := hid hb; have d0 := Ext.below hb _ _ _ c1; have d1 := Ext.below hb _ _ _ p1; clear hb; generalize hab : (es'.any fun k => es.contains k) = b; have HA := hid hab; clear hab; cases b)
    | (go_at_call 75; refine (containsS_any _ _ ns' ns w2 (HN.out.ext (Ext.below HB2.out)) hnl HNk.out (HS.out.below HB2.out)).mono ?_; rintro e w3 ⟨rfl, hb⟩; have HB3 := hid hb; clear hb; generalize hcd : ((ns'.map fun k => k.data.toList).any fun k => (ns.map fun k => k.data.toList).contains k) = c; have HC := hid hcd; clear hcd))
  · go_ret
    refine ⟨?_, below_trans HB.out HB2.out (Nat.le_refl _)⟩
    rw [HA.out]; rfl
  · go_ret
    refine ⟨?_, below_trans (below_trans HB.out HB2.out (Nat.le_refl _)) HB3.out (Nat.le_refl _)⟩
    rw [HA.out, HC.out]; rfl
end Go.Proofs.YtblkldfokeeaeacGreatDoor
namespace Go.Proofs.YtblkldfokeeaeacGreatDoor
open Go.RowKit Go.Maps
abbrev Hl := List Nat × List ByteArray
def holdR (l : List Nd) (r : Ru) : Hl := (meantB l r, namesA r)
def encH (p : Hl × (Value × Value)) : List Value := [p.2.1, p.2.2]
def HlP (b : Nat) (w : World) (a : Hl) (x : Value × Value) : Prop := w.ownsRow b 3 1 x.1 a.1.length (a.1.map encI) ∧ w.ownsRow b 9 1 x.2 a.2.length (a.2.flatMap encB)
def HsIn (w : World) (base : Nat) (v : Value) (l : List Hl) : Prop := Sh.NAt 96 2 encH (HlP base) w base v l
theorem HlP.below {b : Nat} {w w' : World} {a : Hl} {x : Value × Value} (h : HlP b w a x) (hb : Below w.heap.size w w') : HlP b w' a x := ⟨own_ext h.1 hb, own_ext h.2 hb⟩
theorem HsIn.below {w w' : World} {base : Nat} {v : Value} {l : List Hl} (h : HsIn w base v l) (hb : Below w.heap.size w w') : HsIn w' base v l := by
  obtain ⟨LV, h1, h2, h3⟩ := h
  exact ⟨LV, h1, own_ext h2 hb, fun p hp => (h3 p hp).below hb⟩
theorem grown_keeps {w w' : World} {base n T sz : Nat} {v : Value} {xs : List Value} (ho : w.ownsRow base T sz v n xs) (hg : w.grownBy w' v.ownBlock) : Sh.Keeps (· ≠ T) w w' := fun j cur U fz hU hj => by
  refine hg.block j (Array.getElem?_eq_some_iff.1 hj).1 fun e => ?_
  rcases ho.2 with ⟨hv, _⟩ | ⟨g, cap, cur', hv, _, hb, _⟩
  · rw [hv] at e; cases e
  · rw [hv] at e
    injection e with e
    subst e
    rw [hj] at hb
    injection hb with hb
    injection hb with _ hU'
    exact hU hU'
theorem HsIn.push {w w3 : World} {base : Nat} {v v3 : Value} {l : List Hl} {LV : List (Hl × (Value × Value))} {a : Hl} {x : Value × Value} (h1 : LV.map (·.1) = l) (h2 : w.ownsRow base 96 2 v l.length (LV.flatMap encH)) (h3 : ∀ p ∈ LV, HlP base w p.1 p.2) (ha : HlP base w a x) (hg : w.grownBy w3 v.ownBlock) (ho : w3.ownsRow base 96 2 v3 (l.length + 1) (LV.flatMap encH ++ encH (a, x))) : HsIn w3 base v3 (l ++ [a]) := by
  have kk := grown_keeps h2 hg
  have hP : ∀ a x, HlP base w a x → HlP base w3 a x := fun _ _ h => ⟨Sh.own_keeps h.1 kk (by decide), Sh.own_keeps h.2 kk (by decide)⟩
  refine ⟨LV ++ [(a, x)], by simp [h1], by simpa using ho, fun p hp => ?_⟩
  rcases List.mem_append.1 hp with hp | hp
  · exact hP _ _ (h3 p hp)
  · rw [List.mem_singleton.1 hp]; exact hP _ _ ha
theorem Tryz.infoH : (Tryz.prog.info? 96).map (fun i => (i.zero, i.size, i.bytes)) = some (some (.agg #[.slice none 0 0, .slice none 0 0]), 2, 48) := by kernel_rfl
theorem one_h (a : Hl) (x y : Option Addr) (n m c d : Nat) : ∀ u ∈ encH (a, (.slice x n c, .slice y m d)), u.oneCell' = true := by
  intro u hd
  simp [encH] at hd
  rcases hd with rfl | rfl <;> rfl
theorem five_of {w' : World} {P : Nat} {md : ByteArray} {sv dv : Value} {rf rt : Int} (h : w'.heap[P]? = some (.cells #[.string md, sv, dv, .int .i64 rf, .int .i64 rt] 38)) : w'.cell? ⟨P, 0, none⟩ = some (.string md) ∧ w'.cell? ⟨P, 1, none⟩ = some sv ∧ w'.cell? ⟨P, 2, none⟩ = some dv ∧ w'.cell? ⟨P, 3, none⟩ = some (.int .i64 rf) ∧ w'.cell? ⟨P, 4, none⟩ = some (.int .i64 rt) :=
  ⟨Sh.cell_of h 0, Sh.cell_of h 1, Sh.cell_of h 2, Sh.cell_of h 3, Sh.cell_of h 4⟩
theorem hs_done {w wb w2 w3 X w5 : World} {LV : List (Hl × (Value × Value))} {L : List Hl} {a : Hl} {P j vc b2 b3 : Nat} {va : Option Addr} {mv nv v5 : Value} {cs : Array Value} (hB1 : Below w.heap.size w wb) (hB3 : Below wb.heap.size wb w3) (hB23 : Below w2.heap.size w2 w3) (h1 : LV.map (·.1) = L) (hj : L.length = j) (h2 : wb.ownsRow w.heap.size 96 2 (.slice va j vc) j (LV.flatMap encH)) (h3 : ∀ p ∈ LV, HlP w.heap.size wb p.1 p.2)
    (hl2 : w.heap.size ≤ b2) (hl3 : w.heap.size ≤ b3) (hO2 : w2.ownsRow b2 3 1 mv a.1.length (a.1.map encI)) (hO3 : w3.ownsRow b3 9 1 nv a.2.length (a.2.flatMap encB)) (hbx : wb.heap[P]? = some (.cells cs 38)) (hv5 : w5.ownsRow w.heap.size 96 2 v5 (j + 1) (LV.flatMap encH ++ encH (a, (mv, nv)))) (hg5 : X.grownBy w5 (Value.slice va j vc).ownBlock) (hX : Below w3.heap.size w3 X) :
    HsIn w5 w.heap.size v5 (L ++ [a]) ∧ Below w.heap.size w w5 ∧ w5.heap[P]? = some (.cells cs 38) := by
  have hbX := below_trans hB3 hX (Nat.le_refl _)
  have oX := own_ext h2 hbX
  subst hj
  refine ⟨HsIn.push h1 oX (fun p hp => (h3 p hp).below hbX) ⟨Sh.own_lower (own_ext (own_ext hO2 hB23) hX) hl2, Sh.own_lower (own_ext hO3 hX) hl3⟩ hg5 hv5, ?_, ?_⟩
  · exact (below_trans hB1 hbX (Nat.le_refl _)).grown hg5 (below_trans hB1 hbX (Nat.le_refl _)).size (fun i hi => (oX.lt i hi).1)
  · have e := (hbX.block P (Array.getElem?_eq_some_iff.1 hbx).1).trans hbx
    exact (grown_keeps oX hg5 P cs 38 _ (by decide) e).trans e
set_option maxRecDepth 100000 in
set_option maxHeartbeats 16000000 in
theorem allHolds_any (lv rv : Value) (l : List Nd) (R : List Ru) (w : World) (hl : NdsAt w lv l) (hs : SmNs l) (hT : Tab w) (hR : RusAt w rv R) (hm : ∀ r ∈ R, SmR r) (hA : ∀ r ∈ R, ∃ A, allB r.decls = some A) (hRl : R.length ≤ 1048576) :
    Calls Tryz.prog 41 #[lv, rv] w fun e w' => ∃ v, e = .returned v ∧ HsIn w' w.heap.size v (R.map (holdR l)) ∧ Below w.heap.size w w' := by
  obtain ⟨la, lc, rfl⟩ := Sl.form hl
  obtain ⟨ra, rc, rfl⟩ := Sl.form hR
  have HL := hid hl
  have HN := hid hs
  have HT := hid hT
  have HR := hid hR
  have HM := hid hm
  have HA := hid hA
  clear hl hs hT hR hm hA
  go_enter Tryz.func41, Tryz.ntmps41
  go_wp2_with fail
  go_loopg [5, 10] R.length (fun g v i wr => ∃ j : Nat, g = R.length - j ∧ j ≤ R.length ∧ i = .int .i64 (j : Int) ∧ HsIn wr w.heap.size v ((R.take j).map (holdR l)) ∧ Below w.heap.size w wr)
  case atStart => exact ⟨0, rfl, Nat.zero_le _, rfl, Sh.NAt.nil _ _ _ _ _ _, Below.refl _ _⟩
  case round =>
    obtain ⟨j, hg, hj, rfl, hO, hB⟩ := hrel
    rename World => wo
    have GK := hid hg
    have HBo := hid hB
    obtain ⟨LV, hv1, hv2, hv3⟩ := hO
    have hlen : ((R.take j).map (holdR l)).length = j := by simp; omega
    rw [hlen] at hv2
    obtain ⟨va, vc, rfl⟩ := own_form hv2
    clear hg hB
    by_cases hlt : j < R.length
    · obtain ⟨b, off, rfl, he⟩ := Sl.at (HR.out.ext (Ext.below HBo.out)) hlt
      obtain ⟨sa, sn, sc, da, dn, dc, c0, c1, c2, c3, c4, hS, hD⟩ := eR.cells he
      have HSm := hid (HM.out R[j] (List.getElem_mem hlt))
      have HAj := hid (HA.out R[j] (List.getElem_mem hlt))
      have HNx : Hid ((R.take (j + 1)).map (holdR l) = (R.take j).map (holdR l) ++ [holdR l R[j]]) := by
        show _ = _
        rw [List.take_succ_eq_append_getElem hlt, List.map_append]; rfl
      have HJ := hid hlt
      have HHr : Hid (holdR l R[j] = (meantB l R[j], namesA R[j])) := rfl
      clear he
      generalize R[j] = r at *
      have b1 := (Below.refl wo.heap.size wo).alloc (Nat.le_refl _) (.cells #[.string r.media, .slice sa sn sc, .slice da dn dc, .int .i64 r.rf, .int .i64 r.rt] 38)
      have hbox := heap_alloc_new wo (.cells #[.string r.media, .slice sa sn sc, .slice da dn dc, .int .i64 r.rf, .int .i64 r.rt] 38)
      have HB1 := hid (below_trans HBo.out b1 (Nat.le_refl _))
      have HS1 := hid (hS.ext (Ext.below b1))
      have HD1 := hid (hD.ext (Ext.below b1))
      have HV1 := hid hv1
      have HV2 := hid (own_ext hv2 b1)
      have HV3 : Hid (∀ p ∈ LV, HlP w.heap.size (wo.alloc (.cells #[.string r.media, .slice sa sn sc, .slice da dn dc, .int .i64 r.rf, .int .i64 r.rt] 38)) p.1 p.2) := fun p hp => (hv3 p hp).below b1
      have HL1 := hid ((HL.out.ext (Ext.below HBo.out)).ext (Ext.below b1))
      have HT1 := hid ((HT.out.ext (Ext.below HBo.out)).ext (Ext.below b1))
      clear hS hD hv1 hv2 hv3 b1
      go_wp2_with fail
      have five := five_of hbox
      generalize wo.alloc (.cells #[.string r.media, .slice sa sn sc, .slice da dn dc, .int .i64 r.rf, .int .i64 r.rt] 38) = wb at *
      have HBX := hid hbox
      clear c0 c1 c2 c3 c4 hbox
      have MS : ∀ {w' : World}, Below wb.heap.size wb w' → w'.cell? ⟨wo.heap.size, 0, none⟩ = some (.string r.media) ∧ w'.cell? ⟨wo.heap.size, 1, none⟩ = some (.slice sa sn sc) ∧ w'.cell? ⟨wo.heap.size, 2, none⟩ = some (.slice da dn dc) ∧ w'.cell? ⟨wo.heap.size, 3, none⟩ = some (.int .i64 r.rf) ∧ w'.cell? ⟨wo.heap.size, 4, none⟩ = some (.int .i64 r.rt) := fun h => five_of ((h.block _ (Array.getElem?_eq_some_iff.1 HBX.out).1).trans HBX.out)
      go_region_held3 (fun w' => w'.cell? ⟨wo.heap.size, 0, none⟩ = some (.string r.media) ∧ w'.cell? ⟨wo.heap.size, 1, none⟩ = some (.slice sa sn sc) ∧ w'.cell? ⟨wo.heap.size, 2, none⟩ = some (.slice da dn dc) ∧ w'.cell? ⟨wo.heap.size, 3, none⟩ = some (.int .i64 r.rf) ∧ w'.cell? ⟨wo.heap.size, 4, none⟩ = some (.int .i64 r.rt)) (first | assumption | (with_reducible refine MS ?_; repeat' (with_reducible first | refine below_al ?_ | refine below_dr ?_ | exact HB3.out | exact HB2.out | exact Below.refl _ _))) (first
        | (go_at_call 69; refine have_of (?_ : Below wb.heap.size wb _) (fun hb0 => (meant_any _ l r sa da sn sc dn dc _ (HL1.out.ext (Ext.below hb0)) HN.out (HT1.out.ext (Ext.below hb0)) (HS1.out.ext (Ext.below hb0)) HSm.out.sels).mono ?_); (· repeat' (with_reducible first | refine below_al ?_ | refine below_dr ?_ | exact Below.refl _ _)); rintro e w2 ⟨mv, rfl, hO2, hb2⟩; have HB2 := hid (below_trans hb0 hb2 (Nat.le_refl _)); obtain ⟨ma, mc, rfl⟩ := own_form hO2; have HO2 := hid hO2; have HL2 := hid (Nat.le_trans HB1.out.size hb0.size); clear hO2 hb2)
        | (go_at_call 70; refine have_of (?_ : Below w2.heap.size w2 _) (fun hb0 => have_of (below_trans HB2.out hb0 (Nat.le_refl _)) fun hb1 => (declaredR_any r sa da sn sc dn dc _ (HT1.out.ext (Ext.below hb1)) (HD1.out.ext (Ext.below hb1)) HSm.out.decls HAj.out).mono ?_); (· repeat' (with_reducible first | refine below_al ?_ | refine below_dr ?_ | exact Below.refl _ _)); rintro e w3 ⟨nv, rfl, hO3, hb3⟩; have HB23 := hid (below_trans hb0 hb3 (Nat.le_refl _)); have HB3 := hid (below_trans HB2.out HB23.out (Nat.le_refl _)); obtain ⟨na, nc, rfl⟩ := own_form hO3; have HO3 := hid hO3; have HL3 := hid (Nat.le_trans HB1.out.size hb1.size); clear hO3 hb3)
        | (refine step_app (by rfl) (.tmp 14) (.tmp 21) 91 rfl w.heap.size 96 _ 2 48 Tryz.underlying91 Tryz.infoH rfl (by decide) (.slice va j vc) j (LV.flatMap encH) (by rfl) (own_ext HV2.out (below_trans HB3.out (by repeat' (with_reducible first | refine below_al ?_ | refine below_dr ?_ | exact Below.refl _ _)) (Nat.le_refl _))) _ 1 (encH ((meantB l r, namesA r), (.slice ma (meantB l r).length mc, .slice na (namesA r).length nc))) (by rfl) (.inr ⟨_, 1, rfl, World.news_of_block (heap_alloc_new _ _)⟩) rfl (one_h _ _ _ _ _ _ _) (by unfold maxLen; omega) (by omega) (Nat.le_trans HB1.out.size (below_trans HB3.out (by repeat' (with_reducible first | refine below_al ?_ | refine below_dr ?_ | exact Below.refl _ _)) (Nat.le_refl _)).size) ?_; intro v5 w5 hv5 hg5; have hdn := hs_done HB1.out HB3.out HB23.out HV1.out hlen HV2.out HV3.out HL2.out HL3.out HO2.out HO3.out HBX.out hv5 hg5 (by repeat' (with_reducible first | refine below_al ?_ | refine below_dr ?_ | exact Below.refl _ _)); have HO5 := hid hdn.1; have HB5 := hid hdn.2.1; have hS5 := five_of hdn.2.2; clear hv5 hg5 hdn))
      all_goals
        go_wp2_with fail
        go_roundg (R.length - (j + 1))
        case measure => have := GK.out; have := HJ.out; omega
        case rel => exact ⟨j + 1, rfl, by have := HJ.out; omega, by go_num, by rw [HNx.out, HHr.out]; exact HO5.out, HB5.out⟩
    · have hjl : j = R.length := by omega
      subst hjl
      have HE : Hid (HsIn wo w.heap.size (.slice va R.length vc) (R.map (holdR l))) := by
        have e : (R.take R.length).map (holdR l) = R.map (holdR l) := by rw [List.take_length]
        rw [e] at hv1
        exact ⟨LV, hv1, by rw [List.length_map]; exact hv2, hv3⟩
      clear hv1 hv2 hv3
      go_wp2_with fail
      go_ret
      exact ⟨_, rfl, HE.out, HBo.out⟩
end Go.Proofs.YtblkldfokeeaeacGreatDoor
namespace Go.Proofs.YtblkldfokeeaeacGreatDoor
open Go.RowKit Go.Maps
def QAt (w : World) (base : Nat) (v : Value) (ks : List Nat) : Prop :=
  (v = .slice none 0 0 ∧ ks = []) ∨ ∃ (g o cap : Nat) (cur : Array Value), v = .slice (some ⟨g, o, none⟩) ks.length cap ∧ base ≤ g ∧ w.heap[g]? = some (.cells cur 3 (0, 0)) ∧ ks.length ≤ cap ∧ cap ≤ maxLen ∧ o + cap ≤ cur.size ∧
    (∀ j (h : j < ks.length), cur[o + j]? = some (.int .i64 (ks[j] : Int))) ∧ ∀ (j : Nat) (x : Value), cur[j]? = some x → ∃ n : Int, x = Value.int .i64 n
theorem QAt.nil (w : World) (base : Nat) : QAt w base (.slice none 0 0) [] := .inl ⟨rfl, rfl⟩
theorem QAt.form {w : World} {base : Nat} {v : Value} {ks : List Nat} (h : QAt w base v ks) : ∃ a cap, v = .slice a ks.length cap := by
  rcases h with ⟨h, rfl⟩ | ⟨g, o, cap, cur, h, _⟩
  · exact ⟨_, _, h⟩
  · exact ⟨_, _, h⟩
theorem QAt.kept {w w' : World} {base : Nat} {v : Value} {ks : List Nat} (h : QAt w base v ks) (hk : ∀ g, v.ownBlock = some g → w'.heap[g]? = w.heap[g]?) : QAt w' base v ks := by
  rcases h with h | ⟨g, o, cap, cur, h1, h2, h3, h4⟩
  · exact .inl h
  · exact .inr ⟨g, o, cap, cur, h1, h2, (hk g (by rw [h1]; rfl)).trans h3, h4⟩
theorem QAt.lt {w : World} {base : Nat} {v : Value} {ks : List Nat} (h : QAt w base v ks) {g : Nat} (hg : v.ownBlock = some g) : base ≤ g ∧ g < w.heap.size := by
  rcases h with ⟨h, _⟩ | ⟨g', o, cap, cur, h1, h2, h3, h4⟩
  · rw [h] at hg; cases hg
  · rw [h1] at hg
    injection hg with hg
    subst hg
    exact ⟨h2, (Array.getElem?_eq_some_iff.1 h3).1⟩
theorem QAt.below {w w' : World} {base : Nat} {v : Value} {ks : List Nat} (h : QAt w base v ks) (hb : Below w.heap.size w w') : QAt w' base v ks := h.kept fun _ hg => hb.block _ (h.lt hg).2
theorem QAt.block {w : World} {base : Nat} {v : Value} {ks : List Nat} (h : QAt w base v ks) {g : Nat} (hg : v.ownBlock = some g) : ∃ cur : Array Value, w.heap[g]? = some (.cells cur 3 (0, 0)) ∧ ∀ (j : Nat) (x : Value), cur[j]? = some x → ∃ n : Int, x = Value.int .i64 n := by
  rcases h with ⟨h, _⟩ | ⟨g', o, cap, cur, h1, h2, h3, h4, h5, h6, h7, h8⟩
  · rw [h] at hg; cases hg
  · rw [h1] at hg
    injection hg with hg
    subst hg
    exact ⟨cur, h3, h8⟩
theorem zero_ints (n j : Nat) (x : Value) (h : (Builtin.zeroCells #[Value.int .i64 0] n)[j]? = some x) : ∃ n : Int, x = .int .i64 n := by
  unfold Builtin.zeroCells at h
  rw [Array.getElem?_map] at h
  cases hr : (Array.range (n * #[Value.int .i64 0].size))[j]? with
  | none => rw [hr] at h; cases h
  | some y =>
    rw [hr] at h
    simp at h
    exact ⟨0, by rw [← h]; simp [Nat.mod_one]⟩
theorem QAt.app {w : World} {base : Nat} {v : Value} {ks : List Nat} (h : QAt w base v ks) (i : Nat) (ty : TypeId) (ad : Addr) (c : Nat) (had : w.cell? ad = some (.int .i64 (i : Int))) (hl : ks.length ≤ 1048576) (hb : base ≤ w.heap.size) :
    ∃ v' w', (Builtin.append_ #[65, 65] ty #[v, .slice (some ad) 1 c]).run Tryz.prog w = .ok v' w' ∧ QAt w' base v' (ks ++ [i]) ∧ w.grownBy w' v.ownBlock ∧ (v'.ownBlock = v.ownBlock ∨ v'.ownBlock = some w.heap.size) := by
  obtain ⟨i0, hi, hz0, hz1, hz2⟩ := info_parts Tryz.infoI
  have src : Go.Src Tryz.prog i0.size 65 (.slice (some ad) 1 c) 1 [.int .i64 (i : Int)] w := Go.Src.ofSlice w Tryz.underlying65 ad 1 c _ (by rw [hz1]; rfl) (fun j u hu => by
    match j with
    | 0 =>
      have hu := Option.some.inj hu
      subst hu
      have : ad.add 0 = ad := by obtain ⟨b, o, sp⟩ := ad; cases sp <;> simp [Addr.add]
      rw [this]; exact had
    | j + 1 => simp at hu) (by simp [Value.oneCell'])
  have grow : ∀ (bs : Option Addr) (cap : Nat), v = .slice bs ks.length cap → cap < ks.length + 1 → (Builtin.firstCells i0.size ks.length (.slice bs ks.length cap)).run Tryz.prog w.drew = .ok (ks.map fun k : Nat => Value.int .i64 (k : Int)).toArray w.drew →
      ∃ v' w', (Builtin.append_ #[65, 65] ty #[v, .slice (some ad) 1 c]).run Tryz.prog w = .ok v' w' ∧ QAt w' base v' (ks ++ [i]) ∧ w.grownBy w' v.ownBlock ∧ (v'.ownBlock = v.ownBlock ∨ v'.ownBlock = some w.heap.size) := by
    intro bs cap hv hc hf
    have hr := run_append_grow_src (P := Tryz.prog) w 65 65 ty 3 i0 (.int .i64 0) Tryz.underlying65 hi hz0 bs ks.length cap _ hf (.slice (some ad) 1 c) 1 _ src hc (by omega) (growslice_fits hc (by rw [hz2]; omega))
    rw [hv]
    refine ⟨_, _, hr, .inr ⟨w.heap.size, 0, _, _, by rw [List.length_append]; rfl, hb, heap_alloc_new w.drew _, ?_, ?_, ?_, ?_, ?_⟩, ⟨rfl, rfl, rfl, by simp, fun k hk _ => heap_alloc_old w.drew _ hk⟩, .inr rfl⟩
    · rw [List.length_append]; exact grownCap_ge w _ _ _
    · exact grownCap_le_maxLen w _ _ _ (by unfold maxLen; omega)
    · have := grownCap_ge w (ks.length + 1) cap 3
      simp [size_zeroCells, Value.cells]
      omega
    · intro j hj
      rw [List.length_append] at hj
      have hj' : j < ks.length + 1 := hj
      rw [Nat.zero_add, Array.getElem?_append_left (by simp; omega)]
      simp only [List.getElem?_toArray]
      have e : (ks.map (fun k : Nat => Value.int .i64 (k : Int)) ++ [Value.int .i64 (i : Int)]) = (ks ++ [i]).map fun k : Nat => Value.int .i64 (k : Int) := by simp
      rw [e, List.getElem?_map, List.getElem?_eq_getElem (by simp; omega)]
      rfl
    · intro j x hx
      rw [Array.getElem?_append] at hx
      split at hx
      · simp only [List.getElem?_toArray] at hx
        have := List.mem_of_getElem? hx
        rcases List.mem_append.1 this with h | h
        · obtain ⟨k, _, rfl⟩ := List.mem_map.1 h
          exact ⟨_, rfl⟩
        · rw [List.mem_singleton.1 h]; exact ⟨_, rfl⟩
      · exact zero_ints _ _ _ hx
  rcases h with ⟨h1, rfl⟩ | ⟨g, o, cap, cur, h1, h2, h3, h4, h5, h6, h7, h8⟩
  · exact grow none 0 h1 (by simp) (by simpa using run_firstCells_none (P := Tryz.prog) w.drew i0.size 0 0 0)
  · by_cases hroom : ks.length + 1 ≤ cap
    · have hlt : o + ks.length < cur.size := by omega
      have hr := run_append_room_src (P := Tryz.prog) w 65 65 ty 3 i0 Tryz.underlying65 hi g o ks.length cap (.slice (some ad) 1 c) 1 _ src hroom
        (fun j hj => by
          have : j = 0 := by simpa using hj
          subst this
          rw [Sh.cell_of h3, hz1]
          simp [hlt])
        (fun j _ => Sh.fz_of h3 _)
      rw [h1]
      refine ⟨_, _, hr, .inr ⟨g, o, cap, cur.setIfInBounds (o + ks.length) (.int .i64 (i : Int)), by rw [List.length_append]; rfl, h2, ?_, by rw [List.length_append]; exact hroom, h5, by simpa using h6, ?_, ?_⟩, ?_, .inl rfl⟩
      · show (w.setCell ⟨g, o + ks.length * i0.size, none⟩ _).heap[g]? = _
        rw [hz1, Nat.mul_one]
        exact Sh.heap_set h3 _ _
      · intro j hj
        rw [List.length_append] at hj
        have hj' : j < ks.length + 1 := hj
        rw [Array.getElem?_setIfInBounds]
        by_cases e : j = ks.length
        · subst e
          simp [hlt]
        · rw [if_neg (by omega), h7 j (by omega), List.getElem_append_left (by omega)]
      · intro j x hx
        rw [Array.getElem?_setIfInBounds] at hx
        split at hx
        · exact ⟨_, (Option.some.inj hx).symm⟩
        · exact h8 j x hx
      · refine ⟨rfl, rfl, rfl, by show _ ≤ (w.setCell _ _).heap.size; simp, fun k hk hne => ?_⟩
        exact Below.heap_setCell _ _ _ _ (fun e => hne (by rw [e]; rfl))
    · refine grow (some ⟨g, o, none⟩) cap h1 (by omega) (run_firstCells_some w.drew i0.size ks.length ⟨g, o, none⟩ ks.length cap _ (by rw [hz1]; simp) fun j u hu => ?_)
      rw [List.getElem?_map] at hu
      rw [addr_add]
      show w.cell? _ = _
      rw [Sh.cell_of h3]
      cases hk : ks[j]? with
      | none => rw [hk] at hu; cases hu
      | some k =>
        rw [hk] at hu
        have hu := Option.some.inj hu
        obtain ⟨hj, hk'⟩ := List.getElem?_eq_some_iff.1 hk
        rw [h7 j hj, ← hu, hk']
theorem wp_q {w : World} {o : Oper} {a : Act} {K : Act → World → Prop} {Q : Exit → Act → World → Prop} (s x : Operand)
    (ho : o.op = .call { callee := .builtin .append, args := #[s, x], argTypes := #[65, 65] })
    (base : Nat) (v : Value) (ks : List Nat) (hs : a.eval s = v) (hq : QAt w base v ks) (i : Nat) (ad : Addr) (c : Nat) (hx : a.eval x = .slice (some ad) 1 c) (had : w.cell? ad = some (.int .i64 (i : Int))) (hl : ks.length ≤ 1048576) (hb : base ≤ w.heap.size)
    (h : ∀ v' w', QAt w' base v' (ks ++ [i]) → w.grownBy w' v.ownBlock → (v'.ownBlock = v.ownBlock ∨ v'.ownBlock = some w.heap.size) → K (a.put o.dst v') w') : o.wp Tryz.prog a w K Q := by
  obtain ⟨v', w', hr, h2, h3, h4⟩ := hq.app i o.type ad c had hl hb
  unfold Oper.wp execOp
  simp only [ho, resolve, invoke, builtin, Sem.run_bind, Sem.run_pure, Result.andThen_ok, List.map_toArray, List.map_cons, List.map_nil, hs, hx, hr]
  exact h v' w' h2 h3 h4
theorem wpList_q {w : World} {ops : Array Oper} {rest : List Oper} {o : Oper} {a : Act} {Q : Exit → Act → World → Prop} (hgd : o.guard = none) (s x : Operand)
    (ho : o.op = .call { callee := .builtin .append, args := #[s, x], argTypes := #[65, 65] })
    (base : Nat) (v : Value) (ks : List Nat) (hs : a.eval s = v) (hq : QAt w base v ks) (i : Nat) (ad : Addr) (c : Nat) (hx : a.eval x = .slice (some ad) 1 c) (had : w.cell? ad = some (.int .i64 (i : Int))) (hl : ks.length ≤ 1048576) (hb : base ≤ w.heap.size)
    (h : ∀ v' w', QAt w' base v' (ks ++ [i]) → w.grownBy w' v.ownBlock → (v'.ownBlock = v.ownBlock ∨ v'.ownBlock = some w.heap.size) → wpList Tryz.prog ops Q rest (a.put o.dst v') w') : wpList Tryz.prog ops Q (o :: rest) a w :=
  wpList_plain hgd fun _ hK => wp_q s x ho base v ks hs hq i ad c hx had hl hb fun v' w' h2 h3 h4 => hK _ _ (h v' w' h2 h3 h4)
def bsV (st : List Bool) : Array Value := (st.map Value.bool).toArray
structure StM (w : World) (base P G Q : Nat) (st : List Bool) (v : Value) (ks : List Nat) : Prop where
  p : w.heap[P]? = some (.cells #[.slice (some ⟨G, 0, none⟩) st.length st.length] 53 (0, 0))
  g : w.heap[G]? = some (.cells (bsV st) 4 (0, 0))
  q : w.heap[Q]? = some (.cells #[v] 65 (0, 0))
  row : QAt w base v ks
theorem heap_ne {w : World} {a b : Nat} {o o' : Obj} (ha : w.heap[a]? = some o) (hb : w.heap[b]? = some o') (h : o ≠ o') : a ≠ b := fun e => by
  subst e
  rw [ha] at hb
  exact h (Option.some.inj hb)
theorem ty_ne {w : World} {a b : Nat} {c c' : Array Value} {T U : TypeId} {z z' : Nat × Nat} (ha : w.heap[a]? = some (.cells c T z)) (hb : w.heap[b]? = some (.cells c' U z')) (h : T ≠ U) : a ≠ b := heap_ne ha hb fun e => by
  injection e with _ e
  exact h e
theorem StM.own {w : World} {base P G Q : Nat} {st : List Bool} {v : Value} {ks : List Nat} (h : StM w base P G Q st v ks) {j : Nat} (hj : v.ownBlock = some j) : j ≠ P ∧ j ≠ G ∧ j ≠ Q := by
  obtain ⟨cur, hc, _⟩ := h.row.block hj
  exact ⟨ty_ne hc h.p (by decide), ty_ne hc h.g (by decide), ty_ne hc h.q (by decide)⟩
theorem StM.below {w w' : World} {base P G Q : Nat} {st : List Bool} {v : Value} {ks : List Nat} (h : StM w base P G Q st v ks) (hb : Below w.heap.size w w') : StM w' base P G Q st v ks :=
  ⟨(hb.block _ (Array.getElem?_eq_some_iff.1 h.p).1).trans h.p, (hb.block _ (Array.getElem?_eq_some_iff.1 h.g).1).trans h.g, (hb.block _ (Array.getElem?_eq_some_iff.1 h.q).1).trans h.q, h.row.below hb⟩
theorem bsV_set (st : List Bool) (i : Nat) (b : Bool) : (bsV st).setIfInBounds i (.bool b) = bsV (st.set i b) := by
  unfold bsV
  simp [List.map_set]
theorem bsV_at {st : List Bool} {i : Nat} (h : i < st.length) : (bsV st)[i]? = some (.bool st[i]) := by
  unfold bsV
  simp [h]
theorem StM.mark {w : World} {base P G Q : Nat} {st : List Bool} {v : Value} {ks : List Nat} (h : StM w base P G Q st v ks) (i : Nat) : StM (w.setCell ⟨G, i, none⟩ (.bool true)) base P G Q (st.set i true) v ks := by
  refine ⟨?_, ?_, ?_, h.row.kept fun j hj => Below.heap_setCell _ _ _ _ (h.own hj).2.1⟩
  · rw [Below.heap_setCell _ _ _ _ (ty_ne h.p h.g (by decide)), List.length_set]; exact h.p
  · rw [Sh.heap_set h.g, bsV_set]
  · rw [Below.heap_setCell _ _ _ _ (ty_ne h.q h.g (by decide))]; exact h.q
theorem StM.put {w w2 : World} {base P G Q : Nat} {st : List Bool} {v v' : Value} {ks ks' : List Nat} (h : StM w base P G Q st v ks) (hg : w.grownBy w2 v.ownBlock) (hq : QAt w2 base v' ks') : StM (w2.setCell ⟨Q, 0, none⟩ v') base P G Q st v' ks' := by
  have lt : ∀ {j : Nat} {o : Obj}, w.heap[j]? = some o → j < w.heap.size := fun hj => (Array.getElem?_eq_some_iff.1 hj).1
  have ne : ∀ {j : Nat} {c : Array Value} {T : TypeId} {z}, w.heap[j]? = some (.cells c T z) → T ≠ 3 → some j ≠ v.ownBlock := fun hj hT e => by
    obtain ⟨cur, hc, _⟩ := h.row.block e.symm
    exact ty_ne hj hc hT rfl
  have hP := (hg.block P (lt h.p) (ne h.p (by decide))).trans h.p
  have hG := (hg.block G (lt h.g) (ne h.g (by decide))).trans h.g
  have hQ := (hg.block Q (lt h.q) (ne h.q (by decide))).trans h.q
  refine ⟨?_, ?_, one_setCell hQ, hq.kept fun j hj => Below.heap_setCell _ _ _ _ ?_⟩
  · rw [Below.heap_setCell _ _ _ _ (ty_ne h.p h.q (by decide))]; exact hP
  · rw [Below.heap_setCell _ _ _ _ (ty_ne h.g h.q (by decide))]; exact hG
  · obtain ⟨cur, hc, _⟩ := hq.block hj
    exact ty_ne hc hQ (by decide)
theorem StM.put_q {w w2 : World} {base P G Q : Nat} {st : List Bool} {v : Value} {ks : List Nat} (h : StM w base P G Q st v ks) (hg : w.grownBy w2 v.ownBlock) : w2.heap[Q]? = some (.cells #[v] 65 (0, 0)) := by
  refine (hg.block Q (Array.getElem?_eq_some_iff.1 h.q).1 fun e => ?_).trans h.q
  obtain ⟨cur, hc, _⟩ := h.row.block e.symm
  exact ty_ne h.q hc (by decide) rfl
set_option maxRecDepth 100000 in
set_option maxHeartbeats 4000000 in
theorem keep_any (base P G Q i : Nat) (st : List Bool) (v : Value) (ks : List Nat) (w : World) (h : StM w base P G Q st v ks) (hi : i < st.length) (hl : ks.length ≤ 1048576) (hb : base ≤ w.heap.size) :
    Calls Tryz.prog 40 #[.int .i64 (i : Int), .pointer (some ⟨P, 0, none⟩), .pointer (some ⟨Q, 0, none⟩)] w fun e w' => e = .returned (.tuple #[]) ∧ ∃ v', StM w' base P G Q (st.set i true) v' (ks ++ [i]) ∧ (v'.ownBlock = v.ownBlock ∨ ∃ g, v'.ownBlock = some g ∧ w.heap.size ≤ g) ∧ Sh.Kp (fun j => j = G ∨ j = Q ∨ v.ownBlock = some j) w w' := by
  have H := hid h
  have cP := Sh.cell_of h.p 0
  have cG : w.cell? ⟨G, i, none⟩ = some (.bool st[i]) := (Sh.cell_of h.g i).trans (bsV_at hi)
  have fG : w.frozen? ⟨G, i, none⟩ = false := Sh.fz_of h.g i
  have nPG := ty_ne h.p h.g (by decide)
  have nQG := ty_ne h.q h.g (by decide)
  have cQ : w.cell? ⟨Q, 0, none⟩ = some v := Sh.cell_of h.q 0
  have fQ : w.frozen? ⟨Q, 0, none⟩ = false := Sh.fz_of h.q 0
  have hQlt := (Array.getElem?_eq_some_iff.1 h.q).1
  obtain ⟨va, vc, rfl⟩ := h.row.form
  clear h
  go_enter Tryz.func40, Tryz.ntmps40
  have HX := hid ((H.out.mark i).below (below_al (o := .cells #[.int .i64 (i : Int)] 3) (Below.refl _ _)))
  have hX : ((w.setCell ⟨G, i, none⟩ (.bool true)).alloc (.cells #[.int .i64 (i : Int)] 3)).cell? ⟨w.heap.size, 0, none⟩ = some (.int .i64 (i : Int)) := by
    have := cell_new (w.setCell ⟨G, i, none⟩ (.bool true)) #[.int .i64 (i : Int)] 3 0
    rw [World.size_setCell] at this
    exact this
  have hXc := hid hX
  clear hX
  go_wp2_with (at_builtin; refine wpList_q rfl (.tmp 7) (.tmp 9) rfl base (.slice va ks.length vc) ks rfl HX.out.row i _ 1 rfl hXc.out hl (by simp; omega) ?_; intro v2 w2 hq2 hg2 ho2; have c2 : w2.cell? ⟨Q, 0, none⟩ = some (.slice va ks.length vc) := Sh.cell_of (HX.out.put_q hg2) 0; have f2 : w2.frozen? ⟨Q, 0, none⟩ = false := Sh.fz_of (HX.out.put_q hg2) 0; obtain ⟨wa, wc, rfl⟩ := hq2.form; have HP := hid (HX.out.put hg2 hq2); have HG := hid hg2; have HO := hid ho2; clear hq2 hg2 ho2)
  go_end0
  have hP := HP.out
  have hO := HO.out
  rw [show (ks ++ [i]).length = ks.length + 1 by simp] at hP hO
  refine ⟨rfl, _, hP, ?_, ?_⟩
  · rcases hO with h | h
    · exact .inl h
    · exact .inr ⟨_, h, by simp⟩
  · have g := HG.out
    refine ⟨g.os, g.tape, g.output, ?_, fun j hj hne => ?_⟩
    · have := g.size
      simp at this ⊢
      omega
    · rw [Below.heap_setCell _ _ _ _ (fun e => hne (.inr (.inl e))), g.block j (by simp; omega) (fun e => hne (.inr (.inr e.symm))), Below.heap_alloc _ _ j (by simpa using hj)]
      exact Below.heap_setCell _ _ _ _ (fun e => hne (.inl e))
end Go.Proofs.YtblkldfokeeaeacGreatDoor
namespace Go.Proofs.YtblkldfokeeaeacGreatDoor
open Go.RowKit Go.Maps
def fal : List Bool → Nat
  | [] => 0
  | b :: l => (if b then 0 else 1) + fal l
theorem fal_set : ∀ {st : List Bool} {i : Nat}, st[i]? = some false → fal (st.set i true) + 1 = fal st
  | [], _, h => by simp at h
  | b :: l, 0, h => by
    have : b = false := by simpa using h
    subst this
    simp [fal]
    omega
  | b :: l, i + 1, h => by
    have := fal_set (st := l) (i := i) (by simpa using h)
    simp only [List.set_cons_succ, fal]
    omega
theorem fal_rep : ∀ n, fal (List.replicate n false) = n
  | 0 => rfl
  | n + 1 => by simp [List.replicate_succ, fal, fal_rep n]; omega
structure Inv (md : Nat → Prop) (mt : Nat → Nat → Prop) (sy : Nat → Prop) (n : Nat) (ex : Nat → Nat → Prop) (st : List Bool) (ks : List Nat) : Prop where
  len : st.length = n
  few : ks.length + fal st ≤ n
  inn : ∀ k ∈ ks, k < n ∧ sy k
  sound : ∀ i, st[i]? = some true → sy i
  base : ∀ i, i < n → md i → st[i]? = some true
  closed : ∀ i a, i < n → a < n → st[a]? = some true → a ∉ ks → ¬ ex i a → mt i a → st[i]? = some true
section
variable {md : Nat → Prop} {mt : Nat → Nat → Prop} {sy : Nat → Prop} {n : Nat} {ex : Nat → Nat → Prop} {st : List Bool} {ks : List Nat}
theorem Inv.keep (h : Inv md mt sy n ex st ks) {i : Nat} (hi : i < n) (hf : st[i]? = some false) (hs : sy i) : Inv md mt sy n ex (st.set i true) (ks ++ [i]) := by
  have hil : i < st.length := by rw [h.len]; exact hi
  have old : ∀ {j : Nat}, st[j]? = some true → (st.set i true)[j]? = some true := fun {j} hj => by
    rw [List.getElem?_set]
    split
    · simp
    · exact hj
  have new : ∀ {j : Nat}, (st.set i true)[j]? = some true → j = i ∨ st[j]? = some true := fun {j} hj => by
    rw [List.getElem?_set] at hj
    split at hj
    · rename_i e; exact .inl e.symm
    · exact .inr hj
  refine ⟨by rw [List.length_set]; exact h.len, ?_, ?_, ?_, fun j hj hm => old (h.base j hj hm), ?_⟩
  · have := fal_set hf
    have := h.few
    simp
    omega
  · intro k hk
    rcases List.mem_append.1 hk with hk | hk
    · exact h.inn k hk
    · rw [List.mem_singleton.1 hk]; exact ⟨hi, hs⟩
  · intro j hj
    rcases new hj with rfl | hj
    · exact hs
    · exact h.sound j hj
  · intro j a hj ha hta hna hne hm
    rcases new hta with rfl | hta
    · exact absurd (List.mem_append.2 (.inr (List.mem_singleton.2 rfl))) hna
    · exact old (h.closed j a hj ha hta (fun hk => hna (List.mem_append.2 (.inl hk))) hne hm)
theorem Inv.pop {a : Nat} (h : Inv md mt sy n (fun _ _ => False) st (a :: ks)) : Inv md mt sy n (fun i b => b = a ∧ 0 ≤ i) st ks :=
  ⟨h.len, by have := h.few; simp at this; omega, fun k hk => h.inn k (List.mem_cons_of_mem _ hk), h.sound, h.base, fun i b hi hb htb hnb hne hm => h.closed i b hi hb htb (fun hk => by
    rcases List.mem_cons.1 hk with e | hk
    · exact hne ⟨e, Nat.zero_le _⟩
    · exact hnb hk) (fun h => h) hm⟩
theorem Inv.next {a j : Nat} (h : Inv md mt sy n (fun i b => b = a ∧ j ≤ i) st ks) (hj : mt j a → st[j]? = some true) : Inv md mt sy n (fun i b => b = a ∧ j + 1 ≤ i) st ks :=
  ⟨h.len, h.few, h.inn, h.sound, h.base, fun i b hi hb htb hnb hne hm => by
    by_cases e : b = a ∧ i = j
    · obtain ⟨rfl, rfl⟩ := e
      exact hj hm
    · exact h.closed i b hi hb htb hnb (fun ⟨h1, h2⟩ => by
        have h3 : i ≠ j := fun h => e ⟨h1, h⟩
        exact hne ⟨h1, by omega⟩) hm⟩
theorem Inv.all {a : Nat} (h : Inv md mt sy n (fun i b => b = a ∧ n ≤ i) st ks) : Inv md mt sy n (fun _ _ => False) st ks :=
  ⟨h.len, h.few, h.inn, h.sound, h.base, fun i b hi hb htb hnb _ hm => h.closed i b hi hb htb hnb (fun h => by omega) hm⟩
theorem Inv.done (h : Inv md mt sy n (fun _ _ => False) st []) (hind : ∀ T : Nat → Prop, (∀ i, i < n → md i → T i) → (∀ i a, i < n → a < n → T a → mt i a → T i) → ∀ i, i < n → sy i → T i) (i : Nat) (hi : i < n) : st[i]? = some true ↔ sy i :=
  ⟨h.sound i, hind (fun i => st[i]? = some true) h.base (fun i a hi ha hta hm => h.closed i a hi ha hta (by simp) (fun h => h) hm) i hi⟩
end
structure InvF (md : Nat → Prop) (n j : Nat) (st : List Bool) (ks : List Nat) : Prop where
  len : st.length = n
  few : ks.length + fal st ≤ n
  inn : ∀ k ∈ ks, k < n ∧ md k
  are : ∀ i, st[i]? = some true → i ∈ ks ∧ i < j
  base : ∀ i, i < j → md i → st[i]? = some true
section
variable {md : Nat → Prop} {n j : Nat} {st : List Bool} {ks : List Nat}
theorem InvF.start (md : Nat → Prop) (n : Nat) : InvF md n 0 (List.replicate n false) [] :=
  ⟨by simp, by rw [fal_rep]; simp, by simp, fun i hi => by
    rw [List.getElem?_replicate] at hi
    exact absurd hi (by split <;> simp), fun i hi => by omega⟩
theorem InvF.no (h : InvF md n j st ks) (hm : ¬ md j) : InvF md n (j + 1) st ks :=
  ⟨h.len, h.few, h.inn, fun i hi => ⟨(h.are i hi).1, by have := (h.are i hi).2; omega⟩, fun i hi hmi => by
    by_cases e : i = j
    · subst e; exact absurd hmi hm
    · exact h.base i (by omega) hmi⟩
theorem InvF.is (h : InvF md n j st ks) (hj : j < n) : st[j]? = some false := by
  have hjl : j < st.length := by rw [h.len]; exact hj
  rw [List.getElem?_eq_getElem hjl]
  cases hb : st[j] with
  | false => rfl
  | true =>
    have := (h.are j (by rw [List.getElem?_eq_getElem hjl, hb])).2
    omega
theorem InvF.yes (h : InvF md n j st ks) (hj : j < n) (hm : md j) : InvF md n (j + 1) (st.set j true) (ks ++ [j]) := by
  have hjl : j < st.length := by rw [h.len]; exact hj
  refine ⟨by rw [List.length_set]; exact h.len, ?_, ?_, ?_, ?_⟩
  · have := fal_set (h.is hj)
    have := h.few
    simp
    omega
  · intro k hk
    rcases List.mem_append.1 hk with hk | hk
    · exact h.inn k hk
    · rw [List.mem_singleton.1 hk]; exact ⟨hj, hm⟩
  · intro i hi
    rw [List.getElem?_set] at hi
    split at hi
    · rename_i e
      subst e
      exact ⟨List.mem_append.2 (.inr (List.mem_singleton.2 rfl)), by omega⟩
    · have := h.are i hi
      exact ⟨List.mem_append.2 (.inl this.1), by omega⟩
  · intro i hi hmi
    rw [List.getElem?_set]
    split
    · simp
    · exact h.base i (by omega) hmi
theorem InvF.inv (h : InvF md n n st ks) (mt : Nat → Nat → Prop) (sy : Nat → Prop) (hs : ∀ i, i < n → md i → sy i) : Inv md mt sy n (fun _ _ => False) st ks :=
  ⟨h.len, h.few, fun k hk => ⟨(h.inn k hk).1, hs k (h.inn k hk).1 (h.inn k hk).2⟩, fun i hi => hs i (h.inn i (h.are i hi).1).1 (h.inn i (h.are i hi).1).2, h.base, fun _ a _ _ hta hna => absurd (h.are a hta).1 hna⟩
end
def mdB (R : List Ru) (i : Nat) : Prop := ∃ r, R[i]? = some r ∧ r.media.toList.isEmpty = false
def mtB (l : List Nd) (R : List Ru) (i a : Nat) : Prop := ∃ r q, R[i]? = some r ∧ R[a]? = some q ∧ meetB l r q = true
def syB (l : List Nd) (R : List Ru) (i : Nat) : Prop := ∃ r, R[i]? = some r ∧ Stay l R r
theorem sy_md {l : List Nd} {R : List Ru} (i : Nat) (_ : i < R.length) (h : mdB R i) : syB l R i := by
  obtain ⟨r, h1, h2⟩ := h
  exact ⟨r, h1, .base (List.mem_of_getElem? h1) h2⟩
theorem sy_mt {l : List Nd} {R : List Ru} {i a : Nat} (ha : syB l R a) (h : mtB l R i a) : syB l R i := by
  obtain ⟨r, q, h1, h2, h3⟩ := h
  obtain ⟨q', h4, h5⟩ := ha
  rw [h2] at h4
  cases h4
  exact ⟨r, h1, .step (List.mem_of_getElem? h1) h5 h3⟩
theorem sy_ind {l : List Nd} {R : List Ru} (T : Nat → Prop) (h1 : ∀ i, i < R.length → mdB R i → T i) (h2 : ∀ i a, i < R.length → a < R.length → T a → mtB l R i a → T i) (i : Nat) (_ : i < R.length) (h : syB l R i) : T i := by
  obtain ⟨r, hr, hs⟩ := h
  have lt : ∀ {i : Nat} {r : Ru}, R[i]? = some r → i < R.length := fun h => (List.getElem?_eq_some_iff.1 h).1
  have : ∀ r, Stay l R r → ∀ i, R[i]? = some r → T i := by
    intro r hs
    unfold Stay at hs
    induction hs with
    | base hm hd => exact fun i hi => h1 i (lt hi) ⟨_, hi, hd⟩
    | step hm hq hmt ih =>
      intro i hi
      obtain ⟨a, ha⟩ := List.mem_iff_getElem?.1 hq.mem
      exact h2 i a (lt hi) (lt ha) (ih a ha) ⟨_, _, hi, ha, hmt⟩
  exact this r hs i hr
theorem stays_of {l : List Nd} {R : List Ru} {st : List Bool} (h : Inv (mdB R) (mtB l R) (syB l R) R.length (fun _ _ => False) st []) : st = R.map (stayB l R) := by
  apply List.ext_getElem?
  intro i
  by_cases hi : i < R.length
  · have e := h.done sy_ind i hi
    rw [List.getElem?_map, List.getElem?_eq_getElem hi, List.getElem?_eq_getElem (by rw [h.len]; exact hi)] at *
    simp only [Option.map_some, Option.some.injEq] at e ⊢
    rw [Bool.eq_iff_iff, e]
    unfold syB
    rw [List.getElem?_eq_getElem hi]
    simp only [Option.some.injEq]
    constructor
    · rintro ⟨r, rfl, hs⟩; exact stay_iff.2 hs
    · intro hs; exact ⟨_, rfl, stay_iff.1 hs⟩
  · rw [List.getElem?_eq_none (by rw [h.len]; omega), List.getElem?_eq_none (by simp; omega)]
end Go.Proofs.YtblkldfokeeaeacGreatDoor
