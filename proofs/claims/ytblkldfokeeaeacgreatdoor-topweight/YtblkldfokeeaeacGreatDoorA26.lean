/- Texts that the statement's proof stands on: F3, F4, F5. -/
import Derived.Test.YtblkldfokeeaeacGreatDoorA25
namespace Go.Proofs.YtblkldfokeeaeacGreatDoor
open Go.RowKit
theorem tab_mx {w : World} (h : Tab w) : Sh.Mx w := h.mx
theorem declsErr_nz {s : Bs} {e : Nat} (h : declsErr s = some e) : e ≠ 0 := by
  unfold declsErr at h
  cases hp : Sh.declsParse s with
  | error x => rw [hp] at h; injection h with h; subst h; exact Sh.decls_fault hp
  | ok D =>
    rw [hp] at h
    simp only at h
    split at h
    · injection h with h; omega
    · cases h
set_option maxRecDepth 100000 in
set_option maxHeartbeats 4000000 in
theorem wrongDecls_any (s : Bs) (w : World) (hs : s.length ≤ 6000) (hT : Tab w) :
    Calls Tryz.prog 64 #[.string (bsL s)] w fun e w' => e = .returned (.int .i64 (((declsErr s).getD 0 : Nat) : Int)) ∧ Below w.heap.size w w' := by
  have HT := hid hT
  clear hT
  go_enter Tryz.func64, Tryz.ntmps64
  go_wp2_with fail
  refine Sh.dparse_any (bsL s) w _ (by rw [bsL_size]; omega) (tab_mx HT.out) (hid ?_) (hid ?_)
  · intro L nv w2 hp hd hb2
    rw [bsL_data] at hp
    have hdd := ds_of hd
    obtain ⟨na, nc, rfl⟩ := Sl.form hdd
    have b3 := hb2.alloc hb2.size (.cells #[.int .i64 0, .int .i64 0] 25)
    have x3 := Ext.below b3
    have sm : SmDs (L.map ofD) := sm_decls (Sh.declsParse_ok hp).1 fun d hd => dcl_bd ((Sh.declsParse_ok hp).2 d hd)
    have AA := hid (all_any (.slice na (L.map ofD).length nc) (L.map ofD) (w2.alloc (.cells #[.int .i64 0, .int .i64 0] 25)) (hdd.ext (ext_alloc _ _)) sm (HT.out.ext x3))
    have HE : Hid (declsErr s = if (allB (L.map Sh.ofL)).isNone then some 5 else none) := by
      show declsErr s = _
      unfold declsErr
      rw [hp]
    rw [map_ofD] at AA ⊢
    have B3 := hid b3
    clear hp hd hdd hb2 b3 x3 sm
    generalize L.map Sh.ofL = ds at *
    cases ha : allB ds with
    | none =>
      rw [ha] at AA HE
      simp only [Ans, badV] at AA
      go_wp2_with (go_at_call 62; refine AA.out.mono ?_; rintro e w4 ⟨rfl, hb4⟩; have B4 := hid (below_trans B3.out hb4 (Nat.le_refl _)); clear hb4)
      go_ret
      exact ⟨by rw [HE.out]; rfl, B4.out⟩
    | some A =>
      rw [ha] at AA HE
      simp only [Ans] at AA
      go_wp2_with (go_at_call 62; refine AA.out.mono ?_; rintro e w4 ⟨⟨aa, ac, rfl, _⟩, hb4⟩; have B4 := hid (below_trans B3.out hb4 (Nat.le_refl _)); clear hb4)
      go_ret
      exact ⟨by rw [HE.out]; rfl, B4.out⟩
  · intro y w2 hp hb2
    rw [bsL_data] at hp
    have hy := Sh.decls_fault hp
    have hy' : ¬ ((y.1 : Int) = 0) := by omega
    have HE : Hid (declsErr s = some y.1) := by
      show declsErr s = _
      unfold declsErr
      rw [hp]
    have B3 := hid (hb2.alloc hb2.size (.cells #[.int .i64 y.1, .int .i64 y.2] 25))
    clear hp hb2 hy
    go_wp2_with fail
    go_ret
    exact ⟨by rw [HE.out]; rfl, B3.out⟩
def ownN (n : Sh.Nd) : Bs := match ownA n with
  | none => []
  | some a => a.name
def ownT (n : Sh.Nd) : Nat := match ownA n with
  | none => 0
  | some a => a.to_
theorem atr_eq (n : Sh.Nd) : atrV (ownA n) = .agg #[.string (bsL (ownN n)), .string (bsL (ownV n)), .int .i64 (ownF n), .int .i64 (ownT n)] := by
  unfold ownN ownV ownF ownT
  cases ownA n <;> rfl
theorem own_len {n : Sh.Nd} {m : Nat} (h : NdBd m n) : (ownV n).length ≤ m ∧ ownF n ≤ m := by
  unfold ownV ownF
  cases ho : ownA n with
  | none => exact ⟨Nat.zero_le _, Nat.zero_le _⟩
  | some a =>
    obtain ⟨_, h1, h2, h3⟩ := h.at_ a (own_find ho).1
    exact ⟨h1, Nat.le_trans h2 h3⟩
theorem ndBd_mono {m k : Nat} {n : Sh.Nd} (h : NdBd m n) (hm : m ≤ k) : NdBd k n :=
  ⟨h.few, Nat.le_trans h.ne hm, h.fr, Nat.le_trans h.to hm, fun a ha => by obtain ⟨x1, x2, x3, x4⟩ := h.at_ a ha; exact ⟨x1, by omega, x3, by omega⟩, h.nm⟩
theorem nd_cells {w : World} {b off : Nat} {n : Sh.Nd} (h : eN w (fun j => w.cell? ⟨b, off + j, none⟩) (ofN n)) : ∃ aa ac, w.cell? ⟨b, off, none⟩ = some (.string (bsL n.name)) ∧ w.cell? ⟨b, off + 1, none⟩ = some (.int .i64 n.parent) ∧ w.cell? ⟨b, off + 2, none⟩ = some (.slice aa n.attrs.length ac) ∧ w.cell? ⟨b, off + 3, none⟩ = some (.int .i64 n.nameEnd) ∧ w.cell? ⟨b, off + 4, none⟩ = some (.int .i64 n.inFrom) ∧ w.cell? ⟨b, off + 5, none⟩ = some (.int .i64 n.inTo) ∧ AtsAt w (.slice aa n.attrs.length ac) (n.attrs.map ofA) := by
  obtain ⟨h0, h1, ⟨v, h2, hA⟩, h3, h4, h5⟩ := h
  obtain ⟨aa, ac, rfl⟩ := Sl.form hA
  have e : (ofN n).attrs.length = n.attrs.length := List.length_map ..
  rw [e] at h2 hA
  exact ⟨aa, ac, h0, h1, h2, h3, h4, h5, hA⟩
set_option maxRecDepth 100000 in
set_option maxHeartbeats 4000000 in
theorem wrongOwn_any (L : List Sh.Nd) (lv : Value) (w : World) (hL : NdsAt w lv (L.map ofN)) (hl : L.length ≤ 120) (hb : ∀ n ∈ L, NdBd 6000 n) (hT : Tab w) :
    Calls Tryz.prog 35 #[lv] w fun e w' => e = .returned (faultV ((wrongO L).getD (0, 0))) ∧ Below w.heap.size w w' := by
  obtain ⟨la, lc, rfl⟩ := Sl.form hL
  have HR := hid hL
  have HB := hid hb
  have HT := hid hT
  have HL : Hid ((L.map ofN).length = L.length) := List.length_map ..
  clear hL hb hT
  rw [HL.out]
  go_enter Tryz.func35, Tryz.ntmps35
  go_wp2_with fail
  go_loopg [10] L.length (fun n i wr => ∃ j : Nat, n = L.length - j ∧ j ≤ L.length ∧ i = .int .i64 (j : Int) ∧ wrongO L = wrongO (L.drop j) ∧ FaB wr w.heap.size 0 0 ∧ Below w.heap.size w wr)
  case atStart => exact ⟨0, rfl, Nat.zero_le _, rfl, rfl, FaB.new _ _ _, (Below.refl _ _).alloc (Nat.le_refl _) _⟩
  case round =>
    obtain ⟨j, hn, hj, rfl, hw, hf, hB⟩ := hrel
    rename World => wo
    have GK := hid hn
    have HW := hid hw
    have HF := hid hf
    have HBw := hid hB
    clear hn hw hf hB
    by_cases hlt : j < L.length
    · obtain ⟨b, off, rfl, he⟩ := Sl.at (HR.out.ext (Ext.below HBw.out)) (i := j) (by rw [HL.out]; exact hlt)
      rw [List.getElem_map] at he
      obtain ⟨aa, ac, c0, c1, c2, c3, c4, c5, hA⟩ := nd_cells he
      have hbd := HB.out L[j] (List.getElem_mem hlt)
      have HO := hid (own_len hbd)
      have HN : Hid (wrongO L = match declsErr (ownV L[j]) with | some e => some (e, ownF L[j]) | none => wrongO (L.drop (j + 1))) := by
        show wrongO L = _
        rw [HW.out, List.drop_eq_getElem_cons hlt]; rfl
      have HJ := hid hlt
      have e1 := ext_alloc wo (.cells #[.string (bsL L[j].name), .int .i64 L[j].parent, .slice aa L[j].attrs.length ac, .int .i64 L[j].nameEnd, .int .i64 L[j].inFrom, .int .i64 L[j].inTo] 49)
      have OS := ownStyle_any L[j] (.slice aa L[j].attrs.length ac) _ (hA.ext e1) hbd.few
      rw [atr_eq] at OS
      simp only [nodeV, ofN] at OS
      have OSt := hid OS
      have HB1 : Hid (Below w.heap.size w (wo.alloc (.cells #[.string (bsL L[j].name), .int .i64 L[j].parent, .slice aa L[j].attrs.length ac, .int .i64 L[j].nameEnd, .int .i64 L[j].inFrom, .int .i64 L[j].inTo] 49))) := HBw.out.alloc HBw.out.size _
      have HF1 := hid (HF.out.alloc (.cells #[.string (bsL L[j].name), .int .i64 L[j].parent, .slice aa L[j].attrs.length ac, .int .i64 L[j].nameEnd, .int .i64 L[j].inFrom, .int .i64 L[j].inTo] 49))
      clear he hA e1 OS hbd
      generalize (ownA L[j]).isSome = has at *
      generalize bsL L[j].name = nn at *
      generalize L[j].attrs.length = al at *
      generalize ownV L[j] = ov at *
      generalize ownF L[j] = of at *
      generalize ownT L[j] = ot at *
      generalize bsL (ownN L[j]) = on at *
      go_wp2_with (go_at_call 63; refine OSt.out.mono ?_; rintro e w2 ⟨rfl, hb2⟩; have F2 := hid (HF1.out.below hb2); have B2 := hid (below_trans HB1.out hb2 (Nat.le_refl _)); clear hb2)
      have e3 := ext_alloc w2 (.cells #[.string on, .string (bsL ov), .int .i64 of, .int .i64 ot] 51)
      have WD := hid (wrongDecls_any ov (w2.alloc (.cells #[.string on, .string (bsL ov), .int .i64 of, .int .i64 ot] 51)) HO.out.1 ((HT.out.ext (Ext.below B2.out)).ext e3))
      have F3 := hid (F2.out.alloc (.cells #[.string on, .string (bsL ov), .int .i64 of, .int .i64 ot] 51))
      have B3 := hid (B2.out.alloc B2.out.size (.cells #[.string on, .string (bsL ov), .int .i64 of, .int .i64 ot] 51))
      have K2 := hid (cell_new w2 #[.string on, .string (bsL ov), .int .i64 of, .int .i64 ot] 51 2)
      clear e3
      refine WD.out.mono ?_
      rintro e w4 ⟨rfl, hb4⟩
      have F4 := hid (F3.out.below hb4)
      have B4 := hid (below_trans B3.out hb4 (Nat.le_refl _))
      have k2 := Ext.below hb4 _ _ _ K2.out
      clear hb4 WD
      cases hd : declsErr ov with
      | some er =>
        have HN2 : Hid (wrongO L = some (er, of)) := by have := HN.out; rw [hd] at this; exact this
        have hnz := declsErr_nz hd
        have hnz' : ¬ ((er : Int) = 0) := by omega
        have z0 := F4.out.fz 0
        have z1 := F4.out.fz 1
        have y0 := F4.out.cell0
        have y1 := F4.out.cell1
        simp only [Option.getD]
        clear HN hd
        go_wp2_with fail
        have FS := F4.out.set er of
        have q0 := FS.cell0
        have q1 := FS.cell1
        refine bodyPost_ret (v := faultV (er, of)) (by simp [results, Tryz.results35, go_sem, q0, q1, faultV]) rfl ⟨by rw [HN2.out]; rfl, (B4.out.setCell (Nat.le_refl _) _).setCell (Nat.le_refl _) _⟩
      | none =>
        have HN2 : Hid (wrongO L = wrongO (L.drop (j + 1))) := by have := HN.out; rw [hd] at this; exact this
        simp only [Option.getD]
        clear HN hd
        go_wp2_with fail
        go_roundg (L.length - (j + 1))
        case measure => have := GK.out; have := HJ.out; omega
        case rel => exact ⟨j + 1, rfl, by have := HJ.out; omega, by go_num, HN2.out, F4.out, B4.out⟩
    · have HN2 : Hid (wrongO L = none) := by
        show wrongO L = none
        rw [HW.out, List.drop_eq_nil_of_le (by omega)]; rfl
      have z0 := HF.out.fz 0
      have z1 := HF.out.fz 1
      have y0 := HF.out.cell0
      have y1 := HF.out.cell1
      go_wp2_with fail
      have FS := HF.out.set 0 0
      have q0 := FS.cell0
      have q1 := FS.cell1
      refine bodyPost_ret (v := faultV (0, 0)) (by simp [results, Tryz.results35, go_sem, q0, q1, faultV]) rfl ⟨by rw [HN2.out]; rfl, (HBw.out.setCell (Nat.le_refl _) _).setCell (Nat.le_refl _) _⟩
end Go.Proofs.YtblkldfokeeaeacGreatDoor
namespace Go.Proofs.YtblkldfokeeaeacGreatDoor
open Go.RowKit
theorem keeps_grown {w w' : World} {base n : Nat} {v : Value} {xs : List Value} (ho : w.ownsRow base 38 5 v n xs) (hg : w.grownBy w' v.ownBlock) : Sh.Keeps (· ≠ 38) w w' := fun j cur U fz hU hj => by
  refine hg.block j (Array.getElem?_eq_some_iff.1 hj).1 fun e => ?_
  rcases ho.2 with ⟨hv, _⟩ | ⟨g, cap, cur', hv, _, hb, _⟩
  · rw [hv] at e; cases e
  · rw [hv] at e
    injection e with e
    subst e
    rw [hj] at hb
    injection hb with hb
    injection hb with _ hb _
    exact hU hb
theorem FaB.keeps {w w' : World} {q : Nat} {e a : Int} (h : FaB w q e a) (hk : Sh.Keeps (· ≠ 38) w w') : FaB w' q e a := (hk q _ 25 _ (by decide) h).trans h
theorem rs_src {w : World} {base : Nat} {v : Value} {l : List Sh.Rl} (h : Sh.RsIn w base v l) : ∃ LV : List (Sh.Rl × (Value × Value)), LV.map (·.1) = l ∧ (∀ p ∈ LV, Sh.SsAt w p.2.1 p.1.sels ∧ Sh.DsAt w p.2.2 p.1.decls) ∧ Src w v l.length (LV.flatMap Sh.encR) ∧ w.ownsRow base 38 5 v l.length (LV.flatMap Sh.encR) := by
  obtain ⟨LV, rfl, h2, h3⟩ := h
  refine ⟨LV, rfl, h3, ?_, h2⟩
  rw [List.length_map] at h2 ⊢
  obtain ⟨a, cap, rfl, hn, hc⟩ := own_at (sz := 5) (f := Sh.encR) (fun _ => rfl) (by decide) h2
  exact src_of (by decide) Sh.encR (fun _ => rfl) hn hc
theorem rs_one {w : World} {LV : List (Sh.Rl × (Value × Value))} (h : ∀ p ∈ LV, Sh.SsAt w p.2.1 p.1.sels ∧ Sh.DsAt w p.2.2 p.1.decls) : ∀ u ∈ LV.flatMap Sh.encR, u.oneCell' = true := by
  intro u hu
  obtain ⟨p, hp, hu⟩ := List.mem_flatMap.1 hu
  obtain ⟨h1, h2⟩ := h p hp
  obtain ⟨a1, c1, e1⟩ := Sh.NAt.form (show Sh.SsIn w 0 p.2.1 p.1.sels from h1)
  obtain ⟨a2, c2, e2⟩ := Sh.own_form h2
  simp only [Sh.encR, List.mem_cons, List.not_mem_nil, or_false] at hu
  rcases hu with rfl | rfl | rfl | rfl | rfl
  · rfl
  · rw [e1]; rfl
  · rw [e2]; rfl
  · rfl
  · rfl
theorem rs_keeps {w w' : World} {base : Nat} {v : Value} {l : List Sh.Rl} (h : Sh.RsIn w base v l) (hb : Below w.heap.size w w') : Sh.RsIn w' base v l := h.keeps (Sh.Keeps.below (Ts := fun _ => True) hb) ⟨trivial, trivial, trivial, trivial, trivial⟩
theorem rs_join {w w' : World} {base : Nat} {v v' : Value} {LA LB : List (Sh.Rl × (Value × Value))} (hA : ∀ p ∈ LA, Sh.SsAt w p.2.1 p.1.sels ∧ Sh.DsAt w p.2.2 p.1.decls) (hB : ∀ p ∈ LB, Sh.SsAt w p.2.1 p.1.sels ∧ Sh.DsAt w p.2.2 p.1.decls) {n : Nat} {xs : List Value} (ho : w.ownsRow base 38 5 v n xs)
    (hg : w.grownBy w' v.ownBlock) (hn : w'.ownsRow base 38 5 v' ((LA.map (·.1)).length + (LB.map (·.1)).length) (LA.flatMap Sh.encR ++ LB.flatMap Sh.encR)) : Sh.RsIn w' base v' (LA.map (·.1) ++ LB.map (·.1)) := by
  have hk := keeps_grown ho hg
  refine ⟨LA ++ LB, by simp, ?_, fun p hp => ?_⟩
  · rw [List.length_append, List.flatMap_append]; exact hn
  · rcases List.mem_append.1 hp with hp | hp
    · exact ⟨(hA p hp).1.keeps hk (by decide), (hA p hp).2.keeps hk (by decide)⟩
    · exact ⟨(hB p hp).1.keeps hk (by decide), (hB p hp).2.keeps hk (by decide)⟩
theorem Tryz.infoRl : (Tryz.prog.info? 38).map (fun i => (i.zero, i.size, i.bytes)) = some (some (.agg #[.string ⟨#[]⟩, .slice none 0 0, .slice none 0 0, .int .i64 0, .int .i64 0]), 5, 80) := by kernel_rfl
def restS (S : Bs) (Acc : List Sh.Rl) (L : List Sh.Nd) : Except (Nat × Nat) (List Sh.Rl) := match sheetsB S L with
  | .error x => .error x
  | .ok Q => .ok (Acc ++ Q)
theorem restS_not {S : Bs} {Acc : List Sh.Rl} {n : Sh.Nd} {L : List Sh.Nd} (h : n.name ≠ Sh.styleL) : restS S Acc (n :: L) = restS S Acc L := by
  unfold restS
  rw [show sheetsB S (n :: L) = sheetsB S L from if_neg h]
theorem restS_bad {S : Bs} {Acc : List Sh.Rl} {n : Sh.Nd} {L : List Sh.Nd} (h : n.name = Sh.styleL) {x : Nat × Nat} (hp : Sh.sheetParse (Sh.sub S n.inFrom n.inTo) = .error x) : restS S Acc (n :: L) = .error (x.1, n.inFrom + x.2) := by
  unfold restS sheetsB
  rw [if_pos h, hp]
theorem restS_ok {S : Bs} {Acc : List Sh.Rl} {n : Sh.Nd} {L : List Sh.Nd} (h : n.name = Sh.styleL) {A : List Sh.Rl} (hp : Sh.sheetParse (Sh.sub S n.inFrom n.inTo) = .ok A) : restS S Acc (n :: L) = restS S (Acc ++ A.map (shift n.inFrom)) L := by
  unfold restS
  rw [show sheetsB S (n :: L) = (if n.name = Sh.styleL then match Sh.sheetParse (Sh.sub S n.inFrom n.inTo) with
      | .error x => .error (x.1, n.inFrom + x.2)
      | .ok R => match sheetsB S L with
        | .error x => .error x
        | .ok Q => .ok (R.map (shift n.inFrom) ++ Q)
    else sheetsB S L) from rfl, if_pos h, hp]
  cases sheetsB S L with
  | error x => rfl
  | ok Q => simp
theorem shift_bd {r : Sh.Rl} (o : Nat) (h : RlBd r) : RlBd (shift o r) := ⟨h.sels, h.decls, h.parts, h.texts⟩
set_option maxRecDepth 100000 in
set_option maxHeartbeats 8000000 in
theorem readStyles_any (s : ByteArray) (L : List Sh.Nd) (lv : Value) (w : World) (R : Ending → World → Prop) (hs : s.size ≤ 6000) (hL : NdsAt w lv (L.map ofN)) (hl : L.length ≤ 120) (hb : ∀ n ∈ L, NdBd s.size n) (hT : Tab w)
    (hok : Hid (∀ Q v w', sheetsB s.data.toList L = .ok Q → ¬ 60 < Q.length → (∀ r ∈ Q, RlBd r) → Sh.RsIn w' w.heap.size v Q → Below w.heap.size w w' → R (.returned (.tuple #[v, faultV (0, 0)])) w'))
    (hmany : Hid (∀ Q w', sheetsB s.data.toList L = .ok Q → 60 < Q.length → Below w.heap.size w w' → R (.returned (.tuple #[.slice none 0 0, faultV (5, 0)])) w'))
    (hbad : Hid (∀ (x : Nat × Nat) w', sheetsB s.data.toList L = .error x → x.1 ≠ 0 → Below w.heap.size w w' → R (.returned (.tuple #[.slice none 0 0, faultV x])) w')) :
    Calls Tryz.prog 33 #[.string s, lv] w R := by
  obtain ⟨la, lc, rfl⟩ := Sl.form hL
  have HR := hid hL
  have HB := hid hb
  have HT := hid hT
  have HL : Hid ((L.map ofN).length = L.length) := List.length_map ..
  have HS : Hid (s.data.toList.length = s.size) := (Lib.size_eq s).symm
  clear hL hb hT
  rw [HL.out]
  have H0 : Hid (sheetsB s.data.toList L = restS s.data.toList [] L) := by
    show _ = _
    unfold restS
    cases sheetsB s.data.toList L <;> rfl
  go_enter Tryz.func33, Tryz.ntmps33
  go_wp2_with fail
  go_loopg [6, 13] L.length (fun n v i wr => ∃ (j : Nat) (Acc : List Sh.Rl), n = L.length - j ∧ j ≤ L.length ∧ i = .int .i64 (j : Int) ∧ sheetsB s.data.toList L = restS s.data.toList Acc (L.drop j) ∧ Acc.length ≤ 60 * j ∧ (∀ r ∈ Acc, RlBd r) ∧ Sh.RsIn wr w.heap.size v Acc ∧ FaB wr w.heap.size 0 0 ∧ Below w.heap.size w wr)
  case atStart => exact ⟨0, [], rfl, Nat.zero_le _, rfl, H0.out, Nat.zero_le _, (fun _ h => absurd h (List.not_mem_nil)), Sh.NAt.nil _ _ _ _ _ _, FaB.new _ _ _, (Below.refl _ _).alloc (Nat.le_refl _) _⟩
  case round =>
    obtain ⟨j, Acc, hn, hj, rfl, hw, hacc, hbd, hrs, hf, hB⟩ := hrel
    rename World => wo
    obtain ⟨va, vc, rfl⟩ := rs_form hrs
    have GK := hid hn
    have HW := hid hw
    have HAb := hid hbd
    have HRs := hid hrs
    have HF := hid hf
    have HBw := hid hB
    clear hn hw hf hB hrs hbd H0
    by_cases hlt : j < L.length
    · obtain ⟨b, off, rfl, he⟩ := Sl.at (HR.out.ext (Ext.below HBw.out)) (i := j) (by rw [HL.out]; exact hlt)
      rw [List.getElem_map] at he
      obtain ⟨aa, ac, c0, c1, c2, c3, c4, c5, hA⟩ := nd_cells he
      have hbd := HB.out L[j] (List.getElem_mem hlt)
      have q1 := hbd.fr
      have q2 := hbd.to
      have HJ := hid hlt
      have HD : Hid (L.drop j = L[j] :: L.drop (j + 1)) := List.drop_eq_getElem_cons hlt
      have HSt := hid (sty_bytes L[j].name)
      have HB1 : Hid (Below w.heap.size w (wo.alloc (.cells #[.string (bsL L[j].name), .int .i64 L[j].parent, .slice aa L[j].attrs.length ac, .int .i64 L[j].nameEnd, .int .i64 L[j].inFrom, .int .i64 L[j].inTo] 49))) := HBw.out.alloc HBw.out.size _
      have HF1 := hid (HF.out.alloc (.cells #[.string (bsL L[j].name), .int .i64 L[j].parent, .slice aa L[j].attrs.length ac, .int .i64 L[j].nameEnd, .int .i64 L[j].inFrom, .int .i64 L[j].inTo] 49))
      have HR1 := hid (rs_keeps HRs.out ((Below.refl _ wo).alloc (Nat.le_refl _) (.cells #[.string (bsL L[j].name), .int .i64 L[j].parent, .slice aa L[j].attrs.length ac, .int .i64 L[j].nameEnd, .int .i64 L[j].inFrom, .int .i64 L[j].inTo] 49)))
      have K4 := hid (cell_new wo #[.string (bsL L[j].name), .int .i64 L[j].parent, .slice aa L[j].attrs.length ac, .int .i64 L[j].nameEnd, .int .i64 L[j].inFrom, .int .i64 L[j].inTo] 49 4)
      clear he hA hbd
      generalize L[j] = n at *
      generalize n.attrs.length = al at *
      by_cases hnm : n.name = Sh.styleL
      · have hqq : ((bsL n.name).toList == [115, 116, 121, 108, 101]) = true := by rw [HSt.out, hnm]; rfl
        have HBd := hid (fun x hp => restS_bad (S := s.data.toList) (Acc := Acc) (L := L.drop (j + 1)) (x := x) hnm hp)
        have HOk := hid (fun A hp => restS_ok (S := s.data.toList) (Acc := Acc) (L := L.drop (j + 1)) (A := A) hnm hp)
        rw [← HD.out, ← HW.out] at HBd HOk
        clear HSt hnm HD HW
        generalize bsL n.name = nn at *
        generalize n.inFrom = fr at *
        generalize n.inTo = tt at *
        generalize n.parent = pa at *
        generalize n.nameEnd = ne at *
        go_wp2_with fail
        generalize wo.alloc (.cells #[.string nn, .int .i64 pa, .slice aa al ac, .int .i64 ne, .int .i64 fr, .int .i64 tt] 49) = w1 at *
        generalize wo.heap.size = NB at *
        have HT1 := hid (HT.out.ext (Ext.below HB1.out))
        have ex : (s.extract fr tt).data.toList = Sh.sub s.data.toList fr tt := Lib.extract_data s fr tt
        have EX := hid ex
        refine Sh.sparse_any (s.extract fr tt) w1 _ (by rw [ByteArray.size_extract]; omega) (tab_mx HT1.out) (hid ?_) (hid ?_)
        · intro A nv w2 hp hrA hb2 hlA
          rw [EX.out] at hp
          obtain ⟨na, nc, rfl⟩ := rs_form hrA
          have hbA := sheet_bd hp
          have hsub : (Sh.sub s.data.toList fr tt).length ≤ 6000 := Nat.le_trans (sub_len_le _ _ _) (by rw [HS.out]; exact hs)
          have b3 : Below w1.heap.size w1 (w2.alloc (.cells #[.int .i64 0, .int .i64 0] 25)) := hb2.alloc hb2.size _
          have r3 := rs_keeps hrA ((Below.refl _ w2).alloc (Nat.le_refl _) (.cells #[.int .i64 0, .int .i64 0] 25))
          have MV := hid (moved_any A (.slice na A.length nc) fr w1.heap.size (w2.alloc (.cells #[.int .i64 0, .int .i64 0] 25)) r3 hlA (by omega) (fun r hr => by have := hbA.2 r hr; omega))
          have k4 := Ext.below b3 _ _ _ K4.out
          have HNx := hid (HOk.out A hp)
          have HbA := hid (sheet_rl hp)
          have B3 := hid b3
          clear hp hrA hb2 hbA hsub b3 r3 HBd HOk EX ex
          have hl60 : Acc.length + A.length ≤ 7200 := by omega
          go_wp2_with (first
            | (go_at_call 61; refine MV.out.mono ?_; rintro e w4 ⟨rfl, hr4, hb4⟩; have B4 : Hid (Below w1.heap.size w1 w4) := B3.out.trans hb4; have R4 := hid hr4; obtain ⟨LB, hLB, hPB, hSB, _⟩ := rs_src hr4; have HLB := hid hLB; have HPB := hid hPB; have HSB := hid hSB; obtain ⟨LA, hLA, hPA, _, hOA⟩ := rs_src (HR1.out.keeps (Sh.Keeps.below (Ts := fun _ => True) B4.out) ⟨trivial, trivial, trivial, trivial, trivial⟩); have HLA := hid hLA; have HPA := hid hPA; have HOA := hid hOA; clear hr4 hb4 hLB hPB hSB hLA hPA hOA)
            | (at_builtin; refine wpList_app rfl (.tmp 44) (.tmp 49) 29 rfl w.heap.size 38 _ 5 80 Tryz.underlying29 Tryz.infoRl rfl (by decide) (.slice va Acc.length vc) Acc.length (LA.flatMap Sh.encR) rfl HOA.out (.slice na A.length nc) A.length (LB.flatMap Sh.encR) rfl (by have := HSB.out; rw [List.length_map] at this; exact this) (by rw [flat_len 5 Sh.encR (fun _ => rfl)]; have := congrArg List.length HLB.out; simp at this; rw [this]) (rs_one HPB.out) (by unfold maxLen; omega) (by omega) (by have := HB1.out.size; have := B4.out.size; omega) ?_; intro v5 w5 hv5 hg5))
          have e1 : (LA.map (·.1)).length + (LB.map (·.1)).length = Acc.length + A.length := by rw [HLA.out, HLB.out, List.length_map]
          have R5 := rs_join HPA.out HPB.out HOA.out hg5 (by rw [e1]; exact hv5)
          rw [HLA.out, HLB.out] at R5
          have R5' := hid R5
          have F4 : FaB w4 w.heap.size 0 0 := (B4.out.block _ HF1.out.lt).trans HF1.out
          have F5 := hid (F4.keeps (keeps_grown HOA.out hg5))
          have B5 : Hid (Below w.heap.size w w5) := (HB1.out.trans (B4.out.mono HB1.out.size)).grown hg5 (by have := HB1.out.size; have := B4.out.size; omega) (fun i hi => (HOA.out.lt i hi).1)
          clear R5 F4 e1 hv5 hg5
          go_roundg (L.length - (j + 1))
          case measure => have := GK.out; have := HJ.out; omega
          case rel => exact ⟨j + 1, _, rfl, by have := HJ.out; omega, by go_num, HNx.out, by simp; omega, (fun r hr => by
            rcases List.mem_append.1 hr with hr | hr
            · exact HAb.out r hr
            · obtain ⟨q, hq, rfl⟩ := List.mem_map.1 hr
              exact shift_bd _ (HbA.out q hq)), R5'.out, F5.out, B5.out⟩
        · intro x w2 hp hb2
          rw [EX.out] at hp
          have hx := Sh.sheet_fault hp
          have hx' : ¬ ((x.1 : Int) = 0) := by omega
          have hsub : (Sh.sub s.data.toList fr tt).length ≤ 6000 := Nat.le_trans (sub_len_le _ _ _) (by rw [HS.out]; exact hs)
          have b3 : Below w1.heap.size w1 (w2.alloc (.cells #[.int .i64 x.1, .int .i64 x.2] 25)) := hb2.alloc hb2.size _
          have k4 := Ext.below b3 _ _ _ K4.out
          have F3 : Hid (FaB (w2.alloc (.cells #[.int .i64 x.1, .int .i64 x.2] 25)) w.heap.size 0 0) := (b3.block _ HF1.out.lt).trans HF1.out
          have B3 := hid (HB1.out.trans (b3.mono HB1.out.size))
          have z0 := F3.out.fz 0
          have z1 := F3.out.fz 1
          have y0 := F3.out.cell0
          have y1 := F3.out.cell1
          have HNx := hid (HBd.out x hp)
          have g0 : (w2.alloc (.cells #[.int .i64 x.1, .int .i64 x.2] 25)).cell? ⟨w2.heap.size, 0, none⟩ = some (.int .i64 x.1) := cell_new w2 _ _ 0
          have g1 : (w2.alloc (.cells #[.int .i64 x.1, .int .i64 x.2] 25)).cell? ⟨w2.heap.size, 1, none⟩ = some (.int .i64 x.2) := cell_new w2 _ _ 1
          have hw1 : IntKind.i64.wrap ((fr : Int) + x.2) = fr + x.2 := by rw [IntKind.wrap_i64]; omega
          have hlt2 : w.heap.size < w2.heap.size := Nat.lt_of_lt_of_le HF1.out.lt hb2.size
          have HX := hid hx.1
          clear hp hb2 b3 HBd HOk EX ex hsub hx
          go_upto_region 8 with fail
          generalize w2.alloc (.cells #[.int .i64 x.1, .int .i64 x.2] 25) = w3 at *
          go_region
          all_goals go_wp2_with fail
          all_goals
            have FS := F3.out.set x.1 ((fr : Int) + x.2)
            have q0 := FS.cell0
            have q1 := FS.cell1
            refine bodyPost_ret (v := .tuple #[.slice none 0 0, faultV (x.1, fr + x.2)]) (by simp [results, Tryz.results33, go_sem, q0, q1, faultV]) rfl ?_
            exact hbad.out (x.1, fr + x.2) _ HNx.out HX.out (((B3.out.setCell (Nat.le_refl _) _).setCell (Nat.le_refl _) _).drew)
      · have hqq : ((bsL n.name).toList == [115, 116, 121, 108, 101]) = false := by rw [HSt.out]; simpa using hnm
        have HNx : Hid (sheetsB s.data.toList L = restS s.data.toList Acc (L.drop (j + 1))) := by
          show _ = _
          rw [HW.out, HD.out, restS_not hnm]
        clear HSt hnm HD HW
        go_wp2_with fail
        go_roundg (L.length - (j + 1))
        case measure => have := GK.out; have := HJ.out; omega
        case rel => exact ⟨j + 1, Acc, rfl, by have := HJ.out; omega, by go_num, HNx.out, by omega, HAb.out, HR1.out, HF1.out, HB1.out⟩
    · have HNx : Hid (sheetsB s.data.toList L = .ok Acc) := by
        show _ = _
        rw [HW.out, List.drop_eq_nil_of_le (by omega)]
        unfold restS sheetsB
        simp
      have z0 := HF.out.fz 0
      have z1 := HF.out.fz 1
      have y0 := HF.out.cell0
      have y1 := HF.out.cell1
      clear HW
      by_cases h60 : 60 < Acc.length
      · go_wp2_with fail
        have FS := HF.out.set 5 0
        have q0 := FS.cell0
        have q1 := FS.cell1
        refine bodyPost_ret (v := .tuple #[.slice none 0 0, faultV (5, 0)]) (by simp [results, Tryz.results33, go_sem, q0, q1, faultV]) rfl ?_
        exact hmany.out Acc _ HNx.out h60 ((HBw.out.setCell (Nat.le_refl _) _).setCell (Nat.le_refl _) _)
      · go_wp2_with fail
        have FS := HF.out.set 0 0
        have q0 := FS.cell0
        have q1 := FS.cell1
        refine bodyPost_ret (v := .tuple #[.slice va Acc.length vc, faultV (0, 0)]) (by simp [results, Tryz.results33, go_sem, q0, q1, faultV]) rfl ?_
        refine hok.out Acc _ _ HNx.out h60 HAb.out ?_ ((HBw.out.setCell (Nat.le_refl _) _).setCell (Nat.le_refl _) _)
        have k1 : Sh.Keeps (· ≠ 25) wo (wo.setCell ⟨w.heap.size, 0, none⟩ (.int .i64 0)) := Sh.Keeps.set (a := ⟨w.heap.size, 0, none⟩) HF.out (by decide) _
        have h2 := Sh.heap_set HF.out 0 (.int .i64 0)
        have k2 : Sh.Keeps (· ≠ 25) (wo.setCell ⟨w.heap.size, 0, none⟩ (.int .i64 0)) ((wo.setCell ⟨w.heap.size, 0, none⟩ (.int .i64 0)).setCell ⟨w.heap.size, 1, none⟩ (.int .i64 0)) := Sh.Keeps.set (a := ⟨w.heap.size, 1, none⟩) h2 (by decide) _
        exact HRs.out.keeps (k1.trans k2) (by decide)
end Go.Proofs.YtblkldfokeeaeacGreatDoor
namespace Go.Proofs.YtblkldfokeeaeacGreatDoor
open Go.RowKit
theorem at_keeps {w w' : World} {v : Value} {l : List Sh.Atr} (h : Sh.AtAt w v l) {Ts : TypeId → Prop} (hk : Sh.Keeps Ts w w') (hT : Ts 51) : Sh.AtAt w' v l := by
  rcases h with h | ⟨g, cap, cur, h0, h1, h2⟩
  · exact .inl h
  · exact .inr ⟨g, cap, cur, h0, (hk g _ _ _ hT h1).trans h1, h2⟩
theorem nd_keeps {w w' : World} {base : Nat} {v : Value} {L : List Sh.Nd} (h : Sh.NdsAt w base v L) {Ts : TypeId → Prop} (hk : Sh.Keeps Ts w w') (hT : Ts 49 ∧ Ts 51) : Sh.NdsAt w' base v L := by
  have h' : Sh.NAt 49 6 Sh.encN (fun w a x => Sh.AtAt w x a.attrs) w base v L := h
  exact h'.keeps hk hT.1 fun a x hx => at_keeps hx hk hT.2
theorem nd_lower {w : World} {base base' : Nat} {v : Value} {L : List Sh.Nd} (h : Sh.NdsAt w base v L) (hb : base' ≤ base) : Sh.NdsAt w base' v L := Sh.NdsAt.lower h hb
theorem rs_lower {w : World} {base base' : Nat} {v : Value} {L : List Sh.Rl} (h : Sh.RsIn w base v L) (hb : base' ≤ base) : Sh.RsIn w base' v L := Sh.NAt.lower h hb
theorem nd_form {w : World} {base : Nat} {v : Value} {L : List Sh.Nd} (h : Sh.NdsAt w base v L) : ∃ a cap, v = .slice a L.length cap := Sh.NAt.form (show Sh.NAt 49 6 Sh.encN (fun w a x => Sh.AtAt w x a.attrs) w base v L from h)
theorem nd_below {w w' : World} {base : Nat} {v : Value} {L : List Sh.Nd} (h : Sh.NdsAt w base v L) (hb : Below w.heap.size w w') : Sh.NdsAt w' base v L := nd_keeps h (Sh.Keeps.below (Ts := fun _ => True) hb) ⟨trivial, trivial⟩
abbrev setF (w : World) (q : Nat) (x y : Int) : World := (w.setCell ⟨q, 0, none⟩ (.int .i64 x)).setCell ⟨q, 1, none⟩ (.int .i64 y)
theorem FaB.keep25 {w : World} {q : Nat} {e a : Int} (h : FaB w q e a) (x y : Int) : Sh.Keeps (· ≠ 25) w (setF w q x y) :=
  (Sh.Keeps.set (a := ⟨q, 0, none⟩) h (by decide) _).trans (Sh.Keeps.set (a := ⟨q, 1, none⟩) (Sh.heap_set h 0 (.int .i64 x)) (by decide) _)
theorem FaB.other {w : World} {q p : Nat} {e a : Int} (h : FaB w q e a) (hne : q ≠ p) (x y : Int) : FaB (setF w p x y) q e a := by
  show _ = _
  rw [Below.heap_setCell _ _ _ _ (by simpa using hne), Below.heap_setCell _ _ _ _ (by simpa using hne)]
  exact h
theorem below_setF {B q : Nat} {a w : World} (h : Below B a w) (hq : B ≤ q) (x y : Int) : Below B a (setF w q x y) := (h.setCell hq _).setCell hq _
def ReadAns (w : World) (base : Nat) (e : Ending) : Except (Nat × Nat) (List Sh.Nd × List Sh.Rl) → Prop
  | .error x => e = .returned (.tuple #[.slice none 0 0, .slice none 0 0, faultV x]) ∧ x.1 ≠ 0
  | .ok (L, R) => ∃ lv rv, e = .returned (.tuple #[lv, rv, faultV (0, 0)]) ∧ Sh.NdsAt w base lv L ∧ Sh.RsIn w base rv R
theorem read_page {S : Bs} {x : Nat × Nat} (h : Sh.parse S = .error x) : readB S = .error x := by unfold readB; rw [h]
theorem read_sheet {S : Bs} {L : List Sh.Nd} (h : Sh.parse S = .ok L) {x : Nat × Nat} (hs : sheetsB S L = .error x) : readB S = .error x := by unfold readB; rw [h]; simp only; rw [hs]
theorem read_many {S : Bs} {L : List Sh.Nd} (h : Sh.parse S = .ok L) {Q : List Sh.Rl} (hs : sheetsB S L = .ok Q) (h60 : 60 < Q.length) : readB S = .error (5, 0) := by unfold readB; rw [h]; simp only; rw [hs]; simp only; rw [if_pos h60]
theorem read_rest {S : Bs} {L : List Sh.Nd} (h : Sh.parse S = .ok L) {Q : List Sh.Rl} (hs : sheetsB S L = .ok Q) (h60 : ¬ 60 < Q.length) : readB S = match wrongR Q with
    | some k => .error (5, k)
    | none => match wrongO L with
      | some x => .error x
      | none => .ok (L, Q) := by
  unfold readB; rw [h]; simp only; rw [hs]; simp only; rw [if_neg h60]; rfl
theorem wrongO_nz : ∀ {L : List Sh.Nd} {x : Nat × Nat}, wrongO L = some x → x.1 ≠ 0
  | [], x, h => by cases h
  | n :: L, x, h => by
    unfold wrongO at h
    cases hd : declsErr (ownV n) with
    | some e => rw [hd] at h; injection h with h; rw [← h]; exact declsErr_nz hd
    | none => rw [hd] at h; exact wrongO_nz h
set_option maxRecDepth 100000 in
set_option maxHeartbeats 8000000 in
theorem read_any (s : ByteArray) (w : World) (hs : s.size ≤ 9223372036854775807) (hT : Tab w) :
    Calls Tryz.prog 17 #[.string s] w fun e w' => ReadAns w' w.heap.size e (readB s.data.toList) ∧ Below w.heap.size w w' := by
  have HT := hid hT
  have HS : Hid (s.data.toList.length = s.size) := (Lib.size_eq s).symm
  have b1 := (Below.refl w.heap.size w).alloc (Nat.le_refl _) (.cells #[.int .i64 0, .int .i64 0] 25)
  have T1 := hid (hT.ext (Ext.below b1))
  have B1 := hid b1
  have G1 := hid (FaB.new w 0 0)
  clear hT b1
  go_enter Tryz.func17, Tryz.ntmps17
  go_wp2_with fail
  generalize w.alloc (.cells #[.int .i64 0, .int .i64 0] 25) = w1 at *
  obtain ⟨mx, hmx⟩ := tab_mx T1.out
  refine Sh.parse_any s mx w1 _ hmx hs (hid ?_) (hid ?_)
  · intro L nv w2 he hn hb2 hL
    obtain ⟨hl, h6, hbd⟩ := page_bd he
    rw [HS.out] at h6
    obtain ⟨na, nc, rfl⟩ := nd_form hn
    have HE := hid he
    have b3 : Below w1.heap.size w1 (w2.alloc (.cells #[.int .i64 0, .int .i64 0] 25)) := hb2.alloc hb2.size _
    have N3 := hid (nd_below hn ((Below.refl _ w2).alloc (Nat.le_refl _) (.cells #[.int .i64 0, .int .i64 0] 25)))
    have G3 : Hid (FaB (w2.alloc (.cells #[.int .i64 0, .int .i64 0] 25)) w.heap.size 0 0) := (b3.block _ G1.out.lt).trans G1.out
    have F3 := hid (FaB.new w2 0 0)
    have B3 := hid (B1.out.trans (b3.mono B1.out.size))
    have HBd := hid hbd
    have HN6 : Hid (∀ n ∈ L, NdBd 6000 n) := fun n hn => ndBd_mono (hbd n hn) (by rw [HS.out]; exact h6)
    have hq2 : w.heap.size < w2.heap.size := Nat.lt_of_lt_of_le G1.out.lt hb2.size
    have hbase : w.heap.size ≤ w1.heap.size := B1.out.size
    clear he hn hb2 b3 hbd
    go_wp2_with fail
    generalize w2.alloc (.cells #[.int .i64 0, .int .i64 0] 25) = w3 at *
    generalize w2.heap.size = q2 at *
    have T3 := hid (HT.out.ext (Ext.below B3.out))
    refine readStyles_any s L _ w3 _ h6 (nds_of N3.out) hl (by rw [← HS.out]; exact HBd.out) T3.out (hid ?_) (hid ?_) (hid ?_)
    · intro Q v w4 hq h60 hbq hrs hb4
      obtain ⟨va, vc, rfl⟩ := rs_form hrs
      have HQ := hid (read_rest HE.out hq h60)
      have F4 := F3.out.below hb4
      have G4 := G3.out.below hb4
      have N4 := nd_below N3.out hb4
      have B4 := B3.out.trans (hb4.mono B3.out.size)
      have z0 := F4.fz 0
      have z1 := F4.fz 1
      have y0 := F4.cell0
      have y1 := F4.cell1
      have kk := F4.keep25 0 0
      have N5 := hid (nd_keeps N4 kk (by decide))
      have R5 := hid (hrs.keeps kk (by decide))
      have F5 := hid (F4.set 0 0)
      have G5 := hid (G4.other (show w.heap.size ≠ q2 by omega) 0 0)
      have B5 := hid (below_setF B4 (show w.heap.size ≤ q2 by omega) 0 0)
      have HbQ := hid hbq
      have hb3 := B3.out.size
      clear hq hbq hrs hb4 F4 G4 N4 B4 kk
      simp only [faultV]
      go_wp2_with fail
      simp only [setF] at *
      generalize (w4.setCell ⟨q2, 0, none⟩ (.int .i64 0)).setCell ⟨q2, 1, none⟩ (.int .i64 0) = w5 at *
      have hz5 := F5.out.lt
      have T5 := hid (HT.out.ext (Ext.below B5.out))
      refine (wrongRule_any Q _ w5 (rus_of R5.out) (by omega) HbQ.out T5.out).mono ?_
      rintro e w6 ⟨rfl, hb6⟩
      have F6 := F5.out.below hb6
      have G6 := G5.out.below hb6
      have N6 := nd_below N5.out hb6
      have R6 := rs_keeps R5.out hb6
      have B6 := below_trans B5.out hb6 (Nat.le_refl _)
      have u0 := F6.fz 0
      have u1 := F6.fz 1
      have x0 := F6.cell0
      have x1 := F6.cell1
      clear z0 z1 y0 y1 hb6
      cases hw : wrongR Q with
      | some k =>
        have HZ : Hid (readB s.data.toList = .error (5, k)) := by have := HQ.out; rw [hw] at this; exact this
        have F7 := F6.set 5 k
        have G7 := hid (G6.other (show w.heap.size ≠ q2 by omega) 5 k)
        have B7 := hid (below_setF B6 (show w.heap.size ≤ q2 by omega) 5 k)
        have a0 := F7.cell0
        have a1 := F7.cell1
        simp only [wrongX, faultV]
        clear HQ hw
        go_wp2_with fail
        have t0 := G7.out.fz 0
        have t1 := G7.out.fz 1
        have v0 := G7.out.cell0
        have v1 := G7.out.cell1
        simp only [setF] at *
        generalize (w6.setCell ⟨q2, 0, none⟩ (.int .i64 5)).setCell ⟨q2, 1, none⟩ (.int .i64 k) = w7 at *
        go_region
        all_goals go_wp2_with fail
        all_goals
          have FS := G7.out.set 5 k
          have p0 := FS.cell0
          have p1 := FS.cell1
          refine bodyPost_ret (v := .tuple #[.slice none 0 0, .slice none 0 0, faultV (5, k)]) (by simp [results, Tryz.results17, go_sem, p0, p1, faultV]) rfl ?_
          exact ⟨by rw [HZ.out]; exact ⟨rfl, by show (5 : Nat) ≠ 0; decide⟩, ((B7.out.setCell (Nat.le_refl _) _).setCell (Nat.le_refl _) _).drew⟩
      | none =>
        have HQ2 : Hid (readB s.data.toList = match wrongO L with | some x => .error x | none => .ok (L, Q)) := by have := HQ.out; rw [hw] at this; exact this
        have F7 := hid (F6.set 0 0)
        have kk := F6.keep25 0 0
        have G7 := hid (G6.other (show w.heap.size ≠ q2 by omega) 0 0)
        have B7 := hid (below_setF B6 (show w.heap.size ≤ q2 by omega) 0 0)
        have N7 := hid (nd_keeps N6 kk (by decide))
        have R7 := hid (R6.keeps kk (by decide))
        have a0 := F7.out.cell0
        have a1 := F7.out.cell1
        simp only [wrongX, faultV]
        clear HQ hw F6 G6 N6 R6 B6 kk
        go_wp2_with fail
        simp only [setF] at *
        generalize (w6.setCell ⟨q2, 0, none⟩ (.int .i64 0)).setCell ⟨q2, 1, none⟩ (.int .i64 0) = w7 at *
        have T7 := hid (HT.out.ext (Ext.below B7.out))
        clear u0 u1 x0 x1 a0 a1
        refine (wrongOwn_any L _ w7 (nds_of N7.out) hl HN6.out T7.out).mono ?_
        rintro e w8 ⟨rfl, hb8⟩
        have F8 := F7.out.below hb8
        have G8 := G7.out.below hb8
        have N8 := nd_below N7.out hb8
        have R8 := rs_keeps R7.out hb8
        have B8 := below_trans B7.out hb8 (Nat.le_refl _)
        have u0 := F8.fz 0
        have u1 := F8.fz 1
        have x0 := F8.cell0
        have x1 := F8.cell1
        clear hb8
        cases hw : wrongO L with
        | some x =>
          obtain ⟨xe, xa⟩ := x
          have hx := wrongO_nz hw
          have hx' : ¬ ((xe : Int) = 0) := by have : xe ≠ 0 := hx; omega
          have HX := hid hx
          have HZ : Hid (readB s.data.toList = .error (xe, xa)) := by have := HQ2.out; rw [hw] at this; exact this
          have F9 := F8.set xe xa
          have G9 := hid (G8.other (show w.heap.size ≠ q2 by omega) xe xa)
          have B9 := hid (below_setF B8 (show w.heap.size ≤ q2 by omega) xe xa)
          have a0 := F9.cell0
          have a1 := F9.cell1
          simp only [Option.getD, faultV]
          clear HQ2 hw hx F8 G8 N8 R8 B8
          go_wp2_with fail
          have t0 := G9.out.fz 0
          have t1 := G9.out.fz 1
          have v0 := G9.out.cell0
          have v1 := G9.out.cell1
          simp only [setF] at *
          generalize (w8.setCell ⟨q2, 0, none⟩ (.int .i64 xe)).setCell ⟨q2, 1, none⟩ (.int .i64 xa) = w9 at *
          go_region
          all_goals go_wp2_with fail
          all_goals
            have FS := G9.out.set xe xa
            have p0 := FS.cell0
            have p1 := FS.cell1
            refine bodyPost_ret (v := .tuple #[.slice none 0 0, .slice none 0 0, faultV (xe, xa)]) (by simp [results, Tryz.results17, go_sem, p0, p1, faultV]) rfl ?_
            exact ⟨by rw [HZ.out]; exact ⟨rfl, HX.out⟩, ((B9.out.setCell (Nat.le_refl _) _).setCell (Nat.le_refl _) _).drew⟩
        | none =>
          have HZ : Hid (readB s.data.toList = .ok (L, Q)) := by have := HQ2.out; rw [hw] at this; exact this
          have F9 := F8.set 0 0
          have kk := F8.keep25 0 0
          have G9 := hid (G8.other (show w.heap.size ≠ q2 by omega) 0 0)
          have B9 := hid (below_setF B8 (show w.heap.size ≤ q2 by omega) 0 0)
          have N9 := hid (nd_keeps N8 kk (by decide))
          have R9 := hid (R8.keeps kk (by decide))
          have a0 := F9.cell0
          have a1 := F9.cell1
          have t0 := G9.out.fz 0
          have t1 := G9.out.fz 1
          have v0 := G9.out.cell0
          have v1 := G9.out.cell1
          have hbQ : w.heap.size ≤ w3.heap.size := hb3
          simp only [Option.getD, faultV]
          clear HQ2 hw F8 G8 N8 R8 B8 kk
          go_upto_region 11 with fail
          simp only [setF] at *
          generalize (w8.setCell ⟨q2, 0, none⟩ (.int .i64 0)).setCell ⟨q2, 1, none⟩ (.int .i64 0) = w9 at *
          go_wp2_with fail
          have FS := G9.out.set 0 0
          have p0 := FS.cell0
          have p1 := FS.cell1
          have kq := G9.out.keep25 0 0
          refine bodyPost_ret (v := .tuple #[.slice na L.length nc, .slice va Q.length vc, faultV (0, 0)]) (by simp [results, Tryz.results17, go_sem, p0, p1, faultV]) rfl ?_
          refine ⟨?_, (B9.out.setCell (Nat.le_refl _) _).setCell (Nat.le_refl _) _⟩
          rw [HZ.out]
          exact ⟨_, _, rfl, nd_lower (nd_keeps N9.out kq (by decide)) hbase, rs_lower (R9.out.keeps kq (by decide)) hbQ⟩
    · intro Q w4 hq h60 hb4
      have HZ := hid (read_many HE.out hq h60)
      have F4 := F3.out.below hb4
      have G4 := G3.out.below hb4
      have B4 := B3.out.trans (hb4.mono B3.out.size)
      have z0 := F4.fz 0
      have z1 := F4.fz 1
      have y0 := F4.cell0
      have y1 := F4.cell1
      have F5 := F4.set 5 0
      have G5 := hid (G4.other (show w.heap.size ≠ q2 by omega) 5 0)
      have B5 := hid (below_setF B4 (show w.heap.size ≤ q2 by omega) 5 0)
      have a0 := F5.cell0
      have a1 := F5.cell1
      simp only [faultV]
      clear hq hb4 G4 B4 F4
      go_wp2_with fail
      have t0 := G5.out.fz 0
      have t1 := G5.out.fz 1
      have v0 := G5.out.cell0
      have v1 := G5.out.cell1
      simp only [setF] at *
      generalize (w4.setCell ⟨q2, 0, none⟩ (.int .i64 5)).setCell ⟨q2, 1, none⟩ (.int .i64 0) = w5 at *
      go_region
      all_goals go_wp2_with fail
      all_goals
        have FS := G5.out.set 5 0
        have p0 := FS.cell0
        have p1 := FS.cell1
        refine bodyPost_ret (v := .tuple #[.slice none 0 0, .slice none 0 0, faultV (5, 0)]) (by simp [results, Tryz.results17, go_sem, p0, p1, faultV]) rfl ?_
        exact ⟨by rw [HZ.out]; exact ⟨rfl, by decide⟩, ((B5.out.setCell (Nat.le_refl _) _).setCell (Nat.le_refl _) _).drew⟩
    · intro x w4 hq hx hb4
      obtain ⟨xe, xa⟩ := x
      have hx' : ¬ ((xe : Int) = 0) := by have : xe ≠ 0 := hx; omega
      have HX := hid hx
      have HZ := hid (read_sheet HE.out hq)
      have F4 := F3.out.below hb4
      have G4 := G3.out.below hb4
      have B4 := B3.out.trans (hb4.mono B3.out.size)
      have z0 := F4.fz 0
      have z1 := F4.fz 1
      have y0 := F4.cell0
      have y1 := F4.cell1
      have F5 := F4.set xe xa
      have G5 := hid (G4.other (show w.heap.size ≠ q2 by omega) xe xa)
      have B5 := hid (below_setF B4 (show w.heap.size ≤ q2 by omega) xe xa)
      have a0 := F5.cell0
      have a1 := F5.cell1
      simp only [faultV]
      clear hq hb4 G4 B4 F4 hx
      go_wp2_with fail
      have t0 := G5.out.fz 0
      have t1 := G5.out.fz 1
      have v0 := G5.out.cell0
      have v1 := G5.out.cell1
      simp only [setF] at *
      generalize (w4.setCell ⟨q2, 0, none⟩ (.int .i64 xe)).setCell ⟨q2, 1, none⟩ (.int .i64 xa) = w5 at *
      go_region
      all_goals go_wp2_with fail
      all_goals
        have FS := G5.out.set xe xa
        have p0 := FS.cell0
        have p1 := FS.cell1
        refine bodyPost_ret (v := .tuple #[.slice none 0 0, .slice none 0 0, faultV (xe, xa)]) (by simp [results, Tryz.results17, go_sem, p0, p1, faultV]) rfl ?_
        exact ⟨by rw [HZ.out]; exact ⟨rfl, HX.out⟩, ((B5.out.setCell (Nat.le_refl _) _).setCell (Nat.le_refl _) _).drew⟩
  · intro x w2 he hb2
    obtain ⟨xe, xa⟩ := x
    have hx := Sh.Pl.parse_nz he
    have hx' : ¬ ((xe : Int) = 0) := by have : xe ≠ 0 := hx; omega
    have HX := hid hx
    have HZ := hid (read_page he)
    have b3 : Below w1.heap.size w1 (w2.alloc (.cells #[.int .i64 xe, .int .i64 xa] 25)) := hb2.alloc hb2.size _
    have G3 : Hid (FaB (w2.alloc (.cells #[.int .i64 xe, .int .i64 xa] 25)) w.heap.size 0 0) := (b3.block _ G1.out.lt).trans G1.out
    have F3 := FaB.new w2 xe xa
    have B3 := hid (B1.out.trans (b3.mono B1.out.size))
    have hq2 : w.heap.size < w2.heap.size := Nat.lt_of_lt_of_le G1.out.lt hb2.size
    have a0 := F3.cell0
    have a1 := F3.cell1
    have t0 := G3.out.fz 0
    have t1 := G3.out.fz 1
    have v0 := G3.out.cell0
    have v1 := G3.out.cell1
    clear he hb2 b3 hx
    go_upto_region 3 with fail
    generalize w2.alloc (.cells #[.int .i64 xe, .int .i64 xa] 25) = w3 at *
    go_region
    all_goals go_wp2_with fail
    all_goals
      have FS := G3.out.set xe xa
      have p0 := FS.cell0
      have p1 := FS.cell1
      refine bodyPost_ret (v := .tuple #[.slice none 0 0, .slice none 0 0, faultV (xe, xa)]) (by simp [results, Tryz.results17, go_sem, p0, p1, faultV]) rfl ?_
      exact ⟨by rw [HZ.out]; exact ⟨rfl, HX.out⟩, ((B3.out.setCell (Nat.le_refl _) _).setCell (Nat.le_refl _) _).drew⟩
end Go.Proofs.YtblkldfokeeaeacGreatDoor
