/-
  The law CascadeOrder: told twice is told once: it returns true, whatever it is called with. Conditions: the sizes that SmNs, SmRs and FewR name; the tables hold what their texts say.
-/
import Derived.Test.YtfobkiglmphgjabGreatDoorCG
namespace Go.Proofs.YtfobkiglmphgjabGreatDoor
open Go.RowKit Go.Maps

theorem blkA (w : World) (o o' : Obj) : ((w.alloc o).alloc o').heap[w.heap.size]? = some o := (Below.heap_alloc _ _ _ (by simp)).trans (heap_alloc_new w _)
theorem blkB (w : World) (o o' : Obj) : ((w.alloc o).alloc o').heap[w.heap.size + 1]? = some o' := by
  have h := heap_alloc_new (w.alloc o) o'
  rw [show (w.alloc o).heap.size = w.heap.size + 1 by simp] at h
  exact h
theorem dr_cell (w : World) (p : Addr) : w.drew.cell? p = w.cell? p := rfl
theorem InQ.sub {w : World} {LV : List (Ru × Value × Value)} {i : Nat} (h : InQ w LV) : InQ w (LV.take i ++ LV.drop (i + 1)) := fun p hp => by
  rcases List.mem_append.1 hp with hp | hp
  · exact h p (List.mem_of_mem_take hp)
  · exact h p (List.mem_of_mem_drop hp)
theorem src_if {w : World} {b off i rc n : Nat} {LV : List (Ru × Value × Value)} (h : ∀ i (hi : i < LV.length) j, j < 5 → w.cell? ⟨b, off + i * 5 + j, none⟩ = (encQ LV[i])[j]?) (hl : LV.length = n) (hi : i < n) (hc : n ≤ rc) (c : Nat) :
    Src w (.slice (if rc = i + 1 then some ⟨b, off, none⟩ else some ⟨b, off + (i + 1) * 5, none⟩) (n - (i + 1)) c) (n - (i + 1)) ((LV.drop (i + 1)).flatMap encQ) := by
  split
  · have e : n = i + 1 := by omega
    rw [List.drop_eq_nil_of_le (by omega), e, Nat.sub_self]
    exact .inr ⟨_, _, rfl, fun j e he => by cases he⟩
  · have := src_drop h (i + 1) c (by omega)
    rw [hl] at this
    exact this
theorem twice_list {LV : List (Ru × Value × Value)} {rules : List Ru} {i : Nat} {p : Ru × Value × Value} (hm : LV.map (·.1) = rules) (hi : i < rules.length) (hp : p.1 = rules[i]) :
    ((LV.take i ++ [p]) ++ p :: LV.drop (i + 1)).map (·.1) = (rules.take i ++ [rules[i]]) ++ rules[i] :: rules.drop (i + 1) := by
  have h1 : (LV.take i).map (·.1) = rules.take i := by rw [← hm, List.map_take]
  have h2 : (LV.drop (i + 1)).map (·.1) = rules.drop (i + 1) := by rw [← hm, List.map_drop]
  rw [List.map_append, List.map_append, List.map_cons, List.map_cons, List.map_nil, h1, h2, hp]
theorem less_list {LV : List (Ru × Value × Value)} {rules : List Ru} {i : Nat} (hm : LV.map (·.1) = rules) : (LV.take i ++ LV.drop (i + 1)).map (·.1) = rules.take i ++ rules.drop (i + 1) := by
  have h1 : (LV.take i).map (·.1) = rules.take i := by rw [← hm, List.map_take]
  have h2 : (LV.drop (i + 1)).map (·.1) = rules.drop (i + 1) := by rw [← hm, List.map_drop]
  rw [List.map_append, h1, h2]
variable {l : List Nd} {rules : List Ru} {media : List ByteArray} {mv lv : Value} {ra : Option Addr} {rc : Nat}

set_option maxRecDepth 100000 in
set_option maxHeartbeats 8000000 in
theorem cascadeOrder_any (k pl : Int) (w : World) (hl : NdsAt w lv l) (hs : SmNs l) (hr : RusAt w (.slice ra rules.length rc) rules) (hrs : SmRs rules) (hm : BsAt w mv media) (hml : media.length ≤ lim) (hT : Tab w) (hf : FewR rules) (hcap : rules.length ≤ rc) :
    Calls Tryz.prog 4 #[lv, .int .i64 k, .slice ra rules.length rc, mv, .int .i64 pl] w fun e w' => e = .returned (.bool true) ∧ Below w.heap.size w w' := by
  obtain ⟨la, lc, rfl⟩ := Sl.form hl
  obtain ⟨ma, mc, rfl⟩ := Sl.form hm
  have HL := hid hl
  have HN := hid hs
  have HR := hid hr
  have HRs := hid hrs
  have HM := hid hm
  have HML : Hid (media.length ≤ 1099511627776) := by show _ ≤ _; unfold lim at hml; omega
  have HT := hid hT
  have HF := hid hf
  have hrl : rules.length ≤ 1048576 := hf.len
  clear hl hs hr hrs hm hml hT hf
  by_cases h0 : pl < 0
  · go_enter Tryz.func4, Tryz.ntmps4
    go_wp2_with (go_at_call 14; refine (alive_any _ HT.out).mono ?_; rintro e w1 ⟨rfl, hb1⟩; have HB1 := hid hb1; clear hb1)
    go_ret
    exact ⟨rfl, HB1.out⟩
  by_cases h1 : (rules.length : Int) ≤ pl
  · go_enter Tryz.func4, Tryz.ntmps4
    go_wp2_with (go_at_call 14; refine (alive_any _ HT.out).mono ?_; rintro e w1 ⟨rfl, hb1⟩; have HB1 := hid hb1; clear hb1)
    go_ret
    exact ⟨rfl, HB1.out⟩
  obtain ⟨i, rfl⟩ : ∃ i : Nat, pl = (i : Int) := ⟨pl.toNat, by omega⟩
  have hi : i < rules.length := by omega
  have hi' : (i : Int) < rules.length := by omega
  have HI := hid hi
  clear h0 h1
  obtain ⟨b, off, rfl, he⟩ := Sl.at HR.out hi
  clear he
  go_enter Tryz.func4, Tryz.ntmps4
  go_wp2_with (go_at_call 14; refine (alive_any _ HT.out).mono ?_; rintro e w1 ⟨rfl, hb1⟩; have HB1 := hid hb1; clear hb1)
  have X1 := hid (Ext.below HB1.out)
  refine (declared_any (rules := rules) (media := media) k w1 (HL.out.ext X1.out) HN.out (HR.out.ext X1.out) HRs.out (HM.out.ext X1.out) HML.out (HT.out.ext X1.out)).mono ?_
  rintro e w2 ⟨hA2, hb2⟩
  obtain ⟨a1, n1, c1, x1, rfl, hE1⟩ := hA2.form
  have E1 := hid hE1
  have HB2 := hid (below_trans HB1.out hb2 (Nat.le_refl _))
  have X2 := hid (Ext.below HB2.out)
  clear hA2 hE1 hb2 X1 HB1
  obtain ⟨LV, hLV, hQ, hc⟩ := (HR.out.ext X2.out).cells
  have hLl : LV.length = rules.length := by rw [← hLV, List.length_map]
  have HQ := hid hQ
  have HCs := hid hc
  have HLV := hid hLV
  have hiL : i < LV.length := by omega
  have hri : (LV[i]'hiL).1 = rules[i]'hi := by
    have : (LV.map (·.1))[i]? = rules[i]? := by rw [hLV]
    simp only [List.getElem?_map, List.getElem?_eq_getElem hiL, List.getElem?_eq_getElem hi, Option.map_some, Option.some.injEq] at this
    exact this
  have HRi := hid hri
  have c0 := hc i hiL 0 (by decide)
  have c1' := hc i hiL 1 (by decide)
  have c2' := hc i hiL 2 (by decide)
  have c3 := hc i hiL 3 (by decide)
  have c4 := hc i hiL 4 (by decide)
  have hqi := hQ LV[i] (List.getElem_mem hiL)
  have HLd : Hid (LV = LV.take i ++ LV[i] :: LV.drop (i + 1)) := by show _ = _; rw [← List.drop_eq_getElem_cons hiL, List.take_append_drop]
  have HDi : Hid (LV.drop i = LV[i] :: LV.drop (i + 1)) := List.drop_eq_getElem_cons hiL
  have HMi : Hid (LV[i] ∈ LV) := List.getElem_mem hiL
  have HST := hid (src_take hc i rc (by omega))
  have HSD := hid (src_drop hc i (rc - i) (by omega))
  generalize LV[i] = p at *
  obtain ⟨⟨md, ss, dd, rf, rt⟩, sv, dv⟩ := p
  simp only [encQ, List.getElem?_cons_zero, List.getElem?_cons_succ, Nat.add_zero] at c0 c1' c2' c3 c4
  obtain ⟨hS, hD⟩ := hqi
  obtain ⟨sa, sc, e1⟩ := Sl.form hS
  obtain ⟨da, dc, e2⟩ := Sl.form hD
  simp only at e1 e2
  subst e1 e2
  generalize ss.length = sn at *
  generalize dd.length = dn at *
  have HS := hid hS
  have HD := hid hD
  have BA : ∀ o, Hid (Below w2.heap.size w2 (w2.alloc o).drew) := fun o => ((Below.refl _ _).alloc (Nat.le_refl _) o).drew
  have BC : ∀ o o', Hid (Below w2.heap.size w2 ((w2.alloc o).alloc o').drew) := fun o o' => (((Below.refl _ _).alloc (Nat.le_refl _) o).alloc (by simp) o').drew
  have hbz : b < w2.heap.size := lt_of_cell c0
  have MS : ∀ {w' : World}, Below w2.heap.size w2 w' → w'.cell? ⟨b, off + i * 5, none⟩ = some (.string md) ∧ w'.cell? ⟨b, off + i * 5 + 1, none⟩ = some (.slice sa sn sc) ∧ w'.cell? ⟨b, off + i * 5 + 2, none⟩ = some (.slice da dn dc) ∧ w'.cell? ⟨b, off + i * 5 + 3, none⟩ = some (.int .i64 rf) ∧ w'.cell? ⟨b, off + i * 5 + 4, none⟩ = some (.int .i64 rt) := fun h => ⟨(h.cell (p := ⟨b, off + i * 5, none⟩) hbz).trans c0, (h.cell (p := ⟨b, off + i * 5 + 1, none⟩) hbz).trans c1', (h.cell (p := ⟨b, off + i * 5 + 2, none⟩) hbz).trans c2', (h.cell (p := ⟨b, off + i * 5 + 3, none⟩) hbz).trans c3, (h.cell (p := ⟨b, off + i * 5 + 4, none⟩) hbz).trans c4⟩
  have hS2 := MS (Below.refl _ w2)
  have hcapI : (i : Int) ≤ rc := by omega
  have hirc : i < rc := by omega
  have hA1 : (i : Int) ≤ (rules.length : Int) := by omega
  have hA2 : (rules.length : Int) ≤ (rc : Int) := by omega
  have hA3 : i ≤ rules.length := by omega
  have hA4 : ¬ rc = i := by omega
  have hA5 : ¬ i = rc := by omega
  have hA6 : ¬ rc ≤ i := by omega
  have OQ := hid (one_Q hQ)
  rw [hLl] at HSD
  clear hLV hQ hS hD hri
  go_wp2_with fail
  go_region_held3 (fun w' => w'.cell? ⟨b, off + i * 5, none⟩ = some (.string md) ∧ w'.cell? ⟨b, off + i * 5 + 1, none⟩ = some (.slice sa sn sc) ∧ w'.cell? ⟨b, off + i * 5 + 2, none⟩ = some (.slice da dn dc) ∧ w'.cell? ⟨b, off + i * 5 + 3, none⟩ = some (.int .i64 rf) ∧ w'.cell? ⟨b, off + i * 5 + 4, none⟩ = some (.int .i64 rt)) (first | assumption | exact MS (BA _).out | exact MS (BC _ _).out | exact MS HB5.out | exact MS HB4.out | exact MS HB3.out | exact MS (HB3.out.alloc HB3.out.size _).drew | exact MS HB4.out.drew | exact MS HB3.out.drew | go_keep) (first
    | (refine step_app (by rfl) (.tmp 38) (.tmp 41) 23 rfl w2.heap.size 40 _ 5 80 Tryz.underlying23 Tryz.infoR rfl (by decide) _ 0 [] (by rfl) (own_zero (by first | exact heap_alloc_new _ _ | exact blkA _ _ _ | exact blkB _ _ _) (by simp)) (.slice (some ⟨b, off, none⟩) i rc) i ((LV.take i).flatMap encQ) (by rfl) (HST.out.ext (Ext.below (by first | exact (BA _).out | exact (BC _ _).out))) (by rw [flat_len 5 encQ (fun _ => rfl), List.length_take]; congr 1; omega) (fun u hu => OQ.out u (by obtain ⟨p, hp, hu⟩ := List.mem_flatMap.1 hu; exact List.mem_flatMap.2 ⟨p, List.mem_of_mem_take hp, hu⟩)) (by unfold maxLen; omega) (by omega) (by simp <;> omega) ?_; intro v3 w3 hv3 hg3; have b3 : Below w2.heap.size w2 w3 := (by first | exact (BA _).out.grown hg3 (by simp) (by simp [Value.ownBlock] <;> omega) | exact (BC _ _).out.grown hg3 (by simp <;> omega) (by simp [Value.ownBlock] <;> omega)); have hS3 := MS b3; have HB3 := hid b3; have HG3 := hid hg3; have HV3 := hid hv3; clear hg3 hv3 b3)
    | (refine step_app (by rfl) (.tmp 42) (.tmp 47) 23 rfl w2.heap.size 40 _ 5 80 Tryz.underlying23 Tryz.infoR rfl (by decide) v3 (0 + i) ([] ++ (LV.take i).flatMap encQ) (by rfl) (by first | exact HV3.out | exact HV3.out.alloc _) _ 1 [.string md, .slice sa sn sc, .slice da dn dc, .int .i64 rf, .int .i64 rt] (by rfl) (.inr ⟨_, 1, rfl, (by first | exact World.news_of_block (heap_alloc_new w3 _) | exact World.news_of_block ((HG3.out.block w2.heap.size (by simp <;> omega) (by simp [Value.ownBlock])).trans (blkA _ _ _)) | exact World.news_of_block ((HG3.out.block (w2.heap.size + 1) (by simp) (by simp [Value.ownBlock])).trans (blkB _ _ _)))⟩) rfl (by simp [Value.oneCell']) (by unfold maxLen; omega) (by omega) (by first | exact HB3.out.size | exact (HB3.out.alloc HB3.out.size _).size) ?_; intro v4 w4 hv4 hg4; have b4 : Below w2.heap.size w2 w4 := (by first | exact HB3.out.grown hg4 HB3.out.size (fun j hj => (HV3.out.lt j hj).1) | exact (HB3.out.alloc HB3.out.size _).grown hg4 (HB3.out.alloc HB3.out.size _).size (fun j hj => (HV3.out.lt j hj).1)); have hS4 := MS b4; have HB4 := hid b4; have HV4 := hid hv4; clear hg4 hv4 b4)
    | (refine step_app (by rfl) (.tmp 48) (.tmp 51) 23 rfl w2.heap.size 40 _ 5 80 Tryz.underlying23 Tryz.infoR rfl (by decide) v4 (0 + i + 1) ([] ++ (LV.take i).flatMap encQ ++ [.string md, .slice sa sn sc, .slice da dn dc, .int .i64 rf, .int .i64 rt]) (by rfl) HV4.out (.slice (some ⟨b, off + i * 5, none⟩) (rules.length - i) (rc - i)) (rules.length - i) ((LV.drop i).flatMap encQ) (by rfl) (HSD.out.ext (Ext.below HB4.out)) (by rw [flat_len 5 encQ (fun _ => rfl), List.length_drop, hLl]) (fun u hu => OQ.out u (by obtain ⟨p, hp, hu⟩ := List.mem_flatMap.1 hu; exact List.mem_flatMap.2 ⟨p, List.mem_of_mem_drop hp, hu⟩)) (by unfold maxLen; omega) (by omega) HB4.out.size ?_; intro v5 w5 hv5 hg5; have b5 : Below w2.heap.size w2 w5 := HB4.out.grown hg5 HB4.out.size (fun j hj => (HV4.out.lt j hj).1); have hS5 := MS b5; have HB5 := hid b5; have HV5 := hid hv5; clear hg5 hv5 b5))
  all_goals
    have HRu : Hid (RusAt w5 v5 ((rules.take i ++ [rules[i]'hi]) ++ rules[i]'hi :: rules.drop (i + 1))) := by
      have h := HV5.out
      rw [HDi.out] at h
      rw [← twice_list (p := (⟨md, ss, dd, rf, rt⟩, Value.slice sa sn sc, Value.slice da dn dc)) HLV.out hi HRi.out]
      refine rus_ofQ (base := w2.heap.size) ?_ (fun q hq => ?_)
      · have e1 : ((LV.take i ++ [((⟨md, ss, dd, rf, rt⟩ : Ru), Value.slice sa sn sc, Value.slice da dn dc)]) ++ ((⟨md, ss, dd, rf, rt⟩ : Ru), Value.slice sa sn sc, Value.slice da dn dc) :: LV.drop (i + 1)).length = 0 + i + 1 + (rules.length - i) := by
          simp only [List.length_append, List.length_cons, List.length_nil, List.length_take, List.length_drop]
          omega
        rw [e1]
        simp only [List.flatMap_append, List.flatMap_cons, List.flatMap_nil, List.append_nil] at h ⊢
        exact h
      · have hq' : q ∈ LV := by
          simp only [List.mem_append, List.mem_cons, List.not_mem_nil, or_false] at hq
          rcases hq with (hq | rfl) | (rfl | hq)
          · exact List.mem_of_mem_take hq
          · exact HMi.out
          · exact HMi.out
          · exact List.mem_of_mem_drop hq
        exact (HQ.out.ext (Ext.below HB5.out)) q hq'
    have X5 := hid (X2.out.trans (Ext.below HB5.out))
    have HBw := hid (below_trans HB2.out HB5.out (Nat.le_refl _))
    have Y5 := hid (Ext.below HB5.out)
    clear hS2 hS3 hS4 hS5 HV3 HV4 HV5 HG3 HB3 HB4 HB5
    go_wp2_with fail
    refine (declared_any (rules := (rules.take i ++ [rules[i]'hi]) ++ rules[i]'hi :: rules.drop (i + 1)) (media := media) k w5 (HL.out.ext X5.out) HN.out HRu.out (twice_sm hi HF.out HRs.out.each) (HM.out.ext X5.out) HML.out (HT.out.ext X5.out)).mono ?_
    rintro e w6 ⟨hA6, hb6⟩
    obtain ⟨a2, n2, c2, x2, rfl, hE2⟩ := hA6.form
    obtain ⟨hx, hSl⟩ := same_looks (w := w6) E1.out hE2 (twice_alike hi) (Y5.out.trans (Ext.below hb6)) (Ext.refl _)
    subst hx
    have HSl := hid hSl
    have HB6 := hid (below_trans HBw.out hb6 (Nat.le_refl _))
    have Y6 := hid (Y5.out.trans (Ext.below hb6))
    clear hSl hb6 hA6 hE2 HRu X5 HBw Y5
    by_cases hx0 : x2 = 0
    · subst hx0
      have hk0 := Y6.out _ _ _ c0
      have hk1 := Y6.out _ _ _ c1'
      have hk2 := Y6.out _ _ _ c2'
      have hk3 := Y6.out _ _ _ c3
      have hk4 := Y6.out _ _ _ c4
      have K0 := hid hk0
      have K1 := hid hk1
      have K2 := hid hk2
      have K3 := hid hk3
      have K4 := hid hk4
      have X6 := hid (X2.out.trans Y6.out)
      clear hk0 hk1 hk2 hk3 hk4 c0 c1' c2' c3 c4 MS BA BC
      go_wp2_with (go_at_call 11; refine HSl.out.mono ?_; rintro e w7 ⟨rfl, m, rfl⟩; have hk0 : (w6.drewN m).cell? ⟨b, off + i * 5, none⟩ = some (.string md) := K0.out; have hk1 : (w6.drewN m).cell? ⟨b, off + i * 5 + 1, none⟩ = some (.slice sa sn sc) := K1.out; have hk2 : (w6.drewN m).cell? ⟨b, off + i * 5 + 2, none⟩ = some (.slice da dn dc) := K2.out; have hk3 : (w6.drewN m).cell? ⟨b, off + i * 5 + 3, none⟩ = some (.int .i64 rf) := K3.out; have hk4 : (w6.drewN m).cell? ⟨b, off + i * 5 + 4, none⟩ = some (.int .i64 rt) := K4.out)
      have X7 : Hid (Ext w (w6.drewN m)) := X6.out
      have Y7 : Hid (Ext w2 (w6.drewN m)) := Y6.out
      have HB7 : Hid (Below w.heap.size w (w6.drewN m)) := below_dN HB6.out m
      clear HSl X6 Y6 HB6 K0 K1 K2 K3 K4 hk0 hk1 hk2 hk3 hk4
      generalize w6.drewN m = w7 at *
      have HSmI := hid (HRs.out.each (rules[i]'hi) (List.getElem_mem hi))
      rw [← HRi.out] at HSmI
      refine (best_any _ l k md ss _ da dn dc rf rt w7 (HL.out.ext X7.out) HN.out (HT.out.mx.imp fun _ h => X7.out _ _ _ h) (HS.out.ext Y7.out) HSmI.out.sels).mono ?_
      rintro e w8 ⟨rfl, hb8⟩
      have HBB : Hid (bestB l k ss = bestTo l k ss (w00, false)) := rfl
      generalize bestTo l k ss (w00, false) = bb at *
      obtain ⟨⟨xa, xb, xc⟩, fd⟩ := bb
      simp only [bestV, wtV]
      have b8 := below_trans HB7.out hb8 (Nat.le_refl _)
      have HB8 := hid (b8.alloc b8.size (.cells #[.int .i64 xa, .int .i64 xb, .int .i64 xc] 42))
      have Y8 := hid ((Y7.out.trans (Ext.below hb8)).trans (ext_alloc w8 (.cells #[.int .i64 xa, .int .i64 xb, .int .i64 xc] 42)))
      clear hb8 b8 Y7 X7 HB7
      cases fd
      · have HLs : Hid (claimsB styB l k (rules.take i ++ rules.drop (i + 1)) media = claimsB styB l k rules media) := less_same hi (by rw [← HRi.out, HBB.out])
        go_wp2_with fail
        generalize w8.alloc (.cells #[.int .i64 xa, .int .i64 xb, .int .i64 xc] 42) = w9 at *
        have hc9 : ∀ q (hq : q < LV.length) j, j < 5 → w9.cell? ⟨b, off + q * 5 + j, none⟩ = (encQ LV[q])[j]? := fun q hq j hj => by
          have h1 := HCs.out q hq j hj
          have h2 : ∃ v, (encQ LV[q])[j]? = some v := by
            match j, hj with
            | 0, _ => exact ⟨_, rfl⟩
            | 1, _ => exact ⟨_, rfl⟩
            | 2, _ => exact ⟨_, rfl⟩
            | 3, _ => exact ⟨_, rfl⟩
            | 4, _ => exact ⟨_, rfl⟩
          obtain ⟨v, hv⟩ := h2
          rw [hv] at h1 ⊢
          exact Y8.out _ _ _ h1
        have HT9 := hid (src_take hc9 i rc (by omega))
        have HD9 := hid (src_if hc9 hLl hi hcap (rc - (i + 1)))
        have X9 := hid (X2.out.trans Y8.out)
        have BA9 : Hid (Below w9.heap.size w9 (w9.alloc (.cells #[] 40)).drew) := ((Below.refl _ _).alloc (Nat.le_refl _) _).drew
        have hk9 := hc9 0 (by omega) 0 (by decide)
        have hwr : IntKind.i64.wrap ((i : Int) + 1) = (i : Int) + 1 := by rw [IntKind.wrap_i64]; omega
        have hp1 : (0 : Int) ≤ (i : Int) + 1 := by omega
        have hp2 : ((i : Int) + 1).toNat = i + 1 := by omega
        have hp3 : (i : Int) + 1 ≤ (rules.length : Int) := by omega
        have hp4 : i + 1 ≤ rules.length := by omega
        have hb9 : b < w9.heap.size := by
          have h2 : (encQ (LV[0]'(by omega)))[0]? = some (Value.string (LV[0]'(by omega)).1.media) := rfl
          rw [h2] at hk9
          exact lt_of_cell hk9
        have d9 : w9.cell? ⟨0, 0, none⟩ = some (.string sd0) := X9.out _ _ _ HT.out.s0
        have D9 := hid d9
        have MS9 : ∀ {w' : World}, Below w9.heap.size w9 w' → w'.cell? ⟨0, 0, none⟩ = some (.string sd0) := fun h => Ext.below h _ _ _ D9.out
        have HLl := hid (less_list (i := i) HLV.out)
        clear hc9 hk9
        go_region_held3 (fun w' => w'.cell? ⟨0, 0, none⟩ = some (.string sd0)) (first | assumption | exact MS9 BA9.out | exact MS9 HBb.out | exact MS9 HBa.out | exact MS9 HBa.out.drew | exact MS9 HBb.out.drew | go_keep) (first
          | (refine step_app (by rfl) (.tmp 87) (.tmp 90) 23 rfl w9.heap.size 40 _ 5 80 Tryz.underlying23 Tryz.infoR rfl (by decide) _ 0 [] (by rfl) (own_zero (heap_alloc_new _ _) (by simp)) (.slice (some ⟨b, off, none⟩) i rc) i ((LV.take i).flatMap encQ) (by rfl) (HT9.out.ext (Ext.below BA9.out)) (by rw [flat_len 5 encQ (fun _ => rfl), List.length_take]; congr 1; omega) (fun u hu => OQ.out u (by obtain ⟨p, hp, hu⟩ := List.mem_flatMap.1 hu; exact List.mem_flatMap.2 ⟨p, List.mem_of_mem_take hp, hu⟩)) (by unfold maxLen; omega) (by omega) (by simp <;> omega) ?_; intro va wa hva hga; have ba : Below w9.heap.size w9 wa := BA9.out.grown hga (by simp) (by simp [Value.ownBlock] <;> omega); have hSa := MS9 ba; have HBa := hid ba; have HVa := hid hva; clear hga hva ba)
          | (refine step_app (by rfl) (.tmp 91) (.tmp 95) 23 rfl w9.heap.size 40 _ 5 80 Tryz.underlying23 Tryz.infoR rfl (by decide) va (0 + i) ([] ++ (LV.take i).flatMap encQ) (by rfl) HVa.out _ (rules.length - (i + 1)) ((LV.drop (i + 1)).flatMap encQ) (by rfl) (HD9.out.ext (Ext.below HBa.out)) (by rw [flat_len 5 encQ (fun _ => rfl), List.length_drop, hLl]) (fun u hu => OQ.out u (by obtain ⟨p, hp, hu⟩ := List.mem_flatMap.1 hu; exact List.mem_flatMap.2 ⟨p, List.mem_of_mem_drop hp, hu⟩)) (by unfold maxLen; omega) (by omega) HBa.out.size ?_; intro vb wb hvb hgb; have bb' : Below w9.heap.size w9 wb := HBa.out.grown hgb HBa.out.size (fun j hj => (HVa.out.lt j hj).1); have hSb := MS9 bb'; have HBb := hid bb'; have RUb : Hid (RusAt wb vb (rules.take i ++ rules.drop (i + 1))) := (by rw [← HLl.out]; refine rus_ofQ (base := w9.heap.size) ?_ ((HQ.out.ext (Y8.out.trans (Ext.below bb'))).sub); have e1 : (LV.take i ++ LV.drop (i + 1)).length = 0 + i + (rules.length - (i + 1)) := (by simp only [List.length_append, List.length_take, List.length_drop]; omega); rw [e1, List.flatMap_append]; exact hvb); clear hgb hvb bb')
          | (go_at_call 9; refine (declared_any (rules := rules.take i ++ rules.drop (i + 1)) (media := media) k _ (HL.out.ext (X9.out.trans (Ext.below HBb.out))) HN.out RUb.out (less_sm hi HF.out HRs.out.each) (HM.out.ext (X9.out.trans (Ext.below HBb.out))) HML.out (HT.out.ext (X9.out.trans (Ext.below HBb.out)))).mono ?_; rintro e w10 ⟨hA10, hb10⟩; rw [HLs.out] at hA10; obtain ⟨a3, n3, cc3, x3, rfl, hE3⟩ := hA10.form; obtain ⟨hx3, hSl3⟩ := same_looks (w := w10) E1.out hE3 (Alike.refl _) ((Y8.out.trans (Ext.below HBb.out)).trans (Ext.below hb10)) (Ext.refl _); subst hx3; have HS3 := hid hSl3; have b10 := below_trans HBb.out hb10 (Nat.le_refl _); have d10 := MS9 b10; have HBc := hid (below_trans HB8.out b10 (Nat.le_refl _)); clear hA10 hb10 hE3 hSl3 b10; dsimp only))
        all_goals go_wp2_with (go_at_call 11; refine HS3.out.mono ?_; rintro e w11 ⟨rfl, m', rfl⟩)
        all_goals go_ret
        all_goals exact ⟨rfl, below_dN HBc.out _⟩
      · go_wp2_with fail
        go_ret
        exact ⟨rfl, HB8.out⟩
    · go_wp2_with (go_at_call 11; refine HSl.out.mono ?_; rintro e w7 ⟨rfl, m, rfl⟩)
      go_ret
      exact ⟨rfl, below_dN HB6.out _⟩
end Go.Proofs.YtfobkiglmphgjabGreatDoor
