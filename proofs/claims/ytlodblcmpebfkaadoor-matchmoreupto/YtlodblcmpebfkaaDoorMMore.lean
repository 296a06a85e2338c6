/-
  One test more means no more: the plain side, and the walk of the statement's function. Conditions: the elements and the selector lie as they must, at most 2^20 of each.
-/
import Derived.Test.YtlodblcmpebfkaaDoorMB
namespace Go.Proofs.YtlodblcmpebfkaaDoor
open Go.RowKit

def more (s : List Pt) (i : Nat) (t : Ts) : List Pt := s.set i ⟨(ptAt s i).join, (ptAt s i).tests ++ [t]⟩
theorem more_len (s : List Pt) (i : Nat) (t : Ts) : (more s i t).length = s.length := by simp [more]
theorem more_at {s : List Pt} {i : Nat} {t : Ts} (j : Nat) (hj : j < s.length) : ptAt (more s i t) j = if i = j then ⟨(ptAt s j).join, (ptAt s j).tests ++ [t]⟩ else ptAt s j := by
  rw [ptAt_eq (by rw [more_len]; exact hj)]
  unfold more
  rw [List.getElem_set]
  split
  · rename_i h; subst h; rfl
  · rw [ptAt_eq hj]
theorem more_join {s : List Pt} {i : Nat} {t : Ts} (j : Nat) (hj : j < s.length) : (ptAt (more s i t) j).join = (ptAt s j).join := by
  rw [more_at j hj]; split <;> rfl
theorem more_part {l : List Nd} {k : Nat} {s : List Pt} {i : Nat} {t : Ts} (j : Nat) (hj : j < s.length) (h : partB l k (ptAt (more s i t) j) = true) : partB l k (ptAt s j) = true := by
  rw [more_at j hj] at h
  split at h
  · unfold partB at h ⊢
    simp at h ⊢
    exact h.1
  · exact h
theorem more_rest {l : List Nd} {s : List Pt} {i : Nat} {t : Ts} : ∀ (n x : Nat), n < s.length → rest l (more s i t) n x = true → rest l s n x = true
  | 0, _, _, _ => rfl
  | n + 1, x, hn, h => by
    unfold rest at h ⊢
    rw [more_join _ hn] at h
    simp only [List.any_eq_true, Bool.and_eq_true] at h ⊢
    obtain ⟨y, hy, h1, h2⟩ := h
    exact ⟨y, hy, more_part n (by omega) h1, more_rest n y (by omega) h2⟩
theorem more_match {l : List Nd} {k : Int} {s : List Pt} {i : Nat} {t : Ts} (h : matchB l k (more s i t) = true) : matchB l k s = true := by
  unfold matchB meansB at h ⊢
  rw [more_len] at h
  simp only [Bool.and_eq_true, decide_eq_true_eq] at h ⊢
  obtain ⟨⟨h1, h2⟩, h3, h4⟩ := h
  exact ⟨⟨h1, h2⟩, more_part _ (by omega) h3, more_rest _ _ (by omega) h4⟩
theorem cnt_append (f : Int → Bool) (a b : List Pt) : cnt f (a ++ b) = cnt f a + cnt f b := by
  simp [cnt, cntT, List.flatMap_append, List.countP_append]
theorem cnt_cons (f : Int → Bool) (p : Pt) (b : List Pt) : cnt f (p :: b) = cntT f p.tests + cnt f b := by
  simp [cnt, cntT, List.countP_append]
theorem more_split {s : List Pt} {i : Nat} (hi : i < s.length) (t : Ts) : ∃ a b, s = a ++ ptAt s i :: b ∧ more s i t = a ++ ⟨(ptAt s i).join, (ptAt s i).tests ++ [t]⟩ :: b := by
  refine ⟨s.take i, s.drop (i + 1), ?_, ?_⟩
  · rw [ptAt_eq hi, ← List.drop_eq_getElem_cons hi, List.take_append_drop]
  · unfold more
    rw [List.set_eq_take_append_cons_drop, if_pos hi]
theorem more_cnt (f : Int → Bool) {s : List Pt} {i : Nat} (hi : i < s.length) (t : Ts) : cnt f s ≤ cnt f (more s i t) := by
  obtain ⟨a, b, h1, h2⟩ := more_split hi t
  rw [h2]
  conv => lhs; rw [h1]
  rw [cnt_append, cnt_append, cnt_cons, cnt_cons, cntT_snoc]
  omega
theorem more_sm {s : List Pt} {i : Nat} (hi : i < s.length) (t : Ts) (h : SmS s) (h1 : (s.flatMap (·.tests)).length < lim) : SmS (more s i t) := by
  refine ⟨by rw [more_len]; exact h.1, ?_⟩
  obtain ⟨a, b, e1, e2⟩ := more_split hi t
  rw [e2]
  rw [e1] at h1
  simp only [List.flatMap_append, List.flatMap_cons, List.length_append, List.length_cons, List.length_nil] at h1 ⊢
  omega

theorem one_T (l : List Ts) : ∀ u ∈ l.flatMap encT, u.oneCell' = true := by
  intro u hu
  obtain ⟨t, _, ht⟩ := List.mem_flatMap.1 hu
  simp only [encT, List.mem_cons, List.not_mem_nil, or_false] at ht
  rcases ht with rfl | rfl | rfl <;> rfl
theorem one_P {w : World} (l : List (Pt × Value)) (h : ∀ p ∈ l, TsAt w p.2 p.1.tests) : ∀ u ∈ l.flatMap encP, u.oneCell' = true := by
  intro u hu
  obtain ⟨p, hp, hu⟩ := List.mem_flatMap.1 hu
  obtain ⟨a, c, e⟩ := Sl.form (h p hp)
  simp only [encP, List.mem_cons, List.not_mem_nil, or_false] at hu
  rcases hu with rfl | rfl
  · rfl
  · rw [e]; rfl
theorem blk0 (w : World) (o o' : Obj) : ((w.alloc o).alloc o').heap[w.heap.size]? = some o := (Below.heap_alloc _ _ _ (by simp)).trans (heap_alloc_new w _)
theorem blk1 (w : World) (o o' : Obj) : ((w.alloc o).alloc o').heap[w.heap.size + 1]? = some o' := by
  have h := heap_alloc_new (w.alloc o) o'
  rw [show (w.alloc o).heap.size = w.heap.size + 1 by simp] at h
  exact h
theorem own_new0 {W : World} {G base : Nat} (h : W.heap[G]? = some (.cells #[] 41 (0, 0))) (hb : base ≤ G) : W.ownsRow base 41 3 (.slice (some ⟨G, 0, none⟩) 0 0) 0 [] :=
  ⟨rfl, .inr ⟨_, 0, #[], rfl, hb, h, Nat.le_refl _, by unfold maxLen; omega, rfl, rfl⟩⟩

theorem ps_more {W : World} {g mcap i : Nat} {s : List Pt} {t : Ts} {LV : List (Pt × Value)} {v4 : Value} (hm : LV.map (·.1) = s) (hLs : ∀ p ∈ LV, TsAt W p.2 p.1.tests)
    (hc : ∀ j (hj : j < LV.length), W.cell? ⟨g, j * 2, none⟩ = some (.int .i64 LV[j].1.join) ∧ (j ≠ i → W.cell? ⟨g, j * 2 + 1, none⟩ = some LV[j].2)) (hci : W.cell? ⟨g, i * 2 + 1, none⟩ = some v4) (hv : TsAt W v4 ((ptAt s i).tests ++ [t])) :
    PsAt W (.slice (some ⟨g, 0, none⟩) s.length mcap) (more s i t) := by
  refine ⟨some ⟨g, 0, none⟩, mcap, by rw [more_len], nofun, fun j hj => ⟨g, 0, rfl, ?_⟩⟩
  rw [more_len] at hj
  have hjL : j < LV.length := by rw [← hm] at hj; simpa using hj
  have e1 : LV[j].1 = s[j] := by
    have : (LV.map (·.1))[j]? = s[j]? := by rw [hm]
    simpa [hjL, hj] using this
  have e2 : (more s i t)[j]'(by rw [more_len]; exact hj) = ptAt (more s i t) j := (ptAt_eq (by rw [more_len]; exact hj)).symm
  rw [e2, more_at j hj]
  obtain ⟨h1, h2⟩ := hc j hjL
  refine ⟨?_, ?_⟩
  · show W.cell? ⟨g, 0 + j * 2 + 0, none⟩ = _
    rw [show 0 + j * 2 + 0 = j * 2 by omega, h1, e1]
    split <;> rw [ptAt_eq hj]
  · show ∃ v, W.cell? ⟨g, 0 + j * 2 + 1, none⟩ = some v ∧ _
    rw [show 0 + j * 2 + 1 = j * 2 + 1 by omega]
    split
    · rename_i h; subst h
      exact ⟨v4, hci, hv⟩
    · rename_i h
      refine ⟨LV[j].2, h2 (fun e => h e.symm), ?_⟩
      have := hLs LV[j] (List.getElem_mem hjL)
      rw [ptAt_eq hj, ← e1]
      exact this

set_option maxRecDepth 100000 in
set_option maxHeartbeats 4000000 in
theorem matchMore_any (lv : Value) (l : List Nd) (k : Int) (sv : Value) (s : List Pt) (at' : Int) (t : Ts) (w : World) (hl : NdsAt w lv l) (hs : SmNs l) (hm : Mx w) (hS : PsAt w sv s) (hss : SmS s) (hs1 : (s.flatMap (·.tests)).length < lim) :
    Calls Tryd.prog 4 #[lv, .int .i64 k, sv, .int .i64 at', testV t] w fun e w' => e = .returned (.bool true) ∧ Below w.heap.size w w' := by
  obtain ⟨sa, scap, rfl⟩ := Sl.form hS
  have HL := hid hl
  have HN := hid hs
  have HM := hid hm
  have HP := hid hS
  have HSS := hid hss
  have HS1 := hid hs1
  have hsl := hss.1
  unfold lim at hsl
  obtain ⟨kd, nm, vl⟩ := t
  have HB0 : Hid (Below w.heap.size w (w.alloc (.cells #[.int .i64 kd, .string nm, .string vl] 41))) := (Below.refl _ _).alloc (Nat.le_refl _) _
  have d0 := cell_new w #[.int .i64 kd, .string nm, .string vl] 41 0
  have d1 := cell_new w #[.int .i64 kd, .string nm, .string vl] 41 1
  have d2 := cell_new w #[.int .i64 kd, .string nm, .string vl] 41 2
  have D := hid (And.intro d0 (And.intro d1 d2))
  clear hl hs hm hS hss hs1 d0 d1 d2
  simp only [testV]
  go_enter Tryd.func4, Tryd.ntmps4
  go_wp2_with fail
  refine (alive_any _ (HM.out.ext (Ext.below HB0.out))).mono ?_
  rintro e w1 ⟨rfl, hb⟩
  have HB1 := hid (below_trans HB0.out hb (Nat.le_refl _))
  have X1 := Ext.below hb
  have d0 := X1 _ _ _ D.out.1
  have d1 := X1 _ _ _ D.out.2.1
  have d2 := X1 _ _ _ D.out.2.2
  clear hb X1 D HB0
  by_cases hneg : at' < 0
  · go_wp2_with fail
    go_ret
    exact ⟨rfl, HB1.out⟩
  by_cases hge : (s.length : Int) ≤ at'
  · go_wp2_with fail
    go_ret
    exact ⟨rfl, HB1.out⟩
  obtain ⟨i, rfl⟩ : ∃ i : Nat, at' = i := ⟨at'.toNat, by omega⟩
  have hi : i < s.length := by omega
  have hpos : 0 < s.length := by omega
  clear hneg hge
  obtain ⟨LV, hLm, hLs, hsrc⟩ := (HP.out.ext (Ext.below HB1.out)).src
  have hLl : LV.length = s.length := by rw [← hLm, List.length_map]
  have HLM := hid hLm
  have HLS := hid hLs
  have HLL := hid hLl
  have HSRC := hid hsrc
  clear hLm hLs hLl hsrc
  go_wp2_with (at_builtin; refine wpList_app rfl (.tmp 25) (.tmp 26) 30 rfl w1.heap.size 45 _ 2 32 Tryd.underlying30 Tryd.infoP rfl (by decide) (.slice (some ⟨w1.heap.size, 0, none⟩) 0 0) 0 [] rfl ⟨rfl, .inr ⟨_, 0, #[], rfl, Nat.le_refl _, heap_alloc_new _ _, Nat.le_refl _, by unfold maxLen; omega, rfl, rfl⟩⟩ _ s.length (LV.flatMap encP) rfl (HSRC.out.ext (ext_alloc _ _)) (by rw [flat_len 2 encP (fun _ => rfl), HLL.out]) (one_P _ HLS.out) (by unfold maxLen; omega) (by omega) (by simp) ?_; intro mv w2 hmo hmg)
  have hB12 : Below w1.heap.size w1 w2 := ((Below.refl _ _).alloc (Nat.le_refl _) _).grown hmg (by simp) (fun k hk => by simp [Value.ownBlock] at hk; omega)
  have HB2 := hid (below_trans HB1.out hB12 (Nat.le_refl _))
  have HO2 : Hid (w2.ownsRow w1.heap.size 45 2 mv LV.length (LV.flatMap encP)) := by
    show World.ownsRow _ _ _ _ _ _ _
    rw [HLL.out]
    simpa using hmo
  obtain ⟨g, mcap, cur, hmv, hg1, hgb⟩ : ∃ g mcap cur, mv = .slice (some ⟨g, 0, none⟩) s.length mcap ∧ w1.heap.size ≤ g ∧ w2.heap[g]? = some (.cells cur 45 (0, 0)) := by
    rcases HO2.out.2 with ⟨_, h2⟩ | ⟨g, cap, cur, h0, h1, h2, _⟩
    · rw [HLL.out] at h2; omega
    · rw [HLL.out] at h0; exact ⟨g, cap, cur, h0, h1, h2⟩
  subst hmv
  have X12 := Ext.below hB12
  have hz12 : w1.heap.size ≤ w2.heap.size := hB12.size
  have hwz := lt_of_cell d0
  obtain ⟨bz, offz, hbz', hez⟩ := Sl.at (HP.out.ext (Ext.below HB1.out)) hi
  obtain ⟨_, _, cz, _, _⟩ := hez.cells
  have hbz := lt_of_cell cz
  have e0 := X12 _ _ _ d0
  have e1 := X12 _ _ _ d1
  have e2 := X12 _ _ _ d2
  have HLS2 : Hid (∀ p ∈ LV, TsAt w2 p.2 p.1.tests) := fun p hp => (HLS.out p hp).ext X12
  have HGB := hid hgb
  have hg2 : g < w2.heap.size := (Array.getElem?_eq_some_iff.1 hgb).1
  have HB12 := hid hB12
  clear hmo hmg hB12 X12 d0 d1 d2 HSRC hgb
  obtain ⟨b, off, rfl, he⟩ := Sl.at (HP.out.ext (Ext.below HB2.out)) hi
  injection hbz' with hbz'
  injection hbz' with hbz1 hbz2
  subst hbz1 hbz2
  clear hez cz
  obtain ⟨ta, tcap, _, c1, hts⟩ := he.cells
  have HE : Hid (ptAt s i = s[i]) := ptAt_eq hi
  have HTS := hid hts
  have htl := HSS.out.part (List.getElem_mem hi)
  unfold lim at htl
  generalize s[i] = p at *
  obtain ⟨jn, ts⟩ := p
  simp only at c1 htl hts HTS
  have HSRC := hid (TsAt.src hts)
  clear hts he
  have hS2 : w2.cell? ⟨w.heap.size, 0, none⟩ = some (.int .i64 kd) ∧ w2.cell? ⟨w.heap.size, 1, none⟩ = some (.string nm) ∧ w2.cell? ⟨w.heap.size, 2, none⟩ = some (.string vl) ∧ w2.cell? ⟨b, off + i * 2 + 1, none⟩ = some (.slice ta ts.length tcap) := ⟨e0, e1, e2, c1⟩
  have hbs := lt_of_cell c1
  have hws := lt_of_cell e0
  have n1 : (i : Int) < (s.length : Int) := by omega
  have n2 : (0 : Int) ≤ (i : Int) := by omega
  have BA : ∀ o, Hid (Below w2.heap.size w2 (w2.alloc o).drew) := fun o => ((Below.refl _ _).alloc (Nat.le_refl _) o).drew
  have BC : ∀ o o', Hid (Below w2.heap.size w2 ((w2.alloc o).alloc o').drew) := fun o o' => (((Below.refl _ _).alloc (Nat.le_refl _) o).alloc (by simp) o').drew
  have hiL : i < LV.length := by rw [HLL.out]; exact hi
  have Q1 : Hid (w2.cell? ⟨g, i * 2 + 1, none⟩ = some LV[i].2) := by
    show _ = _
    have h := HO2.out
    rw [HLL.out] at h
    obtain ⟨g', hg', hc⟩ := own_cell h (j := i * 2 + 1) (by omega)
    injection hg' with hg'
    injection hg' with hg'
    subst hg'
    rw [hc, flat_get 2 encP (fun _ => rfl) LV i 1 hiL (by decide)]
    rfl
  have Q2 : Hid (w2.frozen? ⟨g, i * 2 + 1, none⟩ = false) := by
    show _ = _
    have h := HGB.out
    simp [World.frozen?, h]
  have MS : ∀ {w' : World}, Below w1.heap.size w2 w' → w'.cell? ⟨w.heap.size, 0, none⟩ = some (.int .i64 kd) ∧ w'.cell? ⟨w.heap.size, 1, none⟩ = some (.string nm) ∧ w'.cell? ⟨w.heap.size, 2, none⟩ = some (.string vl) ∧ w'.cell? ⟨b, off + i * 2 + 1, none⟩ = some (.slice ta ts.length tcap) := fun h => ⟨(h.cell (p := ⟨w.heap.size, 0, none⟩) hwz).trans e0, (h.cell (p := ⟨w.heap.size, 1, none⟩) hwz).trans e1, (h.cell (p := ⟨w.heap.size, 2, none⟩) hwz).trans e2, (h.cell (p := ⟨b, off + i * 2 + 1, none⟩) hbz).trans c1⟩
  go_region_held3 (fun w' => w'.cell? ⟨w.heap.size, 0, none⟩ = some (.int .i64 kd) ∧ w'.cell? ⟨w.heap.size, 1, none⟩ = some (.string nm) ∧ w'.cell? ⟨w.heap.size, 2, none⟩ = some (.string vl) ∧ w'.cell? ⟨b, off + i * 2 + 1, none⟩ = some (.slice ta ts.length tcap)) (first | assumption | go_keep) (first
    | (refine step_app (by rfl) (.tmp 30) (.tmp 35) 43 rfl w2.heap.size 41 _ 3 40 Tryd.underlying43 Tryd.infoT rfl (by decide) _ 0 [] (by rfl) (own_new0 (by first | exact heap_alloc_new _ _ | exact blk0 _ _ _ | exact blk1 _ _ _) (by simp)) (.slice ta ts.length tcap) ts.length (ts.flatMap encT) (by rfl) (HSRC.out.ext (Ext.below (by first | exact (BA _).out | exact (BC _ _).out))) (by rw [flat_len 3 encT (fun _ => rfl)]) (one_T _) (by unfold maxLen; omega) (by omega) (by simp <;> omega) ?_; intro v3 w3 hv3 hg3; have b3 : Below w2.heap.size w2 w3 := (by first | exact (BA _).out.grown hg3 (by simp) (by simp [Value.ownBlock] <;> omega) | exact (BC _ _).out.grown hg3 (by simp <;> omega) (by simp [Value.ownBlock] <;> omega)); have hS3 := MS (b3.mono hz12); have HB3 := hid b3; have HG3 := hid hg3; have HV3 := hid hv3; clear hg3 hv3 b3)
    | (refine step_app (by rfl) (.tmp 36) (.tmp 38) 43 rfl w2.heap.size 41 _ 3 40 Tryd.underlying43 Tryd.infoT rfl (by decide) v3 (0 + ts.length) ([] ++ ts.flatMap encT) (by rfl) (by first | exact HV3.out | exact HV3.out.alloc _) _ 1 [.int .i64 kd, .string nm, .string vl] (by rfl) (.inr ⟨_, 1, rfl, (by first | exact World.news_of_block (heap_alloc_new w3 _) | exact World.news_of_block ((HG3.out.block w2.heap.size (by simp <;> omega) (by simp [Value.ownBlock])).trans (blk0 _ _ _)) | exact World.news_of_block ((HG3.out.block (w2.heap.size + 1) (by simp) (by simp [Value.ownBlock])).trans (blk1 _ _ _)))⟩) rfl (by simp [Value.oneCell']) (by unfold maxLen; omega) (by omega) (by first | exact HB3.out.size | exact (HB3.out.alloc HB3.out.size _).size) ?_; intro v4 w4 hv4 hg4; obtain ⟨va4, vc4, rfl⟩ := own_form hv4; have b4 : Below w2.heap.size w2 w4 := (by first | exact HB3.out.grown hg4 HB3.out.size (fun k hk => (HV3.out.lt k hk).1) | exact (HB3.out.alloc HB3.out.size _).grown hg4 (HB3.out.alloc HB3.out.size _).size (fun k hk => (HV3.out.lt k hk).1)); have hS4 := MS (b4.mono hz12); have hS5 := MS ((b4.mono hz12).setCell (p := ⟨g, i * 2 + 1, none⟩) hg1 (.slice va4 (0 + ts.length + 1) vc4)); simp only [Nat.zero_add] at hS5; have q1 := (b4.cell (p := ⟨g, i * 2 + 1, none⟩) hg2).trans Q1.out; have q2 := (b4.frozen (p := ⟨g, i * 2 + 1, none⟩) hg2).trans Q2.out; have HB4 := hid b4; have HV4 := hid hv4; clear hg4 hv4 b4))
  all_goals
    have HV5 : Hid (TsAt (w4.setCell ⟨g, i * 2 + 1, none⟩ (.slice va4 (ts.length + 1) vc4)) (.slice va4 (ts.length + 1) vc4) (ts ++ [⟨kd, nm, vl⟩])) := by
      have h := ownsRow_setCell_below HV4.out (a := ⟨g, i * 2 + 1, none⟩) hg2 (.slice va4 (ts.length + 1) vc4)
      refine TsAt.own (base := w2.heap.size) ?_
      simpa [encT] using h
    have B15 : Hid (Below w1.heap.size w1 (w4.setCell ⟨g, i * 2 + 1, none⟩ (.slice va4 (ts.length + 1) vc4))) := HB12.out.trans ((HB4.out.mono hz12).setCell (p := ⟨g, i * 2 + 1, none⟩) hg1 _)
    have HP5 : Hid (PsAt (w4.setCell ⟨g, i * 2 + 1, none⟩ (.slice va4 (ts.length + 1) vc4)) (.slice (some ⟨g, 0, none⟩) s.length mcap) (more s i ⟨kd, nm, vl⟩)) := by
      refine ps_more HLM.out (fun p hp => (HLS.out p hp).ext (Ext.below B15.out)) (fun j hj => ?_) (World.cell?_setCell_same _ _ _ q1) (by rw [HE.out]; exact HV5.out)
      have h := HO2.out
      have c : ∀ o, o < 2 → w4.cell? ⟨g, j * 2 + o, none⟩ = (encP LV[j])[o]? := fun o ho => by
        rw [HLL.out] at h
        obtain ⟨g', hg', hc⟩ := own_cell h (j := j * 2 + o) (by rw [← HLL.out]; omega)
        injection hg' with hg'
        injection hg' with hg'
        subst hg'
        rw [HB4.out.cell (p := ⟨g, j * 2 + o, none⟩) hg2, hc, flat_get 2 encP (fun _ => rfl) LV j o hj ho]
      refine ⟨?_, fun hne => ?_⟩
      · rw [World.cell?_setCell_other _ _ _ _ (by simp <;> omega)]
        exact c 0 (by decide)
      · rw [World.cell?_setCell_other _ _ _ _ (by simp <;> omega)]
        exact c 1 (by decide)
    have HB5 := hid (below_trans HB1.out B15.out (Nat.le_refl _))
    clear hS2 hS3 hS4 hS5 q1 q2 e0 e1 e2 c1
    clear HV5 B15 HV4 HB4 HV3 HG3 HB3
    generalize w4.setCell ⟨g, i * 2 + 1, none⟩ (.slice va4 (ts.length + 1) vc4) = w5 at *
    go_wp2_with fail
    refine (weigh_any _ s _ (HP.out.ext (Ext.below HB5.out)) HSS.out).mono ?_
    rintro e w6 ⟨rfl, hb6⟩
    have HP6 := hid (HP5.out.ext (Ext.below hb6))
    have HB6 := hid (below_trans HB5.out hb6 (Nat.le_refl _))
    clear hb6 HP5 HB5
    go_wp2_with fail
    refine (weigh_any _ _ _ HP6.out (more_sm hi _ HSS.out HS1.out)).mono ?_
    rintro e w7 ⟨rfl, hb7⟩
    have HP7 := hid (HP6.out.ext (Ext.below hb7))
    have HB7 := hid (below_trans HB6.out hb7 (Nat.le_refl _))
    clear hb7 HP6 HB6
    have m0 : (cnt k0 s : Int) ≤ (cnt k0 (more s i ⟨kd, nm, vl⟩) : Int) := by have := more_cnt k0 hi ⟨kd, nm, vl⟩; omega
    have m1 : (cnt k1 s : Int) ≤ (cnt k1 (more s i ⟨kd, nm, vl⟩) : Int) := by have := more_cnt k1 hi ⟨kd, nm, vl⟩; omega
    have m2 : (cnt k2 s : Int) ≤ (cnt k2 (more s i ⟨kd, nm, vl⟩) : Int) := by have := more_cnt k2 hi ⟨kd, nm, vl⟩; omega
    simp only [wtV, wts]
    generalize (cnt k0 s : Int) = A0 at *
    generalize (cnt k1 s : Int) = A1 at *
    generalize (cnt k2 s : Int) = A2 at *
    generalize (cnt k0 (more s i ⟨kd, nm, vl⟩) : Int) = C0 at *
    generalize (cnt k1 (more s i ⟨kd, nm, vl⟩) : Int) = C1 at *
    generalize (cnt k2 (more s i ⟨kd, nm, vl⟩) : Int) = C2 at *
    go_wp2_with fail
    have W1 := (WB.new w7 A0 A1 A2).alloc (.cells #[.int .i64 C0, .int .i64 C1, .int .i64 C2] 35)
    have W2 := WB.new (w7.alloc (.cells #[.int .i64 A0, .int .i64 A1, .int .i64 A2] 35)) C0 C1 C2
    rw [show (w7.alloc (.cells #[.int .i64 A0, .int .i64 A1, .int .i64 A2] 35)).heap.size = w7.heap.size + 1 by simp] at W2
    have HB8 : Hid (Below w.heap.size w ((w7.alloc (.cells #[.int .i64 A0, .int .i64 A1, .int .i64 A2] 35)).alloc (.cells #[.int .i64 C0, .int .i64 C1, .int .i64 C2] 35))) := (HB7.out.alloc HB7.out.size _).alloc (HB7.out.alloc HB7.out.size _).size _
    have HP8 := hid ((HP7.out.ext (ext_alloc _ (.cells #[.int .i64 A0, .int .i64 A1, .int .i64 A2] 35))).ext (ext_alloc _ (.cells #[.int .i64 C0, .int .i64 C1, .int .i64 C2] 35)))
    generalize (w7.alloc (.cells #[.int .i64 A0, .int .i64 A1, .int .i64 A2] 35)).alloc (.cells #[.int .i64 C0, .int .i64 C1, .int .i64 C2] 35) = w8 at *
    generalize w7.heap.size = T at *
    obtain ⟨x0, x1, x2⟩ := W1.cell
    obtain ⟨y0, y1, y2⟩ := W2.cell
    clear W1 W2 HB7 HP7
    go_loopg [46] 3 (fun n q wr => ∃ j : Nat, n = 3 - j ∧ j ≤ 3 ∧ q = .int .i64 (j : Int) ∧ ∃ m, wr = w8.drewN m)
    case atStart => exact ⟨0, rfl, Nat.zero_le _, rfl, 0, rfl⟩
    case round =>
      obtain ⟨j, hn, hj, rfl, m, rfl⟩ := hrel
      have GK := hid hn
      clear hn
      by_cases h3 : j = 3
      · subst h3
        have HB9 := hid (below_dN HB8.out m)
        have HP9 : Hid (PsAt (w8.drewN m) (.slice (some ⟨g, 0, none⟩) s.length mcap) (more s i ⟨kd, nm, vl⟩)) := HP8.out
        generalize w8.drewN m = w9 at *
        go_wp2_with fail
        refine (matches_any lv l k _ (more s i ⟨kd, nm, vl⟩) _ (HL.out.ext (Ext.below HB9.out)) HN.out (HM.out.ext (Ext.below HB9.out)) HP9.out (more_sm hi _ HSS.out HS1.out)).mono ?_
        rintro e wa ⟨rfl, hba⟩
        have HBa := hid (below_trans HB9.out hba (Nat.le_refl _))
        clear hba
        cases hmb : matchB l k (more s i ⟨kd, nm, vl⟩)
        · go_wp2_with fail
          go_ret
          exact ⟨rfl, HBa.out⟩
        · have hms := more_match hmb
          go_wp2_with fail
          refine (matches_any lv l k _ s _ (HL.out.ext (Ext.below HBa.out)) HN.out (HM.out.ext (Ext.below HBa.out)) (HP.out.ext (Ext.below HBa.out)) HSS.out).mono ?_
          rintro e wb ⟨rfl, hbb⟩
          rw [hms]
          have HBb := hid (below_trans HBa.out hbb (Nat.le_refl _))
          clear hbb
          go_wp2_with fail
          go_ret
          exact ⟨rfl, HBb.out⟩
      · have n0 : decide (C0 < A0) = false := by simp; omega
        have n1 : decide (C1 < A1) = false := by simp; omega
        have n2 : decide (C2 < A2) = false := by simp; omega
        have hj3 : j = 0 ∨ j = 1 ∨ j = 2 := by omega
        clear h3 hj
        rcases hj3 with rfl | rfl | rfl
        · go_wp2_with fail
          go_quiet (fail)
          go_wp2_with fail
          go_roundg 2
          case measure => have := GK.out; omega
          case rel => exact ⟨1, rfl, by omega, by go_num, _, rfl⟩
        · go_wp2_with fail
          go_quiet (fail)
          go_wp2_with fail
          go_roundg 1
          case measure => have := GK.out; omega
          case rel => exact ⟨2, rfl, by omega, by go_num, _, rfl⟩
        · go_wp2_with fail
          go_quiet (fail)
          go_wp2_with fail
          go_roundg 0
          case measure => have := GK.out; omega
          case rel => exact ⟨3, rfl, by omega, by go_num, _, rfl⟩
end Go.Proofs.YtlodblcmpebfkaaDoor
