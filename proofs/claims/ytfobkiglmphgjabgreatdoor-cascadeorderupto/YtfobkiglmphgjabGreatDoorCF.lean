/-
  The law CascadeSplit: a rule of two selectors is two rules: it returns true, whatever it is called with. Conditions: the sizes that SmNs, SmRs and FewR name; the tables hold what their texts say.
-/
import Derived.Test.YtfobkiglmphgjabGreatDoorKD
import Derived.Test.YtfobkiglmphgjabGreatDoorKE
namespace Go.Proofs.YtfobkiglmphgjabGreatDoor
open Go.RowKit Go.Maps

/-! ### the rules, selector by selector: how many -/
theorem split_sum : ∀ (rules : List Ru) {B : Nat}, (∀ r ∈ rules, r.decls.length ≤ B) → ((rules.flatMap splitR).flatMap (·.decls)).length ≤ (rules.flatMap (·.sels)).length * B
  | [], _, _ => by simp
  | r :: rs, B, h => by
    have ih := split_sum rs (fun q hq => h q (List.mem_cons_of_mem _ hq))
    have h0 := h r (List.mem_cons_self ..)
    rw [List.flatMap_cons, List.flatMap_append, List.length_append, List.flatMap_cons, List.length_append, Nat.add_mul]
    have e : ((splitR r).flatMap (·.decls)).length = r.sels.length * r.decls.length := by
      unfold splitR
      rw [List.flatMap_map, List.length_flatMap]
      induction r.sels with
      | nil => simp
      | cons s ss ih => simp only [List.map_cons, List.sum_cons, ih, List.length_cons, Nat.add_mul]; omega
    have := Nat.mul_le_mul_left r.sels.length h0
    omega
theorem split_len : ∀ rules : List Ru, (rules.flatMap splitR).length = (rules.flatMap (·.sels)).length
  | [] => rfl
  | r :: rs => by
    rw [List.flatMap_cons, List.length_append, List.flatMap_cons, List.length_append, split_len rs]
    unfold splitR
    simp
theorem split_sm {rules : List Ru} (h : FewR rules) (he : ∀ r ∈ rules, SmR r) : SmRs (rules.flatMap splitR) := by
  have h1 := h.sels
  unfold lim at h1
  refine ⟨by rw [split_len]; omega, ?_, fun r hr => ?_⟩
  · have h2 := split_sum rules (B := 262144) (fun r hr => by have := h.each r hr; unfold lim at this; omega)
    have h3 := Nat.mul_le_mul_right 262144 h1
    omega
  · obtain ⟨q, hq, hr⟩ := List.mem_flatMap.1 hr
    obtain ⟨s, hs, rfl⟩ := List.mem_map.1 hr
    have hq' := he q hq
    exact ⟨⟨by show (1 : Nat) ≤ lim; decide, fun t ht => by obtain rfl := List.mem_singleton.1 ht; exact hq'.sels.2 _ hs⟩, hq'.decls⟩

/-! ### a row of rules of one selector each, that is appended to -/
def encR (x : Ru × Value × Value) : List Value := [.string x.1.media, x.2.1, x.2.2, .int .i64 0, .int .i64 0]
def oneR (md : ByteArray) (dd : List Dc) (s : List Pt) : Ru := ⟨md, [s], dd, 0, 0⟩
/-- Each of them lies as it must: its selectors in a block of their own, the rest in the memory of W. -/
def RowR (W w : World) (MV : List (Ru × Value × Value)) : Prop := ∀ p ∈ MV, ∃ blk sv md dd s, p.1 = oneR md dd s ∧ p.2.1 = .slice (some ⟨blk, 0, none⟩) 1 1 ∧ w.heap[blk]? = some (.cells #[sv] 58 (0, 0)) ∧ PsAt W sv s ∧ DsAt W p.2.2 dd
theorem row_nil (W w : World) : RowR W w [] := fun _ hp => absurd hp (List.not_mem_nil)
theorem RowR.alloc {W w : World} {MV : List (Ru × Value × Value)} (h : RowR W w MV) (o : Obj) : RowR W (w.alloc o) MV := fun p hp => by
  obtain ⟨blk, sv, md, dd, s, h1, h2, h3, h4⟩ := h p hp
  exact ⟨blk, sv, md, dd, s, h1, h2, (Below.heap_alloc _ _ _ (Array.getElem?_eq_some_iff.1 h3).1).trans h3, h4⟩
theorem RowR.grown {W w w' : World} {MV : List (Ru × Value × Value)} {base n : Nat} {v : Value} {xs : List Value} (h : RowR W w MV) (ho : w.ownsRow base 40 5 v n xs) (hg : w.grownBy w' v.ownBlock) : RowR W w' MV := fun p hp => by
  obtain ⟨blk, sv, md, dd, s, h1, h2, h3, h4⟩ := h p hp
  refine ⟨blk, sv, md, dd, s, h1, h2, (hg.block blk (Array.getElem?_eq_some_iff.1 h3).1 ?_).trans h3, h4⟩
  intro e
  rcases ho.2 with ⟨hv, _⟩ | ⟨g, cap, cur, hv, _, hb, _⟩
  · rw [hv] at e; cases e
  · rw [hv] at e
    injection e with e
    subst e
    rw [h3] at hb
    injection hb with hb
    injection hb with _ hb _
    cases hb
theorem oneR_cells {W : World} {MV : List (Ru × Value × Value)} {w : World} (h : RowR W w MV) : ∀ u ∈ MV.flatMap encR, u.oneCell' = true := by
  intro u hu
  obtain ⟨p, hp, hu⟩ := List.mem_flatMap.1 hu
  obtain ⟨blk, sv, md, dd, s, h1, h2, h3, h4, h5⟩ := h p hp
  obtain ⟨da, dc, hd⟩ := Sl.form h5
  simp only [encR, List.mem_cons, List.not_mem_nil, or_false] at hu
  rcases hu with rfl | rfl | rfl | rfl | rfl
  · rfl
  · rw [h2]; rfl
  · rw [hd]; rfl
  · rfl
  · rfl
theorem rus_own {W w : World} {MV : List (Ru × Value × Value)} {base : Nat} {v : Value} (h : RowR W w MV) (ho : w.ownsRow base 40 5 v MV.length (MV.flatMap encR)) (e : Ext W w) : RusAt w v (MV.map (·.1)) := by
  obtain ⟨a, cap, rfl, hn, hc⟩ := own_at (sz := 5) (f := encR) (fun _ => rfl) (by decide) ho
  refine ⟨a, cap, by rw [List.length_map], hn, fun i hi => ?_⟩
  have hi' : i < MV.length := by rw [List.length_map] at hi; exact hi
  obtain ⟨b, off, rfl, hh⟩ := hc i hi'
  obtain ⟨blk, sv, md, dd, s, h1, h2, h3, h4, h5⟩ := h MV[i] (List.getElem_mem hi')
  refine ⟨b, off, rfl, ?_⟩
  rw [List.getElem_map]
  have k0 := hh 0 (by decide)
  have k1 := hh 1 (by decide)
  have k2 := hh 2 (by decide)
  have k3 := hh 3 (by decide)
  have k4 := hh 4 (by decide)
  rw [h1]
  refine ⟨?_, ⟨_, k1, ?_⟩, ⟨_, k2, h5.ext e⟩, k3, k4⟩
  · have k0' : w.cell? ⟨b, off + i * 5 + 0, none⟩ = some (.string MV[i].1.media) := k0
    rw [h1] at k0'
    exact k0'
  · rw [h2]
    refine sl_one ⟨sv, ?_, h4.ext e⟩
    show w.cell? ⟨blk, 0 + 0 * 1 + 0, none⟩ = _
    unfold World.cell?
    simp [h3]
theorem Tryz.infoR : (Tryz.prog.info? 40).map (fun i => (i.zero, i.size, i.bytes)) = some (some (.agg #[.string ⟨#[]⟩, .slice none 0 0, .slice none 0 0, .int .i64 0, .int .i64 0]), 5, 80) := by kernel_rfl
variable {l : List Nd} {rules : List Ru} {media : List ByteArray} {mv lv rv : Value}

set_option maxRecDepth 100000 in
set_option maxHeartbeats 8000000 in
theorem cascadeSplit_any (k : Int) (w : World) (hl : NdsAt w lv l) (hs : SmNs l) (hr : RusAt w rv rules) (hrs : SmRs rules) (hm : BsAt w mv media) (hml : media.length ≤ lim) (hT : Tab w) (hf : FewR rules) :
    Calls Tryz.prog 8 #[lv, .int .i64 k, rv, mv] w fun e w' => e = .returned (.bool true) ∧ Below w.heap.size w w' := by
  obtain ⟨la, lc, rfl⟩ := Sl.form hl
  obtain ⟨ra, rc, rfl⟩ := Sl.form hr
  obtain ⟨ma, mc, rfl⟩ := Sl.form hm
  have HL := hid hl
  have HN := hid hs
  have HR := hid hr
  have HRs := hid hrs
  have HM := hid hm
  have HML : Hid (media.length ≤ 1099511627776) := by show _ ≤ _; unfold lim at hml; omega
  have HT := hid hT
  have HSp := hid (split_sm hf hrs.each)
  have HTot : Hid ((rules.flatMap splitR).length ≤ 1048576) := by show _ ≤ _; rw [split_len]; exact hf.sels
  have hrl := hrs.len
  clear hl hs hr hrs hm hml hT hf
  go_enter Tryz.func8, Tryz.ntmps8
  go_wp2_with (go_at_call 14; refine (alive_any _ HT.out).mono ?_; rintro e w1 ⟨rfl, hb1⟩; have HB1 := hid hb1; clear hb1)
  have X1 := hid (Ext.below HB1.out)
  go_loopg [9, 22] rules.length (fun n v i wr => ∃ (j : Nat) (MV : List (Ru × Value × Value)), n = rules.length - j ∧ j ≤ rules.length ∧ i = .int .i64 (j : Int) ∧ wr.ownsRow w1.heap.size 40 5 v MV.length (MV.flatMap encR) ∧ RowR w1 wr MV ∧ MV.map (·.1) = (rules.take j).flatMap splitR ∧ Below w1.heap.size w1 wr)
  case atStart => exact ⟨0, [], rfl, Nat.zero_le _, rfl, World.ownsRow_nil _ _ _ _, row_nil _ _, rfl, Below.refl _ _⟩
  case round =>
    obtain ⟨j, MV, hn', hj, rfl, hO, hRR, hMV, hB⟩ := hrel
    rename World => wo
    have GK := hid hn'
    have HO := hid hO
    have HRR := hid hRR
    have HMV := hid hMV
    have HB := hid hB
    have X0 := hid (X1.out.trans (Ext.below hB))
    obtain ⟨ya, yc, rfl⟩ := own_form hO
    clear hn' hO hRR hMV hB
    by_cases hlt : j < rules.length
    · obtain ⟨b, off, rfl, he⟩ := Sl.at (HR.out.ext X0.out) hlt
      obtain ⟨b0, off0, hb0, he0⟩ := Sl.at (HR.out.ext X1.out) hlt
      injection hb0 with hb0
      injection hb0 with hb1 hb2
      subst hb1 hb2
      obtain ⟨sa, sn, sc, da, dn, dc, c0, c1, c2, c3, c4, hS, hD⟩ := eR.cells he
      obtain ⟨sa', sn', sc', da', dn', dc', _, c1', c2', _, _, hS', hD'⟩ := eR.cells he0
      have q1 := Ext.below HB.out _ _ _ c1'
      have q2 := Ext.below HB.out _ _ _ c2'
      rw [c1] at q1
      rw [c2] at q2
      injection q1 with q1
      injection q2 with q2
      rw [← q1] at hS'
      rw [← q2] at hD'
      have HNx : Hid ((rules.take (j + 1)).flatMap splitR = (rules.take j).flatMap splitR ++ splitR rules[j]) := by
        show _ = _
        rw [List.take_succ_eq_append_getElem hlt, List.flatMap_append]
        simp
      have HTj : Hid (((rules.take (j + 1)).flatMap splitR).length ≤ 1048576) := by
        show _ ≤ _
        refine Nat.le_trans ?_ HTot.out
        have : rules.flatMap splitR = (rules.take (j + 1)).flatMap splitR ++ (rules.drop (j + 1)).flatMap splitR := by rw [← List.flatMap_append, List.take_append_drop]
        rw [this, List.length_append]
        omega
      have HJ := hid hlt
      clear he he0 hS hD c1' c2' q1 q2 sa' sn' sc' da' dn' dc'
      generalize rules[j] = r at *
      obtain ⟨md, ss, dd, rf, rt⟩ := r
      simp only at c0 c1 c2 c3 c4 hS' hD'
      obtain ⟨sa2, sc2, es⟩ := Sl.form hS'
      injection es with es1 es2 es3
      subst es1 es2 es3
      have HS := hid hS'
      have HD := hid hD'
      have HBa := hid (HB.out.alloc HB.out.size (.cells #[.string md, .slice sa ss.length sc, .slice da dn dc, .int .i64 rf, .int .i64 rt] 40))
      have HOa := hid (HO.out.alloc (.cells #[.string md, .slice sa ss.length sc, .slice da dn dc, .int .i64 rf, .int .i64 rt] 40))
      have HRa := hid (HRR.out.alloc (.cells #[.string md, .slice sa ss.length sc, .slice da dn dc, .int .i64 rf, .int .i64 rt] 40))
      have blk : Hid ((wo.alloc (.cells #[.string md, .slice sa ss.length sc, .slice da dn dc, .int .i64 rf, .int .i64 rt] 40)).heap[wo.heap.size]? = some (.cells #[.string md, .slice sa ss.length sc, .slice da dn dc, .int .i64 rf, .int .i64 rt] 40 (0, 0))) := heap_alloc_new _ _
      have hwo : w1.heap.size ≤ wo.heap.size := HB.out.size
      have hssl : ss.length ≤ 1048576 := by
        have h1 := HTj.out
        rw [HNx.out, List.length_append] at h1
        unfold splitR at h1
        simp only [List.length_map] at h1
        omega
      have HNe : Hid (∀ g, (Value.slice ya MV.length yc).ownBlock = some g → g ≠ wo.heap.size) := fun g hg => by have := (HO.out.lt g hg).2; omega
      have HPre : Hid (((rules.take j).flatMap splitR).length + ss.length ≤ 1048576) := by
        show _ ≤ _
        have h1 := HTj.out
        rw [HNx.out, List.length_append] at h1
        unfold splitR at h1
        simp only [List.length_map] at h1
        exact h1
      have HNx2 : Hid ((rules.take (j + 1)).flatMap splitR = (rules.take j).flatMap splitR ++ ss.map (fun s => ⟨md, [s], dd, 0, 0⟩)) := HNx.out
      obtain ⟨i0, hi0, hz0, hz1, hz2⟩ := info_parts Tryz.infoR
      have HI := hid hi0
      have HZ := hid (And.intro hz0 (And.intro hz1 hz2))
      clear HRR HO HNx hi0 hz0 hz1 hz2
      go_wp2_with fail
      generalize wo.alloc (.cells #[.string md, .slice sa ss.length sc, .slice da dn dc, .int .i64 rf, .int .i64 rt] 40) = w2 at *
      have hw2 : wo.heap.size < w2.heap.size := (Array.getElem?_eq_some_iff.1 blk.out).1
      have k0 : Hid (w2.cell? ⟨wo.heap.size, 0, none⟩ = some (.string md)) := by show _ = _; have h := blk.out; simp [World.cell?, h]
      have k2 : Hid (w2.cell? ⟨wo.heap.size, 2, none⟩ = some (.slice da dn dc)) := by show _ = _; have h := blk.out; simp [World.cell?, h]
      go_loopg [9, 29] ss.length (fun n v i wr => ∃ (q : Nat) (NV : List (Ru × Value × Value)), n = ss.length - q ∧ q ≤ ss.length ∧ i = .int .i64 (q : Int) ∧ wr.ownsRow w1.heap.size 40 5 v NV.length (NV.flatMap encR) ∧ RowR w1 wr NV ∧ NV.map (·.1) = (rules.take j).flatMap splitR ++ (ss.take q).map (fun s => ⟨md, [s], dd, 0, 0⟩) ∧ Below w1.heap.size w1 wr ∧ wr.cell? ⟨wo.heap.size, 0, none⟩ = some (.string md) ∧ wr.cell? ⟨wo.heap.size, 2, none⟩ = some (.slice da dn dc) ∧ (∀ g, v.ownBlock = some g → g ≠ wo.heap.size) ∧ wo.heap.size < wr.heap.size)
      case atStart => exact ⟨0, MV, rfl, Nat.zero_le _, rfl, HOa.out, HRa.out, by simpa using HMV.out, HBa.out, k0.out, k2.out, HNe.out, hw2⟩
      case round =>
        obtain ⟨q, NV, hn2, hq, rfl, hO2, hRR2, hNV, hB2, m0, m2, hne, hwq⟩ := hrel
        rename World => wq
        have GQ := hid hn2
        have HO2 := hid hO2
        have HR2 := hid hRR2
        have HNV := hid hNV
        have HBq := hid hB2
        have HNq := hid hne
        have hNl : NV.length ≤ 1048576 := by
          have h1 := congrArg List.length hNV
          have h2 := HPre.out
          rw [List.length_map, List.length_append, List.length_map, List.length_take] at h1
          omega
        obtain ⟨za, zc, rfl⟩ := own_form hO2
        clear hn2 hO2 hRR2 hNV hB2 hne k0 k2 HOa HRa HBa blk HMV
        by_cases hlq : q < ss.length
        · obtain ⟨b2, off2, rfl, sv, hsv, hps⟩ := Sl.at HS.out hlq
          obtain ⟨pa, pc, rfl⟩ := Sl.form hps
          have cS : wq.cell? ⟨b2, off2 + q, none⟩ = some (.slice pa ss[q].length pc) := by
            have := Ext.below HBq.out _ _ _ hsv
            simpa using this
          have HNs : Hid ((ss.take (q + 1)).map (fun s => (⟨md, [s], dd, 0, 0⟩ : Ru)) = (ss.take q).map (fun s => (⟨md, [s], dd, 0, 0⟩ : Ru)) ++ [oneR md dd ss[q]]) := by
            show _ = _
            rw [List.take_succ_eq_append_getElem hlq, List.map_append]
            rfl
          have HPs := hid hps
          have HQ := hid hlq
          clear hsv hps
          generalize ss[q] = s at *
          have e3 := ext_alloc wq (.cells #[.slice pa s.length pc] 58)
          have m0' := e3 _ _ _ m0
          have m2' := e3 _ _ _ m2
          have M0 := hid m0
          have M2 := hid m2
          have HO4 := hid ((HO2.out.alloc (.cells #[.slice pa s.length pc] 58)).alloc (.cells #[.string md, .slice (some ⟨wq.heap.size, 0, none⟩) 1 1, .slice da dn dc, .int .i64 0, .int .i64 0] 40))
          have b3 := HBq.out.alloc HBq.out.size (.cells #[.slice pa s.length pc] 58)
          have HB4 := hid (b3.alloc b3.size (.cells #[.string md, .slice (some ⟨wq.heap.size, 0, none⟩) 1 1, .slice da dn dc, .int .i64 0, .int .i64 0] 40))
          have z3 : (wq.alloc (.cells #[.slice pa s.length pc] 58)).heap.size = wq.heap.size + 1 := by simp
          have HNw := hid (heap_alloc_new (wq.alloc (.cells #[.slice pa s.length pc] 58)) (.cells #[.string md, .slice (some ⟨wq.heap.size, 0, none⟩) 1 1, .slice da dn dc, .int .i64 0, .int .i64 0] 40))
          rw [z3] at HNw
          have HR4 : Hid (RowR w1 ((wq.alloc (.cells #[.slice pa s.length pc] 58)).alloc (.cells #[.string md, .slice (some ⟨wq.heap.size, 0, none⟩) 1 1, .slice da dn dc, .int .i64 0, .int .i64 0] 40)) (NV ++ [(oneR md dd s, .slice (some ⟨wq.heap.size, 0, none⟩) 1 1, .slice da dn dc)])) := fun p hp => by
            rcases List.mem_append.1 hp with hp | hp
            · exact ((HR2.out.alloc (.cells #[.slice pa s.length pc] 58)).alloc (.cells #[.string md, .slice (some ⟨wq.heap.size, 0, none⟩) 1 1, .slice da dn dc, .int .i64 0, .int .i64 0] 40)) p hp
            · rw [List.mem_singleton.1 hp]
              exact ⟨wq.heap.size, _, md, dd, s, rfl, rfl, (Below.heap_alloc _ _ _ (by simp)).trans (heap_alloc_new wq _), HPs.out, HD.out⟩
          have HW4 : Hid (∀ g, g < wq.heap.size → ((wq.alloc (.cells #[.slice pa s.length pc] 58)).alloc (.cells #[.string md, .slice (some ⟨wq.heap.size, 0, none⟩) 1 1, .slice da dn dc, .int .i64 0, .int .i64 0] 40)).heap[g]? = wq.heap[g]?) := fun g hg => (Below.heap_alloc _ _ _ (by simp; omega)).trans (Below.heap_alloc _ _ _ hg)
          clear e3 b3 z3
          go_wp2_with (at_builtin; refine wpList_append_lies _ rfl (.tmp 33) (.tmp 41) 23 rfl w1.heap.size 40 i0 (.agg #[.string ⟨#[]⟩, .slice none 0 0, .slice none 0 0, .int .i64 0, .int .i64 0]) 5 80 Tryz.underlying23 HI.out HZ.out.1 HZ.out.2.1 HZ.out.2.2 rfl (by decide) (.slice za NV.length zc) NV.length (NV.flatMap encR) rfl HO4.out ⟨wq.heap.size + 1, 0, none⟩ 1 1 (encR (oneR md dd s, .slice (some ⟨wq.heap.size, 0, none⟩) 1 1, .slice da dn dc)) rfl rfl (World.news_of_block HNw.out) (by simp [encR, oneR, Value.oneCell']) (by decide) (by unfold maxLen; omega) (by omega) HB4.out.size _ rfl ?_; intro gg cap w6 hown hgrow hat hlt6; have HR6 := hid (HR4.out.grown HO4.out hgrow); have HB6 := hid (HB4.out.grown hgrow HB4.out.size (fun i hi => (HO4.out.lt i hi).1)); have HO6 := hid hown; have HG6 := hid hgrow; have HA6 := hid hat; clear hown hgrow hat)
          have C6 : Hid (∀ o v, wq.cell? ⟨wo.heap.size, o, none⟩ = some v → w6.cell? ⟨wo.heap.size, o, none⟩ = some v) := fun o v hv => by
            have h1 := HG6.out.block wo.heap.size (by simp; omega) (fun e => HNq.out _ e.symm rfl)
            have h2 := HW4.out wo.heap.size hwq
            unfold World.cell? at hv ⊢
            rw [h1, h2]
            exact hv
          have HN6 : Hid (∀ g, (Value.slice (some ⟨gg, 0, none⟩) (NV.length + 1) cap).ownBlock = some g → g ≠ wo.heap.size) := fun g hg => by
            simp [Value.ownBlock] at hg
            subst hg
            rcases HA6.out with h | h
            · exact HNq.out _ h
            · rw [h]; simp; omega
          have HS6 : Hid (wo.heap.size < w6.heap.size) := by
            show _ < _
            have h1 := HG6.out.size
            simp at h1
            omega
          go_roundg (ss.length - (q + 1))
          case measure => have := GQ.out; have := HQ.out; omega
          case rel => exact ⟨q + 1, NV ++ [(oneR md dd s, .slice (some ⟨wq.heap.size, 0, none⟩) 1 1, .slice da dn dc)], rfl, by have := HQ.out; omega, by go_num, by rw [List.length_append, List.flatMap_append]; simpa using HO6.out, HR6.out, by rw [List.map_append, HNV.out, HNs.out, List.append_assoc]; rfl, HB6.out, C6.out _ _ M0.out, C6.out _ _ M2.out, HN6.out, HS6.out⟩
        · go_wp2_with fail
          go_roundg (rules.length - (j + 1))
          case measure => have := GK.out; have := HJ.out; omega
          case rel => exact ⟨j + 1, NV, rfl, by have := HJ.out; omega, by go_num, HO2.out, HR2.out, by rw [HNV.out, HNx2.out, show ss.take q = ss from List.take_of_length_le (by omega)], HBq.out⟩
    · have HMa : Hid (MV.map (·.1) = rules.flatMap splitR) := by
        have := HMV.out
        rw [List.take_of_length_le (by omega)] at this
        exact this
      have RU := hid (rus_own HRR.out HO.out (Ext.below HB.out))
      rw [HMa.out] at RU
      have HBw := hid (below_trans HB1.out HB.out (Nat.le_refl _))
      go_wp2_with fail
      refine (declared_any (rules := rules) (media := media) k wo (HL.out.ext X0.out) HN.out (HR.out.ext X0.out) HRs.out (HM.out.ext X0.out) HML.out (HT.out.ext X0.out)).mono ?_
      rintro e w3 ⟨hA3, hb3⟩
      obtain ⟨a1, n1, c1, x1, rfl, hE1⟩ := hA3.form
      have E1 := hid hE1
      have X3 := hid (X0.out.trans (Ext.below hb3))
      have R3 := hid (RU.out.ext (Ext.below hb3))
      have HB3 := hid (below_trans HBw.out hb3 (Nat.le_refl _))
      clear hA3 hE1 hb3 RU
      go_wp2_with fail
      refine (declared_any (rules := rules.flatMap splitR) (media := media) k w3 (HL.out.ext X3.out) HN.out R3.out HSp.out (HM.out.ext X3.out) HML.out (HT.out.ext X3.out)).mono ?_
      rintro e w6 ⟨hA6, hb6⟩
      obtain ⟨a2, n2, c2, x2, rfl, hE2⟩ := hA6.form
      obtain ⟨hx, hS⟩ := same_looks (w := w6) E1.out hE2 (claims_alike styB (split_rules l k media rules)) (Ext.below hb6) (Ext.refl _)
      subst hx
      have HSl := hid hS
      have HB6 := hid (below_trans HB3.out hb6 (Nat.le_refl _))
      clear hS hb6 hA6 hE2
      go_wp2_with (go_at_call 11; refine HSl.out.mono ?_; rintro e w7 ⟨rfl, m, rfl⟩)
      go_ret
      exact ⟨rfl, below_dN HB6.out _⟩
end Go.Proofs.YtfobkiglmphgjabGreatDoor
