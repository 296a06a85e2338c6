/-
  Right above is somewhere above: the plain side, and the walk of the statement's function. Conditions: the elements and the selector lie as they must, at most 2^20 of each.
-/
import Derived.Test.YtlodblcmpebfkabDoorMB
namespace Go.Proofs.YtlodblcmpebfkabDoor
open Go.RowKit

/-- Parents stand ahead. -/
def Right (l : List Nd) : Prop := ∀ i, i < l.length → -1 ≤ par l i ∧ par l i < i

theorem drop_at (s : List Pt) (a j : Nat) : ptAt (s.drop a) j = ptAt s (a + j) := by
  simp [ptAt, List.getD, List.getElem?_drop]
theorem drop_rest {l : List Nd} {s : List Pt} {a : Nat} : ∀ (n x : Nat), rest l s (a + n) x = true → rest l (s.drop a) n x = true
  | 0, _, _ => rfl
  | n + 1, x, h => by
    rw [show a + (n + 1) = (a + n) + 1 by omega] at h
    unfold rest at h ⊢
    rw [drop_at, drop_at]
    simp only [List.any_eq_true, Bool.and_eq_true] at h ⊢
    obtain ⟨y, hy, h1, h2⟩ := h
    exact ⟨y, hy, h1, drop_rest n y h2⟩
theorem drop_match {l : List Nd} {k : Int} {s : List Pt} {a : Nat} (ha : a < s.length) (h : matchB l k s = true) : matchB l k (s.drop a) = true := by
  unfold matchB meansB at h ⊢
  simp only [Bool.and_eq_true, decide_eq_true_eq, List.length_drop] at h ⊢
  obtain ⟨⟨h1, h2⟩, h3, h4⟩ := h
  refine ⟨⟨h1, by omega⟩, ?_, ?_⟩
  · rw [drop_at, show a + (s.length - a - 1) = s.length - 1 by omega]; exact h3
  · exact drop_rest _ _ (by rw [show a + (s.length - a - 1) = s.length - 1 by omega]; exact h4)
def wide (s : List Pt) (i : Nat) : List Pt := s.set i ⟨1, (ptAt s i).tests⟩
theorem wide_len (s : List Pt) (i : Nat) : (wide s i).length = s.length := by simp [wide]
theorem wide_at {s : List Pt} {i : Nat} (j : Nat) (hj : j < s.length) : ptAt (wide s i) j = if i = j then ⟨1, (ptAt s j).tests⟩ else ptAt s j := by
  rw [ptAt_eq (by rw [wide_len]; exact hj)]
  unfold wide
  rw [List.getElem_set]
  split
  · rename_i h; subst h; rfl
  · rw [ptAt_eq hj]
theorem wide_part {l : List Nd} {k : Nat} {s : List Pt} {i : Nat} (j : Nat) (hj : j < s.length) : partB l k (ptAt (wide s i) j) = partB l k (ptAt s j) := by
  rw [wide_at j hj]; split <;> rfl
theorem ups_wide {l : List Nd} (hr : Right l) {x y : Nat} (hx : x < l.length) (h : y ∈ ups l x 2) : y ∈ ups l x 1 := by
  unfold ups single at h ⊢
  simp at h ⊢
  obtain ⟨⟨h0, h1⟩, rfl⟩ := h
  have := hr x hx
  rw [aboves_pos h0 this.2]
  exact List.mem_cons_self ..
theorem wide_rest {l : List Nd} (hr : Right l) {s : List Pt} {i : Nat} (hj : (ptAt s i).join = 2) : ∀ (n x : Nat), n < s.length → x < l.length → rest l s n x = true → rest l (wide s i) n x = true
  | 0, _, _, _, _ => rfl
  | n + 1, x, hn, hx, h => by
    unfold rest at h ⊢
    simp only [List.any_eq_true, Bool.and_eq_true] at h ⊢
    obtain ⟨y, hy, h1, h2⟩ := h
    refine ⟨y, ?_, by rw [wide_part n (by omega)]; exact h1, wide_rest hr hj n y (by omega) (ups_lt hx hy) h2⟩
    rw [wide_at _ hn]
    split
    · rename_i e; subst e
      rw [hj] at hy
      exact ups_wide hr hx hy
    · exact hy
theorem wide_match {l : List Nd} (hr : Right l) {k : Int} {s : List Pt} {i : Nat} (hj : (ptAt s i).join = 2) (h : matchB l k s = true) : matchB l k (wide s i) = true := by
  unfold matchB meansB at h ⊢
  rw [wide_len]
  simp only [Bool.and_eq_true, decide_eq_true_eq] at h ⊢
  obtain ⟨⟨h1, h2⟩, h3, h4⟩ := h
  have hk : k.toNat < l.length := by simp [inB] at h1; omega
  exact ⟨⟨h1, h2⟩, by rw [wide_part _ (by omega)]; exact h3, wide_rest hr hj _ _ (by omega) hk h4⟩
theorem wide_flat {s : List Pt} {i : Nat} (hi : i < s.length) : (wide s i).flatMap (·.tests) = s.flatMap (·.tests) := by
  unfold wide
  rw [List.set_eq_take_append_cons_drop, if_pos hi, ptAt_eq hi]
  have e : s = s.take i ++ s[i] :: s.drop (i + 1) := by rw [← List.drop_eq_getElem_cons hi, List.take_append_drop]
  have h := congrArg (List.flatMap (·.tests)) e
  rw [List.flatMap_append, List.flatMap_cons] at h
  rw [List.flatMap_append, List.flatMap_cons]
  exact h.symm
theorem wide_sm {s : List Pt} {i : Nat} (hi : i < s.length) (h : SmS s) : SmS (wide s i) := ⟨by rw [wide_len]; exact h.1, by rw [wide_flat hi]; exact h.2⟩
theorem drop_sm {s : List Pt} (i : Nat) (h : SmS s) : SmS (s.drop i) := by
  refine ⟨by have := h.1; simp; omega, Nat.le_trans ?_ h.2⟩
  conv => rhs; rw [← List.take_append_drop i s]
  rw [List.flatMap_append, List.length_append]
  omega
theorem ps_drop {w : World} {b off n cap : Nat} {s : List Pt} (h : PsAt w (.slice (some ⟨b, off, none⟩) n cap) s) (i c : Nat) (hi : i < s.length) : PsAt w (.slice (some ⟨b, off + i * 2, none⟩) (s.length - i) c) (s.drop i) := by
  refine ⟨some ⟨b, off + i * 2, none⟩, c, by rw [List.length_drop], nofun, fun j hj => ⟨b, off + i * 2, rfl, ?_⟩⟩
  have hj' : i + j < s.length := by simp at hj; omega
  obtain ⟨b', off', hb, he⟩ := Sl.at h hj'
  injection hb with hb
  injection hb with hb1 hb2
  subst hb1 hb2
  rw [List.getElem_drop]
  have e : ∀ q, off + i * 2 + j * 2 + q = off + (i + j) * 2 + q := fun q => by omega
  simp only [e]
  exact he

set_option maxHeartbeats 1000000 in
theorem right_any (lv : Value) (l : List Nd) (w : World) (hl : NdsAt w lv l) (hs : l.length ≤ lim) :
    Calls Tryd.prog 6 #[lv] w fun e w' => ∃ r, e = .returned (.bool r) ∧ (r = true → Right l) ∧ Below w.heap.size w w' := by
  obtain ⟨a, cap, rfl⟩ := Sl.form hl
  unfold lim at hs
  have HL := hid hl
  clear hl
  go_enter Tryd.func6, Tryd.ntmps6
  go_wp2_with fail
  go_loopg [7] l.length (fun n i wr => ∃ j : Nat, n = l.length - j ∧ j ≤ l.length ∧ i = .int .i64 (j : Int) ∧ (∀ q, q < j → -1 ≤ par l q ∧ par l q < q) ∧ Below w.heap.size w wr)
  case atStart => exact ⟨0, rfl, Nat.zero_le _, rfl, fun q hq => absurd hq (Nat.not_lt_zero _), Below.refl _ _⟩
  case round =>
    obtain ⟨j, hn, hj, rfl, hR, hB⟩ := hrel
    have GK := hid hn
    have HR := hid hR
    have HB := hid hB
    clear hn hR hB
    by_cases hlt : j < l.length
    · obtain ⟨b, off, rfl, he⟩ := Sl.at (NdsAt.ext HL.out (Ext.below HB.out)) hlt
      obtain ⟨sa, sc, c0, c1, c2, c3, c4, c5, _⟩ := he.cells
      have hp : par l j = l[j].parent := by simp [par, ndAt_eq hlt]
      rw [← hp] at c1
      clear hp he
      by_cases h1 : par l j < j
      · by_cases h2 : -1 ≤ par l j
        · have HR2 : Hid (∀ q, q < j + 1 → -1 ≤ par l q ∧ par l q < q) := fun q hq => by
            by_cases e : q = j
            · subst e; exact ⟨h2, h1⟩
            · exact HR.out q (by omega)
          generalize par l j = p at *
          have n1 : decide ((j : Int) ≤ p) = false := by simp; omega
          have n2 : decide (p < -1) = false := by simp; omega
          go_wp2_with fail
          go_roundg (l.length - (j + 1))
          case measure => have := GK.out; omega
          case rel => exact ⟨j + 1, rfl, by omega, by go_num, HR2.out, HB.out.alloc HB.out.size _⟩
        · generalize par l j = p at *
          have n1 : decide ((j : Int) ≤ p) = false := by simp; omega
          have n2 : decide (p < -1) = true := by simp; omega
          go_wp2_with fail
          go_ret
          first | exact ⟨false, rfl, nofun, HB.out.alloc HB.out.size _⟩ | exact .inl ⟨rfl, HB.out.alloc HB.out.size _⟩
      · generalize par l j = p at *
        have n1 : decide ((j : Int) ≤ p) = true := by simp; omega
        go_wp2_with fail
        go_ret
        first | exact ⟨false, rfl, nofun, HB.out.alloc HB.out.size _⟩ | exact .inl ⟨rfl, HB.out.alloc HB.out.size _⟩
    · have hE : j = l.length := by omega
      have HR2 : Hid (Right l) := by
        show ∀ i, i < l.length → -1 ≤ par l i ∧ par l i < i
        rw [← hE]; exact HR.out
      clear hE
      go_wp2_with fail
      go_ret
      exact ⟨true, rfl, fun _ => HR2.out, HB.out⟩

theorem one_P {w : World} (l : List (Pt × Value)) (h : ∀ p ∈ l, TsAt w p.2 p.1.tests) : ∀ u ∈ l.flatMap encP, u.oneCell' = true := by
  intro u hu
  obtain ⟨p, hp, hu⟩ := List.mem_flatMap.1 hu
  obtain ⟨a, c, e⟩ := Sl.form (h p hp)
  simp only [encP, List.mem_cons, List.not_mem_nil, or_false] at hu
  rcases hu with rfl | rfl
  · rfl
  · rw [e]; rfl
theorem below_app {w w' : World} {o : Obj} (h : (w.alloc o).grownBy w' (Value.slice (some ⟨w.heap.size, 0, none⟩) 0 0).ownBlock) : Below w.heap.size w w' :=
  ((Below.refl _ _).alloc (Nat.le_refl _) _).grown h (by simp) (fun k hk => by simp [Value.ownBlock] at hk; omega)
theorem own_parts {w : World} {base n : Nat} {v : Value} {LV : List (Pt × Value)} (h : w.ownsRow base 30 2 v (0 + n) ([] ++ LV.flatMap encP)) (hl : LV.length = n) (hn : 0 < n) :
    ∃ g mcap, v = .slice (some ⟨g, 0, none⟩) n mcap ∧ base ≤ g ∧ w.ownsRow base 30 2 (.slice (some ⟨g, 0, none⟩) n mcap) LV.length (LV.flatMap encP) ∧ (∀ o, w.frozen? ⟨g, o, none⟩ = false) ∧
      ∀ j (hj : j < LV.length), w.cell? ⟨g, j * 2, none⟩ = some (.int .i64 LV[j].1.join) ∧ w.cell? ⟨g, j * 2 + 1, none⟩ = some LV[j].2 := by
  have h' : w.ownsRow base 30 2 v LV.length (LV.flatMap encP) := by rw [hl]; simpa using h
  rcases h'.2 with ⟨_, h2⟩ | ⟨g, cap, cur, h0, h1, h2, _⟩
  · omega
  · rw [hl] at h0
    subst h0
    have hc : ∀ j (hj : j < LV.length) o, o < 2 → w.cell? ⟨g, j * 2 + o, none⟩ = (encP LV[j])[o]? := fun j hj o ho => by
      have h3 := h'
      rw [hl] at h3
      obtain ⟨g', hg', hc⟩ := own_cell h3 (j := j * 2 + o) (by omega)
      injection hg' with hg'
      injection hg' with hg'
      subst hg'
      rw [hc, flat_get 2 encP (fun _ => rfl) LV j o hj ho]
    exact ⟨g, cap, rfl, h1, h', fun o => by simp [World.frozen?, h2], fun j hj => ⟨hc j hj 0 (by decide), hc j hj 1 (by decide)⟩⟩

theorem ps_wide {W : World} {g mcap i : Nat} {s : List Pt} {LV : List (Pt × Value)} (hm : LV.map (·.1) = s) (hLs : ∀ p ∈ LV, TsAt W p.2 p.1.tests)
    (hc : ∀ j (hj : j < LV.length), W.cell? ⟨g, j * 2 + 1, none⟩ = some LV[j].2 ∧ (j ≠ i → W.cell? ⟨g, j * 2, none⟩ = some (.int .i64 LV[j].1.join))) (hci : W.cell? ⟨g, i * 2, none⟩ = some (.int .i64 1)) :
    PsAt W (.slice (some ⟨g, 0, none⟩) s.length mcap) (wide s i) := by
  refine ⟨some ⟨g, 0, none⟩, mcap, by rw [wide_len], nofun, fun j hj => ⟨g, 0, rfl, ?_⟩⟩
  rw [wide_len] at hj
  have hjL : j < LV.length := by rw [← hm] at hj; simpa using hj
  have e1 : LV[j].1 = s[j] := by
    have : (LV.map (·.1))[j]? = s[j]? := by rw [hm]
    simpa [hjL, hj] using this
  have e2 : (wide s i)[j]'(by rw [wide_len]; exact hj) = ptAt (wide s i) j := (ptAt_eq (by rw [wide_len]; exact hj)).symm
  rw [e2, wide_at j hj]
  obtain ⟨h1, h2⟩ := hc j hjL
  refine ⟨?_, LV[j].2, ?_, ?_⟩
  · show W.cell? ⟨g, 0 + j * 2 + 0, none⟩ = _
    rw [show 0 + j * 2 + 0 = j * 2 by omega]
    split
    · rename_i h; subst h; exact hci
    · rename_i h
      rw [h2 (fun e => h e.symm), e1, ptAt_eq hj]
  · show W.cell? ⟨g, 0 + j * 2 + 1, none⟩ = _
    rw [show 0 + j * 2 + 1 = j * 2 + 1 by omega]
    exact h1
  · have := hLs LV[j] (List.getElem_mem hjL)
    rw [e1] at this
    split <;> (rw [ptAt_eq hj]; exact this)

set_option maxRecDepth 100000 in
set_option maxHeartbeats 4000000 in
theorem matchJoins_any (lv : Value) (l : List Nd) (k : Int) (sa : Option Addr) (scap : Nat) (s : List Pt) (at' : Int) (w : World) (hl : NdsAt w lv l) (hs : SmNs l) (hm : Mx w) (hS : PsAt w (.slice sa s.length scap) s) (hss : SmS s) (hcap : s.length ≤ scap) :
    Calls Tryd.prog 3 #[lv, .int .i64 k, .slice sa s.length scap, .int .i64 at'] w fun e w' => e = .returned (.bool true) ∧ Below w.heap.size w w' := by
  have HL := hid hl
  have HN := hid hs
  have HM := hid hm
  have HP := hid hS
  have HSS := hid hss
  have hsl := hss.1
  unfold lim at hsl
  clear hl hs hm hS hss
  go_enter Tryd.func3, Tryd.ntmps3
  go_wp2_with fail
  refine (alive_any _ HM.out).mono ?_
  rintro e w1 ⟨rfl, hb⟩
  have HB1 := hid hb
  clear hb
  go_wp2_with fail
  refine (right_any lv l w1 (HL.out.ext (Ext.below HB1.out)) HN.out.1).mono ?_
  rintro e w2 ⟨r, rfl, hr, hb⟩
  have HB2 := hid (below_trans HB1.out hb (Nat.le_refl _))
  have HR := hid hr
  clear hb HB1 hr
  cases r
  · go_wp2_with fail
    go_ret
    exact ⟨rfl, HB2.out⟩
  have HR1 := hid (HR.out rfl)
  clear HR
  by_cases hlo : at' < 1
  · go_wp2_with fail
    go_ret
    exact ⟨rfl, HB2.out⟩
  by_cases hge : (s.length : Int) ≤ at'
  · go_wp2_with fail
    go_ret
    exact ⟨rfl, HB2.out⟩
  obtain ⟨i, rfl⟩ : ∃ i : Nat, at' = i := ⟨at'.toNat, by omega⟩
  have hi : i < s.length := by omega
  have hi1 : 1 ≤ i := by omega
  have n1 : decide ((i : Int) < 1) = false := by simp; omega
  have n2 : decide ((s.length : Int) ≤ (i : Int)) = false := by simp; omega
  clear hlo hge
  go_wp2_with fail
  refine (matches_any lv l k _ s w2 (HL.out.ext (Ext.below HB2.out)) HN.out (HM.out.ext (Ext.below HB2.out)) (HP.out.ext (Ext.below HB2.out)) HSS.out).mono ?_
  rintro e w3 ⟨rfl, hb⟩
  have HB3 := hid (below_trans HB2.out hb (Nat.le_refl _))
  clear hb HB2
  cases hmb : matchB l k s
  · go_wp2_with fail
    go_ret
    exact ⟨rfl, HB3.out⟩
  have HMB := hid hmb
  clear hmb
  obtain ⟨b, off, rfl, he⟩ := Sl.at HP.out hi
  have HP3 := hid (HP.out.ext (Ext.below HB3.out))
  clear he
  have hc2 : ¬ scap = i := by omega
  go_wp2_with fail
  refine (matches_any lv l k _ (s.drop i) w3 (HL.out.ext (Ext.below HB3.out)) HN.out (HM.out.ext (Ext.below HB3.out)) (ps_drop HP3.out i _ hi) (drop_sm i HSS.out)).mono ?_
  rintro e w4 ⟨rfl, hb⟩
  rw [drop_match hi HMB.out]
  have HB4 := hid (below_trans HB3.out hb (Nat.le_refl _))
  clear hb HB3 HP3 hc2
  obtain ⟨LV, hLm, hLs, hsrc⟩ := (HP.out.ext (Ext.below HB4.out)).src
  have hLl : LV.length = s.length := by rw [← hLm, List.length_map]
  have HLM := hid hLm
  have HLS := hid hLs
  have HLL := hid hLl
  have HSRC := hid hsrc
  clear hLm hLs hLl hsrc
  have hpos : 0 < s.length := by omega
  have hiL : i < LV.length := by rw [HLL.out]; exact hi
  have HE : Hid (LV[i].1 = ptAt s i) := by
    show _ = _
    have : (LV.map (·.1))[i]? = s[i]? := by rw [HLM.out]
    rw [ptAt_eq hi]
    simpa [hiL, hi] using this
  by_cases hj : (ptAt s i).join = 2
  · have HJ : Hid (LV[i].1.join = 2) := by show _ = _; rw [HE.out]; exact hj
    have HMM := hid (wide_match HR1.out hj HMB.out)
    clear hj
    go_wp2_with (at_builtin; refine wpList_app rfl (.tmp 39) (.tmp 40) 24 rfl w4.heap.size 30 _ 2 32 Tryd.underlying24 Tryd.infoP rfl (by decide) (.slice (some ⟨w4.heap.size, 0, none⟩) 0 0) 0 [] rfl ⟨rfl, .inr ⟨_, 0, #[], rfl, Nat.le_refl _, heap_alloc_new _ _, Nat.le_refl _, by unfold maxLen; omega, rfl, rfl⟩⟩ _ s.length (LV.flatMap encP) rfl (HSRC.out.ext (ext_alloc _ _)) (by rw [flat_len 2 encP (fun _ => rfl), HLL.out]) (one_P _ HLS.out) (by unfold maxLen; omega) (by omega) (by simp) ?_; intro mv w5 hmo hmg; obtain ⟨g, mcap, rfl, hg1, hO5, hF5, hC5⟩ := own_parts hmo HLL.out hpos; have q1 := (hC5 i hiL).1; rw [HJ.out] at q1; have q2 := hF5 (i * 2); have hb5 := below_app hmg; have HB45 := hid hb5; have HO5 := hid hO5; have HC := hid hC5; have HB5 := hid (below_trans HB4.out hb5 (Nat.le_refl _)); clear hmo hmg hO5 hF5 hC5 hb5)
    have HW : Hid (PsAt (w5.setCell ⟨g, i * 2, none⟩ (.int .i64 1)) (.slice (some ⟨g, 0, none⟩) s.length mcap) (wide s i)) := by
      have b6 : Below w4.heap.size w4 (w5.setCell ⟨g, i * 2, none⟩ (.int .i64 1)) := HB45.out.setCell (p := ⟨g, i * 2, none⟩) hg1 _
      refine ps_wide HLM.out (fun p hp => (HLS.out p hp).ext (Ext.below b6)) (fun j hj => ⟨?_, fun hne => ?_⟩) (World.cell?_setCell_same _ _ _ q1)
      · rw [World.cell?_setCell_other _ _ _ _ (by simp <;> omega)]
        exact (HC.out j hj).2
      · rw [World.cell?_setCell_other _ _ _ _ (by simp <;> omega)]
        exact (HC.out j hj).1
    have HB6 : Hid (Below w.heap.size w (w5.setCell ⟨g, i * 2, none⟩ (.int .i64 1))) := HB5.out.setCell (p := ⟨g, i * 2, none⟩) (Nat.le_trans HB4.out.size hg1) _
    refine (matches_any lv l k _ (wide s i) _ (HL.out.ext (Ext.below HB6.out)) HN.out (HM.out.ext (Ext.below HB6.out)) HW.out (wide_sm hi HSS.out)).mono ?_
    rintro e w7 ⟨rfl, hb⟩
    rw [HMM.out]
    have HB7 := hid (below_trans HB6.out hb (Nat.le_refl _))
    clear hb
    go_wp2_with fail
    go_ret
    exact ⟨rfl, HB7.out⟩
  · obtain ⟨jn, HJ, nj⟩ : ∃ jn, Hid (LV[i].1.join = jn) ∧ (jn == 2) = false := ⟨(ptAt s i).join, by show _ = _; rw [HE.out], by simp [hj]⟩
    clear hj
    go_wp2_with (at_builtin; refine wpList_app rfl (.tmp 39) (.tmp 40) 24 rfl w4.heap.size 30 _ 2 32 Tryd.underlying24 Tryd.infoP rfl (by decide) (.slice (some ⟨w4.heap.size, 0, none⟩) 0 0) 0 [] rfl ⟨rfl, .inr ⟨_, 0, #[], rfl, Nat.le_refl _, heap_alloc_new _ _, Nat.le_refl _, by unfold maxLen; omega, rfl, rfl⟩⟩ _ s.length (LV.flatMap encP) rfl (HSRC.out.ext (ext_alloc _ _)) (by rw [flat_len 2 encP (fun _ => rfl), HLL.out]) (one_P _ HLS.out) (by unfold maxLen; omega) (by omega) (by simp) ?_; intro mv w5 hmo hmg; obtain ⟨g, mcap, rfl, hg1, hO5, hF5, hC5⟩ := own_parts hmo HLL.out hpos; have q1 := (hC5 i hiL).1; rw [HJ.out] at q1; have q2 := hF5 (i * 2); have hb5 := below_app hmg; have HB45 := hid hb5; have HO5 := hid hO5; have HC := hid hC5; have HB5 := hid (below_trans HB4.out hb5 (Nat.le_refl _)); clear hmo hmg hO5 hF5 hC5 hb5)
    have HW : Hid (PsAt w5 (.slice (some ⟨g, 0, none⟩) s.length mcap) s) := by
      have h := PsAt.own HO5.out (fun p hp => (HLS.out p hp).ext (Ext.below HB45.out))
      rw [HLM.out] at h
      exact h
    refine (matches_any lv l k _ s _ (HL.out.ext (Ext.below HB5.out)) HN.out (HM.out.ext (Ext.below HB5.out)) HW.out HSS.out).mono ?_
    rintro e w7 ⟨rfl, hb⟩
    rw [HMB.out]
    have HB7 := hid (below_trans HB5.out hb (Nat.le_refl _))
    clear hb
    go_wp2_with fail
    go_ret
    exact ⟨rfl, HB7.out⟩
end Go.Proofs.YtlodblcmpebfkabDoor
