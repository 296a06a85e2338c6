/- Texts that the statement's proof stands on: Page6, Page7, Page8. -/
import Derived.Test.YtblkldfokeeaeacGreatDoorA16
import Derived.Defers
import Derived.Recover
import Derived.Laws.Pointers
namespace Go.Proofs.YtblkldfokeeaeacGreatDoor.Sh
open Go.RowKit
set_option maxHeartbeats 2000000 in
theorem element_any (f : Nat) (b : Nat) (s : ByteArray) (base : Nat) (mx : Int) (hI : ItemsAt f b s base mx) (k : Nat) (parent : Int) (deep : Nat) (L : List Nd) (nv : Value) (w : World) (R : Ending → World → Prop)
    (hl : s.size ≤ 6000) (hf : s.size - k < f + 1) (hk : k ≤ s.size) (hd : deep ≤ 21) (h120 : L.length ≤ 120) (hb : b < base) (hba : base ≤ w.heap.size) (hb0 : 2 < b) (hmx : w.cell? ⟨2, 0, none⟩ = some (.int .i64 mx)) (hr : Rd w b s k nv) (hn : NdsAt w base nv L)
    (hok : Hid (∀ k' L' nv' w', element (items f s.data.toList) s.data.toList k parent deep L = .ok (k', L') → Rd w' b s k' nv' → NdsAt w' base nv' L' → Step b nv w nv' w' → L'.length ≤ 120 → k < k' → k' ≤ s.size → R (.returned (.tuple #[])) w'))
    (hbad : Hid (∀ (x : Nat × Nat) w', element (items f s.data.toList) s.data.toList k parent deep L = .error x → Below b w w' → R (.panicked [{ v := .iface 161 (.agg #[.int .i64 x.1, .int .i64 x.2]), recovered := false }]) w')) :
    Calls Tryz.prog 150 #[.pointer (some ⟨b, 0, none⟩), .int .i64 parent, .int .i64 deep] w R := by
  have hS : s.size = s.data.toList.length := Lib.size_eq s
  have hlt := hr.lt
  obtain ⟨nx, ncap, rfl⟩ := hn.form
  have h1 := hr.c1
  have h2 := hr.c2
  by_cases hg : 20 < deep ∨ 120 ≤ L.length
  · by_cases hg1 : 20 < deep
    · go_enter Tryz.func150, Tryz.ntmps150
      go_wp2_with (first | (go_at_call 113; refine (at_any b k _ h1).mono ?_; rintro e w' ⟨rfl, rfl⟩) | (go_at_call 112; refine (throw_any _ _ _).mono ?_; rintro e w' ⟨rfl, rfl⟩))
      exact ⟨rfl, hbad.out (4, k) _ (by simp only [element, if_pos hg]) (Below.refl _ _)⟩
    · have hg2 : 120 ≤ L.length := by omega
      go_enter Tryz.func150, Tryz.ntmps150
      go_wp2_with (first | (go_at_call 113; refine (at_any b k _ h1).mono ?_; rintro e w' ⟨rfl, rfl⟩) | (go_at_call 112; refine (throw_any _ _ _).mono ?_; rintro e w' ⟨rfl, rfl⟩))
      exact ⟨rfl, hbad.out (4, k) _ (by simp only [element, if_pos hg]) (Below.refl _ _)⟩
  have G : Hid (¬ (20 < deep ∨ 120 ≤ L.length)) := hg
  have g1 : deep ≤ 20 := by omega
  have g2 : L.length < 120 := by omega
  clear hg
  go_enter Tryz.func150, Tryz.ntmps150
  go_wp2_with fail
  refine firstTag_any b s k _ w hl hk hr _ ?_ ?_
  rotate_left
  · intro x w' he hbl
    exact ⟨rfl, hbad.out x _ (by have := G.out; simp only [element, if_neg this, he]) hbl⟩
  intro n k1 av w1 hft hr1 hk1 ha1
  have lft := firstTag_le hft (by omega)
  rw [← hS] at lft
  obtain ⟨lf1, lf2, lf3, lf4, lf5, lf6⟩ := lft
  obtain ⟨nm, p0, ats, ne, n4, n5⟩ := n
  simp only at lf3 lf4 lf5 lf6
  subst lf4 lf5 lf6
  obtain ⟨ax, acap, rfl⟩ := ha1.form
  have FT : Hid (firstTag s.data.toList k = .ok (⟨nm, 0, ats, ne, 0, 0⟩, k1)) := hft
  clear hft
  have hn1 := hn.of hk1 hr.not35
  simp only at ha1
  simp only [ndV]
  have hlt1 := hr1.lt
  have own0 : ∀ g, (Value.slice nx L.length ncap).ownBlock = some g → base ≤ g ∧ g < w.heap.size := by
    obtain ⟨LV, _, q, _⟩ := hn
    exact q.lt
  have OW : Hid (∀ g, (Value.slice nx L.length ncap).ownBlock = some g → base ≤ g ∧ g < w.heap.size) := own0
  have S1 : Hid (w.heap.size ≤ w1.heap.size) := hk1.size
  have M1 : Hid (w1.cell? ⟨2, 0, none⟩ = some (.int .i64 mx)) := (hk1.cell (by omega) (by omega) 0).trans hmx
  clear own0 h1 h2
  obtain ⟨i0, hi, hz0, hz1, hz2⟩ := info_parts Tryz.info49
  have HI : Hid (Tryz.prog.info? 49 = some i0) := hi
  have HZ : Hid (i0.zero = some (.agg #[.string ⟨#[]⟩, .int .i64 0, .slice none 0 0, .int .i64 0, .int .i64 0, .int .i64 0]) ∧ i0.size = 6 ∧ i0.bytes = 72) := ⟨hz0, hz1, hz2⟩
  clear hi hz0 hz1 hz2
  cases hst : nm == styleL with
  | false =>
    have hst' : ((bs nm).toList == [115, 116, 121, 108, 101]) = false := by rw [bs_toList]; exact hst
    have NS : Hid (¬ nm = styleL) := hid (by simpa using hst)
    clear hst
    go_wp2_with fail
    have bX := heap_alloc_new w1 (.cells #[.string (bs nm), .int .i64 parent, .slice ax ats.length acap, .int .i64 ne, .int .i64 0, .int .i64 0] 49)
    have hbX : Below w1.heap.size w1 (w1.alloc (.cells #[.string (bs nm), .int .i64 parent, .slice ax ats.length acap, .int .i64 ne, .int .i64 0, .int .i64 0] 49)) := (Below.refl _ _).alloc (Nat.le_refl _) _
    generalize (w1.alloc (.cells #[.string (bs nm), .int .i64 parent, .slice ax ats.length acap, .int .i64 ne, .int .i64 0, .int .i64 0] 49)) = W1 at bX hbX ⊢
    have hrW := hr1.kp hbX
    have hnW := hn1.of (X := fun _ => False) (Kp.below hbX _) (fun _ h => h.elim)
    have haW := ha1.of (X := fun _ => False) (Kp.below hbX _) (fun _ h => h.elim)
    have KW : Hid (Kp (· = b) w W1) := hk1.trans (Kp.below hbX _)
    obtain ⟨LV, hv1, hv2, hv3⟩ := hnW
    have V1 : Hid (LV.map (·.1) = L) := hv1
    have V3 : Hid (∀ p ∈ LV, AtAt W1 p.2 p.1.attrs) := hv3
    have BX : Hid (W1.heap[w1.heap.size]? = some (.cells #[.string (bs nm), .int .i64 parent, .slice ax ats.length acap, .int .i64 ne, .int .i64 0, .int .i64 0] 49 (0, 0))) := bX
    have h2 := hrW.c2
    have n0 := cell_of bX 0
    have n1 := cell_of bX 1
    have n2 := cell_of bX 2
    have n3 := cell_of bX 3
    have n4 := cell_of bX 4
    have n5 := cell_of bX 5
    simp at n0 n1 n2 n3 n4 n5
    have h2a := cell_alloc h2
    have m0 := cell_alloc n0
    have m1 := cell_alloc n1
    have m2 := cell_alloc n2
    have m3 := cell_alloc n3
    have m4 := cell_alloc n4
    have m5 := cell_alloc n5
    have zb : w1.heap.size < W1.heap.size := (Array.getElem?_eq_some_iff.1 bX).1
    have hbaW : base ≤ W1.heap.size := by have := S1.out; omega
    clear hv1 hv3 bX hbX
    go_region_law (refine step_append_lies _ rfl (.tmp 57) (.tmp 59) 28 rfl base 49 i0 (.agg #[.string ⟨#[]⟩, .int .i64 0, .slice none 0 0, .int .i64 0, .int .i64 0, .int .i64 0]) 6 72 Tryz.underlying28 HI.out HZ.out.1 HZ.out.2.1 HZ.out.2.2 rfl (by decide) (.slice nx L.length ncap) L.length (LV.flatMap encN) rfl (World.ownsRow.alloc (w := W1) hv2 _) ⟨W1.heap.size, 0, none⟩ 1 1 (encN (⟨nm, parent, ats, ne, 0, 0⟩, .slice ax ats.length acap)) rfl rfl (World.news_of_block (heap_alloc_new W1 _)) (by simp [encN, Value.oneCell']) (by decide) (by unfold maxLen; omega) (by omega) (by simp; omega) _ rfl ?_; intro g cap w3 hown hgrow hat hlt3; obtain ⟨r1, r2, r3, r4⟩ := push_facts hrW V1.out hv2 V3.out (n := ⟨nm, parent, ats, ne, 0, 0⟩) haW ⟨hgrow.os, hgrow.tape, hgrow.output, hgrow.size, hgrow.block⟩ hown (by simpa using hat); have y2 := r1.c2; have y3 := r1.fz 2; have AT : Hid ((Value.slice nx L.length ncap).ownBlock = some g ∨ g = W1.heap.size + 1) := hid (by simpa using hat); clear hown hgrow hat)
    all_goals
      clear h2 h2a n0 n1 n2 n3 n4 n5 m0 m1 m2 m3 m4 m5 y2 y3 hst'
      have hM4 : (w3.setCell ⟨b, 2, none⟩ (.slice (some ⟨g, 0, none⟩) (L.length + 1) cap)).cell? ⟨2, 0, none⟩ = some (.int .i64 mx) := by
        have ho := OW.out
        have hs := S1.out
        have m1 := (KW.out.cell (j := 2) (by omega) (by omega) 0).trans hmx
        rw [r4.kp.cell (j := 2) (by omega) (fun h => h.elim (fun h => by omega) (fun h => by have := ho 2 h.symm; omega)) 0]
        exact m1
      have HM4 : Hid _ := hM4
      have N4 : Hid ((w3.setCell ⟨b, 2, none⟩ (.slice (some ⟨g, 0, none⟩) (L.length + 1) cap)).heap[w1.heap.size]? = some (.cells #[.string (bs nm), .int .i64 parent, .slice ax ats.length acap, .int .i64 ne, .int .i64 0, .int .i64 0] 49 (0, 0))) := by
        have ho := OW.out
        have hs := S1.out
        refine (r4.kp.block _ zb ?_).trans BX.out
        rintro (h | h)
        · omega
        · have := ho _ h.symm; omega
      have Z4 : Hid (W1.heap.size ≤ (w3.setCell ⟨b, 2, none⟩ (.slice (some ⟨g, 0, none⟩) (L.length + 1) cap)).heap.size) := r4.kp.size
      clear hM4 r1
      generalize w3.setCell ⟨b, 2, none⟩ (.slice (some ⟨g, 0, none⟩) (L.length + 1) cap) = w4 at *
      go_wp2_with fail
      refine hI k1 L.length (deep + 1) (L ++ [⟨nm, parent, ats, ne, 0, 0⟩]) _ w4 _ (by omega) lf2 (by omega) (by simp; omega) hb (by have := Z4.out; omega) hb0 HM4.out r2 r3 ?_ ?_
      rotate_left
      · intro x w' he hbl
        refine ⟨rfl, hbad.out x _ ?_ ((KW.out.under hlt).trans ((r4.under (by omega) (fun g h => by have := OW.out g h; omega)).trans hbl))⟩
        have e1 := G.out; have e2 := FT.out; have e3 := NS.out
        simp only [element, if_neg e1, e2, if_neg e3, he]
      intro k2 L2 nv2 w5 hit hr5 hn5 hst5 hL5 hle1 hle2
      have N5 : w5.heap[w1.heap.size]? = some (.cells #[.string (bs nm), .int .i64 parent, .slice ax ats.length acap, .int .i64 ne, .int .i64 0, .int .i64 0] 49 (0, 0)) := by
        have ho := OW.out
        have hs := S1.out
        have hz := Z4.out
        refine (hst5.kp.block _ (by omega) ?_).trans N4.out
        rintro (h | h)
        · omega
        · simp [Value.ownBlock] at h
          subst h
          rcases AT.out with h | h
          · have := ho _ h; omega
          · omega
      have c0 := cell_of N5 0
      simp at c0
      have ST : Hid (Step b (.slice nx L.length ncap) w nv2 w5) := ((Step.ofKp KW.out).trans r4).trans hst5
      have UN : Hid (Below b w w5) := ST.out.under hlt (fun g h => by have := OW.out g h; omega)
      have IT : Hid (items f s.data.toList k1 L.length (deep + 1) (L ++ [⟨nm, parent, ats, ne, 0, 0⟩]) = .ok (k2, L2)) := hit
      have nml : (bs nm).size ≤ 6000 := by rw [bs_size]; omega
      have tl : (bs (lastTag nm)).size ≤ 6000 := by rw [bs_size]; simp [lastTag]; omega
      clear hit N5 hst5 r2 r3 r4
      go_wp2_with fail
      cases e4 : need s.data.toList k2 (lastTag nm) with
      | error x =>
        obtain ⟨t4, hx⟩ := need_err e4
        subst hx
        have EE : Hid (element (items f s.data.toList) s.data.toList k parent deep L = .error (2, k2)) := by
          have e1 := G.out; have e2 := FT.out; have e3 := NS.out; have e5 := IT.out
          show element (items f s.data.toList) s.data.toList k parent deep L = .error (2, k2)
          simp only [element, if_neg e1, e2, if_neg e3, e5, e4]
        have T4 : Hid (has s.data.toList k2 (lastTag nm) = false) := t4
        clear e4 t4
        go_region_with (first | (go_at_call 175; refine (lastTag_any _ _ nml).mono ?_; rintro e w' ⟨rfl, rfl⟩) | (go_at_call 159; refine (need_no (T := 167) b s (bs (lastTag nm)) k2 nv2 _ hle2 ?_ T4.out).mono ?_; exact hr5; rintro e w' ⟨rfl, m, rfl⟩; refine bear (by exact ⟨rfl, hbad.out (2, k2) _ EE.out (below_drewN' (Below.drew UN.out) _)⟩) ⟨#[], []⟩ w ?_))
        all_goals trivial
      | ok k3 =>
        obtain ⟨t4, rfl⟩ := need_ok e4
        have l4 := has_le t4 (by omega)
        rw [← hS] at l4
        have EE : Hid (element (items f s.data.toList) s.data.toList k parent deep L = .ok (k2 + (lastTag nm).length, L2)) := by
          have e1 := G.out; have e2 := FT.out; have e3 := NS.out; have e5 := IT.out
          show element (items f s.data.toList) s.data.toList k parent deep L = .ok (k2 + (lastTag nm).length, L2)
          simp only [element, if_neg e1, e2, if_neg e3, e5, e4]
        have T4 : Hid (has s.data.toList k2 (lastTag nm) = true) := t4
        have SZ : Hid (k2 + (bs (lastTag nm)).size = k2 + (lastTag nm).length) := by rw [bs_size]; rfl
        clear e4 t4
        go_region_with (first | (go_at_call 175; refine (lastTag_any _ _ nml).mono ?_; rintro e w' ⟨rfl, rfl⟩) | (go_at_call 159; refine (need_yes (T := 167) b s (bs (lastTag nm)) k2 nv2 _ hle2 hl tl ?_ T4.out).mono ?_; exact hr5; rintro e w6 ⟨rfl, hr6, hk6⟩))
        all_goals
          go_wp2_with fail
          go_end0
          have hk6' : Kp (· = b) w5 w6 := ⟨hk6.os, hk6.tape, hk6.output, hk6.size, hk6.block⟩
          have hr6' : Rd w6 b s (k2 + (lastTag nm).length) nv2 := by rw [← SZ.out]; exact hr6
          exact hok.out _ L2 nv2 w6 EE.out hr6' (hn5.of hk6' hr5.not35) (ST.out.trans (Step.ofKp hk6')) hL5 (by omega) l4
  | true =>
    have hst' : ((bs nm).toList == [115, 116, 121, 108, 101]) = true := by rw [bs_toList]; exact hst
    have hst2 : nm = styleL := by simpa using hst
    subst hst2
    clear hst
    go_wp2_with fail
    have bX := heap_alloc_new w1 (.cells #[.string (bs styleL), .int .i64 parent, .slice ax ats.length acap, .int .i64 ne, .int .i64 0, .int .i64 0] 49)
    have hbX : Below w1.heap.size w1 (w1.alloc (.cells #[.string (bs styleL), .int .i64 parent, .slice ax ats.length acap, .int .i64 ne, .int .i64 0, .int .i64 0] 49)) := (Below.refl _ _).alloc (Nat.le_refl _) _
    generalize (w1.alloc (.cells #[.string (bs styleL), .int .i64 parent, .slice ax ats.length acap, .int .i64 ne, .int .i64 0, .int .i64 0] 49)) = W1 at bX hbX ⊢
    have hrW := hr1.kp hbX
    have hnW := hn1.of (X := fun _ => False) (Kp.below hbX _) (fun _ h => h.elim)
    have haW := ha1.of (X := fun _ => False) (Kp.below hbX _) (fun _ h => h.elim)
    have KW : Hid (Kp (· = b) w W1) := hk1.trans (Kp.below hbX _)
    have MW : Hid (W1.cell? ⟨2, 0, none⟩ = some (.int .i64 mx)) := (KW.out.cell (j := 2) (by omega) (by omega) 0).trans hmx
    have zb : w1.heap.size < W1.heap.size := (Array.getElem?_eq_some_iff.1 bX).1
    have hbaW : base ≤ W1.heap.size := by have := S1.out; omega
    have nb : ¬ w1.heap.size = b := by omega
    have BX : Hid (W1.heap[w1.heap.size]? = some (.cells #[.string (bs styleL), .int .i64 parent, .slice ax ats.length acap, .int .i64 ne, .int .i64 0, .int .i64 0] 49 (0, 0))) := bX
    have n0 := cell_of bX 0
    simp at n0
    have h0 := hrW.c0
    have nml : (bs styleL).size ≤ 6000 := by decide
    have tl : (bs (lastTag styleL)).size ≤ 6000 := by decide
    have KX : Hid (Kp (· = b) w1 W1) := Kp.below hbX _
    clear bX hbX hst'
    cases e4 : pastAt s.data.toList k1 (lastTag styleL) with
    | none =>
      have EE : Hid (element (items f s.data.toList) s.data.toList k parent deep L = .error (2, s.data.toList.length)) := by
        have e1 := G.out; have e2 := FT.out
        show element (items f s.data.toList) s.data.toList k parent deep L = .error (2, s.data.toList.length)
        simp only [element, if_neg e1, e2, if_true, e4]
      have E4 : Hid (pastAt s.data.toList k1 (lastTag styleL) = none) := e4
      have HS : Hid (s.size = s.data.toList.length) := hS
      clear e4 hS
      go_region_with (first | (go_at_call 175; refine (lastTag_any _ _ nml).mono ?_; rintro e w' ⟨rfl, rfl⟩) | (go_at_call 149; refine (len_any b s _ ?_).mono ?_; exact h0; rintro e w' ⟨rfl, rfl⟩) | (go_at_call 148; refine (past_no (T := 167) b s (bs (lastTag styleL)) k1 s.size mx (.slice nx L.length ncap) _ hl lf2 ?_ ?_ E4.out).mono ?_; exact hrW; exact MW.out; rintro e w' ⟨rfl, hb2⟩; refine bear (by exact ⟨rfl, by rw [HS.out]; exact hbad.out (2, s.data.toList.length) _ EE.out ((KW.out.under hlt).trans ⟨hb2.os, hb2.tape, hb2.output, hb2.size, fun j hj => hb2.block j (Nat.lt_trans hj hrW.lt)⟩)⟩) ⟨#[], []⟩ w ?_))
      all_goals trivial
    | some m =>
      have lm := pastAt_le e4 (by omega)
      rw [← hS] at lm
      have EE : Hid (element (items f s.data.toList) s.data.toList k parent deep L = .ok (m + 8, L ++ [⟨styleL, parent, ats, ne, k1, m⟩])) := by
        have e1 := G.out; have e2 := FT.out
        show element (items f s.data.toList) s.data.toList k parent deep L = .ok (m + 8, L ++ [⟨styleL, parent, ats, ne, k1, m⟩])
        simp only [element, if_neg e1, e2, if_true, e4]
      have E4 : Hid (pastAt s.data.toList k1 (lastTag styleL) = some m) := e4
      clear e4 hS
      have hl8 : (lastTag styleL).length = 8 := by decide
      rw [hl8] at lm
      obtain ⟨lm1, lm2⟩ := lm
      clear hl8
      go_region_with (first | (go_at_call 175; refine (lastTag_any _ _ nml).mono ?_; rintro e w' ⟨rfl, rfl⟩) | (go_at_call 149; refine (len_any b s _ ?_).mono ?_; exact h0; rintro e w' ⟨rfl, rfl⟩) | (go_at_call 148; refine (past_yes (T := 167) b s (bs (lastTag styleL)) k1 m s.size mx (.slice nx L.length ncap) _ hl tl lf2 ?_ ?_ E4.out (by omega)).mono ?_; exact hrW; exact MW.out; rintro e w2 ⟨rfl, hr2, hk2'⟩; have hk2 : Kp (· = b) W1 w2 := ⟨hk2'.os, hk2'.tape, hk2'.output, hk2'.size, hk2'.block⟩; have B2 := (hk2.block _ zb nb).trans BX.out; have p4 := cell_of B2 4; have p5 := cell_of B2 5; have q4 := fz_of B2 4; have q5 := fz_of B2 5; simp at p4 p5; have B2' : Hid _ := B2; clear B2 hk2'))
      have K2 : Hid (Kp (· = b) w1 ((w2.setCell ⟨w1.heap.size, 4, none⟩ (.int .i64 k1)).setCell ⟨w1.heap.size, 5, none⟩ (.int .i64 m))) := ((KX.out.trans hk2).setNew (by simp) _).setNew (by simp) _
      have bX := heap_set (heap_set B2'.out 4 (.int .i64 k1)) 5 (.int .i64 m)
      simp at bX
      have hrW2 : Rd ((w2.setCell ⟨w1.heap.size, 4, none⟩ (.int .i64 k1)).setCell ⟨w1.heap.size, 5, none⟩ (.int .i64 m)) b s (m + 8) (.slice nx L.length ncap) := ((show Rd w2 b s (m + 8) (.slice nx L.length ncap) from hr2).setOther (by simp; omega) _).setOther (by simp; omega) _
      clear p4 p5 q4 q5 hr2 hk2 n0 h0 B2'
      generalize ((w2.setCell ⟨w1.heap.size, 4, none⟩ (.int .i64 k1)).setCell ⟨w1.heap.size, 5, none⟩ (.int .i64 m)) = W2 at *
      have KW2 : Hid (Kp (· = b) w W2) := hk1.trans K2.out
      have hnW2 := hn.of KW2.out hr.not35
      have haW2 := ha1.of K2.out hr1.not41
      obtain ⟨LV, hv1, hv2, hv3⟩ := hnW2
      have V1 : Hid (LV.map (·.1) = L) := hv1
      have V3 : Hid (∀ p ∈ LV, AtAt W2 p.2 p.1.attrs) := hv3
      have h2 := hrW2.c2
      have n0 := cell_of bX 0
      have n1 := cell_of bX 1
      have n2 := cell_of bX 2
      have n3 := cell_of bX 3
      have n4 := cell_of bX 4
      have n5 := cell_of bX 5
      simp at n0 n1 n2 n3 n4 n5
      have h2a := cell_alloc h2
      have m0 := cell_alloc n0
      have m1 := cell_alloc n1
      have m2 := cell_alloc n2
      have m3 := cell_alloc n3
      have m4 := cell_alloc n4
      have m5 := cell_alloc n5
      have hbaW2 : base ≤ W2.heap.size := by have := S1.out; have := K2.out.size; omega
      clear hv1 hv3 bX
      go_wp2_with fail
      go_region_law (refine step_append_lies _ rfl (.tmp 47) (.tmp 49) 28 rfl base 49 i0 (.agg #[.string ⟨#[]⟩, .int .i64 0, .slice none 0 0, .int .i64 0, .int .i64 0, .int .i64 0]) 6 72 Tryz.underlying28 HI.out HZ.out.1 HZ.out.2.1 HZ.out.2.2 rfl (by decide) (.slice nx L.length ncap) L.length (LV.flatMap encN) rfl (World.ownsRow.alloc (w := W2) hv2 _) ⟨W2.heap.size, 0, none⟩ 1 1 (encN (⟨styleL, parent, ats, ne, k1, m⟩, .slice ax ats.length acap)) rfl rfl (World.news_of_block (heap_alloc_new W2 _)) (by simp [encN, Value.oneCell']) (by decide) (by unfold maxLen; omega) (by omega) (by simp; omega) _ rfl ?_; intro g cap w3 hown hgrow hat hlt3; obtain ⟨r1, r2, r3, r4⟩ := push_facts hrW2 V1.out hv2 V3.out (n := ⟨styleL, parent, ats, ne, k1, m⟩) haW2 ⟨hgrow.os, hgrow.tape, hgrow.output, hgrow.size, hgrow.block⟩ hown (by simpa using hat); have y2 := r1.c2; have y3 := r1.fz 2; clear hown hgrow hat)
      all_goals
        go_wp2_with fail
        go_end0
        exact hok.out (m + 8) _ _ _ EE.out r2 r3 ((Step.ofKp KW2.out).trans r4) (by simp; omega) (by omega) lm2
end Go.Proofs.YtblkldfokeeaeacGreatDoor.Sh
namespace Go.Proofs.YtblkldfokeeaeacGreatDoor.Sh
open Go.RowKit
theorem cf46 (args : Array Value) (w : World) : Sem.run Tryz.prog (callFunc 152 args) w = .ok (.enter 152 args) w := cf_of Tryz.func152 (by kernel_rfl) (by kernel_rfl) args w
set_option maxRecDepth 100000 in
set_option maxHeartbeats 2000000 in
theorem items_any (b : Nat) (s : ByteArray) (base : Nat) (mx : Int) (hl : s.size ≤ 6000) : ∀ f, ItemsAt f b s base mx := by
  intro f
  induction f using Nat.strongRecOn with
  | _ F ih =>
    intro k parent deep L nv w R hF hk hd h120 hb hba hb0 hmx hr hn hok0 hbad0
    have hS : s.size = s.data.toList.length := Lib.size_eq s
    have HS : Hid (s.size = s.data.toList.length) := hS
    have hok := hid hok0
    have hbad := hid hbad0
    have IH := hid ih
    have hlt := hr.lt
    have hrow : ∀ g, nv.ownBlock = some g → base ≤ g ∧ g < w.heap.size := by
      obtain ⟨LV, _, q, _⟩ := hn
      exact q.lt
    have HR := hid hrow
    clear hok0 hbad0 ih hS hrow
    go_enter Tryz.func110, Tryz.ntmps110
    go_wp2_with fail
    go_loopg [] F (fun g wr => ∃ (k' : Nat) (L' : List Nd) (nv' : Value), g ≤ F ∧ items g s.data.toList k' parent deep L' = items F s.data.toList k parent deep L ∧ s.size - k' < g ∧ k ≤ k' ∧ k' ≤ s.size ∧ L'.length ≤ 120 ∧
      Rd wr b s k' nv' ∧ NdsAt wr base nv' L' ∧ Step b nv w nv' wr ∧ wr.cell? ⟨2, 0, none⟩ = some (.int .i64 mx))
    case atStart => exact ⟨k, L, nv, Nat.le_refl _, rfl, hF, Nat.le_refl _, hk, h120, hr, hn, Step.ofKp (Kp.refl _ _), hmx⟩
    case round =>
      clear hmx hr hn
      obtain ⟨k', L', nv', hg, hE, hf, hkk, hk', hL', hr', hn', hst, hmx⟩ := hrel
      obtain ⟨g', rfl⟩ : ∃ g', gk = g' + 1 := ⟨gk - 1, by omega⟩
      have E : Hid (items (g' + 1) s.data.toList k' parent deep L' = items F s.data.toList k parent deep L) := hE
      have MX := hid hmx
      have UN : Hid (Below b w wr) := hst.under hlt (fun g h => by have := HR.out g h; omega)
      clear hE hmx
      have h0 := hr'.c0
      have h1 := hr'.c1
      by_cases hend : s.size ≤ k'
      · have EX : Hid (items F s.data.toList k parent deep L = .ok (k', L')) := by
          show items F s.data.toList k parent deep L = .ok (k', L')
          rw [← E.out, items, if_pos (Or.inl (by rw [← HS.out]; exact hend))]
        go_wp2_with (first | (go_at_call 111; refine (ended_yes b s k' _ hend h0 h1).mono ?_; rintro e w' ⟨rfl, n, rfl⟩))
        go_end0
        exact hok.out k' L' nv' _ EX.out (hr'.drewN _) hn' (hst.trans (Step.ofKp ((Kp.refl _ _).drewN _))) hL' hkk hk'
      have hlt' : k' < s.size := by omega
      cases hc : has s.data.toList k' [60, 47] with
      | true =>
        have EX : Hid (items F s.data.toList k parent deep L = .ok (k', L')) := by
          show items F s.data.toList k parent deep L = .ok (k', L')
          rw [← E.out, items, if_pos (Or.inr hc)]
        have HC := hid hc
        clear hc
        go_wp2_with (first | (go_at_call 111; refine (ended_no b s k' _ hlt' h0 h1).mono ?_; rintro e w' ⟨rfl, n, rfl⟩) | (go_at_call 147; refine (has_any b s ⟨#[60, 47]⟩ k' _ hk' ?_ ?_).mono ?_; exact h0; exact h1; rw [show has s.data.toList k' (ByteArray.data ⟨#[60, 47]⟩).toList = true from HC.out]; rintro e w' ⟨rfl, n, rfl⟩))
        go_end0
        exact hok.out k' L' nv' _ EX.out (hr'.drewN _) hn' (hst.trans (Step.ofKp ((Kp.refl _ _).drewN _))) hL' hkk hk'
      | false =>
        have HC := hid hc
        have NE : Hid (¬ (s.data.toList.length ≤ k' ∨ has s.data.toList k' [60, 47] = true)) := by
          have := HS.out
          rintro (h | h)
          · omega
          · rw [hc] at h; cases h
        clear hc
        cases hn1 : has s.data.toList k' [60, 33, 45, 45] with
        | true =>
          have H4 := hid hn1
          have l4 := has_le hn1 (by rw [← HS.out]; omega)
          rw [← HS.out] at l4
          simp only [List.length_cons, List.length_nil, Nat.zero_add] at l4
          clear hn1
          go_wp2_with (first | (go_at_call 111; refine (ended_no b s k' _ hlt' h0 h1).mono ?_; rintro e w' ⟨rfl, n, rfl⟩) | (go_at_call_of 147 (Value.string ⟨#[60, 47]⟩); refine (has_any b s ⟨#[60, 47]⟩ k' _ hk' ?_ ?_).mono ?_; exact h0; exact h1; rw [show has s.data.toList k' (ByteArray.data ⟨#[60, 47]⟩).toList = false from HC.out]; rintro e w' ⟨rfl, n, rfl⟩) | (go_at_call 128; refine (take_yes (T := 167) b s ⟨#[60, 33, 45, 45]⟩ k' nv' _ hk' hl (by show (4 : Nat) ≤ 6000; omega) (hr'.drewN _) H4.out).mono ?_; rintro e w2 ⟨rfl, hr2, hk2'⟩; have hk2 := kp_undrewN hk2'; clear hk2'))
          have hr2' : Rd w2 b s (k' + 4) nv' := hr2
          have h02 := hr2.c0
          have M2 : Hid (w2.cell? ⟨2, 0, none⟩ = some (.int .i64 mx)) := by
            have := hr'.lt
            exact (hk2.cell (j := 2) (by omega) (by omega) 0).trans MX.out
          have n2 := hn'.of hk2 hr'.not35
          have UN2 : Hid (Below b w w2) := UN.out.trans (hk2.under hr'.lt)
          have ST2 : Hid (Step b nv w nv' w2) := hst.trans (Step.ofKp hk2)
          clear hr2 hk2 h0 h1 hst
          cases e4 : pastAt s.data.toList (k' + 4) [45, 45, 62] with
          | none =>
            have EX : Hid (items F s.data.toList k parent deep L = .error (2, s.data.toList.length)) := by
              show items F s.data.toList k parent deep L = .error (2, s.data.toList.length)
              rw [← E.out, items, if_neg NE.out, if_pos H4.out, e4]
            have E4 := hid e4
            clear e4
            go_region_with (first | (go_at_call 149; refine (len_any b s _ ?_).mono ?_; exact h02; rintro e w' ⟨rfl, rfl⟩) | (go_at_call 148; refine (past_no (T := 167) b s ⟨#[45, 45, 62]⟩ (k' + 4) s.size mx nv' _ hl (by omega) ?_ ?_ E4.out).mono ?_; exact hr2'; exact M2.out; rintro e w' ⟨rfl, hb2⟩; refine bear (by exact ⟨rfl, by rw [HS.out]; exact hbad.out (2, s.data.toList.length) _ EX.out (UN2.out.trans ⟨hb2.os, hb2.tape, hb2.output, hb2.size, fun j hj => hb2.block j (Nat.lt_trans hj hr2'.lt)⟩)⟩) ⟨#[], []⟩ w ?_))
            all_goals trivial
          | some m =>
            have lm := pastAt_le e4 (by rw [← HS.out]; omega)
            rw [← HS.out] at lm
            simp only [List.length_cons, List.length_nil, Nat.zero_add] at lm
            obtain ⟨lm1, lm2⟩ := lm
            have EX : Hid (items g' s.data.toList (m + 3) parent deep L' = items F s.data.toList k parent deep L) := by
              show items g' s.data.toList (m + 3) parent deep L' = items F s.data.toList k parent deep L
              rw [← E.out, items, if_neg NE.out, if_pos H4.out, e4]
            have E4 := hid e4
            clear e4
            go_region_with (first | (go_at_call 149; refine (len_any b s _ ?_).mono ?_; exact h02; rintro e w' ⟨rfl, rfl⟩) | (go_at_call 148; refine (past_yes (T := 167) b s ⟨#[45, 45, 62]⟩ (k' + 4) m s.size mx nv' _ hl (by show (3 : Nat) ≤ 6000; omega) (by omega) ?_ ?_ E4.out (by omega)).mono ?_; exact hr2'; exact M2.out; rintro e w3 ⟨rfl, hr3, hk3'⟩; have hk3 : Kp (· = b) w2 w3 := ⟨hk3'.os, hk3'.tape, hk3'.output, hk3'.size, hk3'.block⟩; clear hk3'))
            all_goals
              go_wp2_with fail
              go_roundg g'
              case measure => omega
              case rel => exact ⟨m + 3, L', nv', by omega, EX.out, by omega, by omega, by omega, hL', hr3, n2.of hk3 hr2'.not35, ST2.out.trans (Step.ofKp hk3), (hk3.cell (j := 2) (by have := hr2'.lt; omega) (by omega) 0).trans M2.out⟩
        | false =>
          have H4 := hid hn1
          clear hn1
          cases hn2 : has s.data.toList k' [60] with
          | true =>
            have H6 := hid hn2
            clear hn2
            go_wp2_with (first | (go_at_call 111; refine (ended_no b s k' _ hlt' h0 h1).mono ?_; rintro e w' ⟨rfl, n, rfl⟩) | (go_at_call_of 147 (Value.string ⟨#[60, 47]⟩); refine (has_any b s ⟨#[60, 47]⟩ k' _ hk' ?_ ?_).mono ?_; exact h0; exact h1; rw [show has s.data.toList k' (ByteArray.data ⟨#[60, 47]⟩).toList = false from HC.out]; rintro e w' ⟨rfl, n, rfl⟩) | (go_at_call 128; refine (take_no (T := 167) b s ⟨#[60, 33, 45, 45]⟩ k' nv' _ hk' (hr'.drewN _) H4.out).mono ?_; rintro e w' ⟨rfl, n, rfl⟩) | (go_at_call_of 147 (Value.string ⟨#[60]⟩); refine (has_any b s ⟨#[60]⟩ k' _ hk' ?_ ?_).mono ?_; exact h0; exact h1; rw [show has s.data.toList k' (ByteArray.data ⟨#[60]⟩).toList = true from H6.out]; rintro e w' ⟨rfl, n, rfl⟩))
            refine element_any g' b s base mx (IH.out g' (by omega)) k' parent deep L' nv' _ _ hl hf hk' hd hL' hb (Nat.le_trans hba hst.kp.size) hb0 MX.out (hr'.drewN _) hn' ?_ ?_
            rotate_left
            · intro x w' he hbl
              refine ⟨rfl, hbad.out x _ ?_ (UN.out.trans ⟨hbl.os, hbl.tape, hbl.output, hbl.size, hbl.block⟩)⟩
              rw [← E.out, items, if_neg NE.out, if_neg (by rw [H4.out]; decide), if_pos H6.out, he]
            intro k1 L1 nv1 w5 he hr5 hn5 hst5' hL5 hle1 hle2
            have hst5 : Step b nv' wr nv1 w5 := ⟨kp_undrewN hst5'.kp, hst5'.row⟩
            have EX : Hid (items g' s.data.toList k1 parent deep L1 = items F s.data.toList k parent deep L) := by
              show items g' s.data.toList k1 parent deep L1 = items F s.data.toList k parent deep L
              rw [← E.out, items, if_neg NE.out, if_neg (by rw [H4.out]; decide), if_pos H6.out, he]
            have OW : ∀ g, nv'.ownBlock = some g → base ≤ g := by
              obtain ⟨LV, _, q, _⟩ := hn'
              exact fun g h => (q.lt g h).1
            have M5 := hid ((hst5.kp.cell (j := 2) (by have := hr'.lt; omega) (fun h => h.elim (fun h => by omega) (fun h => by have := OW 2 h.symm; omega)) 0).trans MX.out)
            clear he hst5' OW
            go_wp2_with fail
            go_roundg g'
            case measure => omega
            case rel => exact ⟨k1, L1, nv1, by omega, EX.out, by omega, by omega, by omega, hL5, hr5, hn5, hst.trans hst5, M5.out⟩
          | false =>
            have H6 := hid hn2
            clear hn2
            cases hft : fitsAt s.data.toList k' textB with
            | true =>
              have EX : Hid (items g' s.data.toList (k' + 1) parent deep L' = items F s.data.toList k parent deep L) := by
                show items g' s.data.toList (k' + 1) parent deep L' = items F s.data.toList k parent deep L
                rw [← E.out, items, if_neg NE.out, if_neg (by rw [H4.out]; decide), if_neg (by rw [H6.out]; decide), if_pos hft]
              have FT := hid hft
              clear hft
              go_wp2_with (first | (go_at_call 111; refine (ended_no b s k' _ hlt' h0 h1).mono ?_; rintro e w' ⟨rfl, n, rfl⟩) | (go_at_call_of 147 (Value.string ⟨#[60, 47]⟩); refine (has_any b s ⟨#[60, 47]⟩ k' _ hk' ?_ ?_).mono ?_; exact h0; exact h1; rw [show has s.data.toList k' (ByteArray.data ⟨#[60, 47]⟩).toList = false from HC.out]; rintro e w' ⟨rfl, n, rfl⟩) | (go_at_call 128; refine (take_no (T := 167) b s ⟨#[60, 33, 45, 45]⟩ k' nv' _ hk' (hr'.drewN _) H4.out).mono ?_; rintro e w' ⟨rfl, n, rfl⟩) | (go_at_call_of 147 (Value.string ⟨#[60]⟩); refine (has_any b s ⟨#[60]⟩ k' _ hk' ?_ ?_).mono ?_; exact h0; exact h1; rw [show has s.data.toList k' (ByteArray.data ⟨#[60]⟩).toList = false from H6.out]; rintro e w' ⟨rfl, n, rfl⟩) | (go_at_call 151; refine (needByte_yes (T := 167) 152 textB cf46 tells46 b s k' nv' _ hl (hr'.drewN _) FT.out).mono ?_; rintro e w2 ⟨rfl, hr2, hk2'⟩; have hk2 := kp_undrewN hk2'; clear hk2'))
              go_roundg g'
              case measure => omega
              case rel => exact ⟨k' + 1, L', nv', by omega, EX.out, by omega, by omega, by omega, hL', hr2, hn'.of hk2 hr'.not35, hst.trans (Step.ofKp hk2), (hk2.cell (j := 2) (by have := hr'.lt; omega) (by omega) 0).trans MX.out⟩
            | false =>
              have EX : Hid (items F s.data.toList k parent deep L = .error (2, k')) := by
                show items F s.data.toList k parent deep L = .error (2, k')
                rw [← E.out, items, if_neg NE.out, if_neg (by rw [H4.out]; decide), if_neg (by rw [H6.out]; decide), if_neg (by rw [hft]; decide)]
              have FT := hid hft
              clear hft
              go_wp2_with (first | (go_at_call 111; refine (ended_no b s k' _ hlt' h0 h1).mono ?_; rintro e w' ⟨rfl, n, rfl⟩) | (go_at_call_of 147 (Value.string ⟨#[60, 47]⟩); refine (has_any b s ⟨#[60, 47]⟩ k' _ hk' ?_ ?_).mono ?_; exact h0; exact h1; rw [show has s.data.toList k' (ByteArray.data ⟨#[60, 47]⟩).toList = false from HC.out]; rintro e w' ⟨rfl, n, rfl⟩) | (go_at_call 128; refine (take_no (T := 167) b s ⟨#[60, 33, 45, 45]⟩ k' nv' _ hk' (hr'.drewN _) H4.out).mono ?_; rintro e w' ⟨rfl, n, rfl⟩) | (go_at_call_of 147 (Value.string ⟨#[60]⟩); refine (has_any b s ⟨#[60]⟩ k' _ hk' ?_ ?_).mono ?_; exact h0; exact h1; rw [show has s.data.toList k' (ByteArray.data ⟨#[60]⟩).toList = false from H6.out]; rintro e w' ⟨rfl, n, rfl⟩) | (go_at_call 151; refine (needByte_no (T := 167) 152 textB cf46 tells46 b s k' nv' _ (hr'.drewN _) FT.out).mono ?_; rintro e w2 ⟨rfl, n, rfl⟩))
              exact ⟨rfl, hbad.out (2, k') _ EX.out (below_drewN' UN.out _)⟩
end Go.Proofs.YtblkldfokeeaeacGreatDoor.Sh
namespace Go.Proofs.YtblkldfokeeaeacGreatDoor.Sh
open Go.RowKit
set_option maxRecDepth 100000 in
set_option maxHeartbeats 1000000 in
theorem catch_panicking (p q : Nat) (er at_ : Int) (older : List PanicEntry) (w : World) (lv : Value) (e0 a0 : Int) (hl : w.cell? ⟨p, 0, none⟩ = some lv) (hf0 : w.cell? ⟨q, 0, none⟩ = some (.int .i64 e0)) (hf1 : w.cell? ⟨q, 1, none⟩ = some (.int .i64 a0))
    (zl : w.frozen? ⟨p, 0, none⟩ = false) (z0 : w.frozen? ⟨q, 0, none⟩ = false) (z1 : w.frozen? ⟨q, 1, none⟩ = false) (hpq : p ≠ q) :
    CallsD Tryz.prog 83 #[.pointer (some ⟨p, 0, none⟩), .pointer (some ⟨q, 0, none⟩)] (.panicking ({ v := .iface 161 (.agg #[.int .i64 er, .int .i64 at_]), recovered := false } :: older)) w fun e u' w' =>
      e = .returned (.tuple #[]) ∧ u' = .panicking ({ v := .iface 161 (.agg #[.int .i64 er, .int .i64 at_]), recovered := true } :: older) ∧
      ∃ n o, w' = ((((w.setCell ⟨p, 0, none⟩ (.slice none 0 0)).setCell ⟨q, 0, none⟩ (.int .i64 er)).setCell ⟨q, 1, none⟩ (.int .i64 at_)).alloc o).drewN n := by
  have hta : ∀ w : World, (Instr.typeAssert (.iface 161 (.agg #[.int .i64 er, .int .i64 at_])) 20 161 true).run Tryz.prog w = .ok (.tuple #[.agg #[.int .i64 er, .int .i64 at_], .bool true]) w := fun _ => by kernel_rfl
  refine callsD_of_wpS Tryz.func83 rfl fun c₀ cs hu => ?_
  apply wpS_seq
  apply wpS_region
  simp [wpOpsS, go_sem, recoverD, hu, Tryz.ntmps83, Exit.thenS, hta]
  refine wpS_of_wp ?_
  simp only [← List.toArray_replicate, List.replicate, List.setIfInBounds_toArray, List.set_cons_zero, List.set_cons_succ, List.append_toArray, List.cons_append, List.nil_append]
  have hp : p < w.heap.size := lt_of_cell hl
  have hq : q < w.heap.size := lt_of_cell hf0
  have g1 : ¬ p = w.heap.size := by omega
  have g2 : ¬ w.heap.size = p := by omega
  have g3 : ¬ q = w.heap.size := by omega
  have g4 : ¬ w.heap.size = q := by omega
  have g5 : ¬ q = p := fun h => hpq h.symm
  have g6 : ¬ p = q := hpq
  have c1 := cell_alloc hl
  have c2 := cell_alloc hf0
  have c3 := cell_alloc hf1
  have d1 := frozen_alloc' hp zl
  have d2 := frozen_alloc' hq z0
  have d3 := frozen_alloc' hq z1
  go_wp2_with fail
  go_region
  refine (?_ : bodyPostS _ _ _ _ _ _ _ _ _)
  simp [bodyPostS, results, Tryz.results83]
  exact ⟨1, _, rfl⟩
set_option maxRecDepth 100000 in
set_option maxHeartbeats 1000000 in
theorem catch_idle (p q : Nat) (w : World) :
    CallsD Tryz.prog 83 #[.pointer (some ⟨p, 0, none⟩), .pointer (some ⟨q, 0, none⟩)] .returning w fun e u' w' => e = .returned (.tuple #[]) ∧ u' = .returning ∧ ∃ o, w' = w.alloc o := by
  have hta : ∀ w : World, (Instr.typeAssert .nilIface 20 161 true).run Tryz.prog w = .ok (.tuple #[.agg #[.int .i64 0, .int .i64 0], .bool false]) w := fun _ => by kernel_rfl
  refine callsD_of_wpS Tryz.func83 rfl fun c₀ cs hu => ?_
  apply wpS_seq
  apply wpS_region
  simp [wpOpsS, go_sem, recoverD, hu, Tryz.ntmps83, Exit.thenS, hta]
  refine wpS_of_wp ?_
  simp only [← List.toArray_replicate, List.replicate, List.setIfInBounds_toArray, List.set_cons_zero, List.set_cons_succ, List.append_toArray, List.cons_append, List.nil_append]
  go_wp2_with fail
  simp [bodyPostS, results, Tryz.results83]
  refine ⟨.returning, ?_, rfl, _, rfl⟩
  cases c₀
  simp only at hu
  rw [hu]
set_option maxRecDepth 100000 in
set_option maxHeartbeats 1000000 in
theorem page_any (b : Nat) (s : ByteArray) (base : Nat) (mx : Int) (nv : Value) (w : World) (R : Ending → World → Prop)
    (hl : s.size ≤ 6000) (hb : b < base) (hba : base ≤ w.heap.size) (hb0 : 2 < b) (hmx : w.cell? ⟨2, 0, none⟩ = some (.int .i64 mx)) (hr : Rd w b s 0 nv) (hn : NdsAt w base nv [])
    (hok : Hid (∀ L' nv' w' k', readAll s.data.toList = .ok L' → Rd w' b s k' nv' → NdsAt w' base nv' L' → Step b nv w nv' w' → L'.length ≤ 120 → R (.returned (.tuple #[])) w'))
    (hbad : Hid (∀ (x : Nat × Nat) w', readAll s.data.toList = .error x → Below b w w' → R (.panicked [{ v := .iface 161 (.agg #[.int .i64 x.1, .int .i64 x.2]), recovered := false }]) w')) :
    Calls Tryz.prog 85 #[.pointer (some ⟨b, 0, none⟩)] w R := by
  have hS : s.size = s.data.toList.length := Lib.size_eq s
  have HS := hid hS
  have hlt := hr.lt
  have hrow : ∀ g, nv.ownBlock = some g → base ≤ g := by
    obtain ⟨LV, _, q, _⟩ := hn
    exact fun g h => (q.lt g h).1
  clear hS
  go_enter Tryz.func85, Tryz.ntmps85
  go_wp2_with fail
  refine items_any b s base mx hl 6001 0 (-1) 1 [] nv w _ (by omega) (by omega) (by omega) (by simp) hb hba hb0 hmx hr hn ?_ ?_
  rotate_left
  · intro x w' he hbl
    exact ⟨rfl, hbad.out x _ (by simp only [readAll, he]) hbl⟩
  intro k' L' nv' w' he hr' hn' hst hL hle1 hle2
  have h0 := hr'.c0
  have h1 := hr'.c1
  by_cases hk : s.size ≤ k'
  · have EX : Hid (readAll s.data.toList = .ok L') := by
      show readAll s.data.toList = .ok L'
      simp only [readAll, he]
      rw [if_neg (by rw [← HS.out]; omega)]
    clear he
    go_wp2_with (first | (go_at_call 111; refine (ended_yes b s k' _ hk h0 h1).mono ?_; rintro e w' ⟨rfl, n, rfl⟩))
    go_end0
    exact hok.out L' nv' _ k' EX.out (hr'.drewN _) hn' (hst.trans (Step.ofKp ((Kp.refl _ _).drewN _))) hL
  · have EX : Hid (readAll s.data.toList = .error (2, k')) := by
      show readAll s.data.toList = .error (2, k')
      simp only [readAll, he]
      rw [if_pos (by rw [← HS.out]; omega)]
    have hk2 : k' < s.size := by omega
    clear he
    go_wp2_with (first | (go_at_call 111; refine (ended_no b s k' _ hk2 h0 h1).mono ?_; rintro e w' ⟨rfl, n, rfl⟩) | (go_at_call 113; refine (at_any b k' _ ?_).mono ?_; exact h1; rintro e w' ⟨rfl, rfl⟩) | (go_at_call 112; refine (throw_any _ _ _).mono ?_; rintro e w' ⟨rfl, rfl⟩))
    exact ⟨rfl, hbad.out (2, k') _ EX.out (below_drewN' (hst.under hlt (fun g h => by have := hrow g h; omega)) _)⟩
set_option maxRecDepth 100000 in
set_option maxHeartbeats 1000000 in
theorem new_any (s : ByteArray) (w : World) :
    Calls Tryz.prog 84 #[.string s] w fun e w' => e = .returned (.agg #[.string s, .int .i64 0]) ∧ Below w.heap.size w w' := by
  go_enter Tryz.func84, Tryz.ntmps84
  go_wp2_with fail
  exact bodyPost_ret (v := .agg #[.string s, .int .i64 0]) (by simp [results, Tryz.results84, go_sem]) rfl ⟨rfl, (Below.refl _ _).alloc (Nat.le_refl _) _⟩
end Go.Proofs.YtblkldfokeeaeacGreatDoor.Sh
