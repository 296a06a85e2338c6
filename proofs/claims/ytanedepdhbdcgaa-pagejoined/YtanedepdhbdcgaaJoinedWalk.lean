/-
  What the statement PageJoined answers: true, for every two texts; nothing that was there is changed. Conditions: the cell of internal/bytealg.MaxLen holds some int; each text has at most 2 to the 47 bytes.
-/
import Derived.Test.YtanedepdhbdcgaaAlive
import Derived.Test.YtanedepdhbdcgaaSame
namespace Go.Proofs.Ytanedepdhbdcgaa
open Go.RowKit

theorem join_bounds {S : List UInt8} {L : List Nd} (h : parse S = .ok L) : ∀ (k : Nat) (hk : k < L.length), -1 ≤ L[k].parent ∧ L[k].parent < k ∧ L[k].nameEnd ≤ 6000 ∧ L[k].attrs.length ≤ 8 := fun k hk => by
  have g := parse_good S
  rw [h] at g
  obtain ⟨a1, a2, a3, a4, a5, a6, a7, a8, a9⟩ := g k hk
  have l := (parse_ok h).1
  exact ⟨a1, a2, Nat.le_trans a3 l, a9⟩
theorem NdsAt.reads {w : World} {base : Nat} {nv : Value} {L : List Nd} (h : NdsAt w base nv L) : Reads w nv L := by
  obtain ⟨na, ncap, rfl⟩ := h.form
  refine ⟨na, ncap, rfl, fun hne => ?_⟩
  obtain ⟨g, cap, cur, LV, hv, _, h1, h2, h3, h4⟩ := h.open3 hne
  injection hv with hv1
  exact ⟨g, cur, LV, hv1, h1, h2, h3, h4⟩
theorem NdsAt.cap {w : World} {base : Nat} {L : List Nd} {na : Option Addr} {n cap : Nat} (h : NdsAt w base (.slice na n cap) L) : L.length ≤ cap ∧ (na = none → cap = 0) ∧ ∀ x, na = some x → ∃ g, x = ⟨g, 0, none⟩ := by
  obtain ⟨LV, h1, h2, h3⟩ := h
  rcases h2.2 with ⟨hv, h⟩ | ⟨g, cp, cur, hv, _, _, hc, _⟩
  · injection hv with e1 e2 e3
    subst e1 e3
    exact ⟨(by omega), (fun _ => rfl), (fun x hx => by cases hx)⟩
  · injection hv with e1 e2 e3
    subst e1 e3
    exact ⟨hc, (fun h => by cases h), (fun x hx => by injection hx with hx; exact ⟨g, hx.symm⟩)⟩
theorem Reads.below {w w' : World} {v : Value} {L : List Nd} (h : Reads w v L) (hb : Below w.heap.size w w') : Reads w' v L := by
  obtain ⟨ao, cap, h1, h2⟩ := h
  refine ⟨ao, cap, h1, fun hne => ?_⟩
  obtain ⟨g, cur, LV, e1, e2, e3, e4, e5⟩ := h2 hne
  exact ⟨g, cur, LV, e1, (hb.block g (Array.getElem?_eq_some_iff.1 e2).1).trans e2, e3, e4, fun p hp => (e5 p hp).of (X := fun _ => False) (Kp.below hb _) (fun _ h => h.elim)⟩
theorem Reads.pre {w : World} {g cap : Nat} {a b : List Nd} (h : Reads w (.slice (some ⟨g, 0, none⟩) (a ++ b).length cap) (a ++ b)) (cap' : Nat) : Reads w (.slice (some ⟨g, 0, none⟩) a.length cap') a := by
  obtain ⟨ao, cp, h1, h2⟩ := h
  refine ⟨_, _, rfl, fun hne => ?_⟩
  obtain ⟨g', cur, LV, e1, e2, e3, e4, e5⟩ := h2 (by simp [hne])
  injection h1 with h1 _ _
  rw [← h1] at e1
  injection e1 with e1
  injection e1 with e1
  subst e1
  refine ⟨g, cur, LV.take a.length, rfl, e2, ?_, ?_, fun p hp => e5 p (List.mem_of_mem_take hp)⟩
  · rw [List.map_take, e3]; simp
  · have hlen : a.length ≤ LV.length := by have := congrArg List.length e3; simp at this; omega
    have fl : ∀ (n : Nat) (l : List (Nd × Value)), n ≤ l.length → (l.take n).flatMap encN = (l.flatMap encN).take (n * 6) := by
      intro n l hn
      induction l generalizing n with
      | nil => have : n = 0 := by simpa using hn
               subst this; simp
      | cons x l ih =>
        cases n with
        | zero => simp
        | succ n =>
          rw [List.take_succ_cons, List.flatMap_cons, List.flatMap_cons, ih n (by simpa using hn), show (n + 1) * 6 = (encN x).length + n * 6 by simp [encN]; omega, List.take_append, List.take_of_length_le (l := encN x) (by omega), Nat.add_sub_cancel_left]
    rw [fl _ _ hlen, ← e4, List.take_take]
    congr 1
    simp

set_option maxRecDepth 100000 in
set_option maxHeartbeats 4000000 in
theorem joined_any (s t : ByteArray) (mx : Int) (w : World) (hmx : w.cell? ⟨0, 0, none⟩ = some (.int .i64 mx)) (hsz : s.size ≤ 140737488355328) (htz : t.size ≤ 140737488355328) :
    Calls Try.prog 5 #[.string s, .string t] w fun e w' => e = .returned (.bool true) ∧ Below w.heap.size w w' := by
  have h0 := lt_of_cell hmx
  go_enter Try.func5, Try.ntmps5
  go_wp2_with (go_at_call 22; refine (alive_any mx _ hmx).mono ?_; rintro e w1 ⟨rfl, hb1⟩)
  have hmx1 := (hb1.cell (p := ⟨0, 0, none⟩) h0).trans hmx
  refine parse_any s mx w1 _ hmx1 (by omega) ?_ ?_
  · intro a av w2 he hn hb2 hL
    have UN := hid ((hb1.trans (hb2.mono hb1.size)))
    have US := hid (UN.out.size)
    have hmx2 := cell_alloc ((hb2.cell (p := ⟨0, 0, none⟩) (lt_of_cell hmx1)).trans hmx1)
    have HN := hid hn.reads
    obtain ⟨na, ncap, rfl⟩ := hn.form
    have HE := hid he
    clear he hb1 hb2 hmx1 hn
    go_wp2_with fail
    refine parse_any t mx _ _ (hmx2 _) (by omega) ?_ ?_
    · intro b bv w3 he3 hn3 hb3 hL3
      have F3 := (hb3.block w2.heap.size (by simp)).trans (heap_alloc_new w2 _)
      have f0 := cell_of F3 0
      simp at f0
      have z3 : w2.heap.size < w3.heap.size := (Array.getElem?_eq_some_iff.1 F3).1
      have zn : ¬ w2.heap.size = w3.heap.size := by omega
      have f0a := cell_alloc f0
      have hb23 : Below w2.heap.size w2 w3 := ((Below.refl _ _).alloc (Nat.le_refl _) _).trans (hb3.mono (by simp))
      have UN3 := hid (UN.out.trans (hb23.mono US.out))
      have HN3 := hid (HN.out.below hb23)
      have M3 := cell_alloc ((hb3.cell (p := ⟨0, 0, none⟩) (by simp)).trans (hmx2 _))
      have HB3 := hid hn3.reads
      obtain ⟨nb, bcap, rfl⟩ := hn3.form
      have HE3 := hid he3
      obtain ⟨sa, _⟩ := parse_ok HE.out
      obtain ⟨sb, _⟩ := parse_ok he3
      rw [← Lib.size_eq] at sa sb
      clear hn3 hb3 F3 he3 HN hb23 f0 hmx2
      by_cases hbig : 6000 < s.size + t.size
      · go_wp2_with fail
        go_ret
        exact ⟨rfl, UN3.out.alloc UN3.out.size _⟩
      by_cases hmany : 120 < a.length + b.length
      · go_wp2_with fail
        go_ret
        exact ⟨rfl, UN3.out.alloc UN3.out.size _⟩
      have PJ := hid (parse_joined HE.out HE3.out (by rw [← Lib.size_eq, ← Lib.size_eq]; omega) (by omega))
      have GB := hid (join_bounds HE3.out)
      have GA := hid (join_bounds HE.out)
      have lst : (s ++ t).data.toList = s.data.toList ++ t.data.toList := by simp
      have LST := hid lst
      have lsz : (s ++ t).size = s.size + t.size := by simp
      have LSZ := hid lsz
      clear lst lsz
      go_wp2_with fail
      refine parse_any (s ++ t) mx _ _ (M3 _) (by rw [LSZ.out]; omega) ?_ ?_
      rotate_left
      · intro y w4 he4
        rw [LST.out, PJ.out] at he4
        cases he4
      intro c cv w4 he4 hn4 hb4 hL4
      rw [LST.out, PJ.out] at he4
      injection he4 with he4
      have HC := hid he4
      have CL : c.length = a.length + b.length := by rw [← he4]; simp
      have F4 := (hb4.block w3.heap.size (by simp)).trans (heap_alloc_new w3 _)
      have z4 : w3.heap.size < w4.heap.size := (Array.getElem?_eq_some_iff.1 F4).1
      have hb34 : Below w3.heap.size w3 w4 := ((Below.refl _ _).alloc (Nat.le_refl _) _).trans (hb4.mono (by simp))
      have UN4 := hid (UN3.out.trans (hb34.mono UN3.out.size))
      have A4 := hid (HN3.out.below hb34)
      have B4 := hid (HB3.out.below hb34)
      have C4 := hid hn4.reads
      obtain ⟨nc, ccap, rfl⟩ := hn4.form
      obtain ⟨cc1, cc2, cc3⟩ := hn4.cap
      have CC2 := hid cc2
      have CC3 := hid cc3
      rw [CL] at cc1
      clear cc2 cc3
      rw [CL]
      have CLh := hid CL
      clear hn4 hb4 F4 he4 HN3 HB3 hb34 M3 f0a zn z3 CL
      go_wp2_with fail
      go_loopg [73] b.length (fun n i wr => ∃ k, k ≤ b.length ∧ n = b.length - k ∧ i = .int .i64 (k : Int) ∧ Below w4.heap.size w4 wr)
      case atStart => exact ⟨0, Nat.zero_le _, rfl, rfl, (Below.refl _ _).alloc (Nat.le_refl _) _⟩
      case round =>
        obtain ⟨k, hk, hn, rfl, hb⟩ := hrel
        have GK := hid hn
        have WB := hid hb
        clear hn hmx h0
        by_cases hlt : k < b.length
        · obtain ⟨_, _, hv1, hr1⟩ := B4.out
          obtain ⟨g1, cur1, LV1, e1, hg1, hm1, ht1, ha1⟩ := hr1 (fun h => by rw [h] at hlt; simp at hlt)
          injection hv1 with hv1 hv1b hv1c
          subst hv1
          subst e1
          subst hv1c
          clear hv1b
          obtain ⟨_, _, hv2, hr2⟩ := C4.out
          obtain ⟨g2, cur2, LV2, e2, hg2, hm2, ht2, ha2⟩ := hr2 (fun h => by have := CLh.out; rw [h] at this; simp at this; omega)
          injection hv2 with hv2 hv2b hv2c
          subst hv2
          subst e2
          subst hv2c
          clear hv2b
          have hg1' := (hb.block g1 (Array.getElem?_eq_some_iff.1 hg1).1).trans hg1
          have hg2' := (hb.block g2 (Array.getElem?_eq_some_iff.1 hg2).1).trans hg2
          have ha1' : ∀ p ∈ LV1, AtAt wr p.2 p.1.attrs := fun p hp => (ha1 p hp).of (X := fun _ => False) (Kp.below hb _) (fun _ h => h.elim)
          have ha2' : ∀ p ∈ LV2, AtAt wr p.2 p.1.attrs := fun p hp => (ha2 p hp).of (X := fun _ => False) (Kp.below hb _) (fun _ h => h.elim)
          obtain ⟨av, hav, c0, c1, c2, c3, c4, c5⟩ := nd_cells hg1' hm1 ht1 ha1' hlt
          obtain ⟨bv, hbv, d0, d1, d2, d3, d4, d5⟩ := nd_cells hg2' hm2 ht2 ha2' (i := a.length + k) (by rw [CLh.out]; omega)
          obtain ⟨o1, o2, o3, o4⟩ := GB.out k hlt
          have eM : c[a.length + k]'(by rw [CLh.out]; omega) = shN s.size (fun p => if 0 ≤ p then p + a.length else p) b[k] := by
            have hm := HC.out
            rw [← Lib.size_eq s] at hm
            subst hm
            rw [List.getElem_append_right (by omega)]
            simp
          rw [eM] at hbv d0 d1 d3 d4 d5
          generalize hnk : b[k] = nk at *
          obtain ⟨nm, pa, ats, ne, f, tt⟩ := nk
          simp only [shN] at hav hbv c0 c1 c2 c3 c4 c5 d0 d1 d2 d3 d4 d5 o1 o2 o3 o4
          generalize hif : (if nm = styleL then f + s.size else f) = f2 at *
          generalize hit : (if nm = styleL then tt + s.size else tt) = t2 at *
          obtain ⟨ax, acap, rfl⟩ := hav.form
          obtain ⟨bx, bcap2, rfl⟩ := hbv.form
          simp only [List.length_map] at d2
          have hnn : ((bs nm).toList == (bs nm).toList) = true := by simp
          have m0 := cell_alloc d0
          have m2 := cell_alloc d2
          have m3 := cell_alloc (show wr.cell? ⟨g2, (a.length + k) * 6 + 3, none⟩ = some (.int .i64 ((ne : Int) + s.size)) from d3)
          have m4 := cell_alloc d4
          have m5 := cell_alloc d5
          by_cases hpa : 0 ≤ pa
          · rw [if_pos hpa] at d1
            have m1 := cell_alloc d1
            clear hav hbv hg1 hg1' hg2 hg2' ha1 ha1' ha2 ha2' hm1 ht1 hm2 ht2 eM hnk hif hit hb d0 d1 d2 d3 d4 d5 hr1 hr2
            go_wp2_with fail
            go_roundg (b.length - (k + 1))
            case measure => have := GK.out; omega
            case rel => exact ⟨k + 1, by omega, rfl, by go_num, (WB.out.alloc WB.out.size _).alloc (Nat.le_trans WB.out.size (by simp)) _⟩
          · rw [if_neg hpa] at d1
            have m1 := cell_alloc d1
            clear hav hbv hg1 hg1' hg2 hg2' ha1 ha1' ha2 ha2' hm1 ht1 hm2 ht2 eM hnk hif hit hb d0 d1 d2 d3 d4 d5 hr1 hr2
            go_wp2_with fail
            go_roundg (b.length - (k + 1))
            case measure => have := GK.out; omega
            case rel => exact ⟨k + 1, by omega, rfl, by go_num, (WB.out.alloc WB.out.size _).alloc (Nat.le_trans WB.out.size (by simp)) _⟩
        · have A5 := hid (A4.out.below hb)
          have a8 : ∀ n ∈ a, n.attrs.length ≤ 8 := fun n hn => by
            obtain ⟨i, hi, rfl⟩ := List.getElem_of_mem hn
            exact (GA.out i hi).2.2.2
          have A8 := hid a8
          clear a8
          cases nc with
          | none =>
            have hz := CC2.out rfl
            subst hz
            have ha0 : a = [] := List.eq_nil_of_length_eq_zero (by omega)
            have hb0 : b = [] := List.eq_nil_of_length_eq_zero (by omega)
            subst ha0
            subst hb0
            go_wp2_with (go_at_call 15; refine (same_any [] _ _ _ hL A8.out ⟨none, 0, rfl, fun h => absurd rfl h⟩ A5.out).mono ?_; rintro e w' ⟨rfl, n, rfl⟩)
            go_ret
            exact ⟨rfl, below_drewN' (UN4.out.trans (WB.out.mono UN4.out.size)) _⟩
          | some x =>
            obtain ⟨g, rfl⟩ := CC3.out x rfl
            have C5 : Hid (∀ cap', Reads wr (.slice (some ⟨g, 0, none⟩) a.length cap') a) := hid (fun cap' => by
              have hc := HC.out
              have := C4.out
              subst hc
              exact (Reads.pre this cap').below hb)
            go_wp2_with (go_at_call 15; refine (same_any a _ _ _ hL A8.out (C5.out _) A5.out).mono ?_; rintro e w' ⟨rfl, n, rfl⟩)
            go_ret
            exact ⟨rfl, below_drewN' (UN4.out.trans (WB.out.mono UN4.out.size)) _⟩
    · intro y w3 he3 hb3
      have hy := parse_nz he3
      obtain ⟨y1, y2⟩ := y
      simp only at hy
      have hye : ((y1 : Int) != 0) = true := by simpa using hy
      have F3 := (hb3.block w2.heap.size (by simp)).trans (heap_alloc_new w2 _)
      have f0 := cell_of F3 0
      simp at f0
      have z3 : w2.heap.size < w3.heap.size := (Array.getElem?_eq_some_iff.1 F3).1
      have zn : ¬ w2.heap.size = w3.heap.size := by omega
      have f0a := cell_alloc f0
      have UN3 := hid ((UN.out.alloc US.out _).trans (hb3.mono (by have := US.out; simp; omega)))
      clear hb3 F3 he3 HN HE hy
      go_wp2_with fail
      go_ret
      exact ⟨rfl, UN3.out.alloc (UN3.out.size) _⟩
  · intro x w2 he hb2
    have hx := parse_nz he
    have UN := hid ((hb1.trans (hb2.mono hb1.size)))
    have US := hid (UN.out.size)
    have hmx2 := cell_alloc ((hb2.cell (p := ⟨0, 0, none⟩) (lt_of_cell hmx1)).trans hmx1)
    obtain ⟨xe, xa⟩ := x
    simp only at hx
    have hxe : ((xe : Int) != 0) = true := by simpa using hx
    clear he hb1 hb2 hmx1 hx
    go_wp2_with fail
    refine parse_any t mx _ _ (hmx2 _) (by omega) ?_ ?_
    · intro M mv w3 _ hn3 hb3 _
      have F3 := (hb3.block w2.heap.size (by simp)).trans (heap_alloc_new w2 _)
      have f0 := cell_of F3 0
      simp at f0
      have z3 : w2.heap.size < w3.heap.size := (Array.getElem?_eq_some_iff.1 F3).1
      have zn : ¬ w2.heap.size = w3.heap.size := by omega
      have f0a := cell_alloc f0
      have UN3 := hid ((UN.out.alloc US.out _).trans (hb3.mono (by have := US.out; simp; omega)))
      obtain ⟨ma, mcap, rfl⟩ := hn3.form
      clear hn3 hb3 F3
      go_wp2_with fail
      go_ret
      exact ⟨rfl, UN3.out.alloc (UN3.out.size) _⟩
    · intro y w3 _ hb3
      have F3 := (hb3.block w2.heap.size (by simp)).trans (heap_alloc_new w2 _)
      have f0 := cell_of F3 0
      simp at f0
      have z3 : w2.heap.size < w3.heap.size := (Array.getElem?_eq_some_iff.1 F3).1
      have zn : ¬ w2.heap.size = w3.heap.size := by omega
      have f0a := cell_alloc f0
      have UN3 := hid ((UN.out.alloc US.out _).trans (hb3.mono (by have := US.out; simp; omega)))
      clear hb3 F3
      go_wp2_with fail
      go_ret
      exact ⟨rfl, UN3.out.alloc (UN3.out.size) _⟩
end Go.Proofs.Ytanedepdhbdcgaa
