/-
  What the statement PageWrapped answers: true, for every text; nothing that was there is changed. Conditions: the cell of internal/bytealg.MaxLen holds some int; the text has at most 2 to the 47 bytes.
-/
import Derived.Test.YtanedepdhbdcgaaAlive
import Derived.Test.YtanedepdhbdcgaaFaults
namespace Go.Proofs.Ytanedepdhbdcgaa
open Go.RowKit

theorem wrap_list (s : ByteArray) : ((⟨#[60, 112, 62]⟩ : ByteArray) ++ s ++ ⟨#[60, 47, 112, 62]⟩).data.toList = [60, 112, 62] ++ s.data.toList ++ [60, 47, 112, 62] := by simp

theorem good_bounds {S : List UInt8} {L : List Nd} (h : parse S = .ok L) : ∀ (k : Nat) (hk : k < L.length), -1 ≤ L[k].parent ∧ L[k].parent < k ∧ L[k].nameEnd ≤ 6000 := fun k hk => by
  have g := parse_good S
  rw [h] at g
  have := g k hk
  have l := (parse_ok h).1
  exact ⟨this.1, this.2.1, Nat.le_trans this.2.2.1 l⟩
theorem wrap_size (s : ByteArray) : ((⟨#[60, 112, 62]⟩ : ByteArray) ++ s ++ ⟨#[60, 47, 112, 62]⟩).size = s.size + 7 := by
  rw [Lib.size_eq, wrap_list, Lib.size_eq s]
  simp

set_option maxRecDepth 100000 in
set_option maxHeartbeats 4000000 in
theorem wrapped_any (s : ByteArray) (mx : Int) (w : World) (hmx : w.cell? ⟨0, 0, none⟩ = some (.int .i64 mx)) (hsz : s.size ≤ 140737488355328) :
    Calls Try.prog 6 #[.string s] w fun e w' => e = .returned (.bool true) ∧ Below w.heap.size w w' := by
  have h0 := lt_of_cell hmx
  go_enter Try.func6, Try.ntmps6
  go_wp2_with (go_at_call 22; refine (alive_any mx _ hmx).mono ?_; rintro e w1 ⟨rfl, hb1⟩)
  have hmx1 := (hb1.cell (p := ⟨0, 0, none⟩) h0).trans hmx
  refine parse_any s mx w1 _ hmx1 (by omega) ?_ ?_
  · intro L nv w2 he hn hb2 hL
    have PW := hid (parse_wrapped he)
    have GD := hid (good_bounds he)
    have UN := hid ((hb1.trans (hb2.mono hb1.size)))
    have US := hid (UN.out.size)
    have hmx2 := cell_alloc ((hb2.cell (p := ⟨0, 0, none⟩) (lt_of_cell hmx1)).trans hmx1)
    have HN := hid hn
    obtain ⟨na, ncap, rfl⟩ := hn.form
    clear he hb1 hb2 hmx1 hn
    go_wp2_with fail
    refine parse_any _ mx _ _ (hmx2 _) (by rw [wrap_size]; omega) ?_ ?_
    · intro M mv w3 heM hn3 hb3 hL3
      rw [wrap_list] at heM
      have hM : M = ⟨[112], -1, [], 2, 0, 0⟩ :: L.map (shN 3 (fun p => p + 1)) := by
        rcases PW.out with ⟨x, hx⟩ | hx
        · rw [hx] at heM; cases heM
        · rw [hx] at heM; injection heM with h; exact h.symm
      have F3 := (hb3.block w2.heap.size (by simp)).trans (heap_alloc_new w2 _)
      have f0 := cell_of F3 0
      simp at f0
      have z3 : w2.heap.size < w3.heap.size := (Array.getElem?_eq_some_iff.1 F3).1
      have zn : ¬ w2.heap.size = w3.heap.size := by omega
      have f0a := cell_alloc f0
      have hb23 : Below w2.heap.size w2 w3 := ((Below.refl _ _).alloc (Nat.le_refl _) _).trans (hb3.mono (by simp))
      have UN3 := hid (UN.out.trans (hb23.mono US.out))
      have HN3 := hid (HN.out.of (X := fun _ => False) (Kp.below hb23 _) (fun _ h => h.elim))
      have ML : M.length = L.length + 1 := by rw [hM]; simp
      have HM := hid hM
      obtain ⟨g2, cap2, cur2, LV2, rfl, hg20, hg2, hm2, ht2, ha2⟩ := hn3.open3 (by rw [hM]; simp)
      have D0 : ∃ av, w3.cell? ⟨g2, 0, none⟩ = some (.string (bs [112])) ∧ w3.cell? ⟨g2, 1, none⟩ = some (.int .i64 (-1)) ∧ w3.cell? ⟨g2, 2, none⟩ = some av := by
        obtain ⟨av, _, q0, q1, q2, _⟩ := nd_cells hg2 hm2 ht2 ha2 (i := 0) (by omega)
        have e0 : M[0]'(by omega) = ⟨[112], -1, [], 2, 0, 0⟩ := by simp [hM]
        rw [e0] at q0 q1
        simp at q0 q1 q2
        exact ⟨av, q0, q1, q2⟩
      obtain ⟨av0, p0, p1, _⟩ := D0
      have p0a := cell_alloc p0
      have p1a := cell_alloc p1
      rw [ML]
      have HG2 := hid hg2
      have HM2 := hid hm2
      have HT2 := hid ht2
      have HA2 := hid ha2
      have MLh := hid ML
      have bq : ((bs [112]).toList == [112]) = true := by rw [bs_toList]; decide
      clear hn3 hb3 F3 heM hM hg2 hm2 ht2 ha2 ML PW HN hb23 f0
      go_wp2_with fail
      go_loopg [59] L.length (fun n i wr => ∃ k, k ≤ L.length ∧ n = L.length - k ∧ i = .int .i64 (k : Int) ∧ Below w3.heap.size w3 wr)
      case atStart => exact ⟨0, Nat.zero_le _, rfl, rfl, (Below.refl _ _).alloc (Nat.le_refl _) _⟩
      case round =>
        obtain ⟨k, hk, hn, rfl, hb⟩ := hrel
        have GK := hid hn
        have WB := hid hb
        clear hn f0a p0 p1 p0a p1a bq hmx2 hmx zn
        by_cases hlt : k < L.length
        · obtain ⟨g1, cap1, cur1, LV1, hv, hg10, hg1, hm1, ht1, ha1⟩ := HN3.out.open3 (fun h => by rw [h] at hlt; simp at hlt)
          injection hv with hv1 hv2 hv3
          subst hv1 hv3
          have hg1' := (hb.block g1 (Array.getElem?_eq_some_iff.1 hg1).1).trans hg1
          have hg2' := (hb.block g2 (Array.getElem?_eq_some_iff.1 HG2.out).1).trans HG2.out
          have ha1' : ∀ p ∈ LV1, AtAt wr p.2 p.1.attrs := fun p hp => (ha1 p hp).of (X := fun _ => False) (Kp.below hb _) (fun _ h => h.elim)
          have ha2' : ∀ p ∈ LV2, AtAt wr p.2 p.1.attrs := fun p hp => (HA2.out p hp).of (X := fun _ => False) (Kp.below hb _) (fun _ h => h.elim)
          obtain ⟨av, hav, c0, c1, c2, c3, c4, c5⟩ := nd_cells hg1' hm1 ht1 ha1' hlt
          obtain ⟨bv, hbv, d0, d1, d2, d3, d4, d5⟩ := nd_cells hg2' HM2.out HT2.out ha2' (i := k + 1) (by rw [MLh.out]; omega)
          obtain ⟨o1, o2, o3⟩ := GD.out k hlt
          have eM : M[k + 1]'(by rw [MLh.out]; omega) = shN 3 (fun p => p + 1) L[k] := by
            have hm := HM.out
            simp [hm]
          rw [eM] at hbv d0 d1 d3 d4 d5
          generalize hnk : L[k] = nk at *
          obtain ⟨nm, pa, ats, ne, f, t⟩ := nk
          simp only [shN] at hav hbv c0 c1 c2 c3 c4 c5 d0 d1 d2 d3 d4 d5 o1 o2 o3
          generalize hif : (if nm = styleL then f + 3 else f) = f2 at *
          generalize hit : (if nm = styleL then t + 3 else t) = t2 at *
          obtain ⟨ax, acap, rfl⟩ := hav.form
          obtain ⟨bx, bcap, rfl⟩ := hbv.form
          simp only [List.length_map] at d2
          have m0 := cell_alloc d0
          have m1 := cell_alloc d1
          have m2 := cell_alloc d2
          have m3 := cell_alloc (show wr.cell? ⟨g2, (k + 1) * 6 + 3, none⟩ = some (.int .i64 ((ne : Int) + 3)) from d3)
          have m4 := cell_alloc d4
          have m5 := cell_alloc d5
          have hnn : ((bs nm).toList == (bs nm).toList) = true := by simp
          clear hav hbv hg1 hg1' hg2' ha1 ha1' ha2' hm1 ht1 eM hnk hif hit hb d0 d1 d2 d3 d4 d5
          go_wp2_with fail
          go_roundg (L.length - (k + 1))
          case measure => have := GK.out; omega
          case rel => exact ⟨k + 1, by omega, rfl, by go_num, (WB.out.alloc WB.out.size _).alloc (Nat.le_trans WB.out.size (by simp)) _⟩
        · go_wp2_with fail
          go_ret
          exact ⟨rfl, UN3.out.trans (WB.out.mono UN3.out.size)⟩
    · intro y w3 heM hb3
      rw [wrap_list] at heM
      have hy : y.1 = 4 := by
        rcases PW.out with ⟨x, hx⟩ | hx
        · rw [hx] at heM; injection heM with h; rw [← h]
        · rw [hx] at heM; cases heM
      have F3 := (hb3.block w2.heap.size (by simp)).trans (heap_alloc_new w2 _)
      have f0 := cell_of F3 0
      simp at f0
      have z3 : w2.heap.size < w3.heap.size := (Array.getElem?_eq_some_iff.1 F3).1
      have zn : ¬ w2.heap.size = w3.heap.size := by omega
      have f0a := cell_alloc f0
      have UN3 := hid ((UN.out.alloc US.out _).trans (hb3.mono (by have := US.out; simp; omega)))
      obtain ⟨y1, y2⟩ := y
      simp only at hy
      subst hy
      clear hb3 F3 heM PW HN
      go_wp2_with fail
      go_ret
      exact ⟨rfl, UN3.out.alloc (UN3.out.size) _⟩
  · intro x w2 he hb2
    have hx := parse_nz he
    have UN := hid ((hb1.trans (hb2.mono hb1.size)))
    have US := hid (UN.out.size)
    have hmx2 := cell_alloc ((hb2.cell (p := ⟨0, 0, none⟩) (lt_of_cell hmx1)).trans hmx1)
    obtain ⟨xe, xa⟩ := x
    simp only at hx
    have hxe : ((xe : Int) != 0) = true := by simpa using hx
    clear he hb1 hb2 hmx1 hx
    go_wp2_with fail
    refine parse_any _ mx _ _ (hmx2 _) (by rw [wrap_size]; omega) ?_ ?_
    · intro M mv w3 _ hn3 hb3 _
      have F3 := (hb3.block w2.heap.size (by simp)).trans (heap_alloc_new w2 _)
      have f0 := cell_of F3 0
      simp at f0
      have z3 : w2.heap.size < w3.heap.size := (Array.getElem?_eq_some_iff.1 F3).1
      have zn : ¬ w2.heap.size = w3.heap.size := by omega
      have f0a := cell_alloc f0
      have UN3 := hid ((UN.out.alloc US.out _).trans (hb3.mono (by have := US.out; simp; omega)))
      obtain ⟨ma, mcap, rfl⟩ := hn3.form
      clear hn3 hb3 F3
      go_wp2_with fail
      go_ret
      exact ⟨rfl, UN3.out.alloc (UN3.out.size) _⟩
    · intro y w3 _ hb3
      have F3 := (hb3.block w2.heap.size (by simp)).trans (heap_alloc_new w2 _)
      have f0 := cell_of F3 0
      simp at f0
      have z3 : w2.heap.size < w3.heap.size := (Array.getElem?_eq_some_iff.1 F3).1
      have zn : ¬ w2.heap.size = w3.heap.size := by omega
      have f0a := cell_alloc f0
      have UN3 := hid ((UN.out.alloc US.out _).trans (hb3.mono (by have := US.out; simp; omega)))
      clear hb3 F3
      go_wp2_with fail
      go_ret
      exact ⟨rfl, UN3.out.alloc (UN3.out.size) _⟩
end Go.Proofs.Ytanedepdhbdcgaa
