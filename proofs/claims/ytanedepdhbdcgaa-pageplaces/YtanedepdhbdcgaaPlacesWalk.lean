/-
  What the statement PagePlaces answers: true, for every text; nothing that was there is changed. Conditions: the cell of internal/bytealg.MaxLen holds some int; the text is shorter than 2 to the 63.
-/
import Derived.Test.YtanedepdhbdcgaaAlive
import Derived.Test.YtanedepdhbdcgaaPlaces
namespace Go.Proofs.Ytanedepdhbdcgaa
open Go.RowKit

set_option maxRecDepth 100000 in
set_option maxHeartbeats 4000000 in
theorem places_any (s : ByteArray) (mx : Int) (w : World) (hmx : w.cell? ⟨0, 0, none⟩ = some (.int .i64 mx)) (hsz : s.size ≤ 9223372036854775807) :
    Calls Try.prog 4 #[.string s] w fun e w' => e = .returned (.bool true) ∧ Below w.heap.size w w' := by
  have h0 := lt_of_cell hmx
  have pg := hid (parse_good s.data.toList)
  go_enter Try.func4, Try.ntmps4
  go_wp2_with (go_at_call 22; refine (alive_any mx _ hmx).mono ?_; rintro e w1 ⟨rfl, hb1⟩)
  have hmx1 := (hb1.cell (p := ⟨0, 0, none⟩) h0).trans hmx
  refine parse_any s mx w1 _ hmx1 hsz ?_ ?_
  · intro L nv w2 he hn hb2 hL
    have gd := pg.out
    rw [he] at gd
    have UN := hid ((hb1.trans (hb2.mono hb1.size)))
    have US := hid (UN.out.size)
    have GD := hid gd
    have HS := hid (Lib.size_eq s)
    have hl : s.size ≤ 6000 := by
      rw [HS.out]
      unfold parse at he
      split at he
      · cases he
      · omega
    clear gd he hb1 hb2 hmx1 pg
    by_cases hL0 : L = []
    · subst hL0
      obtain ⟨na, ncap, rfl⟩ := hn.form
      clear hn hL
      go_wp2_with fail
      go_loopg [36] 0 (fun n i wr => n = 0 ∧ i = .int .i64 0 ∧ Below w.heap.size w wr)
      case atStart => exact ⟨rfl, rfl, UN.out.alloc US.out _⟩
      case round =>
        obtain ⟨_, rfl, hb⟩ := hrel
        go_wp2_with fail
        go_ret
        exact ⟨rfl, hb⟩
    obtain ⟨g, cap, cur, LV, rfl, hg0, hg, hm, ht, hat⟩ := hn.open3 hL0
    have HG := hid hg
    have HM := hid hm
    have HT := hid ht
    have HA := hid hat
    clear hn hL0 hg hm ht hat
    go_wp2_with fail
    go_loopg [36] L.length (fun n i wr => ∃ k, k ≤ L.length ∧ n = L.length - k ∧ i = .int .i64 (k : Int) ∧ Below w2.heap.size w2 wr)
    case atStart => exact ⟨0, Nat.zero_le _, rfl, rfl, (Below.refl _ _).alloc (Nat.le_refl _) _⟩
    case round =>
      obtain ⟨k, hk, hn, rfl, hb⟩ := hrel
      obtain ⟨wo, hwo⟩ : ∃ wo, wo = wr := ⟨_, rfl⟩
      subst hwo
      have GK := hid hn
      clear hn
      by_cases hlt : k < L.length
      · have hgl : g < w2.heap.size := (Array.getElem?_eq_some_iff.1 HG.out).1
        have hg' := (hb.block g hgl).trans HG.out
        have ha' : ∀ p ∈ LV, AtAt wo p.2 p.1.attrs := fun p hp => (HA.out p hp).of (X := fun _ => False) (Kp.below hb _) (fun _ h => h.elim)
        obtain ⟨av, hav, c0, c1, c2, c3, c4, c5⟩ := nd_cells hg' HM.out HT.out ha' hlt
        obtain ⟨o1, o2, o3, o4, o5, o6, o7, o8, o9⟩ := GD.out k hlt
        generalize hnk : L[k] = nk at *
        obtain ⟨nm, pa, ats, ne, f, t⟩ := nk
        simp only at hav c0 c1 c2 c3 c4 c5 o1 o2 o3 o4 o5 o6 o7 o8 o9
        rw [← HS.out] at o3 o8
        obtain ⟨ax, acap, rfl⟩ := hav.form
        have AV := hid hav
        have O6 := hid o6
        have W1 := hid hb
        clear hg' ha' hnk hav o6
        have hbs := bs_size nm
        obtain ⟨q, hq⟩ : ∃ q, ne = q + nm.length + 1 := ⟨ne - nm.length - 1, by omega⟩
        have Q := hid hq
        have d1 : decide ((k : Int) ≤ pa) = false := decide_eq_false (by omega)
        have d2 : decide (pa < -1) = false := decide_eq_false (by omega)
        have d3 : decide (s.size < ne) = false := decide_eq_false (by omega)
        have hnm : nm.length ≤ 6000 := by omega
        have hne : ne ≤ 6000 := by omega
        have d5 : decide (ne < nm.length + 1) = false := decide_eq_false (by omega)
        have d4 : decide ((ne : Int) < (nm.length : Int) + 1) = false := decide_eq_false (by omega)
        have lo1 : 0 ≤ (ne : Int) - nm.length - 1 := by omega
        have lo2 : (ne : Int) - nm.length - 1 ≤ ne := by omega
        have hcmp : ((s.extract (ne - nm.length - 1) ne).toList == ((⟨#[60]⟩ : ByteArray) ++ bs nm).toList) = true := by
          rw [Lib.extract_toList, beq_iff_eq]
          refine Eq.trans (b := [60] ++ nm) o5 ?_
          rw [Lib.toList_data]
          simp [bs]
        have W6 := hid (And.intro o7 o8)
        clear hq
        go_wp2_with fail
        go_quiet (fail)
        clear d1 d2 d3 d4 d5 lo1 lo2 hcmp c0 c1 c2 c3 c4 c5 o1 o2 o3 o4 o5 o7 o8 hbs hnm
        have bX := heap_alloc_new wo (.cells #[.string (bs nm), .int .i64 pa, .slice ax ats.length acap, .int .i64 ne, .int .i64 f, .int .i64 t] 35)
        have hbX : Below wo.heap.size wo (wo.alloc (.cells #[.string (bs nm), .int .i64 pa, .slice ax ats.length acap, .int .i64 ne, .int .i64 f, .int .i64 t] 35)) := (Below.refl _ _).alloc (Nat.le_refl _) _
        generalize (wo.alloc (.cells #[.string (bs nm), .int .i64 pa, .slice ax ats.length acap, .int .i64 ne, .int .i64 f, .int .i64 t] 35)) = W2 at bX hbX ⊢
        have n2 := cell_of bX 2
        simp at n2
        have BX := hid bX
        have zX : wo.heap.size < W2.heap.size := (Array.getElem?_eq_some_iff.1 bX).1
        have AW := hid (AV.out.of (X := fun _ => False) (Kp.below hbX _) (fun _ h => h.elim))
        have BW := hid ((W1.out).trans (hbX.mono W1.out.size))
        clear bX hbX hb
        go_wp2_with fail
        go_loopg [86] ats.length (fun n i wi => ∃ j, j ≤ ats.length ∧ n = ats.length - j ∧ i = .int .i64 (j : Int) ∧ Below W2.heap.size W2 wi)
        case atStart => exact ⟨0, Nat.zero_le _, rfl, rfl, below_drewN' (Below.refl _ _) _⟩
        case round =>
          obtain ⟨j, hj, hn, rfl, hbi⟩ := hrel
          have GJ := hid hn
          have WI := hid hbi
          have bi := (hbi.block _ zX).trans BX.out
          have n3 := cell_of bi 3
          have n4 := cell_of bi 4
          have n5 := cell_of bi 5
          have zi : wo.heap.size < wr.heap.size := Nat.lt_of_lt_of_le zX hbi.size
          simp at n3 n4 n5
          clear hn bi n2
          by_cases hjl : j < ats.length
          · rcases AW.out with ⟨_, h⟩ | ⟨g2, cap2, cur2, hv, q1, q2, q3, q4, q5⟩
            · rw [h] at hjl; simp at hjl
            injection hv with hv1 hv2 hv3
            subst hv1 hv3
            have q1' := (hbi.block g2 (Array.getElem?_eq_some_iff.1 q1).1).trans q1
            have a0 := AtAt.cell q1' q5 hjl 0 (by omega)
            have a1 := AtAt.cell q1' q5 hjl 1 (by omega)
            have a2 := AtAt.cell q1' q5 hjl 2 (by omega)
            have a3 := AtAt.cell q1' q5 hjl 3 (by omega)
            obtain ⟨r1, r2, r3, r4⟩ := O6.out ats[j] (List.getElem_mem hjl)
            rw [← HS.out] at r3
            simp [encA] at a0 a1 a2 a3
            have rl : ats[j].name.length + ats[j].val.length + 4 ≤ 6000 := by
              have := congrArg List.length r4
              rw [sub_len _ r2 (by rw [← HS.out]; exact r3)] at this
              simp at this
              omega
            generalize ats[j] = aj at *
            obtain ⟨an, vl, fr, tt⟩ := aj
            simp only at a0 a1 a2 a3 r1 r2 r3 r4 rl
            have b1 := bs_size an
            have b2 := bs_size vl
            have e1 : decide (fr < ne) = false := decide_eq_false (by omega)
            have e2 : decide (s.size < tt) = false := decide_eq_false (by omega)
            have l1 : an.length ≤ 6000 := by omega
            have l2 : vl.length ≤ 6000 := by omega
            have hcmp : ((s.extract fr tt).toList == ((⟨#[32]⟩ : ByteArray) ++ bs an ++ ⟨#[61, 34]⟩ ++ bs vl ++ ⟨#[34]⟩).toList) = true := by
              rw [Lib.extract_toList, beq_iff_eq]
              refine Eq.trans r4 ?_
              rw [Lib.toList_data]
              simp [bs]
            have zn : ¬ wo.heap.size = wr.heap.size := by omega
            have zn' : ¬ wr.heap.size = wo.heap.size := by omega
            have n3a := cell_alloc n3
            clear q1 q1' q2 q3 q4 q5 r4 rl hbi
            go_wp2_with fail
            go_quiet (fail)
            go_wp2_with fail
            go_roundg (ats.length - (j + 1))
            case measure => have := GJ.out; omega
            case rel => exact ⟨j + 1, by omega, rfl, by go_num, below_drewN' (WI.out.alloc WI.out.size _) _⟩
          · obtain ⟨o7, o8⟩ := W6.out
            go_wp2_with fail
            go_roundg (L.length - (k + 1))
            case measure => have := GK.out; omega
            case rel => exact ⟨k + 1, by omega, rfl, by go_num, BW.out.trans (WI.out.mono (by have := BW.out.size; omega))⟩
      · go_wp2_with fail
        go_ret
        exact ⟨rfl, UN.out.trans (hb.mono US.out)⟩
  · intro x w2 he hb2
    have gd := pg.out
    rw [he] at gd
    have hx : (x.2 : Int) ≤ s.size := by rw [Lib.size_eq]; exact_mod_cast gd
    have UN := hid ((hb1.trans (hb2.mono hb1.size)))
    have US := hid (UN.out.size)
    obtain ⟨xe, xa⟩ := x
    simp only at hx
    clear gd he hb1 hb2 hmx1
    by_cases hxe : ((xe : Int) != 0) = true
    · go_wp2_with fail
      go_ret
      exact ⟨rfl, UN.out.alloc US.out _⟩
    · have hxe' : ((xe : Int) != 0) = false := by simpa using hxe
      clear hxe
      go_wp2_with fail
      go_loopg [36] 0 (fun n i wr => n = 0 ∧ i = .int .i64 0 ∧ Below w.heap.size w wr)
      case atStart => exact ⟨rfl, rfl, UN.out.alloc US.out _⟩
      case round =>
        obtain ⟨_, rfl, hb⟩ := hrel
        go_wp2_with fail
        go_ret
        exact ⟨rfl, hb⟩
end Go.Proofs.Ytanedepdhbdcgaa
