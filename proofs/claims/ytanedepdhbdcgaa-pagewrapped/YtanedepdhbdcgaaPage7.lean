/-
  What items of package page does: the plain answer of the Spec text, or its fault. Conditions: the text has at most 6000 bytes; the cell of internal/bytealg.MaxLen holds some int.
-/
import Derived.Test.YtanedepdhbdcgaaPage6
namespace Go.Proofs.Ytanedepdhbdcgaa
open Go.RowKit

theorem cf46 (args : Array Value) (w : World) : Sem.run Try.prog (callFunc 89 args) w = .ok (.enter 89 args) w := cf_of Try.func89 (by kernel_rfl) (by kernel_rfl) args w

set_option maxHeartbeats 2000000 in
theorem items_any (b : Nat) (s : ByteArray) (base : Nat) (mx : Int) (hl : s.size ≤ 6000) : ∀ f, ItemsAt f b s base mx := by
  intro f
  induction f using Nat.strongRecOn with
  | _ F ih =>
    intro k parent deep L nv w R hF hk hd h120 hb hba hb0 hmx hr hn hok0 hbad0
    have hS : s.size = s.data.toList.length := Lib.size_eq s
    have HS : Hid (s.size = s.data.toList.length) := hS
    have hok := hid hok0
    have hbad := hid hbad0
    have IH := hid ih
    have hlt := hr.lt
    have hrow : ∀ g, nv.ownBlock = some g → base ≤ g ∧ g < w.heap.size := by
      obtain ⟨LV, _, q, _⟩ := hn
      exact q.lt
    have HR := hid hrow
    clear hok0 hbad0 ih hS hrow
    go_enter Try.func75, Try.ntmps75
    go_wp2_with fail
    go_loopg [] F (fun g wr => ∃ (k' : Nat) (L' : List Nd) (nv' : Value), g ≤ F ∧ items g s.data.toList k' parent deep L' = items F s.data.toList k parent deep L ∧ s.size - k' < g ∧ k ≤ k' ∧ k' ≤ s.size ∧ L'.length ≤ 120 ∧
      Rd wr b s k' nv' ∧ NdsAt wr base nv' L' ∧ Step b nv w nv' wr ∧ wr.cell? ⟨0, 0, none⟩ = some (.int .i64 mx))
    case atStart => exact ⟨k, L, nv, Nat.le_refl _, rfl, hF, Nat.le_refl _, hk, h120, hr, hn, Step.ofKp (Kp.refl _ _), hmx⟩
    case round =>
      clear hmx hr hn
      obtain ⟨k', L', nv', hg, hE, hf, hkk, hk', hL', hr', hn', hst, hmx⟩ := hrel
      obtain ⟨g', rfl⟩ : ∃ g', gk = g' + 1 := ⟨gk - 1, by omega⟩
      have E : Hid (items (g' + 1) s.data.toList k' parent deep L' = items F s.data.toList k parent deep L) := hE
      have MX := hid hmx
      have UN : Hid (Below b w wr) := hst.under hlt (fun g h => by have := HR.out g h; omega)
      clear hE hmx
      have h0 := hr'.c0
      have h1 := hr'.c1
      by_cases hend : s.size ≤ k'
      · have EX : Hid (items F s.data.toList k parent deep L = .ok (k', L')) := by
          show items F s.data.toList k parent deep L = .ok (k', L')
          rw [← E.out, items, if_pos (Or.inl (by rw [← HS.out]; exact hend))]
        go_wp2_with (first | (go_at_call 60; refine (ended_yes b s k' _ hend h0 h1).mono ?_; rintro e w' ⟨rfl, n, rfl⟩))
        go_end0
        exact hok.out k' L' nv' _ EX.out (hr'.drewN _) hn' (hst.trans (Step.ofKp ((Kp.refl _ _).drewN _))) hL' hkk hk'
      have hlt' : k' < s.size := by omega
      cases hc : has s.data.toList k' [60, 47] with
      | true =>
        have EX : Hid (items F s.data.toList k parent deep L = .ok (k', L')) := by
          show items F s.data.toList k parent deep L = .ok (k', L')
          rw [← E.out, items, if_pos (Or.inr hc)]
        have HC := hid hc
        clear hc
        go_wp2_with (first | (go_at_call 60; refine (ended_no b s k' _ hlt' h0 h1).mono ?_; rintro e w' ⟨rfl, n, rfl⟩) | (go_at_call 77; refine (has_any b s ⟨#[60, 47]⟩ k' _ hk' ?_ ?_).mono ?_; exact h0; exact h1; rw [show has s.data.toList k' (ByteArray.data ⟨#[60, 47]⟩).toList = true from HC.out]; rintro e w' ⟨rfl, n, rfl⟩))
        go_end0
        exact hok.out k' L' nv' _ EX.out (hr'.drewN _) hn' (hst.trans (Step.ofKp ((Kp.refl _ _).drewN _))) hL' hkk hk'
      | false =>
        have HC := hid hc
        have NE : Hid (¬ (s.data.toList.length ≤ k' ∨ has s.data.toList k' [60, 47] = true)) := by
          have := HS.out
          rintro (h | h)
          · omega
          · rw [hc] at h; cases h
        clear hc
        cases hn1 : has s.data.toList k' [60, 33, 45, 45] with
        | true =>
          have H4 := hid hn1
          have l4 := has_le hn1 (by rw [← HS.out]; omega)
          rw [← HS.out] at l4
          simp only [List.length_cons, List.length_nil, Nat.zero_add] at l4
          clear hn1
          go_wp2_with (first | (go_at_call 60; refine (ended_no b s k' _ hlt' h0 h1).mono ?_; rintro e w' ⟨rfl, n, rfl⟩) | (go_at_call_of 77 (Value.string ⟨#[60, 47]⟩); refine (has_any b s ⟨#[60, 47]⟩ k' _ hk' ?_ ?_).mono ?_; exact h0; exact h1; rw [show has s.data.toList k' (ByteArray.data ⟨#[60, 47]⟩).toList = false from HC.out]; rintro e w' ⟨rfl, n, rfl⟩) | (go_at_call 61; refine (take_yes (T := 93) b s ⟨#[60, 33, 45, 45]⟩ k' nv' _ hk' hl (by show (4 : Nat) ≤ 6000; omega) (hr'.drewN _) H4.out).mono ?_; rintro e w2 ⟨rfl, hr2, hk2'⟩; have hk2 := kp_undrewN hk2'; clear hk2'))
          have hr2' : Rd w2 b s (k' + 4) nv' := hr2
          have h02 := hr2.c0
          have M2 : Hid (w2.cell? ⟨0, 0, none⟩ = some (.int .i64 mx)) := by
            have := hr'.lt
            exact (hk2.cell (j := 0) (by omega) (by omega) 0).trans MX.out
          have n2 := hn'.of hk2 hr'.not35
          have UN2 : Hid (Below b w w2) := UN.out.trans (hk2.under hr'.lt)
          have ST2 : Hid (Step b nv w nv' w2) := hst.trans (Step.ofKp hk2)
          clear hr2 hk2 h0 h1 hst
          cases e4 : pastAt s.data.toList (k' + 4) [45, 45, 62] with
          | none =>
            have EX : Hid (items F s.data.toList k parent deep L = .error (2, s.data.toList.length)) := by
              show items F s.data.toList k parent deep L = .error (2, s.data.toList.length)
              rw [← E.out, items, if_neg NE.out, if_pos H4.out, e4]
            have E4 := hid e4
            clear e4
            go_region_with (first | (go_at_call 86; refine (len_any b s _ ?_).mono ?_; exact h02; rintro e w' ⟨rfl, rfl⟩) | (go_at_call 76; refine (past_no (T := 93) b s ⟨#[45, 45, 62]⟩ (k' + 4) s.size mx nv' _ hl (by omega) ?_ ?_ E4.out).mono ?_; exact hr2'; exact M2.out; rintro e w' ⟨rfl, hb2⟩; refine bear (by exact ⟨rfl, by rw [HS.out]; exact hbad.out (2, s.data.toList.length) _ EX.out (UN2.out.trans ⟨hb2.os, hb2.tape, hb2.output, hb2.size, fun j hj => hb2.block j (Nat.lt_trans hj hr2'.lt)⟩)⟩) ⟨#[], []⟩ w ?_))
            all_goals trivial
          | some m =>
            have lm := pastAt_le e4 (by rw [← HS.out]; omega)
            rw [← HS.out] at lm
            simp only [List.length_cons, List.length_nil, Nat.zero_add] at lm
            obtain ⟨lm1, lm2⟩ := lm
            have EX : Hid (items g' s.data.toList (m + 3) parent deep L' = items F s.data.toList k parent deep L) := by
              show items g' s.data.toList (m + 3) parent deep L' = items F s.data.toList k parent deep L
              rw [← E.out, items, if_neg NE.out, if_pos H4.out, e4]
            have E4 := hid e4
            clear e4
            go_region_with (first | (go_at_call 86; refine (len_any b s _ ?_).mono ?_; exact h02; rintro e w' ⟨rfl, rfl⟩) | (go_at_call 76; refine (past_yes (T := 93) b s ⟨#[45, 45, 62]⟩ (k' + 4) m s.size mx nv' _ hl (by show (3 : Nat) ≤ 6000; omega) (by omega) ?_ ?_ E4.out (by omega)).mono ?_; exact hr2'; exact M2.out; rintro e w3 ⟨rfl, hr3, hk3'⟩; have hk3 : Kp (· = b) w2 w3 := ⟨hk3'.os, hk3'.tape, hk3'.output, hk3'.size, hk3'.block⟩; clear hk3'))
            all_goals
              go_wp2_with fail
              go_roundg g'
              case measure => omega
              case rel => exact ⟨m + 3, L', nv', by omega, EX.out, by omega, by omega, by omega, hL', hr3, n2.of hk3 hr2'.not35, ST2.out.trans (Step.ofKp hk3), (hk3.cell (j := 0) (by have := hr2'.lt; omega) (by omega) 0).trans M2.out⟩
        | false =>
          have H4 := hid hn1
          clear hn1
          cases hn2 : has s.data.toList k' [60] with
          | true =>
            have H6 := hid hn2
            clear hn2
            go_wp2_with (first | (go_at_call 60; refine (ended_no b s k' _ hlt' h0 h1).mono ?_; rintro e w' ⟨rfl, n, rfl⟩) | (go_at_call_of 77 (Value.string ⟨#[60, 47]⟩); refine (has_any b s ⟨#[60, 47]⟩ k' _ hk' ?_ ?_).mono ?_; exact h0; exact h1; rw [show has s.data.toList k' (ByteArray.data ⟨#[60, 47]⟩).toList = false from HC.out]; rintro e w' ⟨rfl, n, rfl⟩) | (go_at_call 61; refine (take_no (T := 93) b s ⟨#[60, 33, 45, 45]⟩ k' nv' _ hk' (hr'.drewN _) H4.out).mono ?_; rintro e w' ⟨rfl, n, rfl⟩) | (go_at_call_of 77 (Value.string ⟨#[60]⟩); refine (has_any b s ⟨#[60]⟩ k' _ hk' ?_ ?_).mono ?_; exact h0; exact h1; rw [show has s.data.toList k' (ByteArray.data ⟨#[60]⟩).toList = true from H6.out]; rintro e w' ⟨rfl, n, rfl⟩))
            refine element_any g' b s base mx (IH.out g' (by omega)) k' parent deep L' nv' _ _ hl hf hk' hd hL' hb (Nat.le_trans hba hst.kp.size) hb0 MX.out (hr'.drewN _) hn' ?_ ?_
            rotate_left
            · intro x w' he hbl
              refine ⟨rfl, hbad.out x _ ?_ (UN.out.trans ⟨hbl.os, hbl.tape, hbl.output, hbl.size, hbl.block⟩)⟩
              rw [← E.out, items, if_neg NE.out, if_neg (by rw [H4.out]; decide), if_pos H6.out, he]
            intro k1 L1 nv1 w5 he hr5 hn5 hst5' hL5 hle1 hle2
            have hst5 : Step b nv' wr nv1 w5 := ⟨kp_undrewN hst5'.kp, hst5'.row⟩
            have EX : Hid (items g' s.data.toList k1 parent deep L1 = items F s.data.toList k parent deep L) := by
              show items g' s.data.toList k1 parent deep L1 = items F s.data.toList k parent deep L
              rw [← E.out, items, if_neg NE.out, if_neg (by rw [H4.out]; decide), if_pos H6.out, he]
            have OW : ∀ g, nv'.ownBlock = some g → base ≤ g := by
              obtain ⟨LV, _, q, _⟩ := hn'
              exact fun g h => (q.lt g h).1
            have M5 := hid ((hst5.kp.cell (j := 0) (by have := hr'.lt; omega) (fun h => h.elim (fun h => by omega) (fun h => by have := OW 0 h.symm; omega)) 0).trans MX.out)
            clear he hst5' OW
            go_wp2_with fail
            go_roundg g'
            case measure => omega
            case rel => exact ⟨k1, L1, nv1, by omega, EX.out, by omega, by omega, by omega, hL5, hr5, hn5, hst.trans hst5, M5.out⟩
          | false =>
            have H6 := hid hn2
            clear hn2
            cases hft : fitsAt s.data.toList k' textB with
            | true =>
              have EX : Hid (items g' s.data.toList (k' + 1) parent deep L' = items F s.data.toList k parent deep L) := by
                show items g' s.data.toList (k' + 1) parent deep L' = items F s.data.toList k parent deep L
                rw [← E.out, items, if_neg NE.out, if_neg (by rw [H4.out]; decide), if_neg (by rw [H6.out]; decide), if_pos hft]
              have FT := hid hft
              clear hft
              go_wp2_with (first | (go_at_call 60; refine (ended_no b s k' _ hlt' h0 h1).mono ?_; rintro e w' ⟨rfl, n, rfl⟩) | (go_at_call_of 77 (Value.string ⟨#[60, 47]⟩); refine (has_any b s ⟨#[60, 47]⟩ k' _ hk' ?_ ?_).mono ?_; exact h0; exact h1; rw [show has s.data.toList k' (ByteArray.data ⟨#[60, 47]⟩).toList = false from HC.out]; rintro e w' ⟨rfl, n, rfl⟩) | (go_at_call 61; refine (take_no (T := 93) b s ⟨#[60, 33, 45, 45]⟩ k' nv' _ hk' (hr'.drewN _) H4.out).mono ?_; rintro e w' ⟨rfl, n, rfl⟩) | (go_at_call_of 77 (Value.string ⟨#[60]⟩); refine (has_any b s ⟨#[60]⟩ k' _ hk' ?_ ?_).mono ?_; exact h0; exact h1; rw [show has s.data.toList k' (ByteArray.data ⟨#[60]⟩).toList = false from H6.out]; rintro e w' ⟨rfl, n, rfl⟩) | (go_at_call 88; refine (needByte_yes (T := 93) 89 textB cf46 tells46 b s k' nv' _ hl (hr'.drewN _) FT.out).mono ?_; rintro e w2 ⟨rfl, hr2, hk2'⟩; have hk2 := kp_undrewN hk2'; clear hk2'))
              go_roundg g'
              case measure => omega
              case rel => exact ⟨k' + 1, L', nv', by omega, EX.out, by omega, by omega, by omega, hL', hr2, hn'.of hk2 hr'.not35, hst.trans (Step.ofKp hk2), (hk2.cell (j := 0) (by have := hr'.lt; omega) (by omega) 0).trans MX.out⟩
            | false =>
              have EX : Hid (items F s.data.toList k parent deep L = .error (2, k')) := by
                show items F s.data.toList k parent deep L = .error (2, k')
                rw [← E.out, items, if_neg NE.out, if_neg (by rw [H4.out]; decide), if_neg (by rw [H6.out]; decide), if_neg (by rw [hft]; decide)]
              have FT := hid hft
              clear hft
              go_wp2_with (first | (go_at_call 60; refine (ended_no b s k' _ hlt' h0 h1).mono ?_; rintro e w' ⟨rfl, n, rfl⟩) | (go_at_call_of 77 (Value.string ⟨#[60, 47]⟩); refine (has_any b s ⟨#[60, 47]⟩ k' _ hk' ?_ ?_).mono ?_; exact h0; exact h1; rw [show has s.data.toList k' (ByteArray.data ⟨#[60, 47]⟩).toList = false from HC.out]; rintro e w' ⟨rfl, n, rfl⟩) | (go_at_call 61; refine (take_no (T := 93) b s ⟨#[60, 33, 45, 45]⟩ k' nv' _ hk' (hr'.drewN _) H4.out).mono ?_; rintro e w' ⟨rfl, n, rfl⟩) | (go_at_call_of 77 (Value.string ⟨#[60]⟩); refine (has_any b s ⟨#[60]⟩ k' _ hk' ?_ ?_).mono ?_; exact h0; exact h1; rw [show has s.data.toList k' (ByteArray.data ⟨#[60]⟩).toList = false from H6.out]; rintro e w' ⟨rfl, n, rfl⟩) | (go_at_call 88; refine (needByte_no (T := 93) 89 textB cf46 tells46 b s k' nv' _ (hr'.drewN _) FT.out).mono ?_; rintro e w2 ⟨rfl, n, rfl⟩))
              exact ⟨rfl, hbad.out (2, k') _ EX.out (below_drewN' UN.out _)⟩
end Go.Proofs.Ytanedepdhbdcgaa
