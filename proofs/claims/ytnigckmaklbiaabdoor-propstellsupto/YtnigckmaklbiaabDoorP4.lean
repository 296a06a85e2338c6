/-
  What All answers: the plain answer; and SameDecls of the statements, where both slices hold the same: true. Conditions: at most 2^20 declarations, texts of at most 2^20 bytes; the two tables hold what their texts say.
-/
import Derived.Test.YtnigckmaklbiaabDoorP3
namespace Go.Proofs.YtnigckmaklbiaabDoor
open Go.RowKit

set_option maxRecDepth 100000 in
set_option maxHeartbeats 4000000 in
theorem all_any (lv : Value) (l : List Dc) (w : World) (hl : DsAt w lv l) (hs : SmDs l) (hT : Tab w) :
    Calls Tryd.prog 14 #[lv] w fun e w' => Ans w' e (allB l) ∧ Below w.heap.size w w' := by
  obtain ⟨sa, sc, rfl⟩ := Sl.form hl
  have HL := hid hl
  have HS := hid hs.2
  have HT := hid hT
  have hll := hs.1
  unfold lim at hll
  clear hl hs hT
  go_enter Tryd.func14, Tryd.ntmps14
  go_wp2_with fail
  go_loopg [4, 11] l.length (fun n v i wr => ∃ (k : Nat) (A : List Dc), n = l.length - k ∧ k ≤ l.length ∧ i = .int .i64 (k : Int) ∧ allB (l.take k) = some A ∧ wr.ownsRow w.heap.size 52 3 v A.length (A.flatMap encD) ∧ Below w.heap.size w wr)
  case atStart => exact ⟨0, [], rfl, Nat.zero_le _, rfl, rfl, World.ownsRow_nil _ _ _ _, Below.refl _ _⟩
  case round =>
    obtain ⟨k, A, hn, hk, rfl, hA, hO, hB⟩ := hrel
    have GK := hid hn
    have HO := hid hO
    have HB := hid hB
    have HA := hid hA
    have hAl := allB_len hA
    have X := Ext.below hB
    have HL' := HL.out.ext X
    have HT' := hid (HT.out.ext X)
    rename World => wo
    obtain ⟨va, vc, rfl⟩ := own_form hO
    clear hn hO hB X hA
    have hAs : A.length ≤ 4194304 := by simp at hAl; omega
    clear hAl
    by_cases hlt : k < l.length
    · obtain ⟨b, off, rfl, he⟩ := Sl.at HL' hlt
      obtain ⟨c0, c1, c2⟩ := he.cells
      have HSk := hid (HS.out l[k] (List.getElem_mem hlt))
      have HN1 := hid (allB_next hlt HA.out)
      have HN2 := hid (fun h => allB_none hlt HA.out h)
      clear he HL'
      generalize l[k] = d at *
      obtain ⟨nm, vl, st⟩ := d
      simp only at c0 c1 c2
      go_wp2_with fail
      have HBa : Hid (Below w.heap.size w (wo.alloc (.cells #[.string nm, .string vl, .bool st] 52))) := HB.out.alloc HB.out.size _
      have HTa := hid (HT'.out.ext (ext_alloc wo (.cells #[.string nm, .string vl, .bool st] 52)))
      have HOa := hid (HO.out.alloc (.cells #[.string nm, .string vl, .bool st] 52))
      generalize wo.alloc (.cells #[.string nm, .string vl, .bool st] 52) = w1 at *
      refine (expand_any ⟨nm, vl, st⟩ w1 HSk.out HTa.out).mono ?_
      rintro e w2 ⟨hX, hb2⟩
      have HB2 := hid (below_trans HBa.out hb2 (Nat.le_refl _))
      have HO2 := hid (own_ext HOa.out hb2)
      clear hb2 HOa HBa HTa
      cases hx : expB ⟨nm, vl, st⟩ with
      | none =>
        rw [hx] at hX
        obtain rfl : e = .returned badV := hX
        have HF := hid (HN2.out hx)
        simp only [badV]
        clear hx
        go_wp2_with fail
        go_ret2
        rw [HF.out]
        exact ⟨rfl, HB2.out⟩
      | some x =>
        rw [hx] at hX
        obtain ⟨xa, xc, rfl, hD⟩ := hX
        have HF : Hid (allB (l.take (k + 1)) = some (A ++ x)) := by
          show _ = _
          rw [HN1.out, hx]; rfl
        have hxl := expB_len hx
        have HSR := hid (DsAt.src hD)
        clear hx hD
        go_wp2_with (at_builtin; refine wpList_app rfl (.tmp 23) (.tmp 24) 33 rfl w.heap.size 52 _ 3 40 Tryd.underlying33 Tryd.infoD rfl (by decide) (.slice va A.length vc) A.length (A.flatMap encD) rfl HO2.out _ x.length (x.flatMap encD) rfl HSR.out (by rw [flat_len 3 encD (fun _ => rfl)]) (one_D _) (by unfold maxLen; omega) (by omega) HB2.out.size ?_; intro v3 w3 hv3 hg3)
        have HB3 : Hid (Below w.heap.size w w3) := HB2.out.grown hg3 HB2.out.size (fun j hj => (HO2.out.lt j hj).1)
        have HO3 : Hid (w3.ownsRow w.heap.size 52 3 v3 (A ++ x).length ((A ++ x).flatMap encD)) := by
          show World.ownsRow _ _ _ _ _ _ _
          rw [List.length_append, List.flatMap_append]
          exact hv3
        clear hv3 hg3
        go_roundg (l.length - (k + 1))
        case measure => have := GK.out; omega
        case rel => exact ⟨k + 1, A ++ x, rfl, by omega, by go_num, HF.out, HO3.out, HB3.out⟩
    · have HE : Hid (allB l = some A) := by
        show _ = _
        have := HA.out
        rw [List.take_of_length_le (by omega)] at this
        exact this
      clear HL'
      go_wp2_with fail
      go_ret2
      rw [HE.out]
      exact ⟨⟨va, vc, rfl, DsAt.own HO.out⟩, HB.out⟩

set_option maxHeartbeats 2000000 in
theorem sameDecls_any (l : List Dc) (u1 u2 : Value) (w : World) (hL : l.length ≤ 4194304) (h1 : DsAt w u1 l) (h2 : DsAt w u2 l) :
    Calls Tryd.prog 16 #[u1, u2] w fun e w' => e = .returned (.bool true) ∧ ∃ n, w' = w.drewN n := by
  obtain ⟨a1, c1, rfl⟩ := Sl.form h1
  obtain ⟨a2, c2, rfl⟩ := Sl.form h2
  have H1 := hid h1
  have H2 := hid h2
  clear h1 h2
  go_enter Tryd.func16, Tryd.ntmps16
  go_wp2_with fail
  go_loopg [13] l.length (fun n i wr => ∃ k, k ≤ l.length ∧ n = l.length - k ∧ i = .int .i64 (k : Int) ∧ ∃ m, wr = w.drewN m)
  case atStart => exact ⟨0, Nat.zero_le _, rfl, rfl, 0, rfl⟩
  case round =>
    obtain ⟨k, hk, hn, rfl, m, rfl⟩ := hrel
    have GK := hid hn
    clear hn
    by_cases hlt : k < l.length
    · obtain ⟨b1, o1, rfl, p⟩ := Sl.at H1.out hlt
      obtain ⟨b2, o2, rfl, q⟩ := Sl.at H2.out hlt
      obtain ⟨p0, p1, p2⟩ := p.cells
      obtain ⟨q0, q1, q2⟩ := q.cells
      clear p q
      generalize l[k] = d at *
      obtain ⟨nm, vl, st⟩ := d
      simp only at p0 p1 p2 q0 q1 q2
      have e52 := sneq52 nm vl st
      have g52 := eg52
      go_wp2_with fail
      go_quiet (fail)
      go_wp2_with fail
      go_roundg (l.length - (k + 1))
      case measure => have := GK.out; omega
      case rel => exact ⟨k + 1, by omega, rfl, by go_num, _, rfl⟩
    · go_wp2_with fail
      go_ret
      exact ⟨rfl, m, rfl⟩
end Go.Proofs.YtnigckmaklbiaabDoor
