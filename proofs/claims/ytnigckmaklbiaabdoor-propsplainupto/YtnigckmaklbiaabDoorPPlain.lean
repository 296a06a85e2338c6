/-
  The law PropsPlain, walked: it answers true. Conditions: at most 2^18 declarations, texts of at most 2^20 bytes; the two tables hold what their texts say.
-/
import Derived.Test.YtnigckmaklbiaabDoorP6
namespace Go.Proofs.YtnigckmaklbiaabDoor
open Go.RowKit

theorem split_small : ∀ (k : Nat) (s : ByteArray), ∀ y ∈ Lib.splitB blank 0 k s, y.size ≤ s.size
  | 0, s, y, h => by simp [Lib.splitB] at h; rw [h]; exact Nat.le_refl _
  | k + 1, s, y, h => by
    unfold Lib.splitB at h
    split at h
    · simp at h; rw [h]; exact Nat.le_refl _
    · rcases List.mem_cons.1 h with rfl | h
      · simp only [ByteArray.size_extract]; omega
      · have := split_small k _ y h
        simp only [ByteArray.size_extract] at this
        omega
theorem getD_small {l : List ByteArray} {n : Nat} {d : ByteArray} (h : ∀ y ∈ l, y.size ≤ n) (hd : d.size ≤ n) (j : Nat) : (l.getD j d).size ≤ n := by
  by_cases hj : j < l.length
  · have : l.getD j d = l[j] := by simp [List.getD, hj]
    rw [this]
    exact h _ (List.getElem_mem hj)
  · rw [getD_out hj]; exact hd
theorem expB_small {d : Dc} {x : List Dc} (hs : SmD d) (h : expB d = some x) : ∀ y ∈ x, SmD y := by
  unfold expB at h
  split at h
  · split at h
    · cases h
    · injection h with h
      subst h
      have hp : ∀ y ∈ cutB d.val, y.size ≤ d.val.size := split_small _ _
      have e : (⟨#[]⟩ : ByteArray).size ≤ d.val.size := Nat.zero_le _
      have q0 := getD_small hp e 0
      have q1 := getD_small hp q0 1
      have q2 := getD_small hp q0 2
      have q3 := getD_small hp q1 3
      have hv := hs.2
      intro y hy
      simp [fourB] at hy
      rcases hy with rfl | rfl | rfl | rfl
      · exact ⟨show sd0.size ≤ lim by unfold lim; decide, Nat.le_trans q0 hv⟩
      · exact ⟨show sd1.size ≤ lim by unfold lim; decide, Nat.le_trans q1 hv⟩
      · exact ⟨show sd2.size ≤ lim by unfold lim; decide, Nat.le_trans q2 hv⟩
      · exact ⟨show sd3.size ≤ lim by unfold lim; decide, Nat.le_trans q3 hv⟩
  · injection h with h
    subst h
    intro y hy
    simp at hy
    rw [hy]; exact hs
theorem allB_small : ∀ {l a : List Dc}, (∀ d ∈ l, SmD d) → allB l = some a → ∀ y ∈ a, SmD y
  | [], a, _, h => by injection h with h; rw [← h]; simp
  | d :: l, a, hs, h => by
    change (expB d).bind (fun x => (allB l).map (x ++ ·)) = some a at h
    cases hx : expB d with
    | none => rw [hx] at h; cases h
    | some x =>
      cases hy : allB l with
      | none => rw [hx, hy] at h; cases h
      | some y =>
        rw [hx, hy] at h
        injection h with h
        rw [← h]
        intro z hz
        rcases List.mem_append.1 hz with hz | hz
        · exact expB_small (hs d (List.mem_cons_self ..)) hx z hz
        · exact allB_small (fun e he => hs e (List.mem_cons_of_mem _ he)) hy z hz

set_option maxRecDepth 100000 in
set_option maxHeartbeats 8000000 in
theorem propsPlain_any (lv : Value) (l : List Dc) (w : World) (hl : DsAt w lv l) (hn : 4 * l.length ≤ lim) (hs : ∀ d ∈ l, SmD d) (hT : Tab w) :
    Calls Tryd.prog 6 #[lv] w fun e w' => e = .returned (.bool true) ∧ Below w.heap.size w w' := by
  obtain ⟨sa, sc, rfl⟩ := Sl.form hl
  have HL := hid hl
  have HS := hid hs
  have HT := hid hT
  have hll := hn
  unfold lim at hll
  clear hl hs hT hn
  go_enter Tryd.func6, Tryd.ntmps6
  go_wp2_with fail
  refine (alive_any w HT.out).mono ?_
  rintro e w1 ⟨rfl, hb1⟩
  have HB1 := hid hb1
  clear hb1
  go_wp2_with fail
  refine (all_any _ l w1 (HL.out.ext (Ext.below HB1.out)) ⟨by unfold lim; omega, HS.out⟩ (HT.out.ext (Ext.below HB1.out))).mono ?_
  rintro e w2 ⟨hA, hb2⟩
  have HB2 := hid (below_trans HB1.out hb2 (Nat.le_refl _))
  clear hb2 HB1
  cases hx : allB l with
  | none =>
    rw [hx] at hA
    obtain rfl : e = .returned badV := hA
    simp only [badV]
    clear hx
    go_wp2_with fail
    go_ret
    exact ⟨rfl, HB2.out⟩
  | some a =>
    rw [hx] at hA
    obtain ⟨aa, ac, rfl, hD⟩ := hA
    have HX := hid hx
    have hal := allB_len hx
    have HA2 := hid hD
    clear hx hD
    go_wp2_with fail
    refine (all_any _ a w2 HA2.out ⟨by unfold lim; omega, allB_small HS.out HX.out⟩ (HT.out.ext (Ext.below HB2.out))).mono ?_
    rintro e w3 ⟨hA, hb3⟩
    rw [allB_twice HX.out] at hA
    obtain ⟨ba, bc, rfl, hD⟩ := hA
    have HB3 := hid (below_trans HB2.out hb3 (Nat.le_refl _))
    have HA3 := hid (HA2.out.ext (Ext.below hb3))
    have HD3 := hid hD
    clear hb3 HB2 HA2 hD
    go_wp2_with fail
    refine (sameDecls_any a _ _ w3 (by omega) HA3.out HD3.out).mono ?_
    rintro e w4 ⟨rfl, m4, rfl⟩
    have HB4 := hid (below_dN HB3.out m4)
    have HA4 : Hid (DsAt (w3.drewN m4) (.slice aa a.length ac) a) := HA3.out
    generalize w3.drewN m4 = w4 at *
    clear HB3 HA3 HD3
    go_wp2_with fail
    go_loopg [7, 41] l.length (fun n v i wr => ∃ (k : Nat) (C : List Dc), n = l.length - k ∧ k ≤ l.length ∧ i = .int .i64 (k : Int) ∧ allB (l.take k) = some C ∧ wr.ownsRow w4.heap.size 52 3 v C.length (C.flatMap encD) ∧ Below w4.heap.size w4 wr)
    case atStart => exact ⟨0, [], rfl, Nat.zero_le _, rfl, rfl, World.ownsRow_nil _ _ _ _, Below.refl _ _⟩
    case round =>
      obtain ⟨k, C, hn, hk, rfl, hC, hO, hB⟩ := hrel
      have GK := hid hn
      have HO := hid hO
      have HB := hid hB
      have HC := hid hC
      have hCl := allB_len hC
      have HBw := hid (below_trans HB4.out hB (Nat.le_refl _))
      have X := Ext.below HBw.out
      have HL' := HL.out.ext X
      have HT' := hid (HT.out.ext X)
      rename World => wo
      obtain ⟨va, vc, rfl⟩ := own_form hO
      clear hn hO hB X hC
      have hCs : C.length ≤ 1048576 := by simp at hCl; omega
      clear hCl
      by_cases hlt : k < l.length
      · obtain ⟨b, off, rfl, he⟩ := Sl.at HL' hlt
        obtain ⟨c0, c1, c2⟩ := he.cells
        have HSk := hid (HS.out l[k] (List.getElem_mem hlt))
        have HN1 := hid (allB_next hlt HC.out)
        obtain ⟨x, hxk⟩ := allB_each HX.out hlt
        have HXK := hid hxk
        have HD := hid (DB.new wo l[k])
        clear he HL' hxk
        generalize l[k] = d at *
        obtain ⟨nm, vl, st⟩ := d
        simp only at c0 c1 c2 HD
        go_wp2_with fail
        have HBa : Hid (Below w4.heap.size w4 (wo.alloc (.cells #[.string nm, .string vl, .bool st] 52))) := HB.out.alloc HB.out.size _
        have HTa := hid (HT'.out.ext (ext_alloc wo (.cells #[.string nm, .string vl, .bool st] 52)))
        have HOa := hid (HO.out.alloc (.cells #[.string nm, .string vl, .bool st] 52))
        have HDT : Hid (w4.heap.size ≤ wo.heap.size) := HB.out.size
        generalize wo.alloc (.cells #[.string nm, .string vl, .bool st] 52) = w5 at *
        generalize wo.heap.size = T at *
        refine (expand_any ⟨nm, vl, st⟩ w5 HSk.out HTa.out).mono ?_
        rintro e w6 ⟨hX, hb6⟩
        rw [HXK.out] at hX
        obtain ⟨xa, xc, rfl, hD6⟩ := hX
        have HB6 := hid (below_trans HBa.out hb6 (by exact Nat.le_refl _))
        have HO6 := hid (own_ext HOa.out hb6)
        have HD6 := hid (HD.out.below hb6)
        have HX6 := hid hD6
        have hxl := expB_len HXK.out
        have HPL := hid (expB_plain HXK.out)
        clear hb6 HOa HBa HTa hD6 HD
        clear HB HO
        clear HBw HT'
        go_wp2_with fail
        go_loopg [54] x.length (fun n j wr => ∃ q : Nat, n = x.length - q ∧ q ≤ x.length ∧ j = .int .i64 (q : Int) ∧ Below w6.heap.size w6 wr)
        case atStart => exact ⟨0, rfl, Nat.zero_le _, rfl, Below.refl _ _⟩
        case round =>
          obtain ⟨q, hn, hq, rfl, hB⟩ := hrel
          have GQ := hid hn
          have HBq := hid hB
          obtain ⟨_, _, d2⟩ := (HD6.out.below hB).cell
          simp only at d2
          have HXq := HX6.out.ext (Ext.below hB)
          rename World => wq
          clear hn hB
          by_cases hqt : q < x.length
          · obtain ⟨b2, off2, rfl, he⟩ := Sl.at HXq hqt
            obtain ⟨e0, e1, e2⟩ := he.cells
            obtain ⟨hp1, hp2⟩ := HPL.out x[q] (List.getElem_mem hqt)
            rw [isE_eq] at hp1
            have hdl := lt_of_cell d2
            clear he HXq
            generalize x[q] = y at *
            obtain ⟨yn, yv, ys⟩ := y
            simp only at e0 e1 e2 hp1 hp2
            subst hp2
            go_wp2_with fail
            go_roundg (x.length - (q + 1))
            case measure => have := GQ.out; omega
            case rel => exact ⟨q + 1, rfl, by omega, by go_num, HBq.out.alloc HBq.out.size _⟩
          · have HF : Hid (allB (l.take (k + 1)) = some (C ++ x)) := by
              show _ = _
              rw [HN1.out, HXK.out]; rfl
            have HSR := hid (DsAt.src HXq)
            have HOq := hid (own_ext HO6.out HBq.out)
            have HBf := hid (below_trans HB6.out HBq.out (Nat.le_refl _))
            clear HXq d2
            go_wp2_with (at_builtin; refine wpList_app rfl (.tmp 69) (.tmp 70) 33 rfl w4.heap.size 52 _ 3 40 Tryd.underlying33 Tryd.infoD rfl (by decide) (.slice va C.length vc) C.length (C.flatMap encD) rfl HOq.out _ x.length (x.flatMap encD) rfl HSR.out (by rw [flat_len 3 encD (fun _ => rfl)]) (one_D _) (by unfold maxLen; omega) (by omega) HBf.out.size ?_; intro v7 w7 hv7 hg7)
            have HB7 : Hid (Below w4.heap.size w4 w7) := HBf.out.grown hg7 HBf.out.size (fun j hj => (HOq.out.lt j hj).1)
            have HO7 : Hid (w7.ownsRow w4.heap.size 52 3 v7 (C ++ x).length ((C ++ x).flatMap encD)) := by
              show World.ownsRow _ _ _ _ _ _ _
              rw [List.length_append, List.flatMap_append]
              exact hv7
            clear hv7 hg7
            go_roundg (l.length - (k + 1))
            case measure => have := GK.out; omega
            case rel => exact ⟨k + 1, C ++ x, rfl, by omega, by go_num, HF.out, HO7.out, HB7.out⟩
      · have HE : Hid (C = a) := by
          have := HC.out
          rw [List.take_of_length_le (by omega), HX.out] at this
          injection this with this
          exact this.symm
        have HDC := hid (DsAt.own HO.out)
        have HAC := hid (HA4.out.ext (Ext.below HB.out))
        clear HL'
        go_wp2_with fail
        obtain rfl := HE.out
        refine (sameDecls_any _ _ _ _ (by omega) HAC.out HDC.out).mono ?_
        rintro e w8 ⟨rfl, m8, rfl⟩
        have HB8 := hid (below_dN HBw.out m8)
        generalize wo.drewN m8 = w8 at *
        go_wp2_with fail
        go_ret
        exact ⟨rfl, HB8.out⟩
end Go.Proofs.YtnigckmaklbiaabDoor
