/-
  What joined answers: the elements to which the join leads. Conditions: the elements and the numbers lie as they must, at most 2^20 of each; the numbers are elements'.
-/
import Derived.Test.YtlodblcmpebfkaaDoorM6
namespace Go.Proofs.YtlodblcmpebfkaaDoor
open Go.RowKit

theorem ups_one {l : List Nd} {k : Nat} {j : Int} (h : j ≠ 1) : ups l k j = if inB l (single l k j) then [(single l k j).toNat] else [] := by
  unfold ups inB
  rw [if_neg h]
  by_cases h0 : 0 ≤ single l k j ∧ single l k j < l.length
  · rw [if_pos h0, if_pos (by simp [h0])]
  · rw [if_neg h0, if_neg (by simpa using h0)]

set_option maxRecDepth 100000 in
set_option maxHeartbeats 4000000 in
theorem joined_any (lv : Value) (l : List Nd) (iv : Value) (ks : List Nat) (j : Int) (w : World) (hl : NdsAt w lv l) (hs : l.length ≤ lim) (hi : IsAt w iv ks) (hkl : ks.length ≤ lim) (hin : ∀ x ∈ ks, x < l.length) :
    Calls Tryd.prog 22 #[lv, iv, .int .i64 j] w fun e w' => ∃ v os, e = .returned v ∧ (∀ x, x ∈ os ↔ ∃ k ∈ ks, x ∈ ups l k j) ∧ os.length ≤ lim ∧ IsAt w' v os ∧ Below w.heap.size w w' := by
  obtain ⟨ia, icap, rfl⟩ := Sl.form hi
  have HL := hid hl
  have HI := hid hi
  have HIN := hid hin
  have HS := hid hs
  have HKL := hid hkl
  unfold lim at hkl
  obtain ⟨i0, hi', hz0, hz1, hz2⟩ := info_parts Tryd.infoI
  have HJ := hid hi'
  have HZ : Hid (i0.zero = some (.int .i64 0) ∧ i0.size = 1 ∧ i0.bytes = 8) := ⟨hz0, hz1, hz2⟩
  clear hl hi hin hi' hz0 hz1 hz2 hs
  by_cases hj : j = 1
  · subst hj
    go_enter Tryd.func22, Tryd.ntmps22
    go_wp2_with fail
    refine (allAbove_any lv l _ ks _ HL.out HS.out HI.out HKL.out HIN.out).mono ?_
    rintro e w2 ⟨v, os, rfl, hG, hI, hB⟩
    have HG := hid hG
    have HI2 := hid hI
    have HB := hid hB
    clear hG hI hB
    go_wp2_with fail
    go_ret
    refine ⟨v, os, rfl, fun x => ?_, Nat.le_trans HG.out.len HS.out, HI2.out, HB.out⟩
    rw [HG.out.eq x, List.take_length]
    simp [ups]
  · have HJ1 := hid hj
    have hj' : (j == 1) = false := by simp [hj]
    clear hj
    go_enter Tryd.func22, Tryd.ntmps22
    go_wp2_with fail
    go_loopg [7, 18] ks.length (fun n v i wr => ∃ (k : Nat) (os : List Nat), n = ks.length - k ∧ k ≤ ks.length ∧ i = .int .i64 (k : Int) ∧ os = (ks.take k).flatMap (ups l · j) ∧ os.length ≤ k ∧ wr.ownsRow w.heap.size 3 1 v os.length (os.map encI) ∧ Below w.heap.size w wr)
    case atStart => exact ⟨0, [], rfl, Nat.zero_le _, rfl, rfl, Nat.zero_le _, World.ownsRow_nil _ _ _ _, Below.refl _ _⟩
    case round =>
      obtain ⟨k, os, hn, hk, rfl, hG, hol, hO, hB⟩ := hrel
      have GK := hid hn
      have HB := hid hB
      have HG := hid hG
      have HO := hid hO
      obtain ⟨va, vc, rfl⟩ := own_form hO
      clear hn hB hO hG
      by_cases hlt : k < ks.length
      · obtain ⟨b, off, rfl, he⟩ := Sl.at (IsAt.ext HI.out (Ext.below HB.out)) hlt
        have c0 : wr.cell? ⟨b, off + k, none⟩ = some (.int .i64 (ks[k] : Int)) := by
          have h : wr.cell? ⟨b, off + k * 1 + 0, none⟩ = _ := he
          rw [show off + k * 1 + 0 = off + k by omega] at h
          exact h
        have hx := HIN.out ks[k] (List.getElem_mem hlt)
        have HF : Hid ((ks.take (k + 1)).flatMap (ups l · j) = os ++ if inB l (single l ks[k] j) then [(single l ks[k] j).toNat] else []) := by
          show _ = _
          rw [List.take_succ_eq_append_getElem hlt, List.flatMap_append, ← HG.out, List.flatMap_cons, List.flatMap_nil, List.append_nil, ups_one HJ1.out]
        generalize ks[k] = x at *
        clear he
        go_wp2_with fail
        refine (single_any lv l x j _ (HL.out.ext (Ext.below HB.out)) HS.out hx).mono ?_
        rintro e w2 ⟨rfl, n2, rfl⟩
        have HB2 := hid (below_dN HB.out n2)
        have HO2 : Hid ((wr.drewN n2).ownsRow w.heap.size 3 1 (.slice va os.length vc) os.length (os.map encI)) := HO.out
        generalize wr.drewN n2 = w2 at *
        go_wp2_with fail
        refine (has_any lv l _ _ (HL.out.ext (Ext.below HB2.out))).mono ?_
        rintro e w3 ⟨rfl, h3⟩
        subst h3
        rcases htb : inB l (single l x j)
        · have HR3 : Hid ((ks.take (k + 1)).flatMap (ups l · j) = os) := by
            show _ = os
            have := HF.out; rw [htb] at this; simpa using this
          go_wp2_with fail
          go_roundg (ks.length - (k + 1))
          case measure => have := GK.out; omega
          case rel => exact ⟨k + 1, os, rfl, by omega, by go_num, HR3.out.symm, by omega, HO2.out, HB2.out⟩
        · have hpos : 0 ≤ single l x j := by simp [inB] at htb; exact htb.1
          obtain ⟨u, hu⟩ : ∃ u : Nat, single l x j = u := ⟨(single l x j).toNat, by omega⟩
          have HR3 : Hid ((ks.take (k + 1)).flatMap (ups l · j) = os ++ [u]) := by
            show _ = os ++ [u]
            have := HF.out; rw [htb, hu] at this; simpa using this
          rw [hu]
          clear hu hpos htb
          have hbase : w.heap.size ≤ w3.heap.size := HB2.out.size
          go_wp2_with (at_builtin; refine wpList_append_lies _ rfl (.tmp 29) (.tmp 31) 56 rfl w.heap.size 3 i0 (.int .i64 0) 1 8 Tryd.underlying56 HJ.out HZ.out.1 HZ.out.2.1 HZ.out.2.2 rfl (by decide) (.slice va os.length vc) os.length (os.map encI) rfl (World.ownsRow.alloc HO2.out _) ⟨w3.heap.size, 0, none⟩ 1 1 [encI u] rfl rfl (World.news_of_block (heap_alloc_new w3 _)) (by simp [encI, Value.oneCell']) (by decide) (by unfold maxLen; omega) (by omega) (by simp; omega) _ rfl ?_; intro gg cap w6 hown hgrow hat hlt6)
          have HB6 := hid (below_grown HB2.out hbase HO2.out (Nat.le_refl _) hgrow)
          have HO6 : Hid (w6.ownsRow w.heap.size 3 1 (.slice (some ⟨gg, 0, none⟩) (os.length + 1) cap) (os ++ [u]).length ((os ++ [u]).map encI)) := by
            show World.ownsRow _ _ _ _ _ _ _
            simpa using hown
          clear hown hgrow hat hlt6
          go_roundg (ks.length - (k + 1))
          case measure => have := GK.out; omega
          case rel => exact ⟨k + 1, os ++ [u], rfl, by omega, by go_num, HR3.out.symm, by simp; omega, HO6.out, HB6.out⟩
      · have HR3 : Hid (os = ks.flatMap (ups l · j)) := by
          show os = _
          rw [HG.out, List.take_of_length_le (by omega)]
        have HOL := hid hol
        clear hol
        go_wp2_with fail
        go_ret
        refine ⟨.slice va os.length vc, os, rfl, fun x => ?_, ?_, IsAt.own HO.out, HB.out⟩
        · rw [HR3.out, List.mem_flatMap]
        · exact Nat.le_trans HOL.out (Nat.le_trans hk HKL.out)
end Go.Proofs.YtlodblcmpebfkaaDoor
