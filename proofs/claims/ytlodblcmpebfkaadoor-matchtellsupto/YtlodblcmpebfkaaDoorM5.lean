/-
  What asAsked and joined's loop answer: the plain answers. Conditions: the elements, the numbers and the part lie as they must, at most 2^20 of each; the numbers are elements'.
-/
import Derived.Test.YtlodblcmpebfkaaDoorM4
namespace Go.Proofs.YtlodblcmpebfkaaDoor
open Go.RowKit

theorem info_parts {t : TypeId} {z : Value} {n m : Nat} (h : (Tryd.prog.info? t).map (fun i => (i.zero, i.size, i.bytes)) = some (some z, n, m)) : ∃ i, Tryd.prog.info? t = some i ∧ i.zero = some z ∧ i.size = n ∧ i.bytes = m := by
  cases hi : Tryd.prog.info? t with
  | none => rw [hi] at h; cases h
  | some i => rw [hi] at h; simp at h; exact ⟨i, rfl, h.1, h.2.1, h.2.2⟩
theorem Tryd.infoI : (Tryd.prog.info? 3).map (fun i => (i.zero, i.size, i.bytes)) = some (some (.int .i64 0), 1, 8) := by kernel_rfl

theorem below_grown {B : Nat} {a w w' : World} {o : Obj} {base : Nat} {e : TypeId} {size n : Nat} {v : Value} {xs : List Value} (h : Below B a w) (hB : B ≤ w.heap.size) (ho : w.ownsRow base e size v n xs) (hb : B ≤ base) (hg : (w.alloc o).grownBy w' v.ownBlock) : Below B a w' :=
  (h.alloc hB o).grown hg (by simp; omega) (fun k hk => by have := ho.lt k hk; omega)

set_option maxRecDepth 100000 in
set_option maxHeartbeats 2000000 in
theorem asAsked_any (lv : Value) (l : List Nd) (iv : Value) (ks : List Nat) (p : Pt) (tv : Value) (w : World) (hl : NdsAt w lv l) (hs : SmNs l) (hm : Mx w) (hi : IsAt w iv ks) (hkl : ks.length ≤ lim) (hin : ∀ x ∈ ks, x < l.length) (ht : TsAt w tv p.tests) (hts : p.tests.length ≤ lim) :
    Calls Tryd.prog 21 #[lv, iv, partV p tv] w fun e w' => ∃ v, e = .returned v ∧ IsAt w' v (ks.filter (partB l · p)) ∧ Below w.heap.size w w' := by
  obtain ⟨ia, icap, rfl⟩ := Sl.form hi
  obtain ⟨ta, tcap, rfl⟩ := Sl.form ht
  have HT := hid ht
  have HL := hid hl
  have HS := hid hs
  have HM := hid hm
  have HI := hid hi
  have HIN := hid hin
  have HTS := hid hts
  unfold lim at hkl
  obtain ⟨i0, hi', hz0, hz1, hz2⟩ := info_parts Tryd.infoI
  have HJ := hid hi'
  have HZ : Hid (i0.zero = some (.int .i64 0) ∧ i0.size = 1 ∧ i0.bytes = 8) := ⟨hz0, hz1, hz2⟩
  clear ht hl hs hm hi hin hts hi' hz0 hz1 hz2
  simp only [partV]
  go_enter Tryd.func21, Tryd.ntmps21
  go_wp2_with fail
  have HW : Hid (Below w.heap.size w (w.alloc (.cells #[.int .i64 p.join, .slice ta p.tests.length tcap] 45))) := (Below.refl _ _).alloc (Nat.le_refl _) _
  have d0 : (w.alloc (.cells #[.int .i64 p.join, .slice ta p.tests.length tcap] 45)).cell? ⟨w.heap.size, 0, none⟩ = some (.int .i64 p.join) := by rw [cell_new]; rfl
  have d1 : (w.alloc (.cells #[.int .i64 p.join, .slice ta p.tests.length tcap] 45)).cell? ⟨w.heap.size, 1, none⟩ = some (.slice ta p.tests.length tcap) := by rw [cell_new]; rfl
  have hsz : Hid (w.heap.size < (w.alloc (.cells #[.int .i64 p.join, .slice ta p.tests.length tcap] 45)).heap.size) := by show _ < _; simp
  generalize w.alloc (.cells #[.int .i64 p.join, .slice ta p.tests.length tcap] 45) = W at *
  have D0 := hid d0
  have D1 := hid d1
  clear d0 d1
  go_loopg [7, 12] ks.length (fun n v i wr => ∃ k : Nat, n = ks.length - k ∧ k ≤ ks.length ∧ i = .int .i64 (k : Int) ∧ wr.ownsRow W.heap.size 3 1 v ((ks.take k).filter (partB l · p)).length (((ks.take k).filter (partB l · p)).map encI) ∧ Below W.heap.size W wr)
  case atStart => exact ⟨0, rfl, Nat.zero_le _, rfl, World.ownsRow_nil _ _ _ _, Below.refl _ _⟩
  case round =>
    obtain ⟨k, hn, hk, rfl, hO, hB⟩ := hrel
    have GK := hid hn
    have HB := hid hB
    have HO := hid hO
    have HX := hid (HW.out.trans (HB.out.mono (Nat.le_of_lt hsz.out)))
    obtain ⟨va, vc, rfl⟩ := own_form hO
    clear hn hB hO
    by_cases hlt : k < ks.length
    · obtain ⟨b, off, rfl, he⟩ := Sl.at (IsAt.ext HI.out (Ext.below HX.out)) hlt
      have c0 : wr.cell? ⟨b, off + k, none⟩ = some (.int .i64 (ks[k] : Int)) := by
        have h : wr.cell? ⟨b, off + k * 1 + 0, none⟩ = _ := he
        rw [show off + k * 1 + 0 = off + k by omega] at h
        exact h
      have hx := HIN.out ks[k] (List.getElem_mem hlt)
      have e0 : wr.cell? ⟨w.heap.size, 0, none⟩ = some (.int .i64 p.join) := by rw [HB.out.cell (p := ⟨w.heap.size, 0, none⟩) hsz.out]; exact D0.out
      have e1 : wr.cell? ⟨w.heap.size, 1, none⟩ = some (.slice ta p.tests.length tcap) := by rw [HB.out.cell (p := ⟨w.heap.size, 1, none⟩) hsz.out]; exact D1.out
      have HF : Hid ((ks.take (k + 1)).filter (partB l · p) = (ks.take k).filter (partB l · p) ++ if partB l ks[k] p then [ks[k]] else []) := by
        show _ = _
        rw [List.take_succ_eq_append_getElem hlt, List.filter_append]
        simp [List.filter_cons]
      have hfl : ((ks.take k).filter (partB l · p)).length ≤ k := Nat.le_trans (List.length_filter_le _ _) (List.length_take_le _ _)
      generalize ks[k] = x at *
      generalize (ks.take k).filter (partB l · p) = fs at *
      clear he
      go_wp2_with fail
      refine (isAsPart_any lv l x p _ _ (HL.out.ext (Ext.below HX.out)) HS.out hx (HM.out.ext (Ext.below HX.out)) (HT.out.ext (Ext.below HX.out)) HTS.out).mono ?_
      rintro e w2 ⟨rfl, hb⟩
      have HB2 := hid (below_trans HB.out hb (Nat.le_refl _))
      have HO2 := hid (own_ext HO.out hb)
      clear hb
      rcases htb : partB l x p
      · have HR3 : Hid ((ks.take (k + 1)).filter (partB l · p) = fs) := by
          show _ = fs
          have := HF.out; rw [htb] at this; simpa using this
        go_wp2_with fail
        go_roundg (ks.length - (k + 1))
        case measure => have := GK.out; omega
        case rel => exact ⟨k + 1, rfl, by omega, by go_num, by rw [HR3.out]; exact HO2.out, HB2.out⟩
      · have HR3 : Hid ((ks.take (k + 1)).filter (partB l · p) = fs ++ [x]) := by
          show _ = fs ++ [x]
          have := HF.out; rw [htb] at this; simpa using this
        have hbase : W.heap.size ≤ w2.heap.size := HB2.out.size
        go_wp2_with (at_builtin; refine wpList_append_lies _ rfl (.tmp 20) (.tmp 22) 56 rfl W.heap.size 3 i0 (.int .i64 0) 1 8 Tryd.underlying56 HJ.out HZ.out.1 HZ.out.2.1 HZ.out.2.2 rfl (by decide) (.slice va fs.length vc) fs.length (fs.map encI) rfl (World.ownsRow.alloc HO2.out _) ⟨w2.heap.size, 0, none⟩ 1 1 [encI x] rfl rfl (World.news_of_block (heap_alloc_new w2 _)) (by simp [encI, Value.oneCell']) (by decide) (by unfold maxLen; omega) (by omega) (by simp; omega) _ rfl ?_; intro gg cap w6 hown hgrow hat hlt6)
        have HB6 := hid (below_grown HB2.out hbase HO2.out (Nat.le_refl _) hgrow)
        have HO6 : Hid (w6.ownsRow W.heap.size 3 1 (.slice (some ⟨gg, 0, none⟩) (fs.length + 1) cap) (fs ++ [x]).length ((fs ++ [x]).map encI)) := by
          show World.ownsRow _ _ _ _ _ _ _
          simpa using hown
        clear hown hgrow hat hlt6
        go_roundg (ks.length - (k + 1))
        case measure => have := GK.out; omega
        case rel => exact ⟨k + 1, rfl, by omega, by go_num, by rw [HR3.out]; exact HO6.out, HB6.out⟩
    · have HR3 : Hid (ks.take k = ks) := by
        show ks.take k = ks
        rw [List.take_of_length_le (by omega)]
      go_wp2_with fail
      go_ret
      refine ⟨.slice va ((ks.take k).filter (partB l · p)).length vc, rfl, ?_, HX.out⟩
      have := IsAt.own HO.out
      rw [HR3.out] at this ⊢
      exact this
end Go.Proofs.YtlodblcmpebfkaaDoor
