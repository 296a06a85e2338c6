/-
  What allAbove answers: each element above one of these, once. Conditions: the elements and the numbers lie as they must, at most 2^20 of each; the numbers are elements'.
-/
import Derived.Test.YtlodblcmpebfkaaDoorM5
import Derived.Test.YtlodblcmpebfkaaDoorMUp
namespace Go.Proofs.YtlodblcmpebfkaaDoor
open Go.RowKit

theorem Tryd.infoB : (Tryd.prog.info? 4).map (fun i => (i.zero, i.size, i.bytes)) = some (some (.bool false), 1, 1) := by kernel_rfl

/-- The marks: which numbers were told. -/
def TB (w : World) (T n : Nat) (os : List Nat) : Prop := ∃ cur, w.heap[T]? = some (.cells cur 4 (0, 0)) ∧ cur.size = n ∧ ∀ j, j < n → cur[j]? = some (.bool (decide (j ∈ os)))
theorem TB.cell {w : World} {T n : Nat} {os : List Nat} (h : TB w T n os) {j : Nat} (hj : j < n) : w.cell? ⟨T, j, none⟩ = some (.bool (decide (j ∈ os))) := by
  obtain ⟨cur, h1, h2, h3⟩ := h
  rw [← h3 j hj]
  unfold World.cell?
  rw [h1]; rfl
theorem TB.fz {w : World} {T n : Nat} {os : List Nat} (h : TB w T n os) (j : Nat) : w.frozen? ⟨T, j, none⟩ = false := by
  obtain ⟨cur, h1, h2, h3⟩ := h
  simp [World.frozen?, h1]
theorem TB.lt {w : World} {T n : Nat} {os : List Nat} (h : TB w T n os) : T < w.heap.size := by
  obtain ⟨cur, h1, _⟩ := h
  exact (Array.getElem?_eq_some_iff.1 h1).1
theorem TB.keep {w w' : World} {T n : Nat} {os : List Nat} (h : TB w T n os) (e : w'.heap[T]? = w.heap[T]?) : TB w' T n os := by
  obtain ⟨cur, h1, h2, h3⟩ := h
  exact ⟨cur, by rw [e]; exact h1, h2, h3⟩
theorem TB.set {w : World} {T n : Nat} {os : List Nat} (h : TB w T n os) {u : Nat} (hu : u < n) : TB (w.setCell ⟨T, u, none⟩ (.bool true)) T n (os ++ [u]) := by
  obtain ⟨cur, h1, h2, h3⟩ := h
  refine ⟨cur.setIfInBounds u (.bool true), ?_, by simpa using h2, fun j hj => ?_⟩
  · simp [World.setCell, Array.getElem?_modify, h1]
  · rw [Array.getElem?_setIfInBounds]
    by_cases e : u = j
    · subst e
      rw [if_pos rfl, if_pos (by omega)]
      simp
    · rw [if_neg e, h3 j hj]
      have e' : ¬ j = u := fun h => e h.symm
      simp [e']
theorem TB.made {w w' : World} {T n : Nat} (h : w'.ownsRow w.heap.size 4 1 (.slice (some ⟨T, 0, none⟩) n n) n (madeCells #[.bool false] (n * 1)).toList) : TB w' T n [] := by
  rcases h.2 with ⟨h1, h2⟩ | ⟨g, cap', cur, h0, hb, h1, h2, h3, h4, h5⟩
  · cases h1
  · injection h0 with h0 _ h0c
    injection h0 with h0
    injection h0 with h0
    subst h0 h0c
    refine ⟨cur, h1, ?_, fun j hj => ?_⟩
    · simpa using h4
    · have h6 : (cur.toList.take (n * 1))[j]? = (madeCells #[.bool false] (n * 1)).toList[j]? := by rw [h5]
      rw [List.getElem?_take, if_pos (by omega)] at h6
      rw [Array.getElem?_toList, Array.getElem?_toList] at h6
      rw [h6]
      simp [madeCells, hj, Nat.mod_one]

set_option maxRecDepth 100000 in
set_option maxHeartbeats 4000000 in
theorem allAbove_any (lv : Value) (l : List Nd) (iv : Value) (ks : List Nat) (w : World) (hl : NdsAt w lv l) (hs : l.length ≤ lim) (hi : IsAt w iv ks) (hkl : ks.length ≤ lim) (hin : ∀ x ∈ ks, x < l.length) :
    Calls Tryd.prog 26 #[lv, iv] w fun e w' => ∃ v os, e = .returned v ∧ Gat l ks ks.length os ∧ IsAt w' v os ∧ Below w.heap.size w w' := by
  obtain ⟨ia, icap, rfl⟩ := Sl.form hi
  obtain ⟨la, lcap, rfl⟩ := Sl.form hl
  have HL := hid hl
  have HI := hid hi
  have HIN := hid hin
  unfold lim at hkl hs
  obtain ⟨i0, hi', hz0, hz1, hz2⟩ := info_parts Tryd.infoI
  have HJ := hid hi'
  have HZ : Hid (i0.zero = some (.int .i64 0) ∧ i0.size = 1 ∧ i0.bytes = 8) := ⟨hz0, hz1, hz2⟩
  obtain ⟨i1, hi1, hy0, hy1, hy2⟩ := info_parts Tryd.infoB
  have HJ1 := hid hi1
  have HZ1 : Hid (i1.zero = some (.bool false) ∧ i1.size = 1 ∧ i1.bytes = 1) := ⟨hy0, hy1, hy2⟩
  clear hl hi hin hi' hz0 hz1 hz2 hi1 hy0 hy1 hy2
  go_enter Tryd.func26, Tryd.ntmps26
  go_wp2_with (at_make; refine wpList_make_full _ rfl _ _ 32 rfl w.heap.size 4 i1 (.bool false) 1 Tryd.underlying32 HJ1.out HZ1.out.1 HZ1.out.2.1 _ _ _ _ l.length rfl rfl rfl rfl (by rw [HZ1.out.2.2]; omega) (by unfold maxLen; omega) (Nat.le_refl _) ?_; intro W hown hgrow)
  have HW : Hid (Below w.heap.size w W) := (Below.refl _ _).grown hgrow (Nat.le_refl _) (by simp)
  have hT := TB.made (w := w) hown
  have HT := hid hT
  have HTl := hid hT.lt
  clear hown hgrow hT
  go_loopg [5, 15] ks.length (fun n v i wr => ∃ (k : Nat) (os : List Nat), n = ks.length - k ∧ k ≤ ks.length ∧ i = .int .i64 (k : Int) ∧ Gat l ks k os ∧ TB wr w.heap.size l.length os ∧ wr.ownsRow (w.heap.size + 1) 3 1 v os.length (os.map encI) ∧ Below w.heap.size w wr)
  case atStart => exact ⟨0, [], rfl, Nat.zero_le _, rfl, Gat.zero _ _, HT.out, World.ownsRow_nil _ _ _ _, HW.out⟩
  case round =>
    obtain ⟨k, os, hn, hk, rfl, hG, hT, hO, hB⟩ := hrel
    have GK := hid hn
    have HB := hid hB
    have HG := hid hG
    have HO := hid hO
    have HT := hid hT
    rename World => wo
    obtain ⟨va, vc, rfl⟩ := own_form hO
    clear hn hB hO hG hT
    by_cases hlt : k < ks.length
    · obtain ⟨b, off, rfl, he⟩ := Sl.at (IsAt.ext HI.out (Ext.below HB.out)) hlt
      have c0 : wo.cell? ⟨b, off + k, none⟩ = some (.int .i64 (ks[k] : Int)) := by
        have h : wo.cell? ⟨b, off + k * 1 + 0, none⟩ = _ := he
        rw [show off + k * 1 + 0 = off + k by omega] at h
        exact h
      have hx := HIN.out ks[k] (List.getElem_mem hlt)
      generalize hk0 : ks[k] = k0 at *
      have HE := hid hk0
      clear hk0 he
      obtain ⟨b2, off2, rfl, hd⟩ := Sl.at (NdsAt.ext HL.out (Ext.below HB.out)) hx
      have c1 := hd.c1
      have hp : par l k0 = l[k0].parent := by simp [par, ndAt_eq hx]
      rw [← hp] at c1
      clear hp hd
      go_wp2_with fail
      go_loopg [5, 8, 9] k0 (fun n v kv uv wr => ∃ (q : Nat) (os' : List Nat), n = q ∧ kv = .int .i64 (q : Int) ∧ uv = .int .i64 (par l q) ∧ Way l os k0 os' q ∧ TB wr w.heap.size l.length os' ∧ wr.ownsRow (w.heap.size + 1) 3 1 v os'.length (os'.map encI) ∧ Below w.heap.size w wr)
      case atStart => exact ⟨k0, os, rfl, rfl, rfl, Way.start HG.out hx, HT.out, HO.out, HB.out⟩
      case round =>
        clear c0 c1 hx HO HT HB
        obtain ⟨q, os', hn, rfl, rfl, hG2, hT, hO, hB⟩ := hrel
        have GQ := hid hn
        have HB := hid hB
        have HG2 := hid hG2
        have HO := hid hO
        have HT := hid hT
        have hql := hG2.kl
        have hol := hG2.len
        have hTl := hT.lt
        obtain ⟨va, vc, rfl⟩ := own_form hO
        clear hn hB hO hG2 hT
        by_cases hr : 0 ≤ par l q ∧ par l q < q
        · obtain ⟨u, hu⟩ : ∃ u : Nat, par l q = u := ⟨(par l q).toNat, by omega⟩
          have HU := hid hu
          rw [hu] at hr ⊢
          clear hu
          have huq : u < q := by omega
          have d0 := HT.out.cell (show u < l.length by omega)
          have f0 := HT.out.fz u
          by_cases hm : u ∈ os'
          · have HE2 : Hid (Gat l ks (k + 1) os') := HG2.out.done HG.out hlt HE.out (HG2.out.end2 HG.out HU.out huq hm)
            rw [decide_eq_true hm] at d0
            clear hm
            go_wp2_with fail
            go_roundg (ks.length - (k + 1))
            case measure => have := GK.out; omega
            case rel => exact ⟨k + 1, os', rfl, by omega, by go_num, HE2.out, HT.out, HO.out, HB.out⟩
          · have HE2 := hid (HG2.out.step HU.out huq hm)
            rw [decide_eq_false hm] at d0
            clear hm
            have HO2 := hid (ownsRow_setCell_below HO.out (a := ⟨w.heap.size, u, none⟩) (Nat.lt_succ_self _) (.bool true))
            have hws : wr.heap.size = (wr.setCell ⟨w.heap.size, u, none⟩ (.bool true)).heap.size := by simp [World.setCell]
            have HWS := hid hws
            have hbase : w.heap.size ≤ wr.heap.size := HB.out.size
            clear hws
            go_wp2_with (at_builtin; refine wpList_append_lies _ rfl (.tmp 47) (.tmp 49) 56 rfl (w.heap.size + 1) 3 i0 (.int .i64 0) 1 8 Tryd.underlying56 HJ.out HZ.out.1 HZ.out.2.1 HZ.out.2.2 rfl (by decide) (.slice va os'.length vc) os'.length (os'.map encI) rfl (World.ownsRow.alloc HO2.out _) ⟨wr.heap.size, 0, none⟩ 1 1 [encI u] rfl rfl (by rw [HWS.out]; exact World.news_of_block (heap_alloc_new _ _)) (by simp [encI, Value.oneCell']) (by decide) (by unfold maxLen; omega) (by omega) (by simp; omega) _ rfl ?_; intro gg cap w6 hown hgrow hat hlt6)
            have HB6 := hid (below_grown (HB.out.setCell (p := ⟨w.heap.size, u, none⟩) (Nat.le_refl _) (.bool true)) (by rw [← HWS.out]; exact hbase) HO2.out (Nat.le_succ _) hgrow)
            have HT6 : Hid (TB w6 w.heap.size l.length (os' ++ [u])) := by
              have hlt2 : w.heap.size < (wr.setCell ⟨w.heap.size, u, none⟩ (.bool true)).heap.size := by rw [← HWS.out]; exact hTl
              refine (HT.out.set (show u < l.length by omega)).keep ?_
              rw [hgrow.block w.heap.size (by simp; omega) (fun e => by have := HO2.out.lt _ e.symm; omega)]
              exact Below.heap_alloc _ _ _ hlt2
            have HO6 : Hid (w6.ownsRow (w.heap.size + 1) 3 1 (.slice (some ⟨gg, 0, none⟩) (os'.length + 1) cap) (os' ++ [u]).length ((os' ++ [u]).map encI)) := by
              show World.ownsRow _ _ _ _ _ _ _
              simpa using hown
            clear hown hgrow hat hlt6 HO2 HWS d0 f0
            have hul : u < l.length := by omega
            obtain ⟨b3, off3, hb3, hd⟩ := Sl.at (NdsAt.ext HL.out (Ext.below HB6.out)) hul
            injection hb3 with hb3
            injection hb3 with hb4 hb5
            subst hb4 hb5
            have c1 := hd.c1
            have hp : par l u = l[u].parent := by simp [par, ndAt_eq hul]
            rw [← hp] at c1
            clear hp hd
            go_quiet (fail)
            go_wp2_with fail
            go_roundg u
            case measure => have := GQ.out; omega
            case rel => exact ⟨u, os' ++ [u], rfl, rfl, rfl, HE2.out, HT6.out, HO6.out, below_dN HB6.out _⟩
        · have HE2 : Hid (Gat l ks (k + 1) os') := HG2.out.done HG.out hlt HE.out (HG2.out.end1 hr)
          generalize par l q = u at *
          by_cases h0 : 0 ≤ u
          · have h1 : ¬ u < (q : Int) := fun h => hr ⟨h0, h⟩
            clear hr
            go_wp2_with fail
            go_roundg (ks.length - (k + 1))
            case measure => have := GK.out; omega
            case rel => exact ⟨k + 1, os', rfl, by omega, by go_num, HE2.out, HT.out, HO.out, HB.out⟩
          · clear hr
            go_wp2_with fail
            go_roundg (ks.length - (k + 1))
            case measure => have := GK.out; omega
            case rel => exact ⟨k + 1, os', rfl, by omega, by go_num, HE2.out, HT.out, HO.out, HB.out⟩
    · have hk2 : k = ks.length := by omega
      have HE2 : Hid (Gat l ks ks.length os) := by
        show Gat _ _ _ _
        rw [← hk2]; exact HG.out
      clear hk2
      go_wp2_with fail
      go_ret
      exact ⟨.slice va os.length vc, os, rfl, HE2.out, IsAt.own HO.out, HB.out⟩
end Go.Proofs.YtlodblcmpebfkaaDoor
