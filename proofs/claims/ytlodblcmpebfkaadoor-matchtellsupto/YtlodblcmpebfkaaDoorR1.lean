/-
  What the document's own Get and Ahead answer (packages inkref1): the plain answers. Conditions: the elements and the attributes lie as they must, at most 2^20 of each.
-/
import Derived.Test.YtlodblcmpebfkaaDoorM4
namespace Go.Proofs.YtlodblcmpebfkaaDoor
open Go.RowKit

set_option maxHeartbeats 1000000 in
theorem rget_any (x : Nd) (av : Value) (name : ByteArray) (w : World) (hA : AtsAt w av x.attrs) (hs : SmN x) :
    Calls Tryd.prog 23 #[nodeV x av, .string name] w fun e w' => e = .returned (getV (getA name x.attrs)) ∧ Below w.heap.size w w' := by
  obtain ⟨a, cap, rfl⟩ := Sl.form hA
  obtain ⟨nm, pr, l, ne, fr, tt⟩ := x
  obtain ⟨hl, hv⟩ := hs
  simp only at hA hl hv
  have HL := hid hA
  unfold lim at hl
  clear hA hv
  simp only [nodeV]
  go_enter Tryd.func23, Tryd.ntmps23
  go_wp2_with fail
  have HB0 : Hid (Below w.heap.size w (w.alloc (.cells #[.string nm, .int .i64 pr, .slice a l.length cap, .int .i64 ne, .int .i64 fr, .int .i64 tt] 51))) := (Below.refl _ _).alloc (Nat.le_refl _) _
  have d2 := cell_new w #[.string nm, .int .i64 pr, .slice a l.length cap, .int .i64 ne, .int .i64 fr, .int .i64 tt] 51 2
  have D2 : Hid ((w.alloc (.cells #[.string nm, .int .i64 pr, .slice a l.length cap, .int .i64 ne, .int .i64 fr, .int .i64 tt] 51)).cell? ⟨w.heap.size, 2, none⟩ = some (.slice a l.length cap)) := d2
  clear d2
  generalize w.alloc (.cells #[.string nm, .int .i64 pr, .slice a l.length cap, .int .i64 ne, .int .i64 fr, .int .i64 tt] 51) = W at *
  go_loopg [10] l.length (fun n i wr => ∃ k : Nat, n = l.length - k ∧ k ≤ l.length ∧ i = .int .i64 (k : Int) ∧ getA name l = getA name (l.drop k) ∧ wr = W)
  case atStart => exact ⟨0, rfl, Nat.zero_le _, rfl, rfl, rfl⟩
  case round =>
    obtain ⟨k, hn, hk, rfl, hG, hw⟩ := hrel
    subst hw
    have GK := hid hn
    have HG := hid hG
    clear hn hG
    have d2 := D2.out
    by_cases hlt : k < l.length
    · obtain ⟨b, off, rfl, he⟩ := Sl.at (AtsAt.ext HL.out (Ext.below HB0.out)) hlt
      obtain ⟨c0, c1, c2, c3⟩ := he.cells
      have HG2 : Hid (getA name l = if l[k].name.toList == name.toList then some l[k].val else getA name (l.drop (k + 1))) := by
        show getA name l = _
        rw [HG.out, List.drop_eq_getElem_cons hlt]; rfl
      clear he c2 c3
      generalize l[k] = x at *
      obtain ⟨xn, xv, xf, xt⟩ := x
      simp only at c0 c1 HG2
      cases hq : (xn.toList == name.toList)
      · have HG3 : Hid (getA name l = getA name (l.drop (k + 1))) := by have := HG2.out; rw [hq] at this; exact this
        clear HG2
        go_wp2_with fail
        go_roundg (l.length - (k + 1))
        case measure => have := GK.out; omega
        case rel => exact ⟨k + 1, rfl, by omega, by go_num, HG3.out, rfl⟩
      · have HG3 : Hid (getA name l = some xv) := by have := HG2.out; rw [hq] at this; exact this
        clear HG2
        go_wp2_with fail
        go_ret2
        exact ⟨by rw [HG3.out]; rfl, HB0.out⟩
    · have HG3 : Hid (getA name l = none) := by
        show getA name l = none
        rw [HG.out, List.drop_eq_nil_of_le (by omega)]; rfl
      go_wp2_with fail
      go_ret2
      exact ⟨by rw [HG3.out]; rfl, HB0.out⟩

theorem aheadTo_last (l : List Nd) (p : Int) : ∀ k, aheadTo l p (k + 1) = if par l k = p then (k : Int) else aheadTo l p k := fun _ => rfl

set_option maxHeartbeats 1000000 in
theorem rahead_any (lv : Value) (l : List Nd) (k : Nat) (w : World) (hl : NdsAt w lv l) (hs : l.length ≤ lim) (hk : k < l.length) :
    Calls Tryd.prog 15 #[lv, .int .i64 (k : Int)] w fun e w' => e = .returned (.int .i64 (ahead l k)) ∧ ∃ n, w' = w.drewN n := by
  obtain ⟨a, cap, rfl⟩ := Sl.form hl
  unfold lim at hs
  have HL := hid hl
  obtain ⟨b, off, rfl, hc⟩ := Sl.at hl hk
  have c1 := hc.c1
  clear hl hc
  have hp : par l k = l[k].parent := by simp [par, ndAt_eq hk]
  rw [← hp] at c1
  clear hp
  have E0 : Hid (ahead l k = aheadTo l (par l k) k) := rfl
  generalize ahead l k = A at *
  generalize par l k = p at *
  have hk2 : decide ((k : Int) < (l.length : Int)) = true := by simp; omega
  go_enter Tryd.func15, Tryd.ntmps15
  go_wp2_with fail
  go_loopg [5, 6] k (fun n o i wr => ∃ j : Nat, n = k - j ∧ j ≤ k ∧ i = .int .i64 (j : Int) ∧ o = .int .i64 (aheadTo l p j) ∧ ∃ m, wr = w.drewN m)
  case atStart => exact ⟨0, rfl, Nat.zero_le _, rfl, rfl, 0, rfl⟩
  case round =>
    obtain ⟨j, hn, hj, rfl, rfl, m, rfl⟩ := hrel
    have GK := hid hn
    clear hn
    by_cases hlt : j < k
    · obtain ⟨b', off', hb, hd⟩ := Sl.at HL.out (show j < l.length by omega)
      injection hb with hb
      injection hb with hb1 hb2
      subst hb1 hb2
      have d1 := hd.c1
      have hp : par l j = l[j].parent := by simp [par, ndAt_eq (show j < l.length by omega)]
      rw [← hp] at d1
      clear hp hd
      have GE : Hid (aheadTo l p (j + 1) = if par l j = p then (j : Int) else aheadTo l p j) := rfl
      generalize par l j = q at *
      have hjl : j < l.length := by omega
      generalize aheadTo l p j = aj at *
      by_cases hq : q = p
      · have hq' : (q == p) = true := by simp [hq]
        have GX : Hid (aheadTo l p (j + 1) = j) := by have := GE.out; rw [if_pos hq] at this; exact this
        clear hq
        go_wp2_with fail
        go_quiet (fail)
        go_wp2_with fail
        go_roundg (k - (j + 1))
        case measure => have := GK.out; omega
        case rel => exact ⟨j + 1, rfl, by omega, by go_num, by rw [GX.out], _, rfl⟩
      · have hq' : (q == p) = false := by simp [hq]
        have GX : Hid (aheadTo l p (j + 1) = aj) := by have := GE.out; rw [if_neg hq] at this; exact this
        clear hq
        go_wp2_with fail
        go_quiet (fail)
        go_wp2_with fail
        go_roundg (k - (j + 1))
        case measure => have := GK.out; omega
        case rel => exact ⟨j + 1, rfl, by omega, by go_num, by rw [GX.out], _, rfl⟩
    · have hE : j = k := by omega
      subst hE
      go_wp2_with fail
      go_ret
      exact ⟨ret_int E0.out.symm, m, rfl⟩
end Go.Proofs.YtlodblcmpebfkaaDoor
