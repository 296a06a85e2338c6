/-
  What isAttr and hasClass answer: the plain answers. Conditions: the attributes lie as they must, at most 2^20 of them, each of at most 2^20 bytes.
-/
import Derived.Test.YtlodblcmpebfkaaDoorM2
import Derived.Lib.SplitLaws
namespace Go.Proofs.YtlodblcmpebfkaaDoor
open Go.RowKit

set_option maxHeartbeats 1000000 in
theorem isAttr_any (x : Nd) (av : Value) (name val : ByteArray) (w : World) (hA : AtsAt w av x.attrs) (hs : SmN x) :
    Calls Tryd.prog 32 #[nodeV x av, .string name, .string val] w fun e w' => e = .returned (.bool (attrB x.attrs name val)) ∧ Below w.heap.size w w' := by
  obtain ⟨sa, sc, rfl⟩ := Sl.form hA
  have HA := hid hA
  have HS := hid hs
  clear hA hs
  have hb0 : ∀ o, Hid (Below w.heap.size w (w.alloc o)) := fun o => (Below.refl _ _).alloc (Nat.le_refl _) o
  have HE : Hid (attrB x.attrs name val = match getA name x.attrs with | none => false | some v => v.toList == val.toList) := rfl
  cases hg : getA name x.attrs with
  | none =>
    simp only [nodeV]
    go_enter Tryd.func32, Tryd.ntmps32
    go_wp2_with (go_at_call 33; refine (get_any x _ name _ (HA.out.ext (Ext.below (hb0 _).out)) HS.out).mono ?_; rintro e w' ⟨rfl, hb⟩; rw [hg]; simp only [getV, Option.getD, Option.isSome])
    go_ret
    refine ⟨ret_bool ?_, below_trans (hb0 _).out hb (Nat.le_refl _)⟩
    rw [HE.out, hg]
  | some v =>
    simp only [nodeV]
    go_enter Tryd.func32, Tryd.ntmps32
    go_wp2_with (go_at_call 33; refine (get_any x _ name _ (HA.out.ext (Ext.below (hb0 _).out)) HS.out).mono ?_; rintro e w' ⟨rfl, hb⟩; rw [hg]; simp only [getV, Option.getD, Option.isSome])
    go_ret
    refine ⟨ret_bool ?_, below_trans (hb0 _).out hb (Nat.le_refl _)⟩
    rw [HE.out, hg]

theorem cell_new (w : World) (cs : Array Value) (t : TypeId) (j : Nat) : (w.alloc (.cells cs t)).cell? ⟨w.heap.size, j, none⟩ = cs[j]? := by
  unfold World.cell?
  rw [heap_alloc_new]
  rfl
theorem getA_small {name : ByteArray} : ∀ {l : List At} {v : ByteArray}, getA name l = some v → ∃ a ∈ l, a.val = v
  | [], v, h => by cases h
  | a :: l, v, h => by
    unfold getA at h
    split at h
    · injection h with h; exact ⟨a, List.mem_cons_self .., h⟩
    · obtain ⟨b, hb, e⟩ := getA_small h; exact ⟨b, List.mem_cons_of_mem _ hb, e⟩

set_option maxHeartbeats 1000000 in
theorem hasClass_any (x : Nd) (av : Value) (name : ByteArray) (w : World) (hA : AtsAt w av x.attrs) (hs : SmN x) (hm : Mx w) :
    Calls Tryd.prog 31 #[nodeV x av, .string name] w fun e w' => e = .returned (.bool (clsOf x.attrs name)) ∧ Below w.heap.size w w' := by
  obtain ⟨sa, sc, rfl⟩ := Sl.form hA
  have HA := hid hA
  have HS := hid hs
  have HM := hid hm
  clear hA hs hm
  have hb0 : ∀ o, Hid (Below w.heap.size w (w.alloc o)) := fun o => (Below.refl _ _).alloc (Nat.le_refl _) o
  have HE : Hid (clsOf x.attrs name = match getA clsN x.attrs with | none => false | some v => clsB v name) := rfl
  cases hg : getA clsN x.attrs with
  | none =>
    simp only [nodeV]
    go_enter Tryd.func31, Tryd.ntmps31
    go_wp2_with (go_at_call 33; refine (get_any x _ clsN _ (HA.out.ext (Ext.below (hb0 _).out)) HS.out).mono ?_; rintro e w' ⟨rfl, hb⟩; rw [hg]; simp only [getV, Option.getD, Option.isSome])
    go_ret
    refine ⟨ret_bool ?_, below_trans (hb0 _).out hb (Nat.le_refl _)⟩
    rw [HE.out, hg]
  | some v =>
    have hv : v.size ≤ lim := by obtain ⟨a, ha, e⟩ := getA_small hg; rw [← e]; exact HS.out.vals a ha
    unfold lim at hv
    have HG := hid hg
    clear hg
    simp only [nodeV]
    go_enter Tryd.func31, Tryd.ntmps31
    cases hq : name.toList.isEmpty
    · go_wp2_with (go_at_call 33; refine (get_any x _ clsN _ (HA.out.ext (Ext.below (hb0 _).out)) HS.out).mono ?_; rintro e w2 ⟨rfl, hb⟩; rw [HG.out]; simp only [getV, Option.getD, Option.isSome])
      have HB2 := hid (below_trans (hb0 _).out hb (Nat.le_refl _))
      obtain ⟨m, hm⟩ := HM.out.ext (Ext.below HB2.out)
      clear hb
      refine (Tryd.strings_Split v blank m w2 (by omega) hm (by decide)).mono ?_
      rintro e w3 ⟨rfl, rfl⟩
      clear hm
      have hlen := Lib.splitB_all blank (by decide) 0 (Lib.countB v blank) v rfl
      have HC : Hid (clsB v name = Lib.containsS (Lib.splitB blank 0 (Lib.countB v blank) v) name) := by
        show clsB v name = _
        unfold clsB; rw [hq]; rfl
      have hcb : Lib.countB v blank ≤ v.size + 1 := Nat.le_succ_of_le (Lib.countB_le blank (by decide) _ v (Nat.le_refl _))
      have HX := hid hlen
      generalize Lib.splitB blank 0 (Lib.countB v blank) v = zs at *
      generalize Lib.countB v blank = n at *
      clear hlen
      go_wp2_with fail
      refine (Tryd.slices_Contains_string _ 0 _ _ zs name _ (by rw [HX.out]; exact Nat.le_refl _) (by omega) ?_).mono ?_
      · intro j hj
        rw [Nat.zero_add, cell_new, List.getElem?_toArray, List.getElem?_map, List.getElem?_eq_getElem hj]
        simp [List.getD, hj]
      rintro e w3 ⟨rfl, rfl⟩
      go_wp2_with fail
      go_ret
      refine ⟨ret_bool ?_, HB2.out.alloc HB2.out.size _⟩
      rw [HE.out, HG.out]
      simp only
      rw [HC.out, List.take_of_length_le (by rw [HX.out]; exact Nat.le_refl _)]
    · have HC : Hid (clsB v name = false) := by
        show clsB v name = _
        unfold clsB; rw [hq]; rfl
      go_wp2_with (go_at_call 33; refine (get_any x _ clsN _ (HA.out.ext (Ext.below (hb0 _).out)) HS.out).mono ?_; rintro e w2 ⟨rfl, hb⟩; rw [HG.out]; simp only [getV, Option.getD, Option.isSome])
      go_ret
      refine ⟨ret_bool ?_, below_trans (hb0 _).out hb (Nat.le_refl _)⟩
      rw [HE.out, HG.out]
      exact HC.out.symm
end Go.Proofs.YtlodblcmpebfkaaDoor
