/-
  What isAsTest and isAsPart answer: the plain answers. Conditions: the elements and the tests lie as they must, at most 2^20 of each.
-/
import Derived.Test.YtlodblcmpebfkaaDoorM3
namespace Go.Proofs.YtlodblcmpebfkaaDoor
open Go.RowKit

def testV (t : Ts) : Value := .agg #[.int .i64 t.kind, .string t.name, .string t.val]
def partV (p : Pt) (v : Value) : Value := .agg #[.int .i64 p.join, v]

theorem eN.cells {w : World} {b o : Nat} {x : Nd} (h : eN w (fun j => w.cell? ⟨b, o + j, none⟩) x) : ∃ a cap, w.cell? ⟨b, o, none⟩ = some (.string x.name) ∧ w.cell? ⟨b, o + 1, none⟩ = some (.int .i64 x.parent) ∧ w.cell? ⟨b, o + 2, none⟩ = some (.slice a x.attrs.length cap) ∧
    w.cell? ⟨b, o + 3, none⟩ = some (.int .i64 x.ne) ∧ w.cell? ⟨b, o + 4, none⟩ = some (.int .i64 x.fr) ∧ w.cell? ⟨b, o + 5, none⟩ = some (.int .i64 x.to) ∧ AtsAt w (.slice a x.attrs.length cap) x.attrs := by
  obtain ⟨h0, h1, ⟨v, h2, h2'⟩, h3, h4, h5⟩ := h
  obtain ⟨a, cap, rfl⟩ := Sl.form h2'
  exact ⟨a, cap, h0, h1, h2, h3, h4, h5, h2'⟩
theorem eT.cells {w : World} {b o : Nat} {x : Ts} (h : eT (fun j => w.cell? ⟨b, o + j, none⟩) x) : w.cell? ⟨b, o, none⟩ = some (.int .i64 x.kind) ∧ w.cell? ⟨b, o + 1, none⟩ = some (.string x.name) ∧ w.cell? ⟨b, o + 2, none⟩ = some (.string x.val) := h

set_option maxHeartbeats 2000000 in
theorem isAsTest_any (lv : Value) (l : List Nd) (k : Nat) (t : Ts) (w : World) (hl : NdsAt w lv l) (hs : SmNs l) (hk : k < l.length) (hm : Mx w) :
    Calls Tryd.prog 29 #[lv, .int .i64 (k : Int), testV t] w fun e w' => e = .returned (.bool (testB l k t)) ∧ Below w.heap.size w w' := by
  obtain ⟨a, cap, rfl⟩ := Sl.form hl
  obtain ⟨b, off, rfl, he⟩ := Sl.at hl hk
  obtain ⟨sa, sc, c0, c1, c2, c3, c4, c5, hA⟩ := he.cells
  have hbs := lt_of_cell c0
  have hlen := hs.1
  unfold lim at hlen
  have HS := hid (hs.2 l[k] (List.getElem_mem hk))
  have HA := hid hA
  have HL := hid hl
  have HN := hid hs.1
  have HM := hid hm
  have hkl : (k : Int) < (l.length : Int) := by omega
  clear he hA hl hs hm
  obtain ⟨kd, nm, vl⟩ := t
  have HT : Hid (testB l k ⟨kd, nm, vl⟩ = if kd = 1 then l[k].name.toList == nm.toList else if kd = 2 then clsOf l[k].attrs nm else if kd = 3 then attrB l[k].attrs idN nm else if kd = 4 then (getA nm l[k].attrs).isSome
    else if kd = 5 then attrB l[k].attrs nm vl else if kd = 6 then decide (ahead l k < 0) else false) := by
    show testB _ _ _ = _
    simp only [testB, ndAt_eq hk]
  have hb0 : ∀ o o', Hid (Below w.heap.size w ((w.alloc o).alloc o')) := fun o o' => ((Below.refl _ _).alloc (Nat.le_refl _) o).alloc (by simp) o'
  generalize l[k] = x at *
  simp only [testV]
  by_cases h1 : kd = 1
  · subst h1
    go_enter Tryd.func29, Tryd.ntmps29
    go_wp2_with fail
    go_ret
    exact ⟨ret_bool (by rw [HT.out]; rfl), (hb0 _ _).out⟩
  by_cases h2 : kd = 2
  · subst h2
    go_enter Tryd.func29, Tryd.ntmps29
    go_wp2_with (go_at_call 31; refine (hasClass_any x _ nm _ (HA.out.ext (Ext.below (hb0 _ _).out)) HS.out (HM.out.ext (Ext.below (hb0 _ _).out))).mono ?_; rintro e w' ⟨rfl, hb⟩)
    go_ret
    exact ⟨ret_bool (by rw [HT.out]; rfl), below_trans (hb0 _ _).out hb (Nat.le_refl _)⟩
  by_cases h3 : kd = 3
  · subst h3
    go_enter Tryd.func29, Tryd.ntmps29
    go_wp2_with (go_at_call 32; refine (isAttr_any x _ idN nm _ (HA.out.ext (Ext.below (hb0 _ _).out)) HS.out).mono ?_; rintro e w' ⟨rfl, hb⟩)
    go_ret
    exact ⟨ret_bool (by rw [HT.out]; rfl), below_trans (hb0 _ _).out hb (Nat.le_refl _)⟩
  by_cases h4 : kd = 4
  · subst h4
    go_enter Tryd.func29, Tryd.ntmps29
    go_wp2_with (go_at_call 33; refine (get_any x _ nm _ (HA.out.ext (Ext.below (hb0 _ _).out)) HS.out).mono ?_; rintro e w' ⟨rfl, hb⟩; simp only [getV])
    go_ret
    exact ⟨ret_bool (by rw [HT.out]; rfl), below_trans (hb0 _ _).out hb (Nat.le_refl _)⟩
  by_cases h5 : kd = 5
  · subst h5
    go_enter Tryd.func29, Tryd.ntmps29
    go_wp2_with (go_at_call 32; refine (isAttr_any x _ nm vl _ (HA.out.ext (Ext.below (hb0 _ _).out)) HS.out).mono ?_; rintro e w' ⟨rfl, hb⟩)
    go_ret
    exact ⟨ret_bool (by rw [HT.out]; rfl), below_trans (hb0 _ _).out hb (Nat.le_refl _)⟩
  by_cases h6 : kd = 6
  · subst h6
    go_enter Tryd.func29, Tryd.ntmps29
    go_wp2_with (go_at_call 30; refine (ahead_any _ l k _ (HL.out.ext (Ext.below (hb0 _ _).out)) HN.out hk).mono ?_; rintro e w' ⟨rfl, n, rfl⟩)
    go_ret
    exact ⟨ret_bool (by rw [HT.out]; rfl), below_dN (hb0 _ _).out n⟩
  · have HT2 : Hid (testB l k ⟨kd, nm, vl⟩ = false) := by
      have := HT.out
      rw [if_neg h1, if_neg h2, if_neg h3, if_neg h4, if_neg h5, if_neg h6] at this
      exact this
    go_enter Tryd.func29, Tryd.ntmps29
    go_wp2_with fail
    go_ret
    exact ⟨ret_bool (by rw [HT2.out]), (hb0 _ _).out⟩

set_option maxHeartbeats 1000000 in
theorem isAsPart_any (lv : Value) (l : List Nd) (k : Nat) (p : Pt) (tv : Value) (w : World) (hl : NdsAt w lv l) (hs : SmNs l) (hk : k < l.length) (hm : Mx w) (ht : TsAt w tv p.tests) (hts : p.tests.length ≤ lim) :
    Calls Tryd.prog 25 #[lv, .int .i64 (k : Int), partV p tv] w fun e w' => e = .returned (.bool (partB l k p)) ∧ Below w.heap.size w w' := by
  obtain ⟨a, cap, rfl⟩ := Sl.form ht
  obtain ⟨jn, ts⟩ := p
  simp only at ht hts
  have HT := hid ht
  have HL := hid hl
  have HS := hid hs
  have HM := hid hm
  have HK := hid hk
  unfold lim at hts
  have HE : Hid (partB l k ⟨jn, ts⟩ = ts.all (testB l k)) := rfl
  generalize partB l k ⟨jn, ts⟩ = R at *
  clear ht hl hs hm hk
  simp only [partV]
  go_enter Tryd.func25, Tryd.ntmps25
  go_wp2_with fail
  go_loopg [12] ts.length (fun n i wr => ∃ j : Nat, n = ts.length - j ∧ j ≤ ts.length ∧ i = .int .i64 (j : Int) ∧ R = (ts.drop j).all (testB l k) ∧ Below w.heap.size w wr)
  case atStart => exact ⟨0, rfl, Nat.zero_le _, rfl, HE.out, (Below.refl _ _).alloc (Nat.le_refl _) _⟩
  case round =>
    obtain ⟨j, hn, hj, rfl, hR, hB⟩ := hrel
    have GK := hid hn
    have HB := hid hB
    have HR := hid hR
    clear hn hB hR
    by_cases hlt : j < ts.length
    · obtain ⟨b, off, rfl, he⟩ := Sl.at (TsAt.ext HT.out (Ext.below HB.out)) hlt
      obtain ⟨c0, c1, c2⟩ := he.cells
      have HR2 : Hid (R = (testB l k ts[j] && (ts.drop (j + 1)).all (testB l k))) := by
        show R = _
        rw [HR.out, List.drop_eq_getElem_cons hlt]; rfl
      clear he
      generalize ts[j] = t at *
      have HB3 : ∀ o, Hid (Below w.heap.size w (wr.alloc o)) := fun o => HB.out.alloc HB.out.size o
      go_wp2_with (go_at_call 29; refine (isAsTest_any lv l k t _ (HL.out.ext (Ext.below (HB3 _).out)) HS.out HK.out (HM.out.ext (Ext.below (HB3 _).out))).mono ?_; rintro e w' ⟨rfl, hb⟩; have HB4 := hid (below_trans (HB3 _).out hb (Nat.le_refl _)); clear hb; rcases htb : testB l k t)
      · have HR3 : Hid (R = false) := by have := HR2.out; rw [htb] at this; exact this
        go_ret
        exact ⟨ret_bool HR3.out.symm, HB4.out⟩
      · have HR3 : Hid (R = (ts.drop (j + 1)).all (testB l k)) := by have := HR2.out; rw [htb] at this; exact this
        go_roundg (ts.length - (j + 1))
        case measure => have := GK.out; omega
        case rel => exact ⟨j + 1, rfl, by omega, by go_num, HR3.out, HB4.out⟩
    · have HR3 : Hid (R = true) := by
        show R = true
        rw [HR.out, List.drop_eq_nil_of_le (by omega)]; rfl
      go_wp2_with fail
      go_ret
      exact ⟨ret_bool HR3.out.symm, HB.out⟩
end Go.Proofs.YtlodblcmpebfkaaDoor
