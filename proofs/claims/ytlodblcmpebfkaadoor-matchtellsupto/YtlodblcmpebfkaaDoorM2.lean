/-
  What page.Get answers: the plain answer. Conditions: the attributes lie as they must, at most 2^20 of them, each of at most 2^20 bytes.
-/
import Derived.Test.YtlodblcmpebfkaaDoorM1
import Derived.Test.YtlodblcmpebfkaaDoorShelf
namespace Go.Proofs.YtlodblcmpebfkaaDoor
open Go.RowKit

def nodeV (x : Nd) (av : Value) : Value := .agg #[.string x.name, .int .i64 x.parent, av, .int .i64 x.ne, .int .i64 x.fr, .int .i64 x.to]
def getV (o : Option ByteArray) : Value := .tuple #[.string (o.getD ⟨#[]⟩), .bool o.isSome]

theorem eA.cells {w : World} {b o : Nat} {x : At} (h : eA (fun j => w.cell? ⟨b, o + j, none⟩) x) : w.cell? ⟨b, o, none⟩ = some (.string x.name) ∧ w.cell? ⟨b, o + 1, none⟩ = some (.string x.val) ∧ w.cell? ⟨b, o + 2, none⟩ = some (.int .i64 x.fr) ∧ w.cell? ⟨b, o + 3, none⟩ = some (.int .i64 x.to) := h

set_option maxHeartbeats 1000000 in
theorem get_any (x : Nd) (av : Value) (name : ByteArray) (w : World) (hA : AtsAt w av x.attrs) (hs : SmN x) :
    Calls Tryd.prog 33 #[nodeV x av, .string name] w fun e w' => e = .returned (getV (getA name x.attrs)) ∧ Below w.heap.size w w' := by
  obtain ⟨a, cap, rfl⟩ := Sl.form hA
  obtain ⟨nm, pr, l, ne, fr, tt⟩ := x
  obtain ⟨hl, hv⟩ := hs
  simp only at hA hl hv
  have HV := hid hv
  have HL := hid hA
  unfold lim at hl
  clear hA hv
  simp only [nodeV]
  go_enter Tryd.func33, Tryd.ntmps33
  go_wp2_with fail
  go_loopg [11] l.length (fun n i wr => ∃ k : Nat, n = l.length - k ∧ k ≤ l.length ∧ i = .int .i64 (k : Int) ∧ getA name l = getA name (l.drop k) ∧ Below w.heap.size w wr)
  case atStart => exact ⟨0, rfl, Nat.zero_le _, rfl, rfl, (Below.refl _ _).alloc (Nat.le_refl _) _⟩
  case round =>
    obtain ⟨k, hn, hk, rfl, hG, hB⟩ := hrel
    have GK := hid hn
    have HB := hid hB
    have HG := hid hG
    clear hn hB hG
    by_cases hlt : k < l.length
    · obtain ⟨b, off, rfl, he⟩ := Sl.at (AtsAt.ext HL.out (Ext.below HB.out)) hlt
      obtain ⟨c0, c1, c2, c3⟩ := he.cells
      have hv := HV.out l[k] (List.getElem_mem hlt)
      have HG2 : Hid (getA name l = if l[k].name.toList == name.toList then some l[k].val else getA name (l.drop (k + 1))) := by
        show getA name l = _
        rw [HG.out, List.drop_eq_getElem_cons hlt]; rfl
      clear he
      generalize l[k] = x at *
      obtain ⟨xn, xv, xf, xt⟩ := x
      simp only at c0 c1 c2 c3 hv HG2
      unfold lim at hv
      cases hq : (xn.toList == name.toList)
      · have HG3 : Hid (getA name l = getA name (l.drop (k + 1))) := by have := HG2.out; rw [hq] at this; exact this
        clear HG2
        go_wp2_with fail
        go_roundg (l.length - (k + 1))
        case measure => have := GK.out; omega
        case rel => exact ⟨k + 1, rfl, by omega, by go_num, HG3.out, HB.out.alloc HB.out.size _⟩
      · have HG3 : Hid (getA name l = some xv) := by have := HG2.out; rw [hq] at this; exact this
        clear HG2
        go_wp2_with (first | (go_at_call 39; refine (Tryd.stringslite_Clone _ _ (by omega)).mono ?_; rintro e w' ⟨rfl, hb⟩) | go_in)
        go_ret2
        exact ⟨by rw [HG3.out]; rfl, below_trans (HB.out.alloc HB.out.size _) hb (Nat.le_refl _)⟩
    · have HG3 : Hid (getA name l = none) := by
        show getA name l = none
        rw [HG.out, List.drop_eq_nil_of_le (by omega)]; rfl
      go_wp2_with fail
      go_ret2
      exact ⟨by rw [HG3.out]; rfl, HB.out⟩
end Go.Proofs.YtlodblcmpebfkaaDoor
