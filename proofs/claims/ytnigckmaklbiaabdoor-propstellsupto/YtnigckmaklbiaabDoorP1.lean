/-
  What fill answers: an edge's four values. Conditions: one to four texts lie as they must; the table instead holds 0, 0, 0, 1.
-/
import Derived.Test.YtnigckmaklbiaabDoorPMem
namespace Go.Proofs.YtnigckmaklbiaabDoor
open Go.RowKit

/-- The two tables hold what their texts say. -/
structure Tab (w : World) : Prop where
  s0 : w.cell? ⟨0, 0, none⟩ = some (.string sd0)
  s1 : w.cell? ⟨0, 1, none⟩ = some (.string sd1)
  s2 : w.cell? ⟨0, 2, none⟩ = some (.string sd2)
  s3 : w.cell? ⟨0, 3, none⟩ = some (.string sd3)
  i0 : w.cell? ⟨1, 0, none⟩ = some (.int .i64 0)
  i1 : w.cell? ⟨1, 1, none⟩ = some (.int .i64 0)
  i2 : w.cell? ⟨1, 2, none⟩ = some (.int .i64 0)
  i3 : w.cell? ⟨1, 3, none⟩ = some (.int .i64 1)
  mx : ∃ m : Int, w.cell? ⟨2, 0, none⟩ = some (.int .i64 m)
theorem Tab.ext {w w' : World} (h : Tab w) (e : Ext w w') : Tab w' := ⟨e _ _ _ h.s0, e _ _ _ h.s1, e _ _ _ h.s2, e _ _ _ h.s3, e _ _ _ h.i0, e _ _ _ h.i1, e _ _ _ h.i2, e _ _ _ h.i3, h.mx.imp fun _ hm => e _ _ _ hm⟩

/-- Four texts in a block. -/
def FB (w : World) (T : Nat) (a b c d : ByteArray) : Prop := w.heap[T]? = some (.cells #[.string a, .string b, .string c, .string d] 84 (0, 0))
theorem FB.cell {w : World} {T : Nat} {a b c d : ByteArray} (h : FB w T a b c d) : w.cell? ⟨T, 0, none⟩ = some (.string a) ∧ w.cell? ⟨T, 1, none⟩ = some (.string b) ∧ w.cell? ⟨T, 2, none⟩ = some (.string c) ∧ w.cell? ⟨T, 3, none⟩ = some (.string d) := by
  unfold FB at h
  unfold World.cell?
  rw [h]
  exact ⟨rfl, rfl, rfl, rfl⟩
theorem FB.fz {w : World} {T : Nat} {a b c d : ByteArray} (h : FB w T a b c d) : w.frozen? ⟨T, 0, none⟩ = false ∧ w.frozen? ⟨T, 1, none⟩ = false ∧ w.frozen? ⟨T, 2, none⟩ = false ∧ w.frozen? ⟨T, 3, none⟩ = false := by
  unfold FB at h
  simp [World.frozen?, h]
theorem FB.lt {w : World} {T : Nat} {a b c d : ByteArray} (h : FB w T a b c d) : T < w.heap.size := (Array.getElem?_eq_some_iff.1 h).1
theorem FB.keep {w w' : World} {T : Nat} {a b c d : ByteArray} (h : FB w T a b c d) (e : w'.heap[T]? = w.heap[T]?) : FB w' T a b c d := by
  unfold FB at h ⊢; rw [e]; exact h
theorem FB.alloc {w : World} {T : Nat} {a b c d : ByteArray} (h : FB w T a b c d) (o : Obj) : FB (w.alloc o) T a b c d := h.keep (Below.heap_alloc _ _ _ h.lt)
theorem FB.other {w : World} {T : Nat} {a b c d : ByteArray} (h : FB w T a b c d) {p : Addr} (hp : T ≠ p.block) (v : Value) : FB (w.setCell p v) T a b c d := h.keep (Below.heap_setCell _ _ _ _ hp)
theorem FB.set0 {w : World} {T : Nat} {a b c d : ByteArray} (h : FB w T a b c d) (x : ByteArray) : FB (w.setCell ⟨T, 0, none⟩ (.string x)) T x b c d := by
  unfold FB at h ⊢
  simp [World.setCell, Array.getElem?_modify, h]
theorem FB.set1 {w : World} {T : Nat} {a b c d : ByteArray} (h : FB w T a b c d) (x : ByteArray) : FB (w.setCell ⟨T, 1, none⟩ (.string x)) T a x c d := by
  unfold FB at h ⊢
  simp [World.setCell, Array.getElem?_modify, h]
theorem FB.set2 {w : World} {T : Nat} {a b c d : ByteArray} (h : FB w T a b c d) (x : ByteArray) : FB (w.setCell ⟨T, 2, none⟩ (.string x)) T a b x d := by
  unfold FB at h ⊢
  simp [World.setCell, Array.getElem?_modify, h]
theorem FB.set3 {w : World} {T : Nat} {a b c d : ByteArray} (h : FB w T a b c d) (x : ByteArray) : FB (w.setCell ⟨T, 3, none⟩ (.string x)) T a b c x := by
  unfold FB at h ⊢
  simp [World.setCell, Array.getElem?_modify, h]
theorem FB.new (w : World) (a b c d : ByteArray) : FB (w.alloc (.cells #[.string a, .string b, .string c, .string d] 84)) w.heap.size a b c d := heap_alloc_new _ _

def fillV (ws : List ByteArray) : Value := .agg #[.string (v0 ws), .string (v1 ws), .string (v2 ws), .string (v3 ws)]
theorem getD_in {l : List ByteArray} {j : Nat} (h : j < l.length) (a b : ByteArray) : l.getD j a = l.getD j b := by simp [List.getD, h]
theorem getD_out {l : List ByteArray} {j : Nat} (h : ¬ j < l.length) (a : ByteArray) : l.getD j a = a := by
  have : l[j]? = none := by simp; omega
  simp [List.getD, this]
/-- What lies there behind k rounds. -/
def up (k j : Nat) (x : ByteArray) : ByteArray := if j < k then x else ⟨#[]⟩

set_option maxRecDepth 100000 in
set_option maxHeartbeats 4000000 in
theorem fill_any (gv : Value) (ws : List ByteArray) (w : World) (hW : BsAt w gv ws) (h0 : 0 < ws.length) (h4 : ws.length ≤ 4) (hT : Tab w) :
    Calls Tryd.prog 37 #[gv] w fun e w' => e = .returned (fillV ws) ∧ Below w.heap.size w w' := by
  obtain ⟨sa, scap, rfl⟩ := Sl.form hW
  have HP := hid hW
  have HT := hid hT
  clear hW hT
  go_enter Tryd.func37, Tryd.ntmps37
  go_wp2_with fail
  have HW0 := hid (FB.new (w.alloc (.cells #[.string ⟨#[]⟩, .string ⟨#[]⟩, .string ⟨#[]⟩, .string ⟨#[]⟩] 84)) ⟨#[]⟩ ⟨#[]⟩ ⟨#[]⟩ ⟨#[]⟩)
  have HR0 := hid ((FB.new w ⟨#[]⟩ ⟨#[]⟩ ⟨#[]⟩ ⟨#[]⟩).alloc (.cells #[.string ⟨#[]⟩, .string ⟨#[]⟩, .string ⟨#[]⟩, .string ⟨#[]⟩] 84))
  have HB0 : Hid (Below w.heap.size w ((w.alloc (.cells #[.string ⟨#[]⟩, .string ⟨#[]⟩, .string ⟨#[]⟩, .string ⟨#[]⟩] 84)).alloc (.cells #[.string ⟨#[]⟩, .string ⟨#[]⟩, .string ⟨#[]⟩, .string ⟨#[]⟩] 84))) := ((Below.refl _ _).alloc (Nat.le_refl _) _).alloc (by simp) _
  rw [show (w.alloc (.cells #[.string ⟨#[]⟩, .string ⟨#[]⟩, .string ⟨#[]⟩, .string ⟨#[]⟩] 84)).heap.size = w.heap.size + 1 by simp] at HW0
  generalize (w.alloc (.cells #[.string ⟨#[]⟩, .string ⟨#[]⟩, .string ⟨#[]⟩, .string ⟨#[]⟩] 84)).alloc (.cells #[.string ⟨#[]⟩, .string ⟨#[]⟩, .string ⟨#[]⟩, .string ⟨#[]⟩] 84) = W at *
  go_loopg [5] 4 (fun n i wr => ∃ k : Nat, n = 4 - k ∧ k ≤ 4 ∧ i = .int .i64 (k : Int) ∧ FB wr (w.heap.size + 1) (up k 0 (v0 ws)) (up k 1 (v1 ws)) (up k 2 (v2 ws)) (up k 3 (v3 ws)) ∧ FB wr w.heap.size ⟨#[]⟩ ⟨#[]⟩ ⟨#[]⟩ ⟨#[]⟩ ∧ Below w.heap.size w wr)
  case atStart => exact ⟨0, rfl, Nat.zero_le _, rfl, HW0.out, HR0.out, HB0.out⟩
  case round =>
    clear HW0 HR0 HB0
    obtain ⟨k, hn, hk, rfl, hW, hR, hB⟩ := hrel
    have GK := hid hn
    have HW := hid hW
    have HR := hid hR
    have HB := hid hB
    have hTT := HT.out.ext (Ext.below hB)
    have hBs := HP.out.ext (Ext.below hB)
    rename World => wo
    clear hn hR hB
    have key : ∀ j, j < ws.length → ∃ b off, sa = some ⟨b, off, none⟩ ∧ wo.cell? ⟨b, off + j, none⟩ = some (.string (ws.getD j ⟨#[]⟩)) := fun j hj => by
      obtain ⟨b, off, h1, h2⟩ := Sl.at hBs hj
      refine ⟨b, off, h1, ?_⟩
      have := h2.cells
      rw [Nat.mul_one] at this
      rw [this]
      simp [List.getD, hj]
    clear hBs
    match k, hk with
    | 0, _ =>
      obtain ⟨f0, f1, f2, f3⟩ := hW.fz
      obtain ⟨w0, w1, w2, w3⟩ := hW.cell
      have hTl := hW.lt
      simp only [up, Nat.reduceLT, if_false] at w0 w1 w2 w3
      clear hW
      have hj := h0
      obtain ⟨b, off, rfl, hc⟩ := key 0 hj
      have hc' : wo.cell? ⟨b, off + 0, none⟩ = some (.string (v0 ws)) := by rw [hc]; rfl
      rw [Nat.add_zero] at hc'
      clear key hc
      go_wp2_with fail
      go_roundg (4 - 1)
      case measure => have := GK.out; omega
      case rel => exact ⟨1, rfl, by omega, by go_num, HW.out.set0 (v0 ws), HR.out.other (by simp) _, HB.out.setCell (by simp) _⟩
    | 1, _ =>
      obtain ⟨f0, f1, f2, f3⟩ := hW.fz
      obtain ⟨w0, w1, w2, w3⟩ := hW.cell
      have hTl := hW.lt
      simp only [up, Nat.reduceLT, if_true, if_false] at w0 w1 w2 w3
      clear hW
      by_cases hj : 1 < ws.length
      · obtain ⟨b, off, rfl, hc⟩ := key 1 hj
        have hc' : wo.cell? ⟨b, off + 1, none⟩ = some (.string (v1 ws)) := by rw [hc]; rw [getD_in hj _ (v0 ws)]; rfl
        clear key hc
        go_wp2_with fail
        go_roundg (4 - 2)
        case measure => have := GK.out; omega
        case rel => exact ⟨2, rfl, by omega, by go_num, HW.out.set1 (v1 ws), HR.out.other (by simp) _, HB.out.setCell (by simp) _⟩
      · obtain ⟨t0, t1, t2, t3, i0, i1, i2, i3, _⟩ := hTT
        clear key t0 t1 t2 t3
        have he : v1 ws = v0 ws := getD_out hj _
        have HE := hid he
        clear he
        go_wp2_with fail
        go_roundg (4 - 2)
        case measure => have := GK.out; omega
        case rel => exact ⟨2, rfl, by omega, by go_num, by have := HW.out.set1 (v1 ws); rw [HE.out] at this ⊢; exact this, HR.out.other (by simp) _, HB.out.setCell (by simp) _⟩
    | 2, _ =>
      obtain ⟨f0, f1, f2, f3⟩ := hW.fz
      obtain ⟨w0, w1, w2, w3⟩ := hW.cell
      have hTl := hW.lt
      simp only [up, Nat.reduceLT, if_true, if_false] at w0 w1 w2 w3
      clear hW
      by_cases hj : 2 < ws.length
      · obtain ⟨b, off, rfl, hc⟩ := key 2 hj
        have hc' : wo.cell? ⟨b, off + 2, none⟩ = some (.string (v2 ws)) := by rw [hc]; rw [getD_in hj _ (v0 ws)]; rfl
        clear key hc
        go_wp2_with fail
        go_roundg (4 - 3)
        case measure => have := GK.out; omega
        case rel => exact ⟨3, rfl, by omega, by go_num, HW.out.set2 (v2 ws), HR.out.other (by simp) _, HB.out.setCell (by simp) _⟩
      · obtain ⟨t0, t1, t2, t3, i0, i1, i2, i3, _⟩ := hTT
        clear key t0 t1 t2 t3
        have he : v2 ws = v0 ws := getD_out hj _
        have HE := hid he
        clear he
        go_wp2_with fail
        go_roundg (4 - 3)
        case measure => have := GK.out; omega
        case rel => exact ⟨3, rfl, by omega, by go_num, by have := HW.out.set2 (v2 ws); rw [HE.out] at this ⊢; exact this, HR.out.other (by simp) _, HB.out.setCell (by simp) _⟩
    | 3, _ =>
      obtain ⟨f0, f1, f2, f3⟩ := hW.fz
      obtain ⟨w0, w1, w2, w3⟩ := hW.cell
      have hTl := hW.lt
      simp only [up, Nat.reduceLT, if_true, if_false] at w0 w1 w2 w3
      clear hW
      by_cases hj : 3 < ws.length
      · obtain ⟨b, off, rfl, hc⟩ := key 3 hj
        have hc' : wo.cell? ⟨b, off + 3, none⟩ = some (.string (v3 ws)) := by rw [hc]; rw [getD_in hj _ (v1 ws)]; rfl
        clear key hc
        go_wp2_with fail
        go_roundg (4 - 4)
        case measure => have := GK.out; omega
        case rel => exact ⟨4, rfl, by omega, by go_num, HW.out.set3 (v3 ws), HR.out.other (by simp) _, HB.out.setCell (by simp) _⟩
      · obtain ⟨t0, t1, t2, t3, i0, i1, i2, i3, _⟩ := hTT
        clear key t0 t1 t2 t3
        have he : v3 ws = v1 ws := getD_out hj _
        have HE := hid he
        clear he
        go_wp2_with fail
        go_roundg (4 - 4)
        case measure => have := GK.out; omega
        case rel => exact ⟨4, rfl, by omega, by go_num, by have := HW.out.set3 (v3 ws); rw [HE.out] at this ⊢; exact this, HR.out.other (by simp) _, HB.out.setCell (by simp) _⟩
    | 4, _ =>
      obtain ⟨w0, w1, w2, w3⟩ := hW.cell
      simp only [up, Nat.reduceLT, if_true] at w0 w1 w2 w3
      obtain ⟨r0, r1, r2, r3⟩ := HR.out.cell
      obtain ⟨f0, f1, f2, f3⟩ := HR.out.fz
      clear hW key
      go_wp2_with fail
      obtain ⟨q0, q1, q2, q3⟩ := ((((HR.out.set0 (v0 ws)).set1 (v1 ws)).set2 (v2 ws)).set3 (v3 ws)).cell
      refine bodyPost_ret (v := fillV ws) (by simp [results, Tryd.results37, go_sem, q0, q1, q2, q3, fillV]) rfl ⟨rfl, ?_⟩
      exact (((HB.out.setCell (Nat.le_refl _) _).setCell (Nat.le_refl _) _).setCell (Nat.le_refl _) _).setCell (Nat.le_refl _) _
end Go.Proofs.YtnigckmaklbiaabDoor
