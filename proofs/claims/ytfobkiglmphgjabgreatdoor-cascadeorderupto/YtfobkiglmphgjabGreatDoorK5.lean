/-
  What fill, expandEdge, Expand and All of package props answer: the plain answers. Conditions: the sizes that SmDs names; the two tables hold what their texts say.
-/
import Derived.Test.YtfobkiglmphgjabGreatDoorK1
import Derived.Test.YtfobkiglmphgjabGreatDoorK4
import Derived.Test.YtfobkiglmphgjabGreatDoorProg
import Derived.WalkKit
import Derived.WalkSpells
import Derived.BigQuiet
import Derived.Deep.AppendLies
import Derived.Deep.RegionLaw
import Derived.Deep.LoopGhost
import Derived.Deep.CutRange
import Derived.Deep.DeepFit
import Derived.Deep.RegionHeld3
import Derived.Deep.Slices
import Derived.Laws.StructEq
import Derived.Test.YtfobkiglmphgjabGreatDoorShelf
namespace Go.Proofs.YtfobkiglmphgjabGreatDoor
open Go.RowKit

def eD (c : Nat → Option Value) (x : Dc) : Prop := c 0 = some (.string x.name) ∧ c 1 = some (.string x.val) ∧ c 2 = some (.bool x.strong)
def DsAt (w : World) (v : Value) (l : List Dc) : Prop := Sl w 3 eD v l
def eB (c : Nat → Option Value) (x : ByteArray) : Prop := c 0 = some (.string x)
def BsAt (w : World) (v : Value) (l : List ByteArray) : Prop := Sl w 1 eB v l

variable {w w' : World} {v : Value}
theorem DsAt.ext {l : List Dc} (h : DsAt w v l) (e : Ext w w') : DsAt w' v l :=
  Sl.mono h fun _ _ _ ⟨h0, h1, h2⟩ => ⟨e _ _ _ h0, e _ _ _ h1, e _ _ _ h2⟩
theorem BsAt.ext {l : List ByteArray} (h : BsAt w v l) (e : Ext w w') : BsAt w' v l :=
  Sl.mono h fun _ _ _ h0 => e _ _ _ h0
theorem eD.cells {w : World} {b o : Nat} {x : Dc} (h : eD (fun j => w.cell? ⟨b, o + j, none⟩) x) : w.cell? ⟨b, o, none⟩ = some (.string x.name) ∧ w.cell? ⟨b, o + 1, none⟩ = some (.string x.val) ∧ w.cell? ⟨b, o + 2, none⟩ = some (.bool x.strong) := h
theorem eB.cells {w : World} {b o : Nat} {x : ByteArray} (h : eB (fun j => w.cell? ⟨b, o + j, none⟩) x) : w.cell? ⟨b, o, none⟩ = some (.string x) := h

def SmD (x : Dc) : Prop := x.name.size ≤ lim ∧ x.val.size ≤ lim
def SmDs (l : List Dc) : Prop := l.length ≤ lim ∧ ∀ x ∈ l, SmD x

def encD (d : Dc) : List Value := [.string d.name, .string d.val, .bool d.strong]
def encB (x : ByteArray) : List Value := [.string x]
theorem Tryz.infoD : (Tryz.prog.info? 49).map (fun i => (i.zero, i.size, i.bytes)) = some (some (.agg #[.string ⟨#[]⟩, .string ⟨#[]⟩, .bool false]), 3, 40) := by kernel_rfl
theorem Tryz.infoS : (Tryz.prog.info? 9).map (fun i => (i.zero, i.size, i.bytes)) = some (some (.string ⟨#[]⟩), 1, 16) := by kernel_rfl
theorem DsAt.src {w : World} {a : Option Addr} {n cap : Nat} {ds : List Dc} (h : DsAt w (.slice a n cap) ds) : Src w (.slice a ds.length cap) ds.length (ds.flatMap encD) := by
  obtain ⟨a', cap', e, hn, h⟩ := h
  injection e with e1 e2 e3
  subst e1 e3
  refine src_of (sz := 3) (by decide) encD (fun _ => rfl) hn fun i hi => ?_
  obtain ⟨b, off, rfl, h0, h1, h2⟩ := h i hi
  refine ⟨b, off, rfl, fun j hj => ?_⟩
  match j, hj with
  | 0, _ => exact h0
  | 1, _ => exact h1
  | 2, _ => exact h2
theorem DsAt.own {w : World} {base : Nat} {v : Value} {l : List Dc} (h : w.ownsRow base 49 3 v l.length (l.flatMap encD)) : DsAt w v l := by
  obtain ⟨a, cap, rfl, hn, hc⟩ := own_at (sz := 3) (f := encD) (fun _ => rfl) (by decide) h
  refine ⟨a, cap, rfl, hn, fun i hi => ?_⟩
  obtain ⟨b, off, rfl, hh⟩ := hc i hi
  exact ⟨b, off, rfl, hh 0 (by decide), hh 1 (by decide), hh 2 (by decide)⟩
theorem BsAt.own {w : World} {base : Nat} {v : Value} {l : List ByteArray} (h : w.ownsRow base 9 1 v l.length (l.flatMap encB)) : BsAt w v l := by
  obtain ⟨a, cap, rfl, hn, hc⟩ := own_at (sz := 1) (f := encB) (fun _ => rfl) (by decide) h
  refine ⟨a, cap, rfl, hn, fun i hi => ?_⟩
  obtain ⟨b, off, rfl, hh⟩ := hc i hi
  exact ⟨b, off, rfl, hh 0 (by decide)⟩
theorem ret_str {a b : ByteArray} (h : a = b) : Ending.returned (.string a) = .returned (.string b) := by rw [h]
/-- One declaration in a new block. -/
theorem ds_new (w : World) (d : Dc) : DsAt (w.alloc (.cells #[.string d.name, .string d.val, .bool d.strong] 49)) (.slice (some ⟨w.heap.size, 0, none⟩) 1 1) [d] := by
  refine ⟨_, 1, rfl, nofun, fun i hi => ⟨w.heap.size, 0, rfl, ?_⟩⟩
  obtain rfl : i = 0 := by simp at hi; omega
  exact ⟨by show World.cell? _ ⟨_, 0, none⟩ = _; rw [cell_new]; rfl, by show World.cell? _ ⟨_, 1, none⟩ = _; rw [cell_new]; rfl, by show World.cell? _ ⟨_, 2, none⟩ = _; rw [cell_new]; rfl⟩
theorem ds_nil (w : World) : DsAt w (.slice none 0 0) [] := ⟨none, 0, rfl, fun _ => rfl, fun _ hi => absurd hi (Nat.not_lt_zero _)⟩
/-- One more cell row: what is appended is one declaration in a new block. -/
theorem src_one {w : World} {b : Nat} {d : Dc} (h0 : w.cell? ⟨b, 0, none⟩ = some (.string d.name)) (h1 : w.cell? ⟨b, 1, none⟩ = some (.string d.val)) (h2 : w.cell? ⟨b, 2, none⟩ = some (.bool d.strong)) (c : Nat) : Src w (.slice (some ⟨b, 0, none⟩) 1 c) 1 (encD d) := by
  refine .inr ⟨⟨b, 0, none⟩, c, rfl, fun j e he => ?_⟩
  rw [addr_add, Nat.zero_add]
  match j with
  | 0 => simp [encD] at he; rw [h0, he]
  | 1 => simp [encD] at he; rw [h1, he]
  | 2 => simp [encD] at he; rw [h2, he]
  | j + 3 => simp [encD] at he

/-! ### declarations are equal where their fields are -/
theorem us49 : Tryz.prog.underlying 49 = some (.struct (Tryz.prog.fieldsOf 49)) := by kernel_rfl
theorem st49 : Tryz.prog.stoodInHeld 49 = false := by kernel_rfl
theorem fs49 : (Tryz.prog.fieldsOf 49).toList.map (fun f => (f.name, f.type, f.offset)) = [("Name", 9, 0), ("Val", 9, 1), ("Strong", 4, 2)] := by kernel_rfl
theorem eg49 : Tryz.prog.eqGuardType Tryz.prog.depth 49 = false := by kernel_rfl
/-- Two aggregates whose fields are equal one by one are equal. -/
theorem fields_eq (P : Program) (d : Nat) (xs ys : Array Value) (w : World) : ∀ fs : List Field, (∀ f ∈ fs, ∃ a b, (Go.part f.type xs f.offset).run P w = .ok a w ∧ (Go.part f.type ys f.offset).run P w = .ok b w ∧ (Op.equalIn d f.type a b).run P w = .ok true w) → (Op.eqFields d xs ys fs).run P w = .ok true w
  | [], _ => by simp [Op.eqFields]
  | f :: fs, h => by
    obtain ⟨a, b, h1, h2, h3⟩ := h f (List.mem_cons_self ..)
    have ih := fields_eq P d xs ys w fs (fun g hg => h g (List.mem_cons_of_mem _ hg))
    simp only [Op.eqFields]
    split
    · simp [Sem.run_bind, h1, h2, h3, ih]
    · exact ih

theorem seq49 (d : Nat) (a b : ByteArray) (t : Bool) (w : World) : (Op.equalIn (d + 2) 49 (.agg #[.string a, .string b, .bool t]) (.agg #[.string a, .string b, .bool t])).run Tryz.prog w = .ok true w := by
  rw [run_equalIn_struct w (d + 1) 49 _ _ us49 st49]
  refine fields_eq _ _ _ _ _ _ fun g hg => ?_
  have hm : (g.name, g.type, g.offset) ∈ [("Name", 9, 0), ("Val", 9, 1), ("Strong", 4, 2)] := by rw [← fs49]; exact List.mem_map_of_mem hg
  simp at hm
  rcases hm with ⟨_, h1, h2⟩ | ⟨_, h1, h2⟩ | ⟨_, h1, h2⟩
  · rw [h1, h2]
    refine ⟨.string a, .string a, by simp [Go.part, go_sem], by simp [Go.part, go_sem], ?_⟩
    rw [run_equalIn_string w d 9 a a Tryz.underlying9]; simp
  · rw [h1, h2]
    refine ⟨.string b, .string b, by simp [Go.part, go_sem], by simp [Go.part, go_sem], ?_⟩
    rw [run_equalIn_string w d 9 b b Tryz.underlying9]; simp
  · rw [h1, h2]
    refine ⟨.bool t, .bool t, by simp [Go.part, go_sem], by simp [Go.part, go_sem], ?_⟩
    rw [run_equalIn_bool' w d 4 t t Tryz.underlying4]; simp
theorem sneq49 (a b : ByteArray) (t : Bool) (w : World) : (binOp .neq 49 (.agg #[.string a, .string b, .bool t]) (.agg #[.string a, .string b, .bool t])).run Tryz.prog w = .ok (.bool false) w := by
  rw [run_neq_struct, seq49 9998]; rfl
end Go.Proofs.YtfobkiglmphgjabGreatDoor

namespace Go.Proofs.YtfobkiglmphgjabGreatDoor
open Go.RowKit

/-- The two tables hold what their texts say. -/
structure Tab (w : World) : Prop where
  s0 : w.cell? ⟨0, 0, none⟩ = some (.string sd0)
  s1 : w.cell? ⟨0, 1, none⟩ = some (.string sd1)
  s2 : w.cell? ⟨0, 2, none⟩ = some (.string sd2)
  s3 : w.cell? ⟨0, 3, none⟩ = some (.string sd3)
  i0 : w.cell? ⟨1, 0, none⟩ = some (.int .i64 0)
  i1 : w.cell? ⟨1, 1, none⟩ = some (.int .i64 0)
  i2 : w.cell? ⟨1, 2, none⟩ = some (.int .i64 0)
  i3 : w.cell? ⟨1, 3, none⟩ = some (.int .i64 1)
  mx : ∃ m : Int, w.cell? ⟨2, 0, none⟩ = some (.int .i64 m)
theorem Tab.ext {w w' : World} (h : Tab w) (e : Ext w w') : Tab w' := ⟨e _ _ _ h.s0, e _ _ _ h.s1, e _ _ _ h.s2, e _ _ _ h.s3, e _ _ _ h.i0, e _ _ _ h.i1, e _ _ _ h.i2, e _ _ _ h.i3, h.mx.imp fun _ hm => e _ _ _ hm⟩

/-- Four texts in a block. -/
def FB (w : World) (T : Nat) (a b c d : ByteArray) : Prop := w.heap[T]? = some (.cells #[.string a, .string b, .string c, .string d] 115 (0, 0))
theorem FB.cell {w : World} {T : Nat} {a b c d : ByteArray} (h : FB w T a b c d) : w.cell? ⟨T, 0, none⟩ = some (.string a) ∧ w.cell? ⟨T, 1, none⟩ = some (.string b) ∧ w.cell? ⟨T, 2, none⟩ = some (.string c) ∧ w.cell? ⟨T, 3, none⟩ = some (.string d) := by
  unfold FB at h
  unfold World.cell?
  rw [h]
  exact ⟨rfl, rfl, rfl, rfl⟩
theorem FB.fz {w : World} {T : Nat} {a b c d : ByteArray} (h : FB w T a b c d) : w.frozen? ⟨T, 0, none⟩ = false ∧ w.frozen? ⟨T, 1, none⟩ = false ∧ w.frozen? ⟨T, 2, none⟩ = false ∧ w.frozen? ⟨T, 3, none⟩ = false := by
  unfold FB at h
  simp [World.frozen?, h]
theorem FB.lt {w : World} {T : Nat} {a b c d : ByteArray} (h : FB w T a b c d) : T < w.heap.size := (Array.getElem?_eq_some_iff.1 h).1
theorem FB.keep {w w' : World} {T : Nat} {a b c d : ByteArray} (h : FB w T a b c d) (e : w'.heap[T]? = w.heap[T]?) : FB w' T a b c d := by
  unfold FB at h ⊢; rw [e]; exact h
theorem FB.alloc {w : World} {T : Nat} {a b c d : ByteArray} (h : FB w T a b c d) (o : Obj) : FB (w.alloc o) T a b c d := h.keep (Below.heap_alloc _ _ _ h.lt)
theorem FB.other {w : World} {T : Nat} {a b c d : ByteArray} (h : FB w T a b c d) {p : Addr} (hp : T ≠ p.block) (v : Value) : FB (w.setCell p v) T a b c d := h.keep (Below.heap_setCell _ _ _ _ hp)
theorem FB.set0 {w : World} {T : Nat} {a b c d : ByteArray} (h : FB w T a b c d) (x : ByteArray) : FB (w.setCell ⟨T, 0, none⟩ (.string x)) T x b c d := by
  unfold FB at h ⊢
  simp [World.setCell, Array.getElem?_modify, h]
theorem FB.set1 {w : World} {T : Nat} {a b c d : ByteArray} (h : FB w T a b c d) (x : ByteArray) : FB (w.setCell ⟨T, 1, none⟩ (.string x)) T a x c d := by
  unfold FB at h ⊢
  simp [World.setCell, Array.getElem?_modify, h]
theorem FB.set2 {w : World} {T : Nat} {a b c d : ByteArray} (h : FB w T a b c d) (x : ByteArray) : FB (w.setCell ⟨T, 2, none⟩ (.string x)) T a b x d := by
  unfold FB at h ⊢
  simp [World.setCell, Array.getElem?_modify, h]
theorem FB.set3 {w : World} {T : Nat} {a b c d : ByteArray} (h : FB w T a b c d) (x : ByteArray) : FB (w.setCell ⟨T, 3, none⟩ (.string x)) T a b c x := by
  unfold FB at h ⊢
  simp [World.setCell, Array.getElem?_modify, h]
theorem FB.new (w : World) (a b c d : ByteArray) : FB (w.alloc (.cells #[.string a, .string b, .string c, .string d] 115)) w.heap.size a b c d := heap_alloc_new _ _

def fillV (ws : List ByteArray) : Value := .agg #[.string (v0 ws), .string (v1 ws), .string (v2 ws), .string (v3 ws)]
theorem getD_in {l : List ByteArray} {j : Nat} (h : j < l.length) (a b : ByteArray) : l.getD j a = l.getD j b := by simp [List.getD, h]
theorem getD_out {l : List ByteArray} {j : Nat} (h : ¬ j < l.length) (a : ByteArray) : l.getD j a = a := by
  have : l[j]? = none := by simp; omega
  simp [List.getD, this]
/-- What lies there behind k rounds. -/
def up (k j : Nat) (x : ByteArray) : ByteArray := if j < k then x else ⟨#[]⟩

set_option maxRecDepth 100000 in
set_option maxHeartbeats 4000000 in
theorem fill_any (gv : Value) (ws : List ByteArray) (w : World) (hW : BsAt w gv ws) (h0 : 0 < ws.length) (h4 : ws.length ≤ 4) (hT : Tab w) :
    Calls Tryz.prog 76 #[gv] w fun e w' => e = .returned (fillV ws) ∧ Below w.heap.size w w' := by
  obtain ⟨sa, scap, rfl⟩ := Sl.form hW
  have HP := hid hW
  have HT := hid hT
  clear hW hT
  go_enter Tryz.func76, Tryz.ntmps76
  go_wp2_with fail
  have HW0 := hid (FB.new (w.alloc (.cells #[.string ⟨#[]⟩, .string ⟨#[]⟩, .string ⟨#[]⟩, .string ⟨#[]⟩] 115)) ⟨#[]⟩ ⟨#[]⟩ ⟨#[]⟩ ⟨#[]⟩)
  have HR0 := hid ((FB.new w ⟨#[]⟩ ⟨#[]⟩ ⟨#[]⟩ ⟨#[]⟩).alloc (.cells #[.string ⟨#[]⟩, .string ⟨#[]⟩, .string ⟨#[]⟩, .string ⟨#[]⟩] 115))
  have HB0 : Hid (Below w.heap.size w ((w.alloc (.cells #[.string ⟨#[]⟩, .string ⟨#[]⟩, .string ⟨#[]⟩, .string ⟨#[]⟩] 115)).alloc (.cells #[.string ⟨#[]⟩, .string ⟨#[]⟩, .string ⟨#[]⟩, .string ⟨#[]⟩] 115))) := ((Below.refl _ _).alloc (Nat.le_refl _) _).alloc (by simp) _
  rw [show (w.alloc (.cells #[.string ⟨#[]⟩, .string ⟨#[]⟩, .string ⟨#[]⟩, .string ⟨#[]⟩] 115)).heap.size = w.heap.size + 1 by simp] at HW0
  generalize (w.alloc (.cells #[.string ⟨#[]⟩, .string ⟨#[]⟩, .string ⟨#[]⟩, .string ⟨#[]⟩] 115)).alloc (.cells #[.string ⟨#[]⟩, .string ⟨#[]⟩, .string ⟨#[]⟩, .string ⟨#[]⟩] 115) = W at *
  go_loopg [5] 4 (fun n i wr => ∃ k : Nat, n = 4 - k ∧ k ≤ 4 ∧ i = .int .i64 (k : Int) ∧ FB wr (w.heap.size + 1) (up k 0 (v0 ws)) (up k 1 (v1 ws)) (up k 2 (v2 ws)) (up k 3 (v3 ws)) ∧ FB wr w.heap.size ⟨#[]⟩ ⟨#[]⟩ ⟨#[]⟩ ⟨#[]⟩ ∧ Below w.heap.size w wr)
  case atStart => exact ⟨0, rfl, Nat.zero_le _, rfl, HW0.out, HR0.out, HB0.out⟩
  case round =>
    clear HW0 HR0 HB0
    obtain ⟨k, hn, hk, rfl, hW, hR, hB⟩ := hrel
    have GK := hid hn
    have HW := hid hW
    have HR := hid hR
    have HB := hid hB
    have hTT := HT.out.ext (Ext.below hB)
    have hBs := HP.out.ext (Ext.below hB)
    rename World => wo
    clear hn hR hB
    have key : ∀ j, j < ws.length → ∃ b off, sa = some ⟨b, off, none⟩ ∧ wo.cell? ⟨b, off + j, none⟩ = some (.string (ws.getD j ⟨#[]⟩)) := fun j hj => by
      obtain ⟨b, off, h1, h2⟩ := Sl.at hBs hj
      refine ⟨b, off, h1, ?_⟩
      have := h2.cells
      rw [Nat.mul_one] at this
      rw [this]
      simp [List.getD, hj]
    clear hBs
    match k, hk with
    | 0, _ =>
      obtain ⟨f0, f1, f2, f3⟩ := hW.fz
      obtain ⟨w0, w1, w2, w3⟩ := hW.cell
      have hTl := hW.lt
      simp only [up, Nat.reduceLT, if_false] at w0 w1 w2 w3
      clear hW
      have hj := h0
      obtain ⟨b, off, rfl, hc⟩ := key 0 hj
      have hc' : wo.cell? ⟨b, off + 0, none⟩ = some (.string (v0 ws)) := by rw [hc]; rfl
      rw [Nat.add_zero] at hc'
      clear key hc
      go_wp2_with fail
      go_roundg (4 - 1)
      case measure => have := GK.out; omega
      case rel => exact ⟨1, rfl, by omega, by go_num, HW.out.set0 (v0 ws), HR.out.other (by simp) _, HB.out.setCell (by simp) _⟩
    | 1, _ =>
      obtain ⟨f0, f1, f2, f3⟩ := hW.fz
      obtain ⟨w0, w1, w2, w3⟩ := hW.cell
      have hTl := hW.lt
      simp only [up, Nat.reduceLT, if_true, if_false] at w0 w1 w2 w3
      clear hW
      by_cases hj : 1 < ws.length
      · obtain ⟨b, off, rfl, hc⟩ := key 1 hj
        have hc' : wo.cell? ⟨b, off + 1, none⟩ = some (.string (v1 ws)) := by rw [hc]; rw [getD_in hj _ (v0 ws)]; rfl
        clear key hc
        go_wp2_with fail
        go_roundg (4 - 2)
        case measure => have := GK.out; omega
        case rel => exact ⟨2, rfl, by omega, by go_num, HW.out.set1 (v1 ws), HR.out.other (by simp) _, HB.out.setCell (by simp) _⟩
      · obtain ⟨t0, t1, t2, t3, i0, i1, i2, i3, _⟩ := hTT
        clear key t0 t1 t2 t3
        have he : v1 ws = v0 ws := getD_out hj _
        have HE := hid he
        clear he
        go_wp2_with fail
        go_roundg (4 - 2)
        case measure => have := GK.out; omega
        case rel => exact ⟨2, rfl, by omega, by go_num, by have := HW.out.set1 (v1 ws); rw [HE.out] at this ⊢; exact this, HR.out.other (by simp) _, HB.out.setCell (by simp) _⟩
    | 2, _ =>
      obtain ⟨f0, f1, f2, f3⟩ := hW.fz
      obtain ⟨w0, w1, w2, w3⟩ := hW.cell
      have hTl := hW.lt
      simp only [up, Nat.reduceLT, if_true, if_false] at w0 w1 w2 w3
      clear hW
      by_cases hj : 2 < ws.length
      · obtain ⟨b, off, rfl, hc⟩ := key 2 hj
        have hc' : wo.cell? ⟨b, off + 2, none⟩ = some (.string (v2 ws)) := by rw [hc]; rw [getD_in hj _ (v0 ws)]; rfl
        clear key hc
        go_wp2_with fail
        go_roundg (4 - 3)
        case measure => have := GK.out; omega
        case rel => exact ⟨3, rfl, by omega, by go_num, HW.out.set2 (v2 ws), HR.out.other (by simp) _, HB.out.setCell (by simp) _⟩
      · obtain ⟨t0, t1, t2, t3, i0, i1, i2, i3, _⟩ := hTT
        clear key t0 t1 t2 t3
        have he : v2 ws = v0 ws := getD_out hj _
        have HE := hid he
        clear he
        go_wp2_with fail
        go_roundg (4 - 3)
        case measure => have := GK.out; omega
        case rel => exact ⟨3, rfl, by omega, by go_num, by have := HW.out.set2 (v2 ws); rw [HE.out] at this ⊢; exact this, HR.out.other (by simp) _, HB.out.setCell (by simp) _⟩
    | 3, _ =>
      obtain ⟨f0, f1, f2, f3⟩ := hW.fz
      obtain ⟨w0, w1, w2, w3⟩ := hW.cell
      have hTl := hW.lt
      simp only [up, Nat.reduceLT, if_true, if_false] at w0 w1 w2 w3
      clear hW
      by_cases hj : 3 < ws.length
      · obtain ⟨b, off, rfl, hc⟩ := key 3 hj
        have hc' : wo.cell? ⟨b, off + 3, none⟩ = some (.string (v3 ws)) := by rw [hc]; rw [getD_in hj _ (v1 ws)]; rfl
        clear key hc
        go_wp2_with fail
        go_roundg (4 - 4)
        case measure => have := GK.out; omega
        case rel => exact ⟨4, rfl, by omega, by go_num, HW.out.set3 (v3 ws), HR.out.other (by simp) _, HB.out.setCell (by simp) _⟩
      · obtain ⟨t0, t1, t2, t3, i0, i1, i2, i3, _⟩ := hTT
        clear key t0 t1 t2 t3
        have he : v3 ws = v1 ws := getD_out hj _
        have HE := hid he
        clear he
        go_wp2_with fail
        go_roundg (4 - 4)
        case measure => have := GK.out; omega
        case rel => exact ⟨4, rfl, by omega, by go_num, by have := HW.out.set3 (v3 ws); rw [HE.out] at this ⊢; exact this, HR.out.other (by simp) _, HB.out.setCell (by simp) _⟩
    | 4, _ =>
      obtain ⟨w0, w1, w2, w3⟩ := hW.cell
      simp only [up, Nat.reduceLT, if_true] at w0 w1 w2 w3
      obtain ⟨r0, r1, r2, r3⟩ := HR.out.cell
      obtain ⟨f0, f1, f2, f3⟩ := HR.out.fz
      clear hW key
      go_wp2_with fail
      obtain ⟨q0, q1, q2, q3⟩ := ((((HR.out.set0 (v0 ws)).set1 (v1 ws)).set2 (v2 ws)).set3 (v3 ws)).cell
      refine bodyPost_ret (v := fillV ws) (by simp [results, Tryz.results76, go_sem, q0, q1, q2, q3, fillV]) rfl ⟨rfl, ?_⟩
      exact (((HB.out.setCell (Nat.le_refl _) _).setCell (Nat.le_refl _) _).setCell (Nat.le_refl _) _).setCell (Nat.le_refl _) _
end Go.Proofs.YtfobkiglmphgjabGreatDoor

namespace Go.Proofs.YtfobkiglmphgjabGreatDoor
open Go.RowKit

def declV (d : Dc) : Value := .agg #[.string d.name, .string d.val, .bool d.strong]
def badV : Value := .tuple #[.slice none 0 0, .int .i64 5]
/-- An answer: no declarations and the error, or these. -/
def Ans (w : World) (e : Ending) : Option (List Dc) → Prop
  | none => e = .returned badV
  | some l => ∃ a c, e = .returned (.tuple #[.slice a l.length c, .int .i64 0]) ∧ DsAt w (.slice a l.length c) l
theorem one_D (l : List Dc) : ∀ u ∈ l.flatMap encD, u.oneCell' = true := by
  intro u hu
  obtain ⟨d, _, hd⟩ := List.mem_flatMap.1 hu
  simp [encD] at hd
  rcases hd with rfl | rfl | rfl <;> rfl
theorem one_d (d : Dc) : ∀ u ∈ encD d, u.oneCell' = true := by
  intro u hd
  simp [encD] at hd
  rcases hd with rfl | rfl | rfl <;> rfl
theorem cut_bs (w : World) (l : List ByteArray) (N : Nat) : BsAt (w.alloc (.cells (Lib.cellsOf l N) 9)) (.slice (some ⟨w.heap.size, 0, none⟩) l.length N) l := by
  refine ⟨_, N, rfl, nofun, fun i hi => ⟨w.heap.size, 0, rfl, ?_⟩⟩
  show World.cell? _ ⟨_, 0 + i * 1 + 0, none⟩ = _
  rw [show 0 + i * 1 + 0 = i by omega, cell_new]
  unfold Lib.cellsOf
  rw [List.getElem?_toArray, List.getElem?_append_left (by simpa using hi), List.getElem?_map, List.getElem?_eq_getElem hi]
  rfl

theorem idx0 (a b c d : ByteArray) (w : World) : (Instr.index 115 (.agg #[.string a, .string b, .string c, .string d]) (.int .i64 0)).run Tryz.prog w = .ok (.string a) w := by
  simp [Instr.index, go_sem, Go.part]
theorem idx1 (a b c d : ByteArray) (w : World) : (Instr.index 115 (.agg #[.string a, .string b, .string c, .string d]) (.int .i64 1)).run Tryz.prog w = .ok (.string b) w := by
  simp [Instr.index, go_sem, Go.part]
theorem idx2 (a b c d : ByteArray) (w : World) : (Instr.index 115 (.agg #[.string a, .string b, .string c, .string d]) (.int .i64 2)).run Tryz.prog w = .ok (.string c) w := by
  simp [Instr.index, go_sem, Go.part]
theorem idx3 (a b c d : ByteArray) (w : World) : (Instr.index 115 (.agg #[.string a, .string b, .string c, .string d]) (.int .i64 3)).run Tryz.prog w = .ok (.string d) w := by
  simp [Instr.index, go_sem, Go.part]

set_option maxRecDepth 100000 in
set_option maxHeartbeats 4000000 in
theorem edge_any (d : Dc) (w : World) (hs : d.val.size ≤ lim) (hT : Tab w) :
    Calls Tryz.prog 53 #[declV d] w fun e w' => Ans w' e (if 4 < (cutB d.val).length then none else some (fourB d.strong (cutB d.val))) ∧ Below w.heap.size w w' := by
  obtain ⟨nm, vl, st⟩ := d
  simp only at hs ⊢
  unfold lim at hs
  have HT := hid hT
  clear hT
  have hb0 : ∀ o, Hid (Below w.heap.size w (w.alloc o)) := fun o => (Below.refl _ _).alloc (Nat.le_refl _) o
  have hcl := cut_le vl
  have hcp := cut_pos vl
  have HC : Hid (Lib.splitB blank 0 (min 5 (vl.size + 1) - 1) vl = cutB vl) := rfl
  have HN : Hid ((cutB vl).length ≤ min 5 (vl.size + 1)) := by
    have := Lib.splitB_length_le blank 0 (min 5 (vl.size + 1) - 1) vl
    show (Lib.splitB blank 0 (min 5 (vl.size + 1) - 1) vl).length ≤ _
    omega
  simp only [declV]
  have HW1 := hid (Tab.ext HT.out ((ext_alloc w (.cells #[.string nm, .string vl, .bool st] 49)).trans (ext_alloc _ (.cells (Lib.cellsOf (cutB vl) (min 5 (vl.size + 1))) 9))))
  have HB1 : Hid (Below w.heap.size w ((w.alloc (.cells #[.string nm, .string vl, .bool st] 49)).alloc (.cells (Lib.cellsOf (cutB vl) (min 5 (vl.size + 1))) 9))) := (hb0 _).out.alloc (by simp) _
  have HS1 := hid (cut_bs (w.alloc (.cells #[.string nm, .string vl, .bool st] 49)) (cutB vl) (min 5 (vl.size + 1)))
  rw [show (w.alloc (.cells #[.string nm, .string vl, .bool st] 49)).heap.size = w.heap.size + 1 by simp] at HS1
  have HD1 : Hid (((w.alloc (.cells #[.string nm, .string vl, .bool st] 49)).alloc (.cells (Lib.cellsOf (cutB vl) (min 5 (vl.size + 1))) 9)).cell? ⟨w.heap.size, 2, none⟩ = some (.bool st)) := ext_alloc _ _ _ _ _ (by rw [cell_new]; rfl)
  obtain ⟨m, hm⟩ := (HT.out.ext (Ext.below (hb0 (.cells #[.string nm, .string vl, .bool st] 49)).out)).mx
  by_cases h4 : 4 < (cutB vl).length
  · rw [if_pos h4]
    go_enter Tryz.func53, Tryz.ntmps53
    go_wp2_with (go_at_call 75; refine (Tryz.strings_SplitN vl blank 5 m _ (by omega) hm (by decide) (by decide) (by decide)).mono ?_; rintro e w' ⟨rfl, rfl⟩; rw [HC.out]; clear hm)
    go_ret2
    exact ⟨rfl, HB1.out⟩
  · rw [if_neg h4]
    go_enter Tryz.func53, Tryz.ntmps53
    go_wp2_with (go_at_call 75; refine (Tryz.strings_SplitN vl blank 5 m _ (by omega) hm (by decide) (by decide) (by decide)).mono ?_; rintro e w' ⟨rfl, rfl⟩; rw [HC.out]; clear hm)
    generalize (w.alloc (.cells #[.string nm, .string vl, .bool st] 49)).alloc (.cells (Lib.cellsOf (cutB vl) (min 5 (vl.size + 1))) 9) = w1 at *
    refine (fill_any _ (cutB vl) w1 HS1.out hcp (by omega) HW1.out).mono ?_
    rintro e w2 ⟨rfl, hb2⟩
    have HB2 := hid (below_trans HB1.out hb2 (Nat.le_refl _))
    have HT2 := hid (HW1.out.ext (Ext.below hb2))
    have HD2 := hid (Ext.below hb2 _ _ _ HD1.out)
    have hwl := lt_of_cell HD2.out
    simp only [fillV]
    generalize hws : cutB vl = ws at *
    have HWS := hid hws
    clear hws
    clear hb2 HD1 HS1 HB1 HW1 HN HC
    go_wp2_with fail
    go_loopg [5, 16] 4 (fun n v i wr => ∃ k : Nat, n = 4 - k ∧ k ≤ 4 ∧ i = .int .i64 (k : Int) ∧ wr.ownsRow w2.heap.size 49 3 v k (((fourB st ws).take k).flatMap encD) ∧ Below w2.heap.size w2 wr)
    case atStart => exact ⟨0, rfl, Nat.zero_le _, rfl, World.ownsRow_nil _ _ _ _, Below.refl _ _⟩
    case round =>
      obtain ⟨k, hn, hk, rfl, hO, hB⟩ := hrel
      have GK := hid hn
      have HO := hid hO
      have HB := hid hB
      have X := Ext.below hB
      have d2 := X _ _ _ HD2.out
      obtain ⟨s0, s1, s2, s3, _, _, _, _, _⟩ := HT2.out.ext X
      have hsz := hB.size
      have hd := lt_of_cell d2
      have hs0 := lt_of_cell s0
      rename World => wo
      obtain ⟨va, vc, rfl⟩ := own_form hO
      clear hn hO hB X
      have hk' : k = 0 ∨ k = 1 ∨ k = 2 ∨ k = 3 ∨ k = 4 := by omega
      clear hk
      rcases hk' with rfl | rfl | rfl | rfl | rfl
      · have hS : wo.cell? ⟨0, 0, none⟩ = some (.string sd0) ∧ wo.cell? ⟨w.heap.size, 2, none⟩ = some (.bool st) := ⟨s0, d2⟩
        have ix := idx0 (v0 ws) (v1 ws) (v2 ws) (v3 ws)
        go_wp2_with fail
        go_region_held3 (fun w' => w'.cell? ⟨0, 0, none⟩ = some (.string sd0) ∧ w'.cell? ⟨w.heap.size, 2, none⟩ = some (.bool st)) (first | assumption | go_keep) (first | (refine step_app (by rfl) (.tmp 20) (.tmp 28) 36 rfl w2.heap.size 49 _ 3 40 Tryz.underlying36 Tryz.infoD rfl (by decide) (.slice va 0 vc) 0 (((fourB st ws).take 0).flatMap encD) (by rfl) (HO.out.alloc _) _ 1 (encD ⟨sd0, v0 ws, st⟩) (by rfl) (.inr ⟨_, 1, rfl, World.news_of_block (heap_alloc_new _ _)⟩) rfl (one_d _) (by unfold maxLen; omega) (by omega) (by simp; omega) ?_; intro v3 w3 hv3 hg3; have b3 : Below w2.heap.size w2 w3 := (HB.out.alloc HB.out.size _).drew.grown hg3 (HB.out.alloc HB.out.size _).size (fun j hj => (HO.out.lt j hj).1); have hS3 : w3.cell? ⟨0, 0, none⟩ = some (.string sd0) ∧ w3.cell? ⟨w.heap.size, 2, none⟩ = some (.bool st) := ⟨Ext.below b3 _ _ _ HT2.out.s0, Ext.below b3 _ _ _ HD2.out⟩; have HB3 := hid b3; have HV3 := hid hv3; clear hg3 hv3 b3))
        all_goals
          go_wp2_with fail
          go_roundg (4 - 1)
          case measure => have := GK.out; omega
          case rel => exact ⟨1, rfl, by omega, by go_num, HV3.out, HB3.out⟩
      · have hS : wo.cell? ⟨0, 1, none⟩ = some (.string sd1) ∧ wo.cell? ⟨w.heap.size, 2, none⟩ = some (.bool st) := ⟨s1, d2⟩
        have ix := idx1 (v0 ws) (v1 ws) (v2 ws) (v3 ws)
        go_wp2_with fail
        go_region_held3 (fun w' => w'.cell? ⟨0, 1, none⟩ = some (.string sd1) ∧ w'.cell? ⟨w.heap.size, 2, none⟩ = some (.bool st)) (first | assumption | go_keep) (first | (refine step_app (by rfl) (.tmp 20) (.tmp 28) 36 rfl w2.heap.size 49 _ 3 40 Tryz.underlying36 Tryz.infoD rfl (by decide) (.slice va 1 vc) 1 (((fourB st ws).take 1).flatMap encD) (by rfl) (HO.out.alloc _) _ 1 (encD ⟨sd1, v1 ws, st⟩) (by rfl) (.inr ⟨_, 1, rfl, World.news_of_block (heap_alloc_new _ _)⟩) rfl (one_d _) (by unfold maxLen; omega) (by omega) (by simp; omega) ?_; intro v3 w3 hv3 hg3; have b3 : Below w2.heap.size w2 w3 := (HB.out.alloc HB.out.size _).drew.grown hg3 (HB.out.alloc HB.out.size _).size (fun j hj => (HO.out.lt j hj).1); have hS3 : w3.cell? ⟨0, 1, none⟩ = some (.string sd1) ∧ w3.cell? ⟨w.heap.size, 2, none⟩ = some (.bool st) := ⟨Ext.below b3 _ _ _ HT2.out.s1, Ext.below b3 _ _ _ HD2.out⟩; have HB3 := hid b3; have HV3 := hid hv3; clear hg3 hv3 b3))
        all_goals
          go_wp2_with fail
          go_roundg (4 - 2)
          case measure => have := GK.out; omega
          case rel => exact ⟨2, rfl, by omega, by go_num, HV3.out, HB3.out⟩
      · have hS : wo.cell? ⟨0, 2, none⟩ = some (.string sd2) ∧ wo.cell? ⟨w.heap.size, 2, none⟩ = some (.bool st) := ⟨s2, d2⟩
        have ix := idx2 (v0 ws) (v1 ws) (v2 ws) (v3 ws)
        go_wp2_with fail
        go_region_held3 (fun w' => w'.cell? ⟨0, 2, none⟩ = some (.string sd2) ∧ w'.cell? ⟨w.heap.size, 2, none⟩ = some (.bool st)) (first | assumption | go_keep) (first | (refine step_app (by rfl) (.tmp 20) (.tmp 28) 36 rfl w2.heap.size 49 _ 3 40 Tryz.underlying36 Tryz.infoD rfl (by decide) (.slice va 2 vc) 2 (((fourB st ws).take 2).flatMap encD) (by rfl) (HO.out.alloc _) _ 1 (encD ⟨sd2, v2 ws, st⟩) (by rfl) (.inr ⟨_, 1, rfl, World.news_of_block (heap_alloc_new _ _)⟩) rfl (one_d _) (by unfold maxLen; omega) (by omega) (by simp; omega) ?_; intro v3 w3 hv3 hg3; have b3 : Below w2.heap.size w2 w3 := (HB.out.alloc HB.out.size _).drew.grown hg3 (HB.out.alloc HB.out.size _).size (fun j hj => (HO.out.lt j hj).1); have hS3 : w3.cell? ⟨0, 2, none⟩ = some (.string sd2) ∧ w3.cell? ⟨w.heap.size, 2, none⟩ = some (.bool st) := ⟨Ext.below b3 _ _ _ HT2.out.s2, Ext.below b3 _ _ _ HD2.out⟩; have HB3 := hid b3; have HV3 := hid hv3; clear hg3 hv3 b3))
        all_goals
          go_wp2_with fail
          go_roundg (4 - 3)
          case measure => have := GK.out; omega
          case rel => exact ⟨3, rfl, by omega, by go_num, HV3.out, HB3.out⟩
      · have hS : wo.cell? ⟨0, 3, none⟩ = some (.string sd3) ∧ wo.cell? ⟨w.heap.size, 2, none⟩ = some (.bool st) := ⟨s3, d2⟩
        have ix := idx3 (v0 ws) (v1 ws) (v2 ws) (v3 ws)
        go_wp2_with fail
        go_region_held3 (fun w' => w'.cell? ⟨0, 3, none⟩ = some (.string sd3) ∧ w'.cell? ⟨w.heap.size, 2, none⟩ = some (.bool st)) (first | assumption | go_keep) (first | (refine step_app (by rfl) (.tmp 20) (.tmp 28) 36 rfl w2.heap.size 49 _ 3 40 Tryz.underlying36 Tryz.infoD rfl (by decide) (.slice va 3 vc) 3 (((fourB st ws).take 3).flatMap encD) (by rfl) (HO.out.alloc _) _ 1 (encD ⟨sd3, v3 ws, st⟩) (by rfl) (.inr ⟨_, 1, rfl, World.news_of_block (heap_alloc_new _ _)⟩) rfl (one_d _) (by unfold maxLen; omega) (by omega) (by simp; omega) ?_; intro v3 w3 hv3 hg3; have b3 : Below w2.heap.size w2 w3 := (HB.out.alloc HB.out.size _).drew.grown hg3 (HB.out.alloc HB.out.size _).size (fun j hj => (HO.out.lt j hj).1); have hS3 : w3.cell? ⟨0, 3, none⟩ = some (.string sd3) ∧ w3.cell? ⟨w.heap.size, 2, none⟩ = some (.bool st) := ⟨Ext.below b3 _ _ _ HT2.out.s3, Ext.below b3 _ _ _ HD2.out⟩; have HB3 := hid b3; have HV3 := hid hv3; clear hg3 hv3 b3))
        all_goals
          go_wp2_with fail
          go_roundg (4 - 4)
          case measure => have := GK.out; omega
          case rel => exact ⟨4, rfl, by omega, by go_num, HV3.out, HB3.out⟩
      · go_wp2_with fail
        go_ret2
        rw [HWS.out]
        exact ⟨⟨va, vc, rfl, DsAt.own (base := w2.heap.size) HO.out⟩, below_trans HB2.out HB.out (Nat.le_refl _)⟩
end Go.Proofs.YtfobkiglmphgjabGreatDoor

namespace Go.Proofs.YtfobkiglmphgjabGreatDoor
open Go.RowKit

theorem clone_any (s : ByteArray) (w : World) (hs : s.size ≤ 1048576) :
    Calls Tryz.prog 52 #[.string s] w fun e w' => e = .returned (.string s) ∧ Below w.heap.size w w' := by
  go_enter Tryz.func52, Tryz.ntmps52
  go_wp2_with (go_at_call 74; refine (Tryz.stringslite_Clone _ _ (by omega)).mono ?_; rintro e w' ⟨rfl, hb⟩)
  go_ret
  exact ⟨rfl, hb⟩

theorem isE_eq (d : Dc) : isE d = (d.name.toList == [101, 100, 103, 101]) := by
  unfold isE
  rw [show edgeN.toList = [101, 100, 103, 101] by decide +kernel]
/-- A declaration in a block. -/
def DB (w : World) (T : Nat) (d : Dc) : Prop := w.heap[T]? = some (.cells #[.string d.name, .string d.val, .bool d.strong] 49 (0, 0))
theorem DB.cell {w : World} {T : Nat} {d : Dc} (h : DB w T d) : w.cell? ⟨T, 0, none⟩ = some (.string d.name) ∧ w.cell? ⟨T, 1, none⟩ = some (.string d.val) ∧ w.cell? ⟨T, 2, none⟩ = some (.bool d.strong) := by
  unfold DB at h
  unfold World.cell?
  rw [h]
  exact ⟨rfl, rfl, rfl⟩
theorem DB.fz {w : World} {T : Nat} {d : Dc} (h : DB w T d) : w.frozen? ⟨T, 0, none⟩ = false ∧ w.frozen? ⟨T, 1, none⟩ = false ∧ w.frozen? ⟨T, 2, none⟩ = false := by
  unfold DB at h
  simp [World.frozen?, h]
theorem DB.lt {w : World} {T : Nat} {d : Dc} (h : DB w T d) : T < w.heap.size := (Array.getElem?_eq_some_iff.1 h).1
theorem DB.keep {w w' : World} {T : Nat} {d : Dc} (h : DB w T d) (e : w'.heap[T]? = w.heap[T]?) : DB w' T d := by
  unfold DB at h ⊢; rw [e]; exact h
theorem DB.alloc {w : World} {T : Nat} {d : Dc} (h : DB w T d) (o : Obj) : DB (w.alloc o) T d := h.keep (Below.heap_alloc _ _ _ h.lt)
theorem DB.below {w w' : World} {T : Nat} {d : Dc} (h : DB w T d) (hb : Below w.heap.size w w') : DB w' T d := h.keep (hb.block T h.lt)
theorem DB.new (w : World) (d : Dc) : DB (w.alloc (.cells #[.string d.name, .string d.val, .bool d.strong] 49)) w.heap.size d := heap_alloc_new _ _
theorem DB.set0 {w : World} {T : Nat} {d : Dc} (h : DB w T d) : DB (w.setCell ⟨T, 0, none⟩ (.string d.name)) T d := by
  unfold DB at h ⊢
  simp [World.setCell, Array.getElem?_modify, h]
theorem DB.set1 {w : World} {T : Nat} {d : Dc} (h : DB w T d) : DB (w.setCell ⟨T, 1, none⟩ (.string d.val)) T d := by
  unfold DB at h ⊢
  simp [World.setCell, Array.getElem?_modify, h]

set_option maxRecDepth 100000 in
set_option maxHeartbeats 4000000 in
theorem expand_any (d : Dc) (w : World) (hs : SmD d) (hT : Tab w) :
    Calls Tryz.prog 35 #[declV d] w fun e w' => Ans w' e (expB d) ∧ Below w.heap.size w w' := by
  have HX : Hid (expB d = if isE d then (if 4 < (cutB d.val).length then none else some (fourB d.strong (cutB d.val))) else some [d]) := rfl
  generalize expB d = R at *
  obtain ⟨h1, h2⟩ := hs
  have HV := hid h2
  have HT := hid hT
  unfold lim at h1 h2
  clear hT
  have HB0 : Hid (Below w.heap.size w (w.alloc (.cells #[.string d.name, .string d.val, .bool d.strong] 49))) := (Below.refl _ _).alloc (Nat.le_refl _) _
  have HD0 := hid (DB.new w d)
  have hS : DB (w.alloc (.cells #[.string d.name, .string d.val, .bool d.strong] 49)) w.heap.size d := HD0.out
  obtain ⟨nm, vl, st⟩ := d
  simp only [declV] at *
  go_enter Tryz.func35, Tryz.ntmps35
  go_wp2_with fail
  generalize w.alloc (.cells #[.string nm, .string vl, .bool st] 49) = w0 at *
  have hS0 : w0.cell? ⟨w.heap.size, 0, none⟩ = some (.string nm) ∧ w0.cell? ⟨w.heap.size, 1, none⟩ = some (.string vl) := ⟨hS.cell.1, hS.cell.2.1⟩
  obtain ⟨f0, f1, f2⟩ := hS.fz
  go_region_with (first | (go_at_call 52; refine (clone_any _ _ (by omega)).mono ?_; rintro e w' ⟨rfl, hb⟩; have HQ : Hid (DB w' w.heap.size ⟨nm, vl, st⟩ ∧ Below w.heap.size w w') := (by first | exact ⟨DB.below HQ.out.1 hb, below_trans HQ.out.2 hb (Nat.le_refl _)⟩ | exact ⟨DB.below (w := w0.drew) hS hb, below_trans HB0.out.drew hb (Nat.le_refl _)⟩); obtain ⟨c0, c1, c2⟩ := HQ.out.1.cell; obtain ⟨f0, f1, f2⟩ := HQ.out.1.fz; clear hb))
  all_goals
    have HD3 := hid (DB.set1 (DB.set0 HQ.out.1))
    have HB3 : Hid (Below w.heap.size w ((w'.setCell ⟨w.heap.size, 0, none⟩ (.string nm)).setCell ⟨w.heap.size, 1, none⟩ (.string vl))) := (HQ.out.2.setCell (Nat.le_refl _) _).setCell (Nat.le_refl _) _
    simp only at HD3
    clear hS hS0
    clear HD0 HB0
    generalize (w'.setCell ⟨w.heap.size, 0, none⟩ (.string nm)).setCell ⟨w.heap.size, 1, none⟩ (.string vl) = w3 at *
    obtain ⟨g0, g1, g2⟩ := HD3.out.cell
    simp only at g0 g1 g2
    have HE : Hid (isE ⟨nm, vl, st⟩ = (nm.toList == [101, 100, 103, 101])) := isE_eq _
    cases hq : (nm.toList == [101, 100, 103, 101])
    · have HR : Hid (R = some [⟨nm, vl, st⟩]) := by
        show R = _
        rw [HX.out, HE.out, hq]
        rfl
      go_wp2_with fail
      go_ret2
      rw [HR.out]
      exact ⟨⟨_, _, rfl, ds_new w3 ⟨nm, vl, st⟩⟩, HB3.out.alloc HB3.out.size _⟩
    · have HR : Hid (R = if 4 < (cutB vl).length then none else some (fourB st (cutB vl))) := by
        show R = _
        rw [HX.out, HE.out, hq]
        rfl
      go_wp2_with fail
      refine (edge_any ⟨nm, vl, st⟩ w3 HV.out (HT.out.ext (Ext.below HB3.out))).mono ?_
      rintro e w4 ⟨hA, hb4⟩
      have HB4 := hid (below_trans HB3.out hb4 (Nat.le_refl _))
      clear hb4
      simp only at hA
      rw [← HR.out] at hA
      have HA := hid hA
      cases R with
      | none =>
        obtain rfl : e = .returned badV := hA
        simp only [badV]
        go_wp2_with fail
        go_ret2
        exact ⟨rfl, HB4.out⟩
      | some l =>
        obtain ⟨a, c, rfl, hD⟩ := hA
        have HDD := hid hD
        clear hD
        go_wp2_with fail
        go_ret2
        exact ⟨⟨a, c, rfl, HDD.out⟩, HB4.out⟩
end Go.Proofs.YtfobkiglmphgjabGreatDoor

namespace Go.Proofs.YtfobkiglmphgjabGreatDoor
open Go.RowKit

set_option maxRecDepth 100000 in
set_option maxHeartbeats 4000000 in
theorem all_any (lv : Value) (l : List Dc) (w : World) (hl : DsAt w lv l) (hs : SmDs l) (hT : Tab w) :
    Calls Tryz.prog 16 #[lv] w fun e w' => Ans w' e (allB l) ∧ Below w.heap.size w w' := by
  obtain ⟨sa, sc, rfl⟩ := Sl.form hl
  have HL := hid hl
  have HS := hid hs.2
  have HT := hid hT
  have hll := hs.1
  unfold lim at hll
  clear hl hs hT
  go_enter Tryz.func16, Tryz.ntmps16
  go_wp2_with fail
  go_loopg [4, 11] l.length (fun n v i wr => ∃ (k : Nat) (A : List Dc), n = l.length - k ∧ k ≤ l.length ∧ i = .int .i64 (k : Int) ∧ allB (l.take k) = some A ∧ wr.ownsRow w.heap.size 49 3 v A.length (A.flatMap encD) ∧ Below w.heap.size w wr)
  case atStart => exact ⟨0, [], rfl, Nat.zero_le _, rfl, rfl, World.ownsRow_nil _ _ _ _, Below.refl _ _⟩
  case round =>
    obtain ⟨k, A, hn, hk, rfl, hA, hO, hB⟩ := hrel
    have GK := hid hn
    have HO := hid hO
    have HB := hid hB
    have HA := hid hA
    have hAl := allB_len hA
    have X := Ext.below hB
    have HL' := HL.out.ext X
    have HT' := hid (HT.out.ext X)
    rename World => wo
    obtain ⟨va, vc, rfl⟩ := own_form hO
    clear hn hO hB X hA
    have hAs : A.length ≤ 4194304 := by simp at hAl; omega
    clear hAl
    by_cases hlt : k < l.length
    · obtain ⟨b, off, rfl, he⟩ := Sl.at HL' hlt
      obtain ⟨c0, c1, c2⟩ := he.cells
      have HSk := hid (HS.out l[k] (List.getElem_mem hlt))
      have HN1 := hid (allB_next hlt HA.out)
      have HN2 := hid (fun h => allB_none hlt HA.out h)
      clear he HL'
      generalize l[k] = d at *
      obtain ⟨nm, vl, st⟩ := d
      simp only at c0 c1 c2
      go_wp2_with fail
      have HBa : Hid (Below w.heap.size w (wo.alloc (.cells #[.string nm, .string vl, .bool st] 49))) := HB.out.alloc HB.out.size _
      have HTa := hid (HT'.out.ext (ext_alloc wo (.cells #[.string nm, .string vl, .bool st] 49)))
      have HOa := hid (HO.out.alloc (.cells #[.string nm, .string vl, .bool st] 49))
      generalize wo.alloc (.cells #[.string nm, .string vl, .bool st] 49) = w1 at *
      refine (expand_any ⟨nm, vl, st⟩ w1 HSk.out HTa.out).mono ?_
      rintro e w2 ⟨hX, hb2⟩
      have HB2 := hid (below_trans HBa.out hb2 (Nat.le_refl _))
      have HO2 := hid (own_ext HOa.out hb2)
      clear hb2 HOa HBa HTa
      cases hx : expB ⟨nm, vl, st⟩ with
      | none =>
        rw [hx] at hX
        obtain rfl : e = .returned badV := hX
        have HF := hid (HN2.out hx)
        simp only [badV]
        clear hx
        go_wp2_with fail
        go_ret2
        rw [HF.out]
        exact ⟨rfl, HB2.out⟩
      | some x =>
        rw [hx] at hX
        obtain ⟨xa, xc, rfl, hD⟩ := hX
        have HF : Hid (allB (l.take (k + 1)) = some (A ++ x)) := by
          show _ = _
          rw [HN1.out, hx]; rfl
        have hxl := expB_len hx
        have HSR := hid (DsAt.src hD)
        clear hx hD
        go_wp2_with (at_builtin; refine wpList_app rfl (.tmp 23) (.tmp 24) 36 rfl w.heap.size 49 _ 3 40 Tryz.underlying36 Tryz.infoD rfl (by decide) (.slice va A.length vc) A.length (A.flatMap encD) rfl HO2.out _ x.length (x.flatMap encD) rfl HSR.out (by rw [flat_len 3 encD (fun _ => rfl)]) (one_D _) (by unfold maxLen; omega) (by omega) HB2.out.size ?_; intro v3 w3 hv3 hg3)
        have HB3 : Hid (Below w.heap.size w w3) := HB2.out.grown hg3 HB2.out.size (fun j hj => (HO2.out.lt j hj).1)
        have HO3 : Hid (w3.ownsRow w.heap.size 49 3 v3 (A ++ x).length ((A ++ x).flatMap encD)) := by
          show World.ownsRow _ _ _ _ _ _ _
          rw [List.length_append, List.flatMap_append]
          exact hv3
        clear hv3 hg3
        go_roundg (l.length - (k + 1))
        case measure => have := GK.out; omega
        case rel => exact ⟨k + 1, A ++ x, rfl, by omega, by go_num, HF.out, HO3.out, HB3.out⟩
    · have HE : Hid (allB l = some A) := by
        show _ = _
        have := HA.out
        rw [List.take_of_length_le (by omega)] at this
        exact this
      clear HL'
      go_wp2_with fail
      go_ret2
      rw [HE.out]
      exact ⟨⟨va, vc, rfl, DsAt.own HO.out⟩, HB.out⟩

end Go.Proofs.YtfobkiglmphgjabGreatDoor
