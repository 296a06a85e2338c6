/- Texts that the statement's proof stands on: Scan3, Scan4, Mem, Sheet1. -/
import Derived.Test.YtblkldfokeeaeacGreatDoorA10
import Derived.Deep.LoopGhost
import Derived.Deep.AppendLies
import Derived.Deep.RegionLaw
import Derived.Test.YtblkldfokeeaeacGreatDoorA01
namespace Go.Proofs.YtblkldfokeeaeacGreatDoor.Sh
open Go.RowKit
variable {T : TypeId}
theorem Kp.below {w w' : World} (h : Below w.heap.size w w') (X : Nat → Prop) : Kp X w w' := ⟨h.os, h.tape, h.output, h.size, fun j hj _ => h.block j hj⟩
theorem RdT.kp {w w' : World} {b : Nat} {s : ByteArray} {k : Nat} {nv : Value} (h : RdT T w b s k nv) (hb : Below w.heap.size w w') : RdT T w' b s k nv := by
  have := hb.block b h.lt
  unfold RdT at h ⊢
  rw [this]; exact h
set_option maxHeartbeats 1000000 in
theorem while_any (g : Nat) (p : UInt8 → Bool) (hcf : ∀ (args : Array Value) (w : World), Sem.run Tryz.prog (callFunc g args) w = .ok (.enter g args) w) (hg : Tells g p)
    (b : Nat) (s : ByteArray) (k : Nat) (nv : Value) (w : World) (hl : s.size ≤ 6000) (hk : k ≤ s.size) (hr : RdT T w b s k nv) :
    Calls Tryz.prog 194 #[.pointer (some ⟨b, 0, none⟩), .func (.func g) #[] #[]] w fun e w' =>
      e = .returned (.string (s.extract k (whileEnd s.data.toList k p))) ∧ RdT T w' b s (whileEnd s.data.toList k p) nv ∧ Kp (· = b) w w' := by
  have h1 := hr.c1
  go_enter Tryz.func194, Tryz.ntmps194
  go_wp2_with fail
  go_loopg [] (s.size - k) (fun n wr => ∃ k', n = s.size - k' ∧ k ≤ k' ∧ k' ≤ s.size ∧ RdT T wr b s k' nv ∧ Kp (· = b) w wr ∧ whileEnd s.data.toList k' p = whileEnd s.data.toList k p)
  case atStart => exact ⟨k, rfl, Nat.le_refl _, hk, hr, Kp.refl _ _, rfl⟩
  case round =>
    obtain ⟨k', hn, hk1, hk2, hr', hkp, hw⟩ := hrel
    have A : Hid (whileEnd s.data.toList k' p = whileEnd s.data.toList k p) := hw
    have B : Hid (gk = s.size - k') := hn
    clear hw hn h1 hr
    have h0 := hr'.c0
    have h1 := hr'.c1
    have hz := hr'.fz 1
    cases hf : fitsAt s.data.toList k' p with
    | false =>
      have C : Hid (whileEnd s.data.toList k p = k') := A.out.symm.trans (whileEnd_stop hf)
      have F : Hid (fitsAt s.data.toList k' p = false) := hf
      clear hf
      go_wp2_with (first | (go_at_call 176; refine (hasByte_no g p hcf hg b s k' _ h0 h1 F.out).mono ?_; rintro e w' ⟨rfl, n, rfl⟩) | (go_at_call 196; refine (since_any b s k' k nv _ hl hk2 hk1 (hr'.drewN _)).mono ?_; rintro e w' ⟨rfl, hb⟩))
      go_ret
      rw [C.out]
      exact ⟨rfl, (hr'.drewN _).kp hb, (hkp.drewN _).trans (Kp.below hb _)⟩
    | true =>
      have C : Hid (whileEnd s.data.toList (k' + 1) p = whileEnd s.data.toList k p) := (whileEnd_step hf).trans A.out
      have hlt : k' < s.size := by
        by_cases h : k' < s.size
        · exact h
        · rw [fitsAt_ge p (by rw [← Lib.size_eq]; omega)] at hf; cases hf
      have F : Hid (fitsAt s.data.toList k' p = true) := hf
      clear hf
      go_wp2_with (first | (go_at_call 176; refine (hasByte_yes g p hcf hg b s k' _ h0 h1 F.out).mono ?_; rintro e w' ⟨rfl, n, rfl⟩))
      go_roundg (s.size - (k' + 1))
      case measure => have := B.out; omega
      case rel => exact ⟨k' + 1, rfl, by omega, by omega, (hr'.drewN _).set1 (k' + 1), (hkp.drewN _).trans (Kp.set _ _ _ _), C.out⟩
theorem tells31 : Tells 193 letterB := letter_any
theorem tells32 : Tells 195 nameB := nameByte_any
theorem tells46 : Tells 152 textB := text_any
theorem tells66 : Tells 211 valueB := value_any
theorem cf31 (args : Array Value) (w : World) : Sem.run Tryz.prog (callFunc 193 args) w = .ok (.enter 193 args) w := cf_of Tryz.func193 (by kernel_rfl) (by kernel_rfl) args w
theorem cf32 (args : Array Value) (w : World) : Sem.run Tryz.prog (callFunc 195 args) w = .ok (.enter 195 args) w := cf_of Tryz.func195 (by kernel_rfl) (by kernel_rfl) args w
theorem cf66 (args : Array Value) (w : World) : Sem.run Tryz.prog (callFunc 211 args) w = .ok (.enter 211 args) w := cf_of Tryz.func211 (by kernel_rfl) (by kernel_rfl) args w
set_option maxHeartbeats 1000000 in
theorem name_yes (b : Nat) (s : ByteArray) (k m : Nat) (nv : Value) (w : World) (hl : s.size ≤ 6000) (hr : RdT T w b s k nv) (hm : nameTo s.data.toList k = .ok m) :
    Calls Tryz.prog 179 #[.pointer (some ⟨b, 0, none⟩)] w fun e w' =>
      e = .returned (.string (s.extract k m)) ∧ RdT T w' b s m nv ∧ Kp (· = b) w w' := by
  have h1 := hr.c1
  unfold nameTo at hm
  split at hm
  · rename_i hf
    have hlt : k < s.size := by
      by_cases h : k < s.size
      · exact h
      · rw [fitsAt_ge _ (by rw [← Lib.size_eq]; omega)] at hf; cases hf
    have hm' : whileEnd s.data.toList (k + 1) nameB = m := by injection hm
    clear hm
    have hle := whileEnd_le (S := s.data.toList) (k := k + 1) nameB (by rw [← Lib.size_eq]; omega)
    rw [hm', ← Lib.size_eq] at hle
    have M : Hid (whileEnd s.data.toList (k + 1) nameB = m) := hm'
    have F : Hid (fitsAt s.data.toList k letterB = true) := hf
    clear hm' hf
    go_enter Tryz.func179, Tryz.ntmps179
    go_wp2_with fail
    refine (needByte_yes 193 letterB cf31 tells31 b s k nv _ hl hr F.out).mono ?_
    rintro e w1 ⟨rfl, hr1, hk1⟩
    go_wp2_with fail
    refine (while_any 195 nameB cf32 tells32 b s (k + 1) nv _ hl (by omega) hr1).mono ?_
    rw [M.out]
    rintro e w2 ⟨rfl, hr2, hk2⟩
    go_wp2_with fail
    refine (since_any b s m k nv _ hl (by omega) (by omega) hr2).mono ?_
    rintro e w3 ⟨rfl, hb⟩
    go_wp2_with fail
    go_ret
    exact ⟨rfl, hr2.kp hb, (hk1.trans hk2).trans (Kp.below hb _)⟩
  · cases hm
set_option maxHeartbeats 1000000 in
theorem name_no (b : Nat) (s : ByteArray) (k : Nat) (x : Nat × Nat) (nv : Value) (w : World) (hr : RdT T w b s k nv) (hm : nameTo s.data.toList k = .error x) :
    Calls Tryz.prog 179 #[.pointer (some ⟨b, 0, none⟩)] w fun e w' => e = .panicked [{ v := .iface 161 (.agg #[.int .i64 x.1, .int .i64 x.2]), recovered := false }] ∧ ∃ n, w' = w.drewN n := by
  have h1 := hr.c1
  unfold nameTo at hm
  split at hm
  · cases hm
  · rename_i hf
    have hx : (2, k) = x := by injection hm
    subst hx
    have F0 : fitsAt s.data.toList k letterB = false := by simpa using hf
    have F : Hid (fitsAt s.data.toList k letterB = false) := F0
    clear F0
    clear hm hf
    go_enter Tryz.func179, Tryz.ntmps179
    go_wp2_with fail
    refine (needByte_no 193 letterB cf31 tells31 b s k nv _ hr F.out).mono ?_
    rintro e w1 ⟨rfl, n, rfl⟩
    exact ⟨rfl, rfl, _, rfl⟩
end Go.Proofs.YtblkldfokeeaeacGreatDoor.Sh
namespace Go.Proofs.YtblkldfokeeaeacGreatDoor.Sh
open Go.RowKit
variable {T : TypeId}
theorem cell_alloc {w : World} {b o : Nat} {v : Value} (h : w.cell? ⟨b, o, none⟩ = some v) (x : Obj) : (w.alloc x).cell? ⟨b, o, none⟩ = some v := by
  have hb : b < w.heap.size := by
    by_cases hb : b < w.heap.size
    · exact hb
    · have : w.heap[b]? = none := by simp; omega
      simp [World.cell?, this] at h
  rw [World.cell?_of_block (w := w) (Below.heap_alloc _ _ _ hb)]
  exact h
theorem below_drewN' {B : Nat} {w w' : World} (h : Below B w w') (n : Nat) : Below B w (w'.drewN n) := ⟨h.os, h.tape, h.output, h.size, h.block⟩
theorem alloc_drewN (w : World) (n : Nat) (o : Obj) : (w.drewN n).alloc o = (w.alloc o).drewN n := rfl
theorem setCell_drewN (w : World) (n : Nat) (a : Addr) (v : Value) : (w.drewN n).setCell a v = (w.setCell a v).drewN n := rfl
theorem frozen_alloc' {w : World} {b o : Nat} (hb : b < w.heap.size) (h : w.frozen? ⟨b, o, none⟩ = false) (x : Obj) : (w.alloc x).frozen? ⟨b, o, none⟩ = false := by
  rw [World.frozen?_of_block (w := w) (Below.heap_alloc _ _ _ hb)]
  exact h
theorem below_two (w : World) (x y : Obj) (n : Nat) : Below w.heap.size w (((w.alloc x).alloc y).drewN n) :=
  below_drewN' (((Below.refl _ _).alloc (Nat.le_refl _) _).alloc (by simp) _) _
set_option maxHeartbeats 1000000 in
theorem past_no (b : Nat) (s t : ByteArray) (k : Nat) (mi mx : Int) (nv : Value) (w : World) (hl : s.size ≤ 6000) (hk : k ≤ s.size) (hr : RdT T w b s k nv) (hmx : w.cell? ⟨2, 0, none⟩ = some (.int .i64 mx)) (hm : pastAt s.data.toList k t.data.toList = none) :
    Calls Tryz.prog 148 #[.pointer (some ⟨b, 0, none⟩), .string t, .int .i64 mi] w fun e w' => e = .panicked [{ v := .iface 161 (.agg #[.int .i64 2, .int .i64 mi]), recovered := false }] ∧ Below w.heap.size w w' := by
  have h0 := cell_alloc hr.c0
  have h1 := cell_alloc hr.c1
  have h2 := cell_alloc hmx
  have hlt : Lib.index (s.extract k s.size).data.toList t.data.toList < 0 := by
    rw [extract_list]
    unfold pastAt at hm
    split at hm
    · assumption
    · cases hm
  have hsz : (s.extract k s.size).size < 4294967281 := by rw [ByteArray.size_extract]; omega
  generalize hi : Lib.index (s.extract k s.size).data.toList t.data.toList = i at hlt
  have I : Hid (Lib.index (s.extract k s.size).data.toList t.data.toList = i) := hi
  clear hi hm
  go_enter Tryz.func148, Tryz.ntmps148
  go_wp2_with fail
  go_quiet ((go_at_call 173; exact Calls.quiet_of_same (I.out ▸ Tryz.strings_Index _ _ mx _ hsz (by simpa using h2 _))))
  go_wp2_with (go_at_call 112; refine (throw_any _ _ _).mono ?_; rintro e w' ⟨rfl, rfl⟩)
  exact ⟨rfl, rfl, below_drewN' ((Below.refl _ _).alloc (Nat.le_refl _) _) _⟩
set_option maxHeartbeats 1000000 in
theorem past_yes (b : Nat) (s t : ByteArray) (k m : Nat) (mi mx : Int) (nv : Value) (w : World) (hl : s.size ≤ 6000) (ht : t.size ≤ 6000) (hk : k ≤ s.size) (hr : RdT T w b s k nv) (hmx : w.cell? ⟨2, 0, none⟩ = some (.int .i64 mx)) (hm : pastAt s.data.toList k t.data.toList = some m) (hms : m ≤ s.size) :
    Calls Tryz.prog 148 #[.pointer (some ⟨b, 0, none⟩), .string t, .int .i64 mi] w fun e w' => e = .returned (.agg #[.int .i64 k, .int .i64 m]) ∧ RdT T w' b s (m + t.size) nv ∧ Kp (· = b) w w' := by
  have h0 := cell_alloc hr.c0
  have h1 := cell_alloc hr.c1
  have h2 := cell_alloc hmx
  obtain ⟨n, hn, hmn⟩ : ∃ n : Nat, Lib.index (s.extract k s.size).data.toList t.data.toList = (n : Int) ∧ k + n = m := by
    rw [extract_list]
    unfold pastAt at hm
    split at hm
    · cases hm
    · rename_i hge
      refine ⟨(Lib.index (s.data.toList.drop k) t.data.toList).toNat, by omega, ?_⟩
      injection hm
  have hsz : (s.extract k s.size).size < 4294967281 := by rw [ByteArray.size_extract]; omega
  have I : Hid (Lib.index (s.extract k s.size).data.toList t.data.toList = (n : Int)) := hn
  clear hn hm
  subst hmn
  have hda := alloc_drewN
  have hds := setCell_drewN
  have h1' := fun o1 o2 => cell_alloc (h1 o1) o2
  have hz' := fun o1 o2 => frozen_alloc' (by simp; have := hr.lt; omega) (frozen_alloc' hr.lt (hr.fz 1) o1) o2
  have hlt := hr.lt
  have hn0 : ¬ b = w.heap.size := by omega
  have hn1 : ¬ b = w.heap.size + 1 := by omega
  have hn2 : ¬ w.heap.size = b := by omega
  have hn3 : ¬ w.heap.size + 1 = b := by omega
  go_enter Tryz.func148, Tryz.ntmps148
  go_wp2_with fail
  go_quiet ((go_at_call 173; exact Calls.quiet_of_same (I.out ▸ Tryz.strings_Index _ _ mx _ hsz (by simpa using h2 _))))
  go_wp2_with fail
  go_region
  go_wp2_with fail
  refine bodyPost_ret (v := .agg #[.int .i64 k, .int .i64 ((k : Int) + n)]) (by simp [results, Tryz.results148, go_sem]) rfl ⟨rfl, ?_, ?_⟩
  · have hb := below_two (w.setCell ⟨b, 1, none⟩ (.int .i64 (((k + n + t.size : Nat)) : Int))) (.cells #[.int .i64 k, .int .i64 ((k : Int) + n)] 36) (.cells #[.int .i64 k, .int .i64 ((k : Int) + n)] 36) (nq + 1)
    exact (hr.set1 (k + n + t.size)).kp hb
  · exact (Kp.set w b 1 _).trans (Kp.below (below_two _ _ _ _) _)
end Go.Proofs.YtblkldfokeeaeacGreatDoor.Sh
namespace Go.Proofs.YtblkldfokeeaeacGreatDoor.Sh
open Go.RowKit
variable {T : TypeId}
def bs (l : List UInt8) : ByteArray := ⟨l.toArray⟩
theorem ba_ext {a b : ByteArray} (h : a.data.toList = b.data.toList) : a = b := by
  obtain ⟨⟨a⟩⟩ := a; obtain ⟨⟨b⟩⟩ := b; simp at h; rw [h]
theorem bs_toList (l : List UInt8) : (bs l).toList = l := by rw [Lib.toList_data]; rfl
theorem bs_size (l : List UInt8) : (bs l).size = l.length := by rw [Lib.size_eq]; rfl
theorem flat_get {α β : Type} (n : Nat) (f : α → List β) (hf : ∀ x, (f x).length = n) : ∀ (l : List α) (i j : Nat) (hi : i < l.length), j < n → (l.flatMap f)[i * n + j]? = (f l[i])[j]?
  | [], _, _, hi, _ => absurd hi (Nat.not_lt_zero _)
  | a :: l, 0, j, _, hj => by
    rw [List.flatMap_cons, List.getElem?_append_left (by rw [hf]; omega)]
    simp
  | a :: l, i + 1, j, hi, hj => by
    rw [List.flatMap_cons, List.getElem?_append_right (by rw [hf, Nat.add_mul]; omega), hf]
    have := flat_get n f hf l i j (by simpa using hi) hj
    rw [show (i + 1) * n + j - n = i * n + j by rw [Nat.add_mul]; omega, this]
    simp
theorem Kp.cell {X : Nat → Prop} {w w' : World} (h : Kp X w w') {j : Nat} (hj : j < w.heap.size) (hx : ¬ X j) (o : Nat) : w'.cell? ⟨j, o, none⟩ = w.cell? ⟨j, o, none⟩ :=
  World.cell?_of_block (w := w) (h.block j hj hx)
theorem Kp.fz {X : Nat → Prop} {w w' : World} (h : Kp X w w') {j : Nat} (hj : j < w.heap.size) (hx : ¬ X j) (o : Nat) : w'.frozen? ⟨j, o, none⟩ = w.frozen? ⟨j, o, none⟩ :=
  World.frozen?_of_block (w := w) (h.block j hj hx)
theorem Kp.alloc {X : Nat → Prop} (w : World) (o : Obj) : Kp X w (w.alloc o) := Kp.below ((Below.refl _ _).alloc (Nat.le_refl _) _) _
theorem Kp.under {b : Nat} {w w' : World} (h : Kp (· = b) w w') (hb : b < w.heap.size) : Below b w w' :=
  ⟨h.os, h.tape, h.output, h.size, fun j hj => h.block j (by omega) (by omega)⟩
theorem RdT.alloc {w : World} {b : Nat} {s : ByteArray} {k : Nat} {nv : Value} (h : RdT T w b s k nv) (o : Obj) : RdT T (w.alloc o) b s k nv := h.kp ((Below.refl _ _).alloc (Nat.le_refl _) _)
theorem sub_bs (s : ByteArray) (a b : Nat) : s.extract a b = bs (sub s.data.toList a b) := Lib.extract_eq s a b
theorem Kp.setNew {X : Nat → Prop} {w w' : World} (h : Kp X w w') {a : Addr} (ha : w.heap.size ≤ a.block) (v : Value) : Kp X w (w'.setCell a v) :=
  ⟨h.os, h.tape, h.output, Nat.le_trans h.size (by simp [World.setCell]), fun j hj hx => (Below.heap_setCell _ _ _ _ (by omega)).trans (h.block j hj hx)⟩
theorem RdT.setOther {w : World} {b : Nat} {s : ByteArray} {k : Nat} {nv : Value} (h : RdT T w b s k nv) {a : Addr} (ha : b ≠ a.block) (v : Value) : RdT T (w.setCell a v) b s k nv := by
  unfold RdT at h ⊢
  rw [Below.heap_setCell _ _ _ _ ha]; exact h
theorem Kp.le {X : Nat → Prop} {w w' : World} (h : Kp X w w') {w0 : World} (h0 : Below w0.heap.size w0 w) : Kp X w0 w' :=
  (Kp.below h0 X).trans h
theorem block_two0 (w : World) (c : Array Value) (T : TypeId) {o : Obj} : ((w.alloc (.cells c T)).alloc o).heap[w.heap.size]? = some (.cells c T (0, 0)) :=
  (Below.heap_alloc _ _ _ (by simp)).trans (heap_alloc_new w _)
theorem block_two1 (w : World) (c : Array Value) (T : TypeId) {o : Obj} : ((w.alloc o).alloc (.cells c T)).heap[w.heap.size + 1]? = some (.cells c T (0, 0)) := by
  have := heap_alloc_new (w.alloc o) (.cells c T)
  simpa using this
theorem cell_of {w : World} {j : Nat} {cs : Array Value} {T : TypeId} {z : Nat × Nat} (h : w.heap[j]? = some (.cells cs T z)) (o : Nat) : w.cell? ⟨j, o, none⟩ = cs[o]? := by simp [World.cell?, h]
theorem fz_of {w : World} {j : Nat} {cs : Array Value} {T : TypeId} (h : w.heap[j]? = some (.cells cs T (0, 0))) (o : Nat) : w.frozen? ⟨j, o, none⟩ = false := by simp [World.frozen?, h]
theorem flat_len {α β : Type} (n : Nat) (f : α → List β) (hf : ∀ x, (f x).length = n) : ∀ l : List α, (l.flatMap f).length = l.length * n
  | [] => by simp
  | a :: l => by rw [List.flatMap_cons, List.length_append, hf, flat_len n f hf l, List.length_cons, Nat.add_mul]; omega
theorem heap_set {w : World} {j : Nat} {cs : Array Value} {T : TypeId} {z : Nat × Nat} (h : w.heap[j]? = some (.cells cs T z)) (o : Nat) (v : Value) : (w.setCell ⟨j, o, none⟩ v).heap[j]? = some (.cells (cs.setIfInBounds o v) T z) := by
  simp [World.setCell, Array.getElem?_modify, h]
theorem bear {G : Prop} (h : G) (a : Act) (w : World) (_ : wpAny Tryz.prog .any #[] (fun _ _ _ => True) 0 #[] a w) : G := h
theorem own_kp {w w' : World} {base : Nat} {e : TypeId} {size : Nat} {v : Value} {n : Nat} {xs : List Value} (h : w.ownsRow base e size v n xs) {X : Nat → Prop} (hk : Kp X w w') (hx : ∀ j, X j → ∀ cur fz, w.heap[j]? ≠ some (.cells cur e fz)) : w'.ownsRow base e size v n xs := by
  refine ⟨h.1, ?_⟩
  rcases h.2 with h | ⟨g, cap, cur, h0, hb, h1, h2⟩
  · exact .inl h
  · refine .inr ⟨g, cap, cur, h0, hb, ?_, h2⟩
    rw [hk.block g (Array.getElem?_eq_some_iff.1 h1).1 (fun hX => hx g hX _ _ h1)]
    exact h1
theorem own_ne {w : World} {base : Nat} {e : TypeId} {size : Nat} {v : Value} {n : Nat} {xs : List Value} (h : w.ownsRow base e size v n xs) {j : Nat} {c : Array Value} {T : TypeId} {z : Nat × Nat} (hj : w.heap[j]? = some (.cells c T z)) (hT : T ≠ e) : some j ≠ v.ownBlock := by
  intro hv
  rcases h.2 with ⟨rfl, _⟩ | ⟨g, cap, cur, rfl, hb, h1, h2⟩
  · simp [Value.ownBlock] at hv
  · simp [Value.ownBlock] at hv
    subst hv
    rw [hj] at h1
    simp at h1
    exact hT h1.2.1
theorem kp_undrewN {X : Nat → Prop} {w w' : World} {n : Nat} (h : Kp X (w.drewN n) w') : Kp X w w' := ⟨h.os, h.tape, h.output, h.size, h.block⟩
theorem hid {p : Prop} (h : p) : Hid p := h
theorem Kp.weaken {X Y : Nat → Prop} {w w' : World} (h : Kp X w w') (hxy : ∀ j, X j → Y j) : Kp Y w w' :=
  ⟨h.os, h.tape, h.output, h.size, fun j hj hy => h.block j hj (fun hx => hy (hxy j hx))⟩
theorem lt_of_cell {w : World} {b o : Nat} {v : Value} (h : w.cell? ⟨b, o, none⟩ = some v) : b < w.heap.size := by
  by_cases hb : b < w.heap.size
  · exact hb
  · have : w.heap[b]? = none := by simp; omega
    simp [World.cell?, this] at h
def Keeps (Ts : TypeId → Prop) (w w' : World) : Prop := ∀ (j : Nat) (cur : Array Value) (U : TypeId) (fz : Nat × Nat), Ts U → w.heap[j]? = some (.cells cur U fz) → w'.heap[j]? = w.heap[j]?
theorem Keeps.refl (Ts : TypeId → Prop) (w : World) : Keeps Ts w w := fun _ _ _ _ _ _ => rfl
theorem Keeps.trans {Ts : TypeId → Prop} {a b c : World} (h : Keeps Ts a b) (k : Keeps Ts b c) : Keeps Ts a c := fun j cur U fz hU hj => by
  have h1 := h j cur U fz hU hj
  rw [k j cur U fz hU (by rw [h1]; exact hj), h1]
theorem Keeps.ofKp {Ts : TypeId → Prop} {X : Nat → Prop} {w w' : World} (h : Kp X w w') (hx : ∀ j, X j → ∀ cur U fz, Ts U → w.heap[j]? ≠ some (.cells cur U fz)) : Keeps Ts w w' := fun j cur U fz hU hj =>
  h.block j (Array.getElem?_eq_some_iff.1 hj).1 (fun hX => hx j hX cur U fz hU hj)
theorem Keeps.below {Ts : TypeId → Prop} {w w' : World} (h : Below w.heap.size w w') : Keeps Ts w w' := fun j _ _ _ _ hj => h.block j (Array.getElem?_eq_some_iff.1 hj).1
theorem Keeps.set {Ts : TypeId → Prop} {w : World} {a : Addr} {cs : Array Value} {U : TypeId} {fz : Nat × Nat} (h : w.heap[a.block]? = some (.cells cs U fz)) (hU : ¬ Ts U) (v : Value) : Keeps Ts w (w.setCell a v) := fun j cur U' fz' hU' hj => by
  refine Below.heap_setCell _ _ _ _ ?_
  rintro rfl
  rw [h] at hj
  injection hj with hj
  injection hj with _ h2 _
  subst h2
  exact hU hU'
theorem Keeps.reader {Ts : TypeId → Prop} {w w' : World} {b : Nat} {s : ByteArray} {k : Nat} {nv : Value} (hr : RdT T w b s k nv) (h : Kp (· = b) w w') (hT : ¬ Ts T) : Keeps Ts w w' := Keeps.ofKp h (by
  rintro j rfl cur U fz hU hj
  unfold RdT at hr
  rw [hr] at hj
  injection hj with hj
  injection hj with _ h2 _
  subst h2
  exact hT hU)
theorem Keeps.grown {Ts : TypeId → Prop} {w w3 : World} {o : Obj} {base : Nat} {e : TypeId} {size n : Nat} {v : Value} {xs : List Value} (ho : w.ownsRow base e size v n xs) (hg : (w.alloc o).grownBy w3 v.ownBlock) (he : ¬ Ts e) : Keeps Ts w w3 := fun j cur U fz hU hj => by
  have hlt := (Array.getElem?_eq_some_iff.1 hj).1
  have hne : U ≠ e := fun h => he (h ▸ hU)
  exact (hg.block j (by simp; omega) (own_ne ho hj hne)).trans (Below.heap_alloc w o j hlt)
theorem own_keeps {w w' : World} {base : Nat} {e : TypeId} {size : Nat} {v : Value} {n : Nat} {xs : List Value} (h : w.ownsRow base e size v n xs) {Ts : TypeId → Prop} (hk : Keeps Ts w w') (he : Ts e) : w'.ownsRow base e size v n xs := by
  refine ⟨h.1, ?_⟩
  rcases h.2 with h | ⟨g, cap, cur, h0, hb, h1, h2⟩
  · exact .inl h
  · exact .inr ⟨g, cap, cur, h0, hb, by rw [hk g _ _ _ he h1]; exact h1, h2⟩
theorem own_lower {w : World} {base base' : Nat} {e : TypeId} {size : Nat} {v : Value} {n : Nat} {xs : List Value} (h : w.ownsRow base e size v n xs) (hb : base' ≤ base) : w.ownsRow base' e size v n xs := by
  refine ⟨h.1, ?_⟩
  rcases h.2 with h | ⟨g, cap, cur, h0, hg, h1⟩
  · exact .inl h
  · exact .inr ⟨g, cap, cur, h0, by omega, h1⟩
theorem own_form {w : World} {base : Nat} {e : TypeId} {size : Nat} {v : Value} {n : Nat} {xs : List Value} (h : w.ownsRow base e size v n xs) : ∃ a cap, v = .slice a n cap := by
  rcases h.2 with ⟨h1, h2⟩ | ⟨g, cap, cur, h0, _⟩
  · exact ⟨none, 0, by rw [h1, h2]⟩
  · exact ⟨_, _, h0⟩
theorem own_cell {w : World} {base : Nat} {e : TypeId} {size : Nat} {a : Option Addr} {cap n : Nat} {xs : List Value} (h : w.ownsRow base e size (.slice a n cap) n xs) {j : Nat} (hj : j < n * size) : ∃ g, a = some ⟨g, 0, none⟩ ∧ w.cell? ⟨g, j, none⟩ = xs[j]? := by
  rcases h.2 with ⟨h1, h2⟩ | ⟨g, cap', cur, h0, hb, h1, h2, h3, h4, h5⟩
  · subst h2; simp at hj
  · injection h0 with h0 _ _
    refine ⟨g, h0, ?_⟩
    rw [← h5, List.getElem?_take, if_pos hj]
    simp [World.cell?, h1]
theorem grown_kp {w w5 w3 : World} {b : Nat} {o : Obj} {base : Nat} {e : TypeId} {size n : Nat} {v : Value} {xs : List Value} (hk : Kp (· = b) w w5) (ho : w5.ownsRow base e size v n xs) (hb : w.heap.size ≤ base) (hg : (w5.alloc o).grownBy w3 v.ownBlock) : Kp (· = b) w w3 := by
  refine ⟨hg.os.trans hk.os, hg.tape.trans hk.tape, hg.output.trans hk.output, Nat.le_trans hk.size (Nat.le_trans (by simp) hg.size), fun j hj hx => ?_⟩
  have h5 : j < w5.heap.size := Nat.lt_of_lt_of_le hj hk.size
  rw [hg.block j (by simp; omega) (fun hv => by have := ho.lt j hv.symm; omega), Below.heap_alloc w5 o j h5]
  exact hk.block j hj hx
theorem grown_rd {w5 w3 : World} {b : Nat} {s : ByteArray} {k : Nat} {nv : Value} {o : Obj} {base : Nat} {e : TypeId} {size n : Nat} {v : Value} {xs : List Value} (hr : RdT T w5 b s k nv) (ho : w5.ownsRow base e size v n xs) (he : T ≠ e) (hg : (w5.alloc o).grownBy w3 v.ownBlock) : RdT T w3 b s k nv := by
  have h := Keeps.grown (Ts := (· = T)) ho hg (fun h => he h.symm) b _ _ _ rfl hr
  unfold RdT at hr ⊢
  rw [h]; exact hr
end Go.Proofs.YtblkldfokeeaeacGreatDoor.Sh
namespace Go.Proofs.YtblkldfokeeaeacGreatDoor.Sh
open Go.RowKit
abbrev Rs := RdT 215
def Good {α : Type} (b : Nat) (s : ByteArray) (k : Nat) (nv : Value) (w : World) (r : Res (α × Nat)) (E : World → α → Value → Prop) (R : Ending → World → Prop) : Prop :=
  (∀ a k' v w', r = .ok (a, k') → k ≤ k' → k' ≤ s.size → Rs w' b s k' nv → Kp (· = b) w w' → E w' a v → R (.returned v) w') ∧
  (∀ x w', r = .error x → Below b w w' → R (.panicked [{ v := .iface 161 (.agg #[.int .i64 x.1, .int .i64 x.2]), recovered := false }]) w')
def Mx (w : World) : Prop := ∃ mx : Int, w.cell? ⟨2, 0, none⟩ = some (.int .i64 mx)
theorem Mx.kp {w w' : World} {b : Nat} (h : Mx w) (hk : Kp (· = b) w w') (hb : 2 < b) : Mx w' := by
  obtain ⟨mx, h⟩ := h
  exact ⟨mx, (hk.cell (lt_of_cell h) (by omega) 0).trans h⟩
theorem Mx.alloc {w : World} (h : Mx w) (o : Obj) : Mx (w.alloc o) := by
  obtain ⟨mx, h⟩ := h
  exact ⟨mx, cell_alloc h o⟩
theorem Mx.drewN {w : World} (h : Mx w) (n : Nat) : Mx (w.drewN n) := h
set_option maxHeartbeats 400000 in
theorem wordByte_any (c : UInt8) (w : World) :
    Calls Tryz.prog 214 #[.int .u8 c.toNat] w fun e w' => e = .returned (.bool (wordB c)) ∧ w' = w := by
  unfold wordB letterB
  go_enter Tryz.func214, Tryz.ntmps214
  go_wp2
  all_goals
    go_ret
    refine ⟨ret_bool ?_, rfl⟩
    rw [Bool.eq_iff_iff]
    simp
    try omega
theorem tellsW : Tells 214 wordB := wordByte_any
theorem cfW (args : Array Value) (w : World) : Sem.run Tryz.prog (callFunc 214 args) w = .ok (.enter 214 args) w := cf_of Tryz.func214 (by kernel_rfl) (by kernel_rfl) args w
theorem hasName_any (b : Nat) (s : ByteArray) (k : Nat) (w : World) (h0 : w.cell? ⟨b, 0, none⟩ = some (.string s)) (h1 : w.cell? ⟨b, 1, none⟩ = some (.int .i64 k)) :
    Calls Tryz.prog 183 #[.pointer (some ⟨b, 0, none⟩)] w fun e w' => e = .returned (.bool (fitsAt s.data.toList k letterB)) ∧ ∃ n, w' = w.drewN n := by
  go_enter Tryz.func183, Tryz.ntmps183
  go_wp2_with fail
  refine (hasByte_any 193 letterB cf31 tells31 b s k _ h0 h1).mono ?_
  rintro e w' ⟨rfl, n, rfl⟩
  go_wp2_with fail
  go_ret
  exact ⟨rfl, _, rfl⟩
set_option maxHeartbeats 1000000 in
theorem gaps_any (b : Nat) (s : ByteArray) (k : Nat) (nv : Value) (w : World) (R : Ending → World → Prop) (hl : s.size ≤ 4000) (hk : k ≤ s.size) (hb0 : 2 < b) (hmx : Mx w) (hr : Rs w b s k nv)
    (H : Hid (Good b s k nv w (gaps s.data.toList k) (fun _ a v => v = .bool a) R)) :
    Calls Tryz.prog 127 #[.pointer (some ⟨b, 0, none⟩)] w R := by
  have hlt := hr.lt
  have h1 := hr.c1
  have HS : Hid (s.size = s.data.toList.length) := Lib.size_eq s
  go_enter Tryz.func127, Tryz.ntmps127
  go_wp2_with fail
  refine (at_any b _ _ h1).mono ?_
  rintro e w' ⟨rfl, hw⟩
  obtain rfl := hw.symm
  go_wp2_with fail
  clear h1
  go_loopg [] 4001 (fun f wr => ∃ k', s.size - k' < f ∧ k ≤ k' ∧ k' ≤ s.size ∧ Rs wr b s k' nv ∧ Kp (· = b) w wr ∧ gapsTo f s.data.toList k' = gapsTo 4001 s.data.toList k)
  case atStart => exact ⟨k, by omega, Nat.le_refl _, hk, hr, Kp.refl _ _, rfl⟩
  case round =>
    obtain ⟨k', hf, hk1, hk2, hr', hkp, hE⟩ := hrel
    obtain ⟨f', rfl⟩ : ∃ f', gk = f' + 1 := ⟨gk - 1, by omega⟩
    have E : Hid (gapsTo (f' + 1) s.data.toList k' = gapsTo 4001 s.data.toList k) := hE
    clear hE
    have h1 := hr'.c1
    go_wp2_with fail
    refine (at_any b _ _ h1).mono ?_
    rintro e w' ⟨rfl, hw⟩
    obtain rfl := hw.symm
    clear h1
    go_wp2_with fail
    cases t1 : has s.data.toList k' [32] with
    | true =>
      have l1 := has_le t1 (by rw [← HS.out]; omega)
      rw [← HS.out] at l1
      have l1' : k' + 1 ≤ s.size := l1
      refine (take_yes b s ⟨#[32]⟩ k' nv _ hk2 (by omega) (by show (1 : Nat) ≤ 6000; omega) hr' t1).mono ?_
      rintro e w1 ⟨rfl, hr1, hkp1⟩
      have T1 := hid t1
      clear t1 l1
      go_wp2_with fail
      go_roundg f'
      case measure => omega
      case rel =>
        refine ⟨k' + 1, by omega, by omega, l1', hr1, hkp.trans hkp1, ?_⟩
        rw [← E.out, gapsTo, if_pos T1.out]
    | false =>
    refine (take_no b s ⟨#[32]⟩ k' nv _ hk2 hr' t1).mono ?_
    rintro e w1 ⟨rfl, n1, rfl⟩
    have T1 := hid t1
    clear t1
    have hr1 := hr'.drewN n1
    have hkp1 := hkp.drewN n1
    generalize wr.drewN n1 = w1 at hr1 hkp1 ⊢
    go_wp2_with fail
    cases t2 : has s.data.toList k' [10] with
    | true =>
      have l1 := has_le t2 (by rw [← HS.out]; omega)
      rw [← HS.out] at l1
      have l1' : k' + 1 ≤ s.size := l1
      refine (take_yes b s ⟨#[10]⟩ k' nv _ hk2 (by omega) (by show (1 : Nat) ≤ 6000; omega) hr1 t2).mono ?_
      rintro e w2 ⟨rfl, hr2, hkp2⟩
      have T2 := hid t2
      clear t2 l1
      go_wp2_with fail
      go_roundg f'
      case measure => omega
      case rel =>
        refine ⟨k' + 1, by omega, by omega, l1', hr2, hkp1.trans hkp2, ?_⟩
        have e1 := T1.out
        have e2 := T2.out
        rw [← E.out, gapsTo, if_neg (by rw [e1]; decide), if_pos e2]
    | false =>
    refine (take_no b s ⟨#[10]⟩ k' nv _ hk2 hr1 t2).mono ?_
    rintro e w2 ⟨rfl, n2, rfl⟩
    have T2 := hid t2
    clear t2
    have hr2 := hr1.drewN n2
    have hkp2 := hkp1.drewN n2
    generalize w1.drewN n2 = w2 at hr2 hkp2 ⊢
    go_wp2_with fail
    cases t3 : has s.data.toList k' [47, 42] with
    | false =>
      refine (take_no b s ⟨#[47, 42]⟩ k' nv _ hk2 hr2 t3).mono ?_
      rintro e w3 ⟨rfl, n3, rfl⟩
      have EX : Hid (gaps s.data.toList k = .ok (decide (k < k'), k')) := by
        have e1 := T1.out
        have e2 := T2.out
        show gaps s.data.toList k = .ok (decide (k < k'), k')
        unfold gaps
        rw [← E.out, gapsTo, if_neg (by rw [e1]; decide), if_neg (by rw [e2]; decide), if_neg (by rw [t3]; decide)]
      clear t3
      go_wp2_with fail
      have fin := H.out.1 (decide (k < k')) k' _ _ EX.out hk1 hk2 (hr2.drewN n3) (hkp2.drewN n3) rfl
      exact fin
    | true =>
      have l1 := has_le t3 (by rw [← HS.out]; omega)
      rw [← HS.out] at l1
      have l1' : k' + 2 ≤ s.size := l1
      clear l1
      refine (take_yes b s ⟨#[47, 42]⟩ k' nv _ hk2 (by omega) (by show (2 : Nat) ≤ 6000; omega) hr2 t3).mono ?_
      rintro e w3 ⟨rfl, hr3, hkp3⟩
      have T3 := hid t3
      clear t3
      have hkp4 := hkp2.trans hkp3
      obtain ⟨mx, hmx'⟩ := hmx.kp hkp4 hb0
      have MX := hid hmx'
      clear hmx'
      go_wp2_with fail
      cases hp : pastAt s.data.toList (k' + 2) [42, 47] with
      | none =>
        have EX : Hid (gaps s.data.toList k = .error (2, k')) := by
          have e1 := T1.out
          have e2 := T2.out
          show gaps s.data.toList k = .error (2, k')
          unfold gaps
          rw [← E.out, gapsTo, if_neg (by rw [e1]; decide), if_neg (by rw [e2]; decide), if_pos T3.out, hp]
        refine (past_no b s ⟨#[42, 47]⟩ (k' + 2) k' mx nv _ (by omega) l1' hr3 MX.out hp).mono ?_
        rintro e w4 ⟨rfl, hb2⟩
        exact ⟨rfl, H.out.2 (2, k') _ EX.out ((hkp4.under hlt).trans (hb2.mono (by have := hr3.lt; omega)))⟩
      | some e =>
        have l2 := pastAt_le hp (by rw [← HS.out]; exact l1')
        rw [← HS.out] at l2
        obtain ⟨l2, l3⟩ := l2
        have l3' : e + 2 ≤ s.size := l3
        clear l3
        refine (past_yes b s ⟨#[42, 47]⟩ (k' + 2) e k' mx nv _ (by omega) (by show (2 : Nat) ≤ 6000; omega) l1' hr3 MX.out hp (by omega)).mono ?_
        rintro e' w4 ⟨rfl, hr4, hkp5⟩
        have HP := hid hp
        clear hp
        go_wp2_with fail
        go_roundg f'
        case measure => omega
        case rel =>
          refine ⟨e + 2, by omega, by omega, l3', hr4, hkp4.trans hkp5, ?_⟩
          have e1 := T1.out
          have e2 := T2.out
          rw [← E.out, gapsTo, if_neg (by rw [e1]; decide), if_neg (by rw [e2]; decide), if_pos T3.out, HP.out]
set_option maxHeartbeats 400000 in
theorem isName_yes (n : ByteArray) (w : World) (hs : n.size ≤ 6000) (h0 : 0 < n.size) (hl : letterB n[0] = true) (ha : ∀ i (h : i < n.size), nameB n[i] = true) :
    Calls Tryz.prog 197 #[.string n] w fun e w' => e = .returned (.bool true) ∧ w' = w := by
  have hne : (n.toList == []) = false := by
    cases hq : n.toList with
    | nil =>
      have : n.data.toList.length = 0 := by rw [← Lib.toList_data, hq]; rfl
      rw [← Lib.size_eq] at this
      omega
    | cons => rfl
  have HA := hid ha
  clear ha
  go_enter Tryz.func197, Tryz.ntmps197
  go_wp2_with (first | (go_at_call 193; refine (letter_any _ _).mono ?_; rw [show letterB _ = true from hl]; rintro e w' ⟨rfl, hw⟩; obtain rfl := hw.symm))
  go_loopg [14] n.size (fun m i wr => ∃ j, j ≤ n.size ∧ m = n.size - j ∧ i = .int .i64 (j : Int) ∧ wr = w)
  case atStart => exact ⟨0, by omega, rfl, rfl, rfl⟩
  case round =>
    obtain ⟨j, hj, hm, rfl, rfl⟩ := hrel
    have A := hid hm
    clear hm
    by_cases hlt : j < n.size
    · have hb := HA.out j hlt
      go_wp2_with (first | (go_at_call 195; refine (nameByte_any _ _).mono ?_; rw [show nameB _ = true from hb]; rintro e w' ⟨rfl, hw⟩; obtain rfl := hw.symm))
      go_roundg (n.size - (j + 1))
      case measure => have := A.out; omega
      case rel => exact ⟨j + 1, by omega, rfl, by go_num, rfl⟩
    · go_wp2_with fail
      go_ret
      exact ⟨rfl, rfl⟩
set_option maxHeartbeats 400000 in
theorem named_any (n : ByteArray) (w : World) (hs : n.size ≤ 6000) (h0 : 0 < n.size) (hl : letterB n[0] = true) (ha : ∀ i (h : i < n.size), nameB n[i] = true) :
    Calls Tryz.prog 180 #[.string n] w fun e w' => e = .returned (.bool (decide (n.size ≤ 20))) ∧ w' = w := by
  have A := hid ha
  have B := hid hl
  clear ha hl
  by_cases h20 : n.size ≤ 20
  · go_enter Tryz.func180, Tryz.ntmps180
    go_wp2_with (first | (go_at_call 197; refine (isName_yes n _ hs h0 B.out A.out).mono ?_; rintro e w' ⟨rfl, hw⟩; obtain rfl := hw.symm))
    go_ret
    exact ⟨ret_bool (by simp [h20]), rfl⟩
  · go_enter Tryz.func180, Tryz.ntmps180
    go_wp2_with fail
    go_ret
    exact ⟨ret_bool (by simp), rfl⟩
theorem whileEnd_fits {S : List UInt8} {p : UInt8 → Bool} : ∀ (k j : Nat), k ≤ j → j < whileEnd S k p → fitsAt S j p = true := by
  intro k j hk hj
  unfold whileEnd at hj
  have hlt : j - k < ((S.drop k).takeWhile p).length := by omega
  have h1 := (List.all_eq_true.1 List.all_takeWhile) _ (List.getElem_mem hlt)
  have h2 : (S.drop k)[j - k]? = some (((S.drop k).takeWhile p)[j - k]) := by
    have := List.takeWhile_prefix (l := S.drop k) p
    rw [List.prefix_iff_getElem?] at this
    exact this _ hlt
  rw [List.getElem?_drop, show k + (j - k) = j by omega] at h2
  unfold fitsAt
  rw [h2]
  exact h1
theorem name_bytes {s : ByteArray} {k m : Nat} (h : nameTo s.data.toList k = .ok m) : ∃ h0 : 0 < (s.extract k m).size, letterB (s.extract k m)[0] = true ∧ ∀ i (hi : i < (s.extract k m).size), nameB (s.extract k m)[i] = true := by
  have hle := nameTo_le h
  rw [← Lib.size_eq] at hle
  unfold nameTo at h
  split at h
  · rename_i hf
    have hm : whileEnd s.data.toList (k + 1) nameB = m := by injection h
    have hsz : (s.extract k m).size = m - k := by rw [ByteArray.size_extract]; omega
    have hg : ∀ i (hi : i < (s.extract k m).size), (s.extract k m)[i] = s[k + i]'(by omega) := fun i hi => ByteArray.getElem_extract hi
    refine ⟨by omega, ?_, ?_⟩
    · rw [hg, ← fitsAt_ba letterB (by omega)]; exact hf
    · intro i hi
      rw [hg, ← fitsAt_ba nameB (by omega)]
      by_cases hi0 : i = 0
      · subst hi0
        rw [fitsAt_ba _ (by omega)] at hf ⊢
        unfold nameB
        rw [show letterB s[k + 0] = true from hf]
        rfl
      · exact whileEnd_fits (k + 1) (k + i) (by omega) (by omega)
  · cases h
set_option maxHeartbeats 1000000 in
theorem sname_any (b : Nat) (s : ByteArray) (k : Nat) (nv : Value) (w : World) (R : Ending → World → Prop) (hl : s.size ≤ 4000) (hr : Rs w b s k nv)
    (H : Hid (Good b s k nv w (sname s.data.toList k) (fun _ a v => v = .string (bs a)) R)) :
    Calls Tryz.prog 158 #[.pointer (some ⟨b, 0, none⟩)] w R := by
  have hlt := hr.lt
  have h1 := hr.c1
  go_enter Tryz.func158, Tryz.ntmps158
  go_wp2_with fail
  refine (at_any b _ _ h1).mono ?_
  rintro e w' ⟨rfl, hw⟩
  obtain rfl := hw.symm
  go_wp2_with fail
  clear h1
  cases hn : nameTo s.data.toList k with
  | error x =>
    refine (name_no b s k x nv _ hr hn).mono ?_
    rintro e w1 ⟨rfl, n, rfl⟩
    exact ⟨rfl, H.out.2 x _ (by simp only [sname, hn]) (below_drewN' (Below.refl _ _) _)⟩
  | ok m =>
    have hle := nameTo_le hn
    rw [← Lib.size_eq] at hle
    obtain ⟨hz, hb1, hb2⟩ := name_bytes hn
    have hsz : (s.extract k m).size = (sub s.data.toList k m).length := by rw [sub_bs, bs_size]
    have hsx : (s.extract k m).size ≤ 6000 := by rw [ByteArray.size_extract]; omega
    refine (name_yes b s k m nv _ (by omega) hr hn).mono ?_
    rintro e w1 ⟨rfl, hr1, hkp1⟩
    go_wp2_with fail
    refine (named_any _ _ hsx hz hb1 hb2).mono ?_
    rintro e w2 ⟨rfl, hw⟩
    obtain rfl := hw.symm
    clear hb1 hb2 hz
    have hsm : (s.extract k m).size = m - k := by rw [ByteArray.size_extract]; omega
    by_cases h20 : m ≤ 20 + k
    · have EX : Hid (sname s.data.toList k = .ok (sub s.data.toList k m, m)) := by
        show sname s.data.toList k = .ok (sub s.data.toList k m, m)
        simp only [sname, hn]
        rw [if_neg (by omega)]
      clear hn hsz hsm
      go_wp2_with fail
      have fin := H.out.1 _ m _ _ EX.out (by omega) hle.2 hr1 hkp1 rfl
      rw [← sub_bs] at fin
      exact fin
    · have EX : Hid (sname s.data.toList k = .error (2, k)) := by
        show sname s.data.toList k = .error (2, k)
        simp only [sname, hn]
        rw [if_pos (by omega)]
      clear hn hsz hsm
      go_wp2_with (go_at_call 112; refine (throw_any _ _ _).mono ?_; rintro e w' ⟨rfl, rfl⟩)
      exact ⟨rfl, H.out.2 (2, k) _ EX.out (hkp1.under hlt)⟩
end Go.Proofs.YtblkldfokeeaeacGreatDoor.Sh
