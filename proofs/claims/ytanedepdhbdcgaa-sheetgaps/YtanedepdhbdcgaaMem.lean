/-
  How memory is kept from world to world, and what the plain readers of the Spec text reach: lemmas of use to both packages. No program's function is named here but the type of a reader; no condition.
-/
import Derived.Test.YtanedepdhbdcgaaScan4
import Derived.Deep.AppendLies
import Derived.Deep.RegionLaw
namespace Go.Proofs.Ytanedepdhbdcgaa
open Go.RowKit
variable {T : TypeId}

def bs (l : List UInt8) : ByteArray := ⟨l.toArray⟩
theorem ba_ext {a b : ByteArray} (h : a.data.toList = b.data.toList) : a = b := by
  obtain ⟨⟨a⟩⟩ := a; obtain ⟨⟨b⟩⟩ := b; simp at h; rw [h]
theorem bs_toList (l : List UInt8) : (bs l).toList = l := by rw [Lib.toList_data]; rfl
theorem bs_size (l : List UInt8) : (bs l).size = l.length := by rw [Lib.size_eq]; rfl
theorem flat_get {α β : Type} (n : Nat) (f : α → List β) (hf : ∀ x, (f x).length = n) : ∀ (l : List α) (i j : Nat) (hi : i < l.length), j < n → (l.flatMap f)[i * n + j]? = (f l[i])[j]?
  | [], _, _, hi, _ => absurd hi (Nat.not_lt_zero _)
  | a :: l, 0, j, _, hj => by
    rw [List.flatMap_cons, List.getElem?_append_left (by rw [hf]; omega)]
    simp
  | a :: l, i + 1, j, hi, hj => by
    rw [List.flatMap_cons, List.getElem?_append_right (by rw [hf, Nat.add_mul]; omega), hf]
    have := flat_get n f hf l i j (by simpa using hi) hj
    rw [show (i + 1) * n + j - n = i * n + j by rw [Nat.add_mul]; omega, this]
    simp
theorem Kp.cell {X : Nat → Prop} {w w' : World} (h : Kp X w w') {j : Nat} (hj : j < w.heap.size) (hx : ¬ X j) (o : Nat) : w'.cell? ⟨j, o, none⟩ = w.cell? ⟨j, o, none⟩ :=
  World.cell?_of_block (w := w) (h.block j hj hx)
theorem Kp.fz {X : Nat → Prop} {w w' : World} (h : Kp X w w') {j : Nat} (hj : j < w.heap.size) (hx : ¬ X j) (o : Nat) : w'.frozen? ⟨j, o, none⟩ = w.frozen? ⟨j, o, none⟩ :=
  World.frozen?_of_block (w := w) (h.block j hj hx)
theorem Kp.alloc {X : Nat → Prop} (w : World) (o : Obj) : Kp X w (w.alloc o) := Kp.below ((Below.refl _ _).alloc (Nat.le_refl _) _) _
theorem Kp.under {b : Nat} {w w' : World} (h : Kp (· = b) w w') (hb : b < w.heap.size) : Below b w w' :=
  ⟨h.os, h.tape, h.output, h.size, fun j hj => h.block j (by omega) (by omega)⟩
theorem RdT.alloc {w : World} {b : Nat} {s : ByteArray} {k : Nat} {nv : Value} (h : RdT T w b s k nv) (o : Obj) : RdT T (w.alloc o) b s k nv := h.kp ((Below.refl _ _).alloc (Nat.le_refl _) _)
theorem nameTo_le {S : List UInt8} {k m : Nat} (h : nameTo S k = .ok m) : k < m ∧ m ≤ S.length := by
  unfold nameTo at h
  split at h
  · rename_i hf
    have hk : k < S.length := by
      by_cases hk : k < S.length
      · exact hk
      · rw [fitsAt_ge _ (by omega)] at hf; cases hf
    injection h with h
    have := whileEnd_le (S := S) (k := k + 1) nameB (by omega)
    omega
  · cases h
theorem sub_bs (s : ByteArray) (a b : Nat) : s.extract a b = bs (sub s.data.toList a b) := Lib.extract_eq s a b
theorem has_le {S : List UInt8} {k : Nat} {t : List UInt8} (h : has S k t = true) (hk : k ≤ S.length) : k + t.length ≤ S.length := by
  unfold has at h
  have := (List.isPrefixOf_iff_prefix.1 h).length_le
  rw [List.length_drop] at this
  omega
theorem Kp.setNew {X : Nat → Prop} {w w' : World} (h : Kp X w w') {a : Addr} (ha : w.heap.size ≤ a.block) (v : Value) : Kp X w (w'.setCell a v) :=
  ⟨h.os, h.tape, h.output, Nat.le_trans h.size (by simp [World.setCell]), fun j hj hx => (Below.heap_setCell _ _ _ _ (by omega)).trans (h.block j hj hx)⟩
theorem RdT.setOther {w : World} {b : Nat} {s : ByteArray} {k : Nat} {nv : Value} (h : RdT T w b s k nv) {a : Addr} (ha : b ≠ a.block) (v : Value) : RdT T (w.setCell a v) b s k nv := by
  unfold RdT at h ⊢
  rw [Below.heap_setCell _ _ _ _ ha]; exact h
theorem Kp.le {X : Nat → Prop} {w w' : World} (h : Kp X w w') {w0 : World} (h0 : Below w0.heap.size w0 w) : Kp X w0 w' :=
  (Kp.below h0 X).trans h
theorem block_two0 (w : World) (c : Array Value) (T : TypeId) {o : Obj} : ((w.alloc (.cells c T)).alloc o).heap[w.heap.size]? = some (.cells c T (0, 0)) :=
  (Below.heap_alloc _ _ _ (by simp)).trans (heap_alloc_new w _)
theorem block_two1 (w : World) (c : Array Value) (T : TypeId) {o : Obj} : ((w.alloc o).alloc (.cells c T)).heap[w.heap.size + 1]? = some (.cells c T (0, 0)) := by
  have := heap_alloc_new (w.alloc o) (.cells c T)
  simpa using this
theorem cell_of {w : World} {j : Nat} {cs : Array Value} {T : TypeId} {z : Nat × Nat} (h : w.heap[j]? = some (.cells cs T z)) (o : Nat) : w.cell? ⟨j, o, none⟩ = cs[o]? := by simp [World.cell?, h]
theorem fz_of {w : World} {j : Nat} {cs : Array Value} {T : TypeId} (h : w.heap[j]? = some (.cells cs T (0, 0))) (o : Nat) : w.frozen? ⟨j, o, none⟩ = false := by simp [World.frozen?, h]
theorem flat_len {α β : Type} (n : Nat) (f : α → List β) (hf : ∀ x, (f x).length = n) : ∀ l : List α, (l.flatMap f).length = l.length * n
  | [] => by simp
  | a :: l => by rw [List.flatMap_cons, List.length_append, hf, flat_len n f hf l, List.length_cons, Nat.add_mul]; omega
theorem heap_set {w : World} {j : Nat} {cs : Array Value} {T : TypeId} {z : Nat × Nat} (h : w.heap[j]? = some (.cells cs T z)) (o : Nat) (v : Value) : (w.setCell ⟨j, o, none⟩ v).heap[j]? = some (.cells (cs.setIfInBounds o v) T z) := by
  simp [World.setCell, Array.getElem?_modify, h]
theorem bear {G : Prop} (h : G) (a : Act) (w : World) (_ : wpAny Try.prog .any #[] (fun _ _ _ => True) 0 #[] a w) : G := h
theorem own_kp {w w' : World} {base : Nat} {e : TypeId} {size : Nat} {v : Value} {n : Nat} {xs : List Value} (h : w.ownsRow base e size v n xs) {X : Nat → Prop} (hk : Kp X w w') (hx : ∀ j, X j → ∀ cur fz, w.heap[j]? ≠ some (.cells cur e fz)) : w'.ownsRow base e size v n xs := by
  refine ⟨h.1, ?_⟩
  rcases h.2 with h | ⟨g, cap, cur, h0, hb, h1, h2⟩
  · exact .inl h
  · refine .inr ⟨g, cap, cur, h0, hb, ?_, h2⟩
    rw [hk.block g (Array.getElem?_eq_some_iff.1 h1).1 (fun hX => hx g hX _ _ h1)]
    exact h1
theorem own_ne {w : World} {base : Nat} {e : TypeId} {size : Nat} {v : Value} {n : Nat} {xs : List Value} (h : w.ownsRow base e size v n xs) {j : Nat} {c : Array Value} {T : TypeId} {z : Nat × Nat} (hj : w.heap[j]? = some (.cells c T z)) (hT : T ≠ e) : some j ≠ v.ownBlock := by
  intro hv
  rcases h.2 with ⟨rfl, _⟩ | ⟨g, cap, cur, rfl, hb, h1, h2⟩
  · simp [Value.ownBlock] at hv
  · simp [Value.ownBlock] at hv
    subst hv
    rw [hj] at h1
    simp at h1
    exact hT h1.2.1
theorem kp_undrewN {X : Nat → Prop} {w w' : World} {n : Nat} (h : Kp X (w.drewN n) w') : Kp X w w' := ⟨h.os, h.tape, h.output, h.size, h.block⟩
theorem hid {p : Prop} (h : p) : Hid p := h
theorem Kp.weaken {X Y : Nat → Prop} {w w' : World} (h : Kp X w w') (hxy : ∀ j, X j → Y j) : Kp Y w w' :=
  ⟨h.os, h.tape, h.output, h.size, fun j hj hy => h.block j hj (fun hx => hy (hxy j hx))⟩
theorem index_spec : ∀ (s t : List UInt8) (i : Nat), Lib.index s t = i → t.isPrefixOf (s.drop i) = true ∧ i ≤ s.length ∧ ∀ j, j < i → t.isPrefixOf (s.drop j) = false
  | [], t, i, h => by
    rw [Lib.index] at h
    split at h
    · rename_i ht
      have : i = 0 := by omega
      subst this
      have : t = [] := by simpa using ht
      subst this
      simp
    · omega
  | b :: l, t, i, h => by
    rw [Lib.index] at h
    split at h
    · rename_i hp
      have : i = 0 := by omega
      subst this
      exact ⟨hp, Nat.zero_le _, fun j hj => absurd hj (Nat.not_lt_zero _)⟩
    · rename_i hp
      split at h
      · omega
      · rename_i hne
        have hge := Lib.index_ge l t
        have hn : Lib.index l t ≠ -1 := by simpa using hne
        obtain ⟨k, rfl⟩ : ∃ k, i = k + 1 := ⟨i - 1, by omega⟩
        obtain ⟨h1, h2, h3⟩ := index_spec l t k (by omega)
        refine ⟨by simpa using h1, by simpa using h2, fun j hj => ?_⟩
        cases j with
        | zero => exact Bool.eq_false_iff.2 hp
        | succ j => simpa using h3 j (by omega)
theorem pastAt_le {S : List UInt8} {k m : Nat} {t : List UInt8} (h : pastAt S k t = some m) (hk : k ≤ S.length) : k ≤ m ∧ m + t.length ≤ S.length := by
  unfold pastAt at h
  split at h
  · cases h
  · rename_i hge
    injection h with h
    obtain ⟨h1, h2, _⟩ := index_spec (S.drop k) t (Lib.index (S.drop k) t).toNat (by omega)
    have := (List.isPrefixOf_iff_prefix.1 h1).length_le
    rw [List.length_drop] at h2
    rw [List.length_drop, List.length_drop] at this
    omega
theorem lt_of_cell {w : World} {b o : Nat} {v : Value} (h : w.cell? ⟨b, o, none⟩ = some v) : b < w.heap.size := by
  by_cases hb : b < w.heap.size
  · exact hb
  · have : w.heap[b]? = none := by simp; omega
    simp [World.cell?, this] at h

/-- Blocks whose cells are of these types are as they were. -/
def Keeps (Ts : TypeId → Prop) (w w' : World) : Prop := ∀ (j : Nat) (cur : Array Value) (U : TypeId) (fz : Nat × Nat), Ts U → w.heap[j]? = some (.cells cur U fz) → w'.heap[j]? = w.heap[j]?

theorem Keeps.refl (Ts : TypeId → Prop) (w : World) : Keeps Ts w w := fun _ _ _ _ _ _ => rfl
theorem Keeps.trans {Ts : TypeId → Prop} {a b c : World} (h : Keeps Ts a b) (k : Keeps Ts b c) : Keeps Ts a c := fun j cur U fz hU hj => by
  have h1 := h j cur U fz hU hj
  rw [k j cur U fz hU (by rw [h1]; exact hj), h1]
theorem Keeps.ofKp {Ts : TypeId → Prop} {X : Nat → Prop} {w w' : World} (h : Kp X w w') (hx : ∀ j, X j → ∀ cur U fz, Ts U → w.heap[j]? ≠ some (.cells cur U fz)) : Keeps Ts w w' := fun j cur U fz hU hj =>
  h.block j (Array.getElem?_eq_some_iff.1 hj).1 (fun hX => hx j hX cur U fz hU hj)
theorem Keeps.below {Ts : TypeId → Prop} {w w' : World} (h : Below w.heap.size w w') : Keeps Ts w w' := fun j _ _ _ _ hj => h.block j (Array.getElem?_eq_some_iff.1 hj).1
theorem Keeps.set {Ts : TypeId → Prop} {w : World} {a : Addr} {cs : Array Value} {U : TypeId} {fz : Nat × Nat} (h : w.heap[a.block]? = some (.cells cs U fz)) (hU : ¬ Ts U) (v : Value) : Keeps Ts w (w.setCell a v) := fun j cur U' fz' hU' hj => by
  refine Below.heap_setCell _ _ _ _ ?_
  rintro rfl
  rw [h] at hj
  injection hj with hj
  injection hj with _ h2 _
  subst h2
  exact hU hU'
theorem Keeps.reader {Ts : TypeId → Prop} {w w' : World} {b : Nat} {s : ByteArray} {k : Nat} {nv : Value} (hr : RdT T w b s k nv) (h : Kp (· = b) w w') (hT : ¬ Ts T) : Keeps Ts w w' := Keeps.ofKp h (by
  rintro j rfl cur U fz hU hj
  unfold RdT at hr
  rw [hr] at hj
  injection hj with hj
  injection hj with _ h2 _
  subst h2
  exact hT hU)
theorem Keeps.grown {Ts : TypeId → Prop} {w w3 : World} {o : Obj} {base : Nat} {e : TypeId} {size n : Nat} {v : Value} {xs : List Value} (ho : w.ownsRow base e size v n xs) (hg : (w.alloc o).grownBy w3 v.ownBlock) (he : ¬ Ts e) : Keeps Ts w w3 := fun j cur U fz hU hj => by
  have hlt := (Array.getElem?_eq_some_iff.1 hj).1
  have hne : U ≠ e := fun h => he (h ▸ hU)
  exact (hg.block j (by simp; omega) (own_ne ho hj hne)).trans (Below.heap_alloc w o j hlt)
theorem own_keeps {w w' : World} {base : Nat} {e : TypeId} {size : Nat} {v : Value} {n : Nat} {xs : List Value} (h : w.ownsRow base e size v n xs) {Ts : TypeId → Prop} (hk : Keeps Ts w w') (he : Ts e) : w'.ownsRow base e size v n xs := by
  refine ⟨h.1, ?_⟩
  rcases h.2 with h | ⟨g, cap, cur, h0, hb, h1, h2⟩
  · exact .inl h
  · exact .inr ⟨g, cap, cur, h0, hb, by rw [hk g _ _ _ he h1]; exact h1, h2⟩
theorem own_lower {w : World} {base base' : Nat} {e : TypeId} {size : Nat} {v : Value} {n : Nat} {xs : List Value} (h : w.ownsRow base e size v n xs) (hb : base' ≤ base) : w.ownsRow base' e size v n xs := by
  refine ⟨h.1, ?_⟩
  rcases h.2 with h | ⟨g, cap, cur, h0, hg, h1⟩
  · exact .inl h
  · exact .inr ⟨g, cap, cur, h0, by omega, h1⟩
theorem own_form {w : World} {base : Nat} {e : TypeId} {size : Nat} {v : Value} {n : Nat} {xs : List Value} (h : w.ownsRow base e size v n xs) : ∃ a cap, v = .slice a n cap := by
  rcases h.2 with ⟨h1, h2⟩ | ⟨g, cap, cur, h0, _⟩
  · exact ⟨none, 0, by rw [h1, h2]⟩
  · exact ⟨_, _, h0⟩
theorem own_cell {w : World} {base : Nat} {e : TypeId} {size : Nat} {a : Option Addr} {cap n : Nat} {xs : List Value} (h : w.ownsRow base e size (.slice a n cap) n xs) {j : Nat} (hj : j < n * size) : ∃ g, a = some ⟨g, 0, none⟩ ∧ w.cell? ⟨g, j, none⟩ = xs[j]? := by
  rcases h.2 with ⟨h1, h2⟩ | ⟨g, cap', cur, h0, hb, h1, h2, h3, h4, h5⟩
  · subst h2; simp at hj
  · injection h0 with h0 _ _
    refine ⟨g, h0, ?_⟩
    rw [← h5, List.getElem?_take, if_pos hj]
    simp [World.cell?, h1]
/-- One cell row more in a row of one's own: all else but the reader is kept. -/
theorem grown_kp {w w5 w3 : World} {b : Nat} {o : Obj} {base : Nat} {e : TypeId} {size n : Nat} {v : Value} {xs : List Value} (hk : Kp (· = b) w w5) (ho : w5.ownsRow base e size v n xs) (hb : w.heap.size ≤ base) (hg : (w5.alloc o).grownBy w3 v.ownBlock) : Kp (· = b) w w3 := by
  refine ⟨hg.os.trans hk.os, hg.tape.trans hk.tape, hg.output.trans hk.output, Nat.le_trans hk.size (Nat.le_trans (by simp) hg.size), fun j hj hx => ?_⟩
  have h5 : j < w5.heap.size := Nat.lt_of_lt_of_le hj hk.size
  rw [hg.block j (by simp; omega) (fun hv => by have := ho.lt j hv.symm; omega), Below.heap_alloc w5 o j h5]
  exact hk.block j hj hx
theorem grown_rd {w5 w3 : World} {b : Nat} {s : ByteArray} {k : Nat} {nv : Value} {o : Obj} {base : Nat} {e : TypeId} {size n : Nat} {v : Value} {xs : List Value} (hr : RdT T w5 b s k nv) (ho : w5.ownsRow base e size v n xs) (he : T ≠ e) (hg : (w5.alloc o).grownBy w3 v.ownBlock) : RdT T w3 b s k nv := by
  have h := Keeps.grown (Ts := (· = T)) ho hg (fun h => he h.symm) b _ _ _ rfl hr
  unfold RdT at hr ⊢
  rw [h]; exact hr

end Go.Proofs.Ytanedepdhbdcgaa
