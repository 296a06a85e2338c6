/-
  How elements lie in memory, and what one more of them turns; where the first token of a text lies. No condition.
-/
import Derived.Test.YtanedepdhbdcgaaPage4
namespace Go.Proofs.Ytanedepdhbdcgaa
open Go.RowKit

theorem hid {p : Prop} (h : p) : Hid p := h

def encN (p : Nd × Value) : List Value := [.string (bs p.1.name), .int .i64 p.1.parent, p.2, .int .i64 p.1.nameEnd, .int .i64 p.1.inFrom, .int .i64 p.1.inTo]

/-- The slice value nv holds the elements L, in rows from 'base' on. -/
def NdsAt (w : World) (base : Nat) (nv : Value) (L : List Nd) : Prop :=
  ∃ LV : List (Nd × Value), LV.map (·.1) = L ∧ w.ownsRow base 35 6 nv L.length (LV.flatMap encN) ∧ ∀ p ∈ LV, AtAt w p.2 p.1.attrs

/-- From w to w' the reader's block b, the elements' row and new memory alone have turned. -/
structure Step (b : Nat) (nv : Value) (w : World) (nv' : Value) (w' : World) : Prop where
  kp : Kp (fun j => j = b ∨ some j = nv.ownBlock) w w'
  row : ∀ g, nv'.ownBlock = some g → nv.ownBlock = some g ∨ w.heap.size ≤ g

theorem Kp.weaken {X Y : Nat → Prop} {w w' : World} (h : Kp X w w') (hxy : ∀ j, X j → Y j) : Kp Y w w' :=
  ⟨h.os, h.tape, h.output, h.size, fun j hj hy => h.block j hj (fun hx => hy (hxy j hx))⟩
theorem Step.ofKp {b : Nat} {nv : Value} {w w' : World} (h : Kp (· = b) w w') : Step b nv w nv w' := ⟨h.weaken (fun _ h => .inl h), fun _ h => .inl h⟩
theorem Step.trans {b : Nat} {nv nv1 nv2 : Value} {w w1 w2 : World} (h : Step b nv w nv1 w1) (k : Step b nv1 w1 nv2 w2) : Step b nv w nv2 w2 := by
  refine ⟨⟨k.kp.os.trans h.kp.os, k.kp.tape.trans h.kp.tape, k.kp.output.trans h.kp.output, Nat.le_trans h.kp.size k.kp.size, fun j hj hx => ?_⟩, fun g hg => ?_⟩
  · rw [k.kp.block j (Nat.lt_of_lt_of_le hj h.kp.size) ?_]
    · exact h.kp.block j hj hx
    · rintro (hb | hg)
      · exact hx (.inl hb)
      · rcases h.row j hg.symm with h1 | h1
        · exact hx (.inr h1.symm)
        · omega
  · rcases k.row g hg with h1 | h1
    · exact h.row g h1
    · exact .inr (Nat.le_trans h.kp.size h1)

theorem NdsAt.of {w w' : World} {base : Nat} {nv : Value} {L : List Nd} (h : NdsAt w base nv L) {X : Nat → Prop} (hk : Kp X w w') (hx : ∀ j, X j → ∀ cur fz, w.heap[j]? ≠ some (.cells cur 35 fz) ∧ w.heap[j]? ≠ some (.cells cur 41 fz)) : NdsAt w' base nv L := by
  obtain ⟨LV, h1, h2, h3⟩ := h
  exact ⟨LV, h1, own_kp h2 hk (fun j hj cur fz => (hx j hj cur fz).1), fun p hp => (h3 p hp).of hk (fun j hj cur fz => (hx j hj cur fz).2)⟩
theorem RdT.not35 {w : World} {b : Nat} {s : ByteArray} {k : Nat} {nv : Value} (h : Rd w b s k nv) : ∀ j, j = b → ∀ cur fz, w.heap[j]? ≠ some (.cells cur 35 fz) ∧ w.heap[j]? ≠ some (.cells cur 41 fz) := by
  rintro j rfl cur fz
  unfold Rd RdT at h
  rw [h]
  simp
theorem NdsAt.form {w : World} {base : Nat} {nv : Value} {L : List Nd} (h : NdsAt w base nv L) : ∃ a cap, nv = .slice a L.length cap := by
  obtain ⟨LV, h1, h2, h3⟩ := h
  rcases h2.2 with ⟨rfl, h⟩ | ⟨g, cap, cur, hv, _⟩
  · exact ⟨none, 0, by rw [h]⟩
  · exact ⟨_, _, hv⟩

/-- One element more, behind the append and the store: what is handed on. -/
theorem push_facts {w w3 : World} {b base g cap : Nat} {s : ByteArray} {k : Nat} {nv : Value} {L : List Nd} {LV : List (Nd × Value)} {n : Nd} {av : Value} {o : Obj}
    (hr : Rd w b s k nv) (h1 : LV.map (·.1) = L) (h2 : w.ownsRow base 35 6 nv L.length (LV.flatMap encN)) (h3 : ∀ p ∈ LV, AtAt w p.2 p.1.attrs) (ha : AtAt w av n.attrs)
    (hg : (w.alloc o).grownBy w3 nv.ownBlock) (ho : w3.ownsRow base 35 6 (.slice (some ⟨g, 0, none⟩) (L.length + 1) cap) (L.length + 1) (LV.flatMap encN ++ encN (n, av))) (hat : nv.ownBlock = some g ∨ g = w.heap.size + 1) :
    Rd w3 b s k nv ∧ Rd (w3.setCell ⟨b, 2, none⟩ (.slice (some ⟨g, 0, none⟩) (L.length + 1) cap)) b s k (.slice (some ⟨g, 0, none⟩) (L.length + 1) cap) ∧
    NdsAt (w3.setCell ⟨b, 2, none⟩ (.slice (some ⟨g, 0, none⟩) (L.length + 1) cap)) base (.slice (some ⟨g, 0, none⟩) (L.length + 1) cap) (L ++ [n]) ∧
    Step b nv w (.slice (some ⟨g, 0, none⟩) (L.length + 1) cap) (w3.setCell ⟨b, 2, none⟩ (.slice (some ⟨g, 0, none⟩) (L.length + 1) cap)) := by
  have al := fun j (hj : j < w.heap.size) => Below.heap_alloc w o j hj
  have lt5 := fun j (hj : j < w.heap.size) => (show j < (w.alloc o).heap.size by simp; omega)
  have keep : ∀ (j : Nat) (c : Array Value) (T : TypeId) (z : Nat × Nat), w.heap[j]? = some (.cells c T z) → T ≠ 35 → w3.heap[j]? = w.heap[j]? := fun j c T z hj hT => by
    have hlt := (Array.getElem?_eq_some_iff.1 hj).1
    exact (hg.block j (lt5 j hlt) (own_ne h2 hj hT)).trans (al j hlt)
  have r3 : Rd w3 b s k nv := by
    have := keep b _ _ _ hr (by decide)
    unfold Rd RdT at hr ⊢
    rw [this]; exact hr
  have at3 : ∀ {av : Value} {l : List Atr}, AtAt w av l → AtAt w3 av l := by
    intro av l h
    rcases h with h | ⟨g', cap', cur, h0, h1, h2⟩
    · exact .inl h
    · exact .inr ⟨g', cap', cur, h0, by rw [keep g' _ _ _ h1 (by decide)]; exact h1, h2⟩
  have ks := Kp.set w3 b 2 (.slice (some ⟨g, 0, none⟩) (L.length + 1) cap)
  refine ⟨r3, ?_, ?_, ?_⟩
  · have := heap_set r3 2 (.slice (some ⟨g, 0, none⟩) (L.length + 1) cap)
    unfold Rd RdT
    rw [this]; rfl
  · refine ⟨LV ++ [(n, av)], by simp [h1], ?_, ?_⟩
    · have := own_kp ho ks (fun j hj cur fz => (r3.not35 j hj cur fz).1)
      simpa using this
    · intro p hp
      rcases List.mem_append.1 hp with hp | hp
      · exact (at3 (h3 p hp)).of ks r3.not41
      · rw [List.mem_singleton.1 hp]; exact (at3 ha).of ks r3.not41
  · refine ⟨⟨hg.os, hg.tape, hg.output, Nat.le_trans (by simp) (Nat.le_trans hg.size ks.size), fun j hj hx => ?_⟩, fun g' hg' => ?_⟩
    · rw [ks.block j (Nat.lt_of_lt_of_le (lt5 j hj) hg.size) (fun h => hx (.inl h)), hg.block j (lt5 j hj) (fun h => hx (.inr h)), al j hj]
    · simp [Value.ownBlock] at hg'
      subst hg'
      rcases hat with h | h
      · exact .inl h
      · right; omega

theorem Try.info35 : (Try.prog.info? 35).map (fun i => (i.zero, i.size, i.bytes)) = some (some (.agg #[.string ⟨#[]⟩, .int .i64 0, .slice none 0 0, .int .i64 0, .int .i64 0, .int .i64 0]), 6, 72) := by kernel_rfl

theorem attrsTo_le {S : List UInt8} : ∀ (f k : Nat) (l l' : List Atr) (m : Nat), attrsTo f S k l = .ok (l', m) → k ≤ S.length → k ≤ m ∧ m ≤ S.length
  | 0, _, _, _, _, h, _ => by simp [attrsTo] at h
  | f + 1, k, l, l', m, h, hk => by
    rw [attrsTo] at h
    split at h
    · split at h
      · cases h
      · rename_i a k1 ea
        have := attr_le ea hk
        have := attrsTo_le f k1 _ _ _ h (by omega)
        omega
    · injection h with h
      injection h with _ h
      omega

theorem firstTag_le {S : List UInt8} {k m : Nat} {n : Nd} (h : firstTag S k = .ok (n, m)) (hk : k ≤ S.length) : k < m ∧ m ≤ S.length ∧ n.name.length ≤ 20 ∧ n.inFrom = 0 ∧ n.inTo = 0 ∧ n.parent = 0 := by
  unfold firstTag at h
  split at h
  · cases h
  rename_i k1 e1
  split at h
  · cases h
  rename_i k2 e2
  split at h
  · cases h
  rename_i h20
  split at h
  · cases h
  rename_i l k3 e3
  split at h
  · cases h
  rename_i k4 e4
  injection h with h
  injection h with ha hm
  subst hm
  subst ha
  obtain ⟨t1, rfl⟩ := need_ok e1
  obtain ⟨t4, rfl⟩ := need_ok e4
  have l1 := has_le t1 hk
  have l2 := nameTo_le e2
  have l3 := attrsTo_le 10 _ _ _ _ e3 l2.2
  have l4 := has_le t4 l3.2
  refine ⟨?_, l4, Nat.le_of_not_lt h20, rfl, rfl, rfl⟩
  simp at *; omega

theorem index_spec : ∀ (s t : List UInt8) (i : Nat), Lib.index s t = i → t.isPrefixOf (s.drop i) = true ∧ i ≤ s.length ∧ ∀ j, j < i → t.isPrefixOf (s.drop j) = false
  | [], t, i, h => by
    rw [Lib.index] at h
    split at h
    · rename_i ht
      have : i = 0 := by omega
      subst this
      have : t = [] := by simpa using ht
      subst this
      simp
    · omega
  | b :: l, t, i, h => by
    rw [Lib.index] at h
    split at h
    · rename_i hp
      have : i = 0 := by omega
      subst this
      exact ⟨hp, Nat.zero_le _, fun j hj => absurd hj (Nat.not_lt_zero _)⟩
    · rename_i hp
      split at h
      · omega
      · rename_i hne
        have hge := Lib.index_ge l t
        have hn : Lib.index l t ≠ -1 := by simpa using hne
        obtain ⟨k, rfl⟩ : ∃ k, i = k + 1 := ⟨i - 1, by omega⟩
        obtain ⟨h1, h2, h3⟩ := index_spec l t k (by omega)
        refine ⟨by simpa using h1, by simpa using h2, fun j hj => ?_⟩
        cases j with
        | zero => exact Bool.eq_false_iff.2 hp
        | succ j => simpa using h3 j (by omega)

theorem pastAt_le {S : List UInt8} {k m : Nat} {t : List UInt8} (h : pastAt S k t = some m) (hk : k ≤ S.length) : k ≤ m ∧ m + t.length ≤ S.length := by
  unfold pastAt at h
  split at h
  · cases h
  · rename_i hge
    injection h with h
    obtain ⟨h1, h2, _⟩ := index_spec (S.drop k) t (Lib.index (S.drop k) t).toNat (by omega)
    have := (List.isPrefixOf_iff_prefix.1 h1).length_le
    rw [List.length_drop] at h2
    rw [List.length_drop, List.length_drop] at this
    omega

/-- What items, at fuel f, tells: asked of every world. -/
def ItemsAt (f : Nat) (b : Nat) (s : ByteArray) (base : Nat) (mx : Int) : Prop :=
  ∀ (k : Nat) (parent : Int) (deep : Nat) (L : List Nd) (nv : Value) (w : World) (R : Ending → World → Prop), s.size - k < f → k ≤ s.size → deep ≤ 21 → L.length ≤ 120 → b < base → base ≤ w.heap.size → 0 < b → w.cell? ⟨0, 0, none⟩ = some (.int .i64 mx) → Rd w b s k nv → NdsAt w base nv L →
    (∀ k' L' nv' w', items f s.data.toList k parent deep L = .ok (k', L') → Rd w' b s k' nv' → NdsAt w' base nv' L' → Step b nv w nv' w' → L'.length ≤ 120 → k ≤ k' → k' ≤ s.size → R (.returned (.tuple #[])) w') →
    (∀ (x : Nat × Nat) w', items f s.data.toList k parent deep L = .error x → Below b w w' → R (.panicked [{ v := .iface 87 (.agg #[.int .i64 x.1, .int .i64 x.2]), recovered := false }]) w') →
    Calls Try.prog 75 #[.pointer (some ⟨b, 0, none⟩), .int .i64 parent, .int .i64 deep] w R

theorem Step.under {b : Nat} {nv nv' : Value} {w w' : World} (h : Step b nv w nv' w') (hb : b < w.heap.size) (hrow : ∀ g, nv.ownBlock = some g → b < g) : Below b w w' :=
  ⟨h.kp.os, h.kp.tape, h.kp.output, h.kp.size, fun j hj => h.kp.block j (by omega) (by
    rintro (h | h)
    · omega
    · have := hrow j h.symm; omega)⟩

end Go.Proofs.Ytanedepdhbdcgaa
