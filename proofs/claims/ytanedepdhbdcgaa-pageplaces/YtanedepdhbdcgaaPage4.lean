/-
  What firstTag of package page does: the plain answer of the Spec text, or its fault; the attributes lie in new memory. Conditions: the text has at most 6000 bytes.
-/
import Derived.Test.YtanedepdhbdcgaaPage3
import Derived.Deep.AppendLies
import Derived.Deep.RegionLaw
namespace Go.Proofs.Ytanedepdhbdcgaa
open Go.RowKit

/-- An element as a value: av is its attributes' slice. -/
def ndV (n : Nd) (av : Value) : Value := .agg #[.string (bs n.name), .int .i64 n.parent, av, .int .i64 n.nameEnd, .int .i64 n.inFrom, .int .i64 n.inTo]

theorem attr_le {S : List UInt8} {k m : Nat} {l : List Atr} {a : Atr} (h : attr S k l = .ok (a, m)) (hk : k ≤ S.length) : k < m ∧ m ≤ S.length ∧ a.val.length ≤ S.length ∧ l.length < 8 := by
  unfold attr at h
  split at h
  · cases h
  rename_i k1 e1
  split at h
  · cases h
  rename_i nm k2 e2
  split at h
  · cases h
  rename_i k3 e3
  split at h
  · cases h
  rename_i k5 e5
  injection h with h
  injection h with ha hm
  subst hm
  subst ha
  obtain ⟨t1, rfl⟩ := need_ok e1
  obtain ⟨t3, rfl⟩ := need_ok e3
  obtain ⟨t5, rfl⟩ := need_ok e5
  have l1 := has_le t1 hk
  have l2 := attrName_le e2
  have l3 := has_le t3 (by omega)
  have l4 := whileEnd_le valueB l3
  have l5 := has_le t5 (by omega)
  have l8 : l.length < 8 := by
    unfold attrName at e2
    split at e2
    · cases e2
    split at e2
    · cases e2
    omega
  refine ⟨?_, l5, ?_, l8⟩
  · simp at *; omega
  · simp [sub]; omega

theorem flat_len {α β : Type} (n : Nat) (f : α → List β) (hf : ∀ x, (f x).length = n) : ∀ l : List α, (l.flatMap f).length = l.length * n
  | [] => by simp
  | a :: l => by rw [List.flatMap_cons, List.length_append, hf, flat_len n f hf l, List.length_cons, Nat.add_mul]; omega
theorem heap_set {w : World} {j : Nat} {cs : Array Value} {T : TypeId} {z : Nat × Nat} (h : w.heap[j]? = some (.cells cs T z)) (o : Nat) (v : Value) : (w.setCell ⟨j, o, none⟩ v).heap[j]? = some (.cells (cs.setIfInBounds o v) T z) := by
  simp [World.setCell, Array.getElem?_modify, h]
theorem AtAt.own {w : World} {av : Value} {l : List Atr} (h : AtAt w av l) : w.ownsRow 0 41 4 av l.length (l.flatMap encA) := by
  refine ⟨?_, ?_⟩
  · exact flat_len 4 encA (fun _ => rfl) l
  · rcases h with ⟨h1, h2⟩ | ⟨g, cap, cur, h0, h1, h2, h3, h4, h5⟩
    · exact .inl ⟨h1, by rw [h2]; rfl⟩
    · exact .inr ⟨g, cap, cur, h0, Nat.zero_le _, h1, h2, h3, h4, h5⟩
theorem AtAt.ofOwn {w : World} {base : Nat} {av : Value} {l : List Atr} (h : w.ownsRow base 41 4 av l.length (l.flatMap encA)) : AtAt w av l := by
  rcases h.2 with ⟨h1, h2⟩ | ⟨g, cap, cur, h0, _, h1, h2, h3, h4, h5⟩
  · exact .inl ⟨h1, List.eq_nil_of_length_eq_zero h2⟩
  · exact .inr ⟨g, cap, cur, h0, h1, h2, h3, h4, h5⟩

/-- A way out by panic inside a region that draws: what is left is nothing. -/
theorem bear {G : Prop} (h : G) (a : Act) (w : World) (_ : wpAny Try.prog .any #[] (fun _ _ _ => True) 0 #[] a w) : G := h

theorem own_kp {w w' : World} {base : Nat} {e : TypeId} {size : Nat} {v : Value} {n : Nat} {xs : List Value} (h : w.ownsRow base e size v n xs) {X : Nat → Prop} (hk : Kp X w w') (hx : ∀ j, X j → ∀ cur fz, w.heap[j]? ≠ some (.cells cur e fz)) : w'.ownsRow base e size v n xs := by
  refine ⟨h.1, ?_⟩
  rcases h.2 with h | ⟨g, cap, cur, h0, hb, h1, h2⟩
  · exact .inl h
  · refine .inr ⟨g, cap, cur, h0, hb, ?_, h2⟩
    rw [hk.block g (Array.getElem?_eq_some_iff.1 h1).1 (fun hX => hx g hX _ _ h1)]
    exact h1
theorem own_ne {w : World} {base : Nat} {e : TypeId} {size : Nat} {v : Value} {n : Nat} {xs : List Value} (h : w.ownsRow base e size v n xs) {j : Nat} {c : Array Value} {T : TypeId} {z : Nat × Nat} (hj : w.heap[j]? = some (.cells c T z)) (hT : T ≠ e) : some j ≠ v.ownBlock := by
  intro hv
  rcases h.2 with ⟨rfl, _⟩ | ⟨g, cap, cur, rfl, hb, h1, h2⟩
  · simp [Value.ownBlock] at hv
  · simp [Value.ownBlock] at hv
    subst hv
    rw [hj] at h1
    simp at h1
    exact hT h1.2.1

theorem kp_undrewN {X : Nat → Prop} {w w' : World} {n : Nat} (h : Kp X (w.drewN n) w') : Kp X w w' := ⟨h.os, h.tape, h.output, h.size, h.block⟩

/-- One attribute more, behind the append: what the round hands on. -/
theorem round_facts {w wr w5 w3 : World} {b N : Nat} {s : ByteArray} {k1 : Nat} {nv av v3 : Value} {l : List Atr} {a : Atr} {o : Obj} {cN cB : Array Value}
    (hN : wr.heap[N]? = some (.cells cN 35 (0, 0))) (hB : wr.heap[w.heap.size]? = some (.cells cB 35 (0, 0))) (hbN : ¬ N = b) (hb0 : ¬ w.heap.size = b) (hr' : ∃ k', Rd wr b s k' nv) (ha : wr.ownsRow w.heap.size 41 4 av l.length (l.flatMap encA)) (hkp : Kp (· = b) w wr)
    (hr5 : Rd w5 b s k1 nv) (hk5 : Kp (· = b) wr w5) (hg : (w5.alloc o).grownBy w3 av.ownBlock) (ho : w3.ownsRow w.heap.size 41 4 v3 (l.length + 1) (l.flatMap encA ++ encA a)) :
    Rd w3 b s k1 nv ∧ Kp (· = b) w w3 ∧ w3.ownsRow w.heap.size 41 4 v3 (l ++ [a]).length ((l ++ [a]).flatMap encA) ∧ w3.heap[N]? = some (.cells cN 35 (0, 0)) ∧ w3.heap[w.heap.size]? = some (.cells cB 35 (0, 0)) := by
  obtain ⟨k', hr'⟩ := hr'
  have a5 := own_kp ha hk5 hr'.not41
  have N5 := (hk5.block N (Array.getElem?_eq_some_iff.1 hN).1 hbN).trans hN
  have B5 := (hk5.block _ (Array.getElem?_eq_some_iff.1 hB).1 hb0).trans hB
  have al := fun j (hj : j < w5.heap.size) => Below.heap_alloc w5 o j hj
  have lt5 := fun j (hj : j < w5.heap.size) => (show j < (w5.alloc o).heap.size by simp; omega)
  have keep : ∀ (j : Nat) (c : Array Value) (T : TypeId) (z : Nat × Nat), w5.heap[j]? = some (.cells c T z) → T ≠ 41 → w3.heap[j]? = w5.heap[j]? := fun j c T z hj hT => by
    have hlt := (Array.getElem?_eq_some_iff.1 hj).1
    exact (hg.block j (lt5 j hlt) (own_ne a5 hj hT)).trans (al j hlt)
  refine ⟨?_, ?_, ?_, ?_, ?_⟩
  · have := keep b _ _ _ hr5 (by decide)
    unfold Rd RdT at hr5 ⊢
    rw [this]; exact hr5
  · refine ⟨hg.os.trans (hk5.os.trans hkp.os), hg.tape.trans (hk5.tape.trans hkp.tape), hg.output.trans (hk5.output.trans hkp.output), Nat.le_trans (Nat.le_trans hkp.size hk5.size) (Nat.le_trans (by simp) hg.size), fun j hj hx => ?_⟩
    have h5 : j < w5.heap.size := Nat.lt_of_lt_of_le hj (Nat.le_trans hkp.size hk5.size)
    rw [hg.block j (lt5 j h5) (fun hv => by have := a5.lt j hv.symm; omega), al j h5]
    exact (hkp.trans hk5).block j hj hx
  · simpa using ho
  · rw [keep N _ _ _ N5 (by decide)]; exact N5
  · rw [keep _ _ _ _ B5 (by decide)]; exact B5

theorem Try.info41 : (Try.prog.info? 41).map (fun i => (i.zero, i.size, i.bytes)) = some (some (.agg #[.string ⟨#[]⟩, .string ⟨#[]⟩, .int .i64 0, .int .i64 0]), 4, 48) := by kernel_rfl

set_option maxHeartbeats 2000000 in
theorem firstTag_any (b : Nat) (s : ByteArray) (k : Nat) (nv : Value) (w : World) (hl : s.size ≤ 6000) (hk : k ≤ s.size) (hr : Rd w b s k nv) (R : Ending → World → Prop)
    (hok : Hid (∀ n k' av w', firstTag s.data.toList k = .ok (n, k') → Rd w' b s k' nv → Kp (· = b) w w' → AtAt w' av n.attrs → R (.returned (ndV n av)) w'))
    (hbad : Hid (∀ (x : Nat × Nat) w', firstTag s.data.toList k = .error x → Below b w w' → R (.panicked [{ v := .iface 87 (.agg #[.int .i64 x.1, .int .i64 x.2]), recovered := false }]) w')) :
    Calls Try.prog 97 #[.pointer (some ⟨b, 0, none⟩)] w R := by
  have hS : s.size = s.data.toList.length := Lib.size_eq s
  have hlt := hr.lt
  have hn0 : ¬ w.heap.size = b := by omega
  have hn1 : ¬ w.heap.size + 1 = b := by omega
  go_enter Try.func97, Try.ntmps97
  go_wp2_with fail
  have b0 := block_two0 w #[.string ⟨#[]⟩, .int .i64 0, .slice none 0 0, .int .i64 0, .int .i64 0, .int .i64 0] 35 (o := .cells #[.string ⟨#[]⟩, .int .i64 0, .slice none 0 0, .int .i64 0, .int .i64 0, .int .i64 0] 35)
  have b1 := block_two1 w #[.string ⟨#[]⟩, .int .i64 0, .slice none 0 0, .int .i64 0, .int .i64 0, .int .i64 0] 35 (o := .cells #[.string ⟨#[]⟩, .int .i64 0, .slice none 0 0, .int .i64 0, .int .i64 0, .int .i64 0] 35)
  have hbW : Below w.heap.size w ((w.alloc (.cells #[.string ⟨#[]⟩, .int .i64 0, .slice none 0 0, .int .i64 0, .int .i64 0, .int .i64 0] 35)).alloc (.cells #[.string ⟨#[]⟩, .int .i64 0, .slice none 0 0, .int .i64 0, .int .i64 0, .int .i64 0] 35)) := ((Below.refl _ _).alloc (Nat.le_refl _) _).alloc (by simp) _
  generalize ((w.alloc (.cells #[.string ⟨#[]⟩, .int .i64 0, .slice none 0 0, .int .i64 0, .int .i64 0, .int .i64 0] 35)).alloc (.cells #[.string ⟨#[]⟩, .int .i64 0, .slice none 0 0, .int .i64 0, .int .i64 0, .int .i64 0] 35)) = W0 at b0 b1 hbW ⊢
  have z0 : w.heap.size < W0.heap.size := (Array.getElem?_eq_some_iff.1 b0).1
  have z1 : w.heap.size + 1 < W0.heap.size := (Array.getElem?_eq_some_iff.1 b1).1
  have hr0 := hr.kp hbW
  cases e1 : need s.data.toList k [60] with
  | error x =>
    obtain ⟨t1, hx⟩ := need_err e1
    refine (need_no b s _ k nv _ hk hr0 t1).mono ?_
    rintro e w1 ⟨rfl, n, rfl⟩
    subst hx
    exact ⟨rfl, hbad.out (2, k) _ (by simp [firstTag, e1]) (below_drewN' (hbW.mono (by omega)) _)⟩
  | ok k1 =>
  obtain ⟨t1, rfl⟩ := need_ok e1
  have l1 := has_le t1 (by omega)
  rw [← hS] at l1
  refine (need_yes b s _ k nv _ hk hl (by show (1 : Nat) ≤ 6000; omega) hr0 t1).mono ?_
  rintro e w1 ⟨rfl, hr1, hk1⟩
  have h1 := hr1.c1
  have E1 : Hid (need s.data.toList k [60] = .ok (k + 1)) := e1
  have L1 : k + 1 ≤ s.size := l1
  clear e1 t1 l1
  go_wp2_with (first | (go_at_call 72; refine (at_any b _ _ h1).mono ?_; rintro e w' ⟨rfl, rfl⟩))
  clear h1
  cases e2 : nameTo s.data.toList (k + 1) with
  | error x =>
    refine (name_no b s (k + 1) x nv _ hr1 e2).mono ?_
    rintro e w2 ⟨rfl, n, rfl⟩
    exact ⟨rfl, hbad.out x _ (by have := E1.out; simp [firstTag, this, e2]) (below_drewN' ((hbW.mono (by omega)).trans (hk1.under (by omega))) _)⟩
  | ok k2 =>
  have l2 := nameTo_le e2
  rw [← hS] at l2
  obtain ⟨l2, l2'⟩ := l2
  have nmE : Hid (s.extract (k + 1) k2 = bs (sub s.data.toList (k + 1) k2)) := sub_bs _ _ _
  refine (name_yes b s (k + 1) k2 nv _ hl hr1 e2).mono ?_
  rw [nmE.out]
  rintro e w2 ⟨rfl, hr2, hk2⟩
  have E2 : Hid (nameTo s.data.toList (k + 1) = .ok k2) := e2
  clear e2 nmE
  have hk12 := hk1.trans hk2
  have N2 := (hk12.block _ z1 hn1).trans b1
  have d0 := cell_of N2 0
  have g0 := fz_of N2 0
  have d3 := cell_of N2 3
  have g3 := fz_of N2 3
  simp at d0 d3
  by_cases h20 : 20 < (sub s.data.toList (k + 1) k2).length
  · have h20' : 20 < (bs (sub s.data.toList (k + 1) k2)).size := by rw [bs_size]; exact h20
    go_wp2_with (first | (go_at_call 108; refine (needShort_no _ _ _ h20').mono ?_; rintro e w' ⟨rfl, rfl⟩))
    refine ⟨rfl, hbad.out (7, k + 1) _ (by have h1 := E1.out; have h2 := E2.out; simp [firstTag, h1, h2, h20]) ?_⟩
    exact ((hbW.mono (by omega)).trans (hk12.under (by omega))).trans (((Below.refl _ _)).setCell (by simp; omega) _)
  have h20' : (bs (sub s.data.toList (k + 1) k2)).size ≤ 20 := by rw [bs_size]; omega
  have H20 : Hid (¬ 20 < (sub s.data.toList (k + 1) k2).length) := h20
  clear h20
  generalize hnm : sub s.data.toList (k + 1) k2 = nm at *
  have NM : Hid (sub s.data.toList (k + 1) k2 = nm) := hnm
  clear hnm
  have hr2' := hr2.setOther (a := ⟨w.heap.size + 1, 0, none⟩) (by simp; omega) (.string (bs nm))
  have h1 := hr2'.c1
  go_wp2_with (first | (go_at_call 108; refine (needShort_yes _ _ _ h20').mono ?_; rintro e w' ⟨rfl, rfl⟩) | (go_at_call 72; refine (at_any b _ _ h1).mono ?_; rintro e w' ⟨rfl, rfl⟩))
  clear h1
  have hr3 := hr2'.setOther (a := ⟨w.heap.size + 1, 3, none⟩) (by simp; omega) (.int .i64 k2)
  have N3 := heap_set (heap_set N2 0 (.string (bs nm))) 3 (.int .i64 k2)
  simp at N3
  have B3 := (Below.heap_setCell (w2.setCell ⟨w.heap.size + 1, 0, none⟩ (.string (bs nm))) ⟨w.heap.size + 1, 3, none⟩ (.int .i64 k2) w.heap.size (by simp)).trans ((Below.heap_setCell w2 ⟨w.heap.size + 1, 0, none⟩ (.string (bs nm)) w.heap.size (by simp)).trans ((hk12.block _ z0 hn0).trans b0))
  have K3 := ((hk12.le hbW).setNew (a := ⟨w.heap.size + 1, 0, none⟩) (by simp) (.string (bs nm))).setNew (a := ⟨w.heap.size + 1, 3, none⟩) (by simp) (.int .i64 k2)
  obtain ⟨i0, hi, hz0, hz1, hz2⟩ := info_parts Try.info41
  have HI : Hid (Try.prog.info? 41 = some i0) := hi
  have HZ : Hid (i0.zero = some (.agg #[.string ⟨#[]⟩, .string ⟨#[]⟩, .int .i64 0, .int .i64 0]) ∧ i0.size = 4 ∧ i0.bytes = 48) := ⟨hz0, hz1, hz2⟩
  clear hi hz0 hz1 hz2 d0 d3 g0 g3 N2 hr2' hk12 hk2 hk1 hr2 hr1 hr0 b0 b1 z0 z1 hbW h20'
  go_loopg [] 10 (fun f wr => ∃ (k' : Nat) (l : List Atr) (av : Value), f + l.length = 10 ∧ l.length ≤ 8 ∧ k' ≤ s.size ∧ (∀ a ∈ l, a.val.length ≤ 6000) ∧ Rd wr b s k' nv ∧ Kp (· = b) w wr ∧ wr.ownsRow w.heap.size 41 4 av l.length (l.flatMap encA) ∧
    wr.heap[w.heap.size + 1]? = some (.cells #[.string (bs nm), .int .i64 0, av, .int .i64 k2, .int .i64 0, .int .i64 0] 35 (0, 0)) ∧
    wr.heap[w.heap.size]? = some (.cells #[.string ⟨#[]⟩, .int .i64 0, .slice none 0 0, .int .i64 0, .int .i64 0, .int .i64 0] 35 (0, 0)) ∧ attrsTo f s.data.toList k' l = attrsTo 10 s.data.toList k2 [])
  case atStart => exact ⟨k2, [], .slice none 0 0, rfl, by simp, l2', by simp, hr3, K3, World.ownsRow_nil _ _ _ _, N3, B3, rfl⟩
  case round =>
    clear hr3 N3 B3 K3
    obtain ⟨k', l, av, hf, h8, hk', hv, hr', hkp, ha, hN, hB, hE⟩ := hrel
    obtain ⟨f', rfl⟩ : ∃ f', gk = f' + 1 := ⟨gk - 1, by omega⟩
    have E : Hid (attrsTo (f' + 1) s.data.toList k' l = attrsTo 10 s.data.toList k2 []) := hE
    have F : Hid (f' + 1 + l.length = 10) := hf
    have VV : Hid (∀ a ∈ l, a.val.length ≤ 6000) := hv
    clear hE hf hv
    have h0 := hr'.c0
    have h1 := hr'.c1
    have n0 := cell_of hN 0
    have n1 := cell_of hN 1
    have n2 := cell_of hN 2
    have n3 := cell_of hN 3
    have n4 := cell_of hN 4
    have n5 := cell_of hN 5
    have z2 := fz_of hN 2
    have zN : w.heap.size + 1 < wr.heap.size := (Array.getElem?_eq_some_iff.1 hN).1
    simp at n0 n1 n2 n3 n4 n5
    have HN : Hid (wr.heap[w.heap.size + 1]? = some (.cells #[.string (bs nm), .int .i64 0, av, .int .i64 k2, .int .i64 0, .int .i64 0] 35 (0, 0))) := hN
    have HB : Hid (wr.heap[w.heap.size]? = some (.cells #[.string ⟨#[]⟩, .int .i64 0, .slice none 0 0, .int .i64 0, .int .i64 0, .int .i64 0] 35 (0, 0))) := hB
    clear hN hB
    cases hh : has s.data.toList k' [32] with
    | true =>
      cases ea : attr s.data.toList k' l with
      | error x =>
        have EA : Hid (attr s.data.toList k' l = .error x) := ea
        have HH : Hid (has s.data.toList k' [32] = true) := hh
        clear ea hh
        go_wp2_with (first | (go_at_call 77; refine (has_any b s _ k' _ hk' h0 h1).mono ?_; rw [show has s.data.toList k' _ = true from HH.out]; rintro e w' ⟨rfl, n, rfl⟩))
        have HF : Hid (firstTag s.data.toList k = .error x) := by
          have e1 := E1.out; have e2 := E2.out; have e3 := E.out; have e4 := HH.out; have e5 := EA.out; have e6 := H20.out; have e7 := NM.out
          rw [attrsTo, if_pos e4, e5] at e3
          show firstTag s.data.toList k = .error x
          simp only [firstTag, e1, e2, e7, if_neg e6, ← e3]
        go_region_with (go_at_call 109; refine (attr_no b s k' nv l x (.string (bs nm)) av 0 k2 0 0 _ hl hk' ?_ VV.out ?_ EA.out).mono ?_; exact hr'; exact AtAt.ofOwn ha; rintro e w' ⟨rfl, hb⟩; refine bear (by exact ⟨rfl, hbad.out x _ HF.out ((hkp.under hlt).trans ⟨hb.os, hb.tape, hb.output, hb.size, hb.block⟩)⟩) ⟨#[], []⟩ w ?_)
        all_goals trivial
      | ok p =>
        obtain ⟨a, k1⟩ := p
        have la := attr_le ea (by omega)
        rw [← hS] at la
        obtain ⟨la1, la2, la3, la4⟩ := la
        have EA : Hid (attr s.data.toList k' l = .ok (a, k1)) := ea
        have HH : Hid (has s.data.toList k' [32] = true) := hh
        clear ea hh
        go_wp2_with (first | (go_at_call 77; refine (has_any b s _ k' _ hk' h0 h1).mono ?_; rw [show has s.data.toList k' _ = true from HH.out]; rintro e w' ⟨rfl, n, rfl⟩))
        go_region_law (first
          | (go_simp; go_at_call 109; refine (attr_yes b s k' k1 nv l a (.string (bs nm)) av 0 k2 0 0 _ hl hk' ?_ VV.out ?_ EA.out).mono ?_; exact hr'; exact AtAt.ofOwn ha; rintro e w5 ⟨rfl, hr5, hk5'⟩; have hk5 := kp_undrewN hk5'; clear hk5'; have nn2 := (hk5.cell (j := w.heap.size + 1) zN hn1 2).trans n2; have nn3 := cell_alloc nn2)
          | (refine step_append_lies _ rfl (.tmp 32) (.tmp 36) 31 rfl w.heap.size 41 i0 (.agg #[.string ⟨#[]⟩, .string ⟨#[]⟩, .int .i64 0, .int .i64 0]) 4 48 Try.underlying31 HI.out HZ.out.1 HZ.out.2.1 HZ.out.2.2 rfl (by decide) av l.length (l.flatMap encA) rfl (World.ownsRow.alloc (own_kp ha hk5 hr'.not41) _) ⟨w5.heap.size, 0, none⟩ 1 1 (encA a) rfl rfl (World.news_of_block (heap_alloc_new w5 _)) (by simp [encA, Value.oneCell']) (by decide) (by unfold maxLen; omega) (by omega) (by have q1 := hk5.size; have q2 : wr.heap.size ≤ w5.heap.size := q1; simp; omega) _ rfl ?_; intro g cap w3 hown hgrow hat hlt3; obtain ⟨r1, r2, r3, r4, r5⟩ := round_facts HN.out HB.out hn1 hn0 ⟨_, hr'⟩ ha hkp hr5 hk5 hgrow hown; have R4 : Hid _ := r4; have R5 : Hid _ := r5; have y2 := cell_of r4 2; have y3 := fz_of r4 2; simp at y2; clear r4 r5 hown hgrow hat))
        all_goals
          go_wp2_with fail
          go_roundg f'
          case measure => omega
          case rel =>
            have nn := heap_set R4.out 2 (.slice (some ⟨g, 0, none⟩) (l.length + 1) cap)
            simp at nn
            refine ⟨k1, l ++ [a], .slice (some ⟨g, 0, none⟩) (l.length + 1) cap, ?_, ?_, la2, ?_, r1.setOther (by simp; omega) _, r2.setNew (by simp) _, ?_, nn, ?_, ?_⟩
            · have := F.out; simp; omega
            · simp; omega
            · intro c hc
              rcases List.mem_append.1 hc with hc | hc
              · exact VV.out c hc
              · rw [List.mem_singleton.1 hc]; omega
            · exact own_kp r3 (Kp.set w3 (w.heap.size + 1) 2 _) (by rintro j rfl cur fz hc; rw [R4.out] at hc; simp at hc)
            · rw [Below.heap_setCell _ _ _ _ (by simp)]; exact R5.out
            · have e3 := E.out
              rw [← e3, attrsTo, if_pos HH.out, EA.out]
    | false =>
      obtain ⟨ax, acap, rfl⟩ := (AtAt.ofOwn ha).form
      have HH : Hid (has s.data.toList k' [32] = false) := hh
      have HA : Hid (attrsTo 10 s.data.toList k2 [] = .ok (l, k')) := by
        have e3 := E.out
        show attrsTo 10 s.data.toList k2 [] = .ok (l, k')
        rw [← e3, attrsTo, if_neg (by rw [hh]; decide)]
      clear hh
      go_wp2_with (first | (go_at_call 77; refine (has_any b s _ k' _ hk' h0 h1).mono ?_; rw [show has s.data.toList k' _ = false from HH.out]; rintro e w' ⟨rfl, n, rfl⟩))
      cases e4 : need s.data.toList k' [62] with
      | error x =>
        obtain ⟨t4, hx⟩ := need_err e4
        refine (need_no b s ⟨#[62]⟩ k' nv _ hk' (hr'.drewN _) t4).mono ?_
        rintro e w4 ⟨rfl, m, rfl⟩
        subst hx
        refine ⟨rfl, hbad.out (2, k') _ ?_ (below_drewN' (below_drewN' (hkp.under hlt) _) _)⟩
        have e1 := E1.out; have e2 := E2.out; have e6 := H20.out; have e7 := NM.out
        simp only [firstTag, e1, e2, e7, if_neg e6, HA.out, e4]
      | ok k4 =>
        obtain ⟨t4, rfl⟩ := need_ok e4
        have HF : Hid (firstTag s.data.toList k = .ok (⟨nm, 0, l, k2, 0, 0⟩, k' + 1)) := by
          have e1 := E1.out; have e2 := E2.out; have e6 := H20.out; have e7 := NM.out
          show firstTag s.data.toList k = .ok (⟨nm, 0, l, k2, 0, 0⟩, k' + 1)
          simp only [firstTag, e1, e2, e7, if_neg e6, HA.out, e4]
          rfl
        clear e4
        refine (need_yes b s ⟨#[62]⟩ k' nv _ hk' hl (by show (1 : Nat) ≤ 6000; omega) (hr'.drewN _) t4).mono ?_
        rintro e w4 ⟨rfl, hr4, hk4'⟩
        have hk4 := kp_undrewN hk4'
        clear hk4' n0 n1 n2 n3 n4 n5 h0 h1 z2 t4
        have N4 := (hk4.block _ zN hn1).trans HN.out
        have B4 := (hk4.block _ (by omega) hn0).trans HB.out
        have n0 := cell_of N4 0
        have n1 := cell_of N4 1
        have n2 := cell_of N4 2
        have n3 := cell_of N4 3
        have n4 := cell_of N4 4
        have n5 := cell_of N4 5
        have m0 := cell_of B4 0
        have m1 := cell_of B4 1
        have m2 := cell_of B4 2
        have m3 := cell_of B4 3
        have m4 := cell_of B4 4
        have m5 := cell_of B4 5
        have f0 := fz_of B4 0
        have f1 := fz_of B4 1
        have f2 := fz_of B4 2
        have f3 := fz_of B4 3
        have f4 := fz_of B4 4
        have f5 := fz_of B4 5
        simp at n0 n1 n2 n3 n4 n5 m0 m1 m2 m3 m4 m5
        clear N4 B4
        go_wp2_with fail
        refine bodyPost_ret (v := .agg #[.string (bs nm), .int .i64 0, .slice ax l.length acap, .int .i64 k2, .int .i64 0, .int .i64 0]) (by simp [results, Try.results97, go_sem, m0, m1, m2, m3, m4, m5]) rfl ?_
        refine hok.out ⟨nm, 0, l, k2, 0, 0⟩ (k' + 1) (.slice ax l.length acap) _ HF.out ?_ ?_ ?_
        · exact ((((((show Rd w4 b s (k' + 1) nv from hr4).setOther (by simp; omega) _).setOther (by simp; omega) _).setOther (by simp; omega) _).setOther (by simp; omega) _).setOther (by simp; omega) _).setOther (by simp; omega) _
        · exact ((((((hkp.trans hk4).setNew (by simp) _).setNew (by simp) _).setNew (by simp) _).setNew (by simp) _).setNew (by simp) _).setNew (by simp) _
        · have a4 := own_kp ha hk4 hr'.not41
          have kk : Kp (· = w.heap.size) w4 _ := (((((Kp.set w4 w.heap.size 0 (.string (bs nm))).trans (Kp.set _ w.heap.size 1 (.int .i64 0))).trans (Kp.set _ w.heap.size 2 (.slice ax l.length acap))).trans (Kp.set _ w.heap.size 3 (.int .i64 k2))).trans (Kp.set _ w.heap.size 4 (.int .i64 0))).trans (Kp.set _ w.heap.size 5 (.int .i64 0))
          exact AtAt.ofOwn (own_kp a4 kk (by rintro j rfl cur fz hc; have := (hk4.block _ (by omega) hn0).trans HB.out; rw [this] at hc; simp at hc))
end Go.Proofs.Ytanedepdhbdcgaa
