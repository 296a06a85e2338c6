/-
  Rules appended to rules: what the longer row holds. No program's function is named here. Condition: no more than 1000 rules.
-/
import Derived.Test.YtanedepdhbdcgaaSheetPlacesWalk
namespace Go.Proofs.Ytanedepdhbdcgaa
open Go.RowKit

theorem all56 : (fun _ : TypeId => True) 56 ∧ (fun _ : TypeId => True) 77 ∧ (fun _ : TypeId => True) 72 ∧ (fun _ : TypeId => True) 102 ∧ (fun _ : TypeId => True) 104 := ⟨trivial, trivial, trivial, trivial, trivial⟩
theorem RsIn.below {w w' : World} {base : Nat} {v : Value} {l : List Rl} (h : RsIn w base v l) (hb : Below w.heap.size w w') : RsIn w' base v l := h.keeps (Keeps.below (Ts := fun _ => True) hb) all56
theorem RsIn.alloc {w : World} {base : Nat} {v : Value} {l : List Rl} (h : RsIn w base v l) (o : Obj) : RsIn (w.alloc o) base v l := h.below ((Below.refl _ _).alloc (Nat.le_refl _) _)
/-- Rules in one row are as they were where another row turned. -/
theorem RsIn.other {w w' : World} {base g : Nat} {v : Value} {L : List Rl} {cur : Array Value} (h : RsIn w base v L) (hk : Kp (· = g) w w') (hg : w.heap[g]? = some (.cells cur 56 (0, 0))) (hne : v.ownBlock ≠ some g) : RsIn w' base v L := by
  have kk : Keeps (· ≠ 56) w w' := Keeps.ofKp hk (by
    rintro j rfl c U fz hU hc
    rw [hg] at hc
    injection hc with hc
    injection hc with _ h2 _
    exact hU h2.symm)
  obtain ⟨LV, m, o, sub⟩ := h
  refine ⟨LV, m, ⟨o.1, ?_⟩, fun p hp => ⟨(sub p hp).1.keeps kk (by decide), (sub p hp).2.keeps kk (by decide)⟩⟩
  rcases o.2 with h | ⟨g', cap', cur0, h0, hb, h1, h2⟩
  · exact .inl h
  · refine .inr ⟨g', cap', cur0, h0, hb, ?_, h2⟩
    rw [hk.block g' (Array.getElem?_eq_some_iff.1 h1).1 (fun hX => hne (by rw [h0, ← hX]; rfl))]
    exact h1

/-- Rules in one row are as they were where another row grew. -/
theorem RsIn.grown {w w' : World} {base base1 : Nat} {v v1 : Value} {L L1 : List Rl} (h : RsIn w base v L) (h1 : RsIn w base1 v1 L1) (hg : w.grownBy w' v1.ownBlock) (hne : ∀ g, v.ownBlock = some g → v1.ownBlock ≠ some g) : RsIn w' base v L := by
  obtain ⟨_, _, o1, _⟩ := h1
  have kk : Keeps (· ≠ 56) w w' := fun j cur U fz hU hj => hg.block j (Array.getElem?_eq_some_iff.1 hj).1 (own_ne o1 hj hU)
  obtain ⟨LV, m, o, sub⟩ := h
  refine ⟨LV, m, ⟨o.1, ?_⟩, fun p hp => ⟨(sub p hp).1.keeps kk (by decide), (sub p hp).2.keeps kk (by decide)⟩⟩
  rcases o.2 with h | ⟨g', cap', cur0, h0, hb, h1, h2⟩
  · exact .inl h
  · refine .inr ⟨g', cap', cur0, h0, hb, ?_, h2⟩
    rw [hg.block g' (Array.getElem?_eq_some_iff.1 h1).1 (fun hX => hne g' (by rw [h0]; rfl) hX.symm)]
    exact h1

/-- The slice value u, to read from: the rules B. -/
def RsSrc (w : World) (u : Value) (B : List Rl) : Prop :=
  ∃ LV : List (Rl × (Value × Value)), LV.map (·.1) = B ∧ (∀ p ∈ LV, SsAt w p.2.1 p.1.sels ∧ DsAt w p.2.2 p.1.decls) ∧
    ((u = .slice none 0 0 ∧ B.length = 0) ∨ ∃ ad c, u = .slice (some ad) B.length c ∧ ∀ j e, (LV.flatMap encR)[j]? = some e → w.cell? (ad.add j) = some e)

theorem addr_add (g o j : Nat) : (⟨g, o, none⟩ : Addr).add j = ⟨g, o + j, none⟩ := by unfold Addr.add; split <;> simp_all
theorem RsIn.src {w : World} {base : Nat} {v : Value} {L : List Rl} (h : RsIn w base v L) : RsSrc w v L := by
  obtain ⟨LV, m, o, sub⟩ := h
  refine ⟨LV, m, sub, ?_⟩
  rcases o.2 with ⟨h1, h2⟩ | ⟨g, cap, cur, h0, hb, h1, h2⟩
  · exact .inl ⟨h1, h2⟩
  · exact .inr ⟨⟨g, 0, none⟩, cap, h0, fun j e he => o.cells (by rw [h0]; rfl) j e he⟩
theorem rs_one {w : World} {LV : List (Rl × (Value × Value))} (sub : ∀ p ∈ LV, SsAt w p.2.1 p.1.sels ∧ DsAt w p.2.2 p.1.decls) : ∀ e ∈ LV.flatMap encR, e.oneCell' = true := by
  intro e he
  obtain ⟨p, hp, he⟩ := List.mem_flatMap.1 he
  obtain ⟨a, c, h1⟩ := NAt.form (show SsIn w 0 p.2.1 p.1.sels from (sub p hp).1)
  obtain ⟨a2, c2, h2⟩ := own_form (sub p hp).2
  simp only [encR, List.mem_cons, List.not_mem_nil, or_false] at he
  rcases he with rfl | rfl | rfl | rfl | rfl
  · rfl
  · rw [h1]; rfl
  · rw [h2]; rfl
  · rfl
  · rfl

theorem append_rules {w : World} {ops : Array Oper} {rest : List Oper} {o : Oper} {a : Act} {Q : Exit → Act → World → Prop} (hw : Region.wanted o (yielded ops a.tmps) = true) (s x : Operand)
    (ho : o.op = .call { callee := .builtin .append, args := #[s, x], argTypes := #[44, 44] })
    (base : Nat) (v : Value) (A : List Rl) (hs : a.eval s = v) (hA : RsIn w base v A) (u : Value) (B : List Rl) (hx : a.eval x = u) (hB : RsSrc w u B) (hnm : A.length + B.length ≤ 1000) (hbase : base ≤ w.heap.size)
    (h : ∀ v' w', RsIn w' base v' (A ++ B) → w.grownBy w' v.ownBlock → wpList Try.prog ops Q rest (a.put o.dst v') w') : wpList Try.prog ops Q (o :: rest) a w := by
  obtain ⟨i0, hi, hz0, hz1, hz2⟩ := info_parts' Try.info56
  obtain ⟨LA, mA, oA, sA⟩ := hA
  obtain ⟨LB, mB, sB, src⟩ := hB
  have lB : LB.length = B.length := by rw [← mB, List.length_map]
  unfold wpList
  rw [if_pos hw]
  left
  have fin : ∀ v' w', w'.ownsRow base 56 5 v' (A.length + B.length) (LA.flatMap encR ++ LB.flatMap encR) → w.grownBy w' v.ownBlock → wpList Try.prog ops Q rest (a.put o.dst v') w' := by
    intro v' w' h2 h3
    have kk : Keeps (· ≠ 56) w w' := fun j cur U fz hU hj => h3.block j (Array.getElem?_eq_some_iff.1 hj).1 (own_ne oA hj hU)
    refine h v' w' ⟨LA ++ LB, by simp [mA, mB], by simpa using h2, fun p hp => ?_⟩ h3
    rcases List.mem_append.1 hp with hp | hp
    · exact ⟨(sA p hp).1.keeps kk (by decide), (sA p hp).2.keeps kk (by decide)⟩
    · exact ⟨(sB p hp).1.keeps kk (by decide), (sB p hp).2.keeps kk (by decide)⟩
  rcases src with ⟨h1, h2⟩ | ⟨ad, c, h1, h2⟩
  · have hrun := run_append_owned_none (P := Try.prog) (w := w) base 44 o.type 56 i0 5 Try.underlying44 hi v A.length (LA.flatMap encR) oA
    have e0 : LB = [] := List.eq_nil_of_length_eq_zero (by omega)
    unfold Oper.wp
    rw [h1] at hx
    simp [execOp, ho, resolve, invoke, builtin, hs, hx, hrun, Result.andThen]
    refine fin v w ?_ ⟨rfl, rfl, rfl, Nat.le_refl _, fun _ _ _ => rfl⟩
    rw [e0, h2]
    simpa using oA
  · refine wp_append_own w s x 44 ho base 56 i0 _ 5 80 Try.underlying44 hi hz0 hz1 hz2 rfl (by decide) v A.length (LA.flatMap encR) hs oA ad B.length c (LB.flatMap encR) (by rw [hx, h1]) (by rw [flat_len 5 encR (fun _ => rfl), lB]) h2 (rs_one sB) (by unfold maxLen; omega) (by omega) hbase ?_
    intro v' w' h3 h4 _
    exact fin v' w' h3 h4
end Go.Proofs.Ytanedepdhbdcgaa
