/-
  What SameNodes of the statements answers where both slices read as the same elements: true. Conditions: at most 120 elements, of at most 8 attributes.
-/
import Derived.Test.YtblkldfokeeaeacGreatDoorA18
import Derived.Test.YtblkldfokeeaeacGreatDoorA25
import Derived.Laws.StructEq
namespace Go.Proofs.YtblkldfokeeaeacGreatDoor.Sh
open Go.RowKit
theorem nd_cell {w : World} {g : Nat} {cur : Array Value} {LV : List (Nd × Value)} {L : List Nd} (h : w.heap[g]? = some (.cells cur 49 (0, 0))) (hm : LV.map (·.1) = L) (ht : cur.toList.take (L.length * 6) = LV.flatMap encN) {i : Nat} (hi : i < L.length) (j : Nat) (hj : j < 6) :
    w.cell? ⟨g, i * 6 + j, none⟩ = (encN (LV[i]'(by rw [← hm] at hi; simpa using hi)))[j]? := by
  have hi' : i < LV.length := by rw [← hm] at hi; simpa using hi
  have h1 := flat_get 6 encN (fun _ => rfl) LV i j hi' hj
  rw [← ht, List.getElem?_take, if_pos (by omega)] at h1
  simp [World.cell?, h, ← h1]
theorem nd_cells {w : World} {g : Nat} {cur : Array Value} {LV : List (Nd × Value)} {L : List Nd} (h : w.heap[g]? = some (.cells cur 49 (0, 0))) (hm : LV.map (·.1) = L) (ht : cur.toList.take (L.length * 6) = LV.flatMap encN) (ha : ∀ p ∈ LV, AtAt w p.2 p.1.attrs) {i : Nat} (hi : i < L.length) :
    ∃ av, AtAt w av L[i].attrs ∧ w.cell? ⟨g, i * 6, none⟩ = some (.string (bs L[i].name)) ∧ w.cell? ⟨g, i * 6 + 1, none⟩ = some (.int .i64 L[i].parent) ∧ w.cell? ⟨g, i * 6 + 2, none⟩ = some av ∧ w.cell? ⟨g, i * 6 + 3, none⟩ = some (.int .i64 L[i].nameEnd) ∧
      w.cell? ⟨g, i * 6 + 4, none⟩ = some (.int .i64 L[i].inFrom) ∧ w.cell? ⟨g, i * 6 + 5, none⟩ = some (.int .i64 L[i].inTo) := by
  have hi' : i < LV.length := by rw [← hm] at hi; simpa using hi
  have c0 := nd_cell h hm ht hi 0 (by omega)
  have c1 := nd_cell h hm ht hi 1 (by omega)
  have c2 := nd_cell h hm ht hi 2 (by omega)
  have c3 := nd_cell h hm ht hi 3 (by omega)
  have c4 := nd_cell h hm ht hi 4 (by omega)
  have c5 := nd_cell h hm ht hi 5 (by omega)
  have e : L[i] = LV[i].1 := by subst hm; simp
  simp only [encN, List.getElem?_cons_zero, List.getElem?_cons_succ, Nat.add_zero] at c0 c1 c2 c3 c4 c5
  rw [e]
  exact ⟨LV[i].2, ha _ (List.getElem_mem hi'), c0, c1, c2, c3, c4, c5⟩
theorem u33 : Tryz.prog.underlying 36 = some (.struct (Tryz.prog.fieldsOf 36)) := by kernel_rfl
theorem u41 : Tryz.prog.underlying 51 = some (.struct (Tryz.prog.fieldsOf 51)) := by kernel_rfl
theorem s33 : Tryz.prog.stoodInHeld 36 = false := by kernel_rfl
theorem s41 : Tryz.prog.stoodInHeld 51 = false := by kernel_rfl
theorem f33 : (Tryz.prog.fieldsOf 36).toList.map (fun f => (f.name, f.type, f.offset)) = [("From", 3, 0), ("To", 3, 1)] := by kernel_rfl
theorem f41 : (Tryz.prog.fieldsOf 51).toList.map (fun f => (f.name, f.type, f.offset)) = [("Name", 9, 0), ("Val", 9, 1), ("At", 36, 2)] := by kernel_rfl
theorem eqFields_of (P : Program) (d : Nat) (xs ys : Array Value) (w : World) : ∀ fs : List Field, (∀ f ∈ fs, ∃ a b, (Go.part f.type xs f.offset).run P w = .ok a w ∧ (Go.part f.type ys f.offset).run P w = .ok b w ∧ (Op.equalIn d f.type a b).run P w = .ok true w) → (Op.eqFields d xs ys fs).run P w = .ok true w
  | [], _ => by simp [Op.eqFields]
  | f :: fs, h => by
    obtain ⟨a, b, h1, h2, h3⟩ := h f (List.mem_cons_self ..)
    have ih := eqFields_of P d xs ys w fs (fun g hg => h g (List.mem_cons_of_mem _ hg))
    simp only [Op.eqFields]
    split
    · simp [Sem.run_bind, h1, h2, h3, ih]
    · exact ih
theorem eq33 (d : Nat) (f t : Int) (w : World) : (Op.equalIn (d + 2) 36 (.agg #[.int .i64 f, .int .i64 t]) (.agg #[.int .i64 f, .int .i64 t])).run Tryz.prog w = .ok true w := by
  rw [run_equalIn_struct w (d + 1) 36 _ _ u33 s33]
  refine eqFields_of _ _ _ _ _ _ fun g hg => ?_
  have hm : (g.name, g.type, g.offset) ∈ [("From", 3, 0), ("To", 3, 1)] := by rw [← f33]; exact List.mem_map_of_mem hg
  simp at hm
  rcases hm with ⟨_, h1, h2⟩ | ⟨_, h1, h2⟩
  · rw [h1, h2]
    refine ⟨.int .i64 f, .int .i64 f, by simp [Go.part, go_sem], by simp [Go.part, go_sem], ?_⟩
    rw [run_equalIn_int w d 3 .i64 .i64 f f Tryz.underlying3]; simp
  · rw [h1, h2]
    refine ⟨.int .i64 t, .int .i64 t, by simp [Go.part, go_sem], by simp [Go.part, go_sem], ?_⟩
    rw [run_equalIn_int w d 3 .i64 .i64 t t Tryz.underlying3]; simp
theorem eq41 (d : Nat) (a b : ByteArray) (f t : Int) (w : World) : (Op.equalIn (d + 3) 51 (.agg #[.string a, .string b, .int .i64 f, .int .i64 t]) (.agg #[.string a, .string b, .int .i64 f, .int .i64 t])).run Tryz.prog w = .ok true w := by
  rw [run_equalIn_struct w (d + 2) 51 _ _ u41 s41]
  refine eqFields_of _ _ _ _ _ _ fun g hg => ?_
  have hm : (g.name, g.type, g.offset) ∈ [("Name", 9, 0), ("Val", 9, 1), ("At", 36, 2)] := by rw [← f41]; exact List.mem_map_of_mem hg
  simp at hm
  rcases hm with ⟨_, h1, h2⟩ | ⟨_, h1, h2⟩ | ⟨_, h1, h2⟩
  · rw [h1, h2]
    refine ⟨.string a, .string a, by simp [Go.part, go_sem], by simp [Go.part, go_sem], ?_⟩
    rw [run_equalIn_string w (d + 1) 9 a a Tryz.underlying9]; simp
  · rw [h1, h2]
    refine ⟨.string b, .string b, by simp [Go.part, go_sem], by simp [Go.part, go_sem], ?_⟩
    rw [run_equalIn_string w (d + 1) 9 b b Tryz.underlying9]; simp
  · rw [h1, h2]
    refine ⟨.agg #[.int .i64 f, .int .i64 t], .agg #[.int .i64 f, .int .i64 t], by simp [Go.part, go_sem], by simp [Go.part, go_sem], ?_⟩
    exact eq33 d f t w
theorem neq33 (f t : Int) (w : World) : (binOp .neq 36 (.agg #[.int .i64 f, .int .i64 t]) (.agg #[.int .i64 f, .int .i64 t])).run Tryz.prog w = .ok (.bool false) w := by
  rw [run_neq_struct, eq33 9998]; rfl
theorem neq41 (a b : ByteArray) (f t : Int) (w : World) : (binOp .neq 51 (.agg #[.string a, .string b, .int .i64 f, .int .i64 t]) (.agg #[.string a, .string b, .int .i64 f, .int .i64 t])).run Tryz.prog w = .ok (.bool false) w := by
  rw [run_neq_struct, eq41 9997]; rfl
theorem g33 : Tryz.prog.eqGuardType Tryz.prog.depth 36 = false := by kernel_rfl
theorem g41 : Tryz.prog.eqGuardType Tryz.prog.depth 51 = false := by kernel_rfl
def Reads (w : World) (v : Value) (L : List Nd) : Prop :=
  ∃ ao cap, v = .slice ao L.length cap ∧ (L ≠ [] → ∃ g cur, ∃ LV : List (Nd × Value), ao = some ⟨g, 0, none⟩ ∧ w.heap[g]? = some (.cells cur 49 (0, 0)) ∧ LV.map (·.1) = L ∧ cur.toList.take (L.length * 6) = LV.flatMap encN ∧ ∀ p ∈ LV, AtAt w p.2 p.1.attrs)
set_option maxRecDepth 100000 in
set_option maxHeartbeats 4000000 in
theorem same_any (L : List Nd) (v1 v2 : Value) (w : World) (hL : L.length ≤ 120) (h8 : ∀ n ∈ L, n.attrs.length ≤ 8) (h1 : Reads w v1 L) (h2 : Reads w v2 L) :
    Calls Tryz.prog 20 #[v1, v2] w fun e w' => e = .returned (.bool true) ∧ ∃ n, w' = w.drewN n := by
  obtain ⟨ao1, cap1, rfl, r1⟩ := h1
  obtain ⟨ao2, cap2, rfl, r2⟩ := h2
  have R1 := hid r1
  have R2 := hid r2
  have H8 := hid h8
  clear r1 r2 h8
  go_enter Tryz.func20, Tryz.ntmps20
  go_wp2_with fail
  go_loopg [14] L.length (fun n i wr => ∃ k, k ≤ L.length ∧ n = L.length - k ∧ i = .int .i64 (k : Int) ∧ ∃ m, wr = w.drewN m)
  case atStart => exact ⟨0, Nat.zero_le _, rfl, rfl, 0, rfl⟩
  case round =>
    obtain ⟨k, hk, hn, rfl, m, rfl⟩ := hrel
    have GK := hid hn
    clear hn
    by_cases hlt : k < L.length
    · have hne : L ≠ [] := fun h => by rw [h] at hlt; simp at hlt
      obtain ⟨g1, cur1, LV1, rfl, hg1, hm1, ht1, ha1⟩ := R1.out hne
      obtain ⟨g2, cur2, LV2, rfl, hg2, hm2, ht2, ha2⟩ := R2.out hne
      obtain ⟨av, hav, c0, c1, c2, c3, c4, c5⟩ := nd_cells hg1 hm1 ht1 ha1 hlt
      obtain ⟨bv, hbv, d0, d1, d2, d3, d4, d5⟩ := nd_cells hg2 hm2 ht2 ha2 hlt
      have hl8 := H8.out L[k] (List.getElem_mem hlt)
      generalize L[k] = nk at *
      obtain ⟨nm, pa, ats, ne, f, t⟩ := nk
      simp only at hav hbv c0 c1 c2 c3 c4 c5 d0 d1 d2 d3 d4 d5 hl8
      obtain ⟨ax, acap, rfl⟩ := hav.form
      obtain ⟨bx, bcap, rfl⟩ := hbv.form
      have AV := hid hav
      have BV := hid hbv
      have e33 := neq33 f t
      have q33 := g33
      have hnn : ((bs nm).toList == (bs nm).toList) = true := by simp
      clear hav hbv hne hg1 hg2 hm1 hm2 ht1 ht2 ha1 ha2
      go_wp2_with fail
      go_quiet (fail)
      clear e33 q33 hnn c0 c1 c3 c4 c5 d0 d1 d3 d4 d5
      go_wp2_with fail
      go_loopg [88] ats.length (fun n i wr => ∃ j, j ≤ ats.length ∧ n = ats.length - j ∧ i = .int .i64 (j : Int) ∧ ∃ m, wr = w.drewN m)
      case atStart => exact ⟨0, Nat.zero_le _, rfl, rfl, m + nq, rfl⟩
      case round =>
        obtain ⟨j, hj, hn, rfl, m2, rfl⟩ := hrel
        have GJ := hid hn
        clear hn
        by_cases hjl : j < ats.length
        · rcases AV.out with ⟨_, h⟩ | ⟨h1, q1, x1, hv, a1, a2, a3, a4, a5⟩
          · rw [h] at hjl; simp at hjl
          injection hv with hv1 hv2 hv3
          subst hv1 hv3
          rcases BV.out with ⟨_, h⟩ | ⟨h2, q2, x2, hv', b1, b2, b3, b4, b5⟩
          · rw [h] at hjl; simp at hjl
          injection hv' with hv1' hv2' hv3'
          subst hv1' hv3'
          have t0 := AtAt.cell a1 a5 hjl 0 (by omega)
          have t1 := AtAt.cell a1 a5 hjl 1 (by omega)
          have t2 := AtAt.cell a1 a5 hjl 2 (by omega)
          have t3 := AtAt.cell a1 a5 hjl 3 (by omega)
          have s0 := AtAt.cell b1 b5 hjl 0 (by omega)
          have s1 := AtAt.cell b1 b5 hjl 1 (by omega)
          have s2 := AtAt.cell b1 b5 hjl 2 (by omega)
          have s3 := AtAt.cell b1 b5 hjl 3 (by omega)
          simp [encA, -Go.CellFam.cellOfFamily] at t0 t1 t2 t3 s0 s1 s2 s3
          generalize ats[j] = aj at *
          obtain ⟨an, vl, fr, tt⟩ := aj
          simp only at t0 t1 t2 t3 s0 s1 s2 s3
          have e41 := neq41 (bs an) (bs vl) fr tt
          have q41 := g41
          clear a1 a2 a3 a4 a5 b1 b2 b3 b4 b5
          go_wp2_with fail
          go_quiet (fail)
          go_wp2_with fail
          go_roundg (ats.length - (j + 1))
          case measure => have := GJ.out; omega
          case rel => exact ⟨j + 1, by omega, rfl, by go_num, _, rfl⟩
        · go_wp2_with fail
          go_roundg (L.length - (k + 1))
          case measure => have := GK.out; omega
          case rel => exact ⟨k + 1, by omega, rfl, by go_num, m2, rfl⟩
    · go_wp2_with fail
      go_ret
      exact ⟨rfl, m, rfl⟩
end Go.Proofs.YtblkldfokeeaeacGreatDoor.Sh
