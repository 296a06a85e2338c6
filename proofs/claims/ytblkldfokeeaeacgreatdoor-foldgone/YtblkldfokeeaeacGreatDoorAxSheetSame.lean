/-
  What SameDecls, SameSelector and SameRules of the statements answer where both slices hold the same: true. Conditions: at most 100 of each.
-/
import Derived.Test.YtblkldfokeeaeacGreatDoorA30
import Derived.Test.YtblkldfokeeaeacGreatDoorA15
import Derived.Laws.StructEq
namespace Go.Proofs.YtblkldfokeeaeacGreatDoor.Sh
open Go.RowKit
theorem us36 : Tryz.prog.underlying 36 = some (.struct (Tryz.prog.fieldsOf 36)) := by kernel_rfl
theorem us40 : Tryz.prog.underlying 40 = some (.struct (Tryz.prog.fieldsOf 40)) := by kernel_rfl
theorem us152 : Tryz.prog.underlying 152 = some (.struct (Tryz.prog.fieldsOf 152)) := by kernel_rfl
theorem st36 : Tryz.prog.stoodInHeld 36 = false := by kernel_rfl
theorem st40 : Tryz.prog.stoodInHeld 40 = false := by kernel_rfl
theorem st152 : Tryz.prog.stoodInHeld 152 = false := by kernel_rfl
theorem fs36 : (Tryz.prog.fieldsOf 36).toList.map (fun f => (f.name, f.type, f.offset)) = [("From", 3, 0), ("To", 3, 1)] := by kernel_rfl
theorem fs40 : (Tryz.prog.fieldsOf 40).toList.map (fun f => (f.name, f.type, f.offset)) = [("Name", 9, 0), ("Val", 9, 1), ("Strong", 4, 2)] := by kernel_rfl
theorem fs152 : (Tryz.prog.fieldsOf 152).toList.map (fun f => (f.name, f.type, f.offset)) = [("Kind", 3, 0), ("Name", 9, 1), ("Val", 9, 2)] := by kernel_rfl
theorem eg36 : Tryz.prog.eqGuardType Tryz.prog.depth 36 = false := by kernel_rfl
theorem eg40 : Tryz.prog.eqGuardType Tryz.prog.depth 40 = false := by kernel_rfl
theorem eg152 : Tryz.prog.eqGuardType Tryz.prog.depth 152 = false := by kernel_rfl
theorem fields_eq (P : Program) (d : Nat) (xs ys : Array Value) (w : World) : ∀ fs : List Field, (∀ f ∈ fs, ∃ a b, (Go.part f.type xs f.offset).run P w = .ok a w ∧ (Go.part f.type ys f.offset).run P w = .ok b w ∧ (Op.equalIn d f.type a b).run P w = .ok true w) → (Op.eqFields d xs ys fs).run P w = .ok true w
  | [], _ => by simp [Op.eqFields]
  | f :: fs, h => by
    obtain ⟨a, b, h1, h2, h3⟩ := h f (List.mem_cons_self ..)
    have ih := fields_eq P d xs ys w fs (fun g hg => h g (List.mem_cons_of_mem _ hg))
    simp only [Op.eqFields]
    split
    · simp [Sem.run_bind, h1, h2, h3, ih]
    · exact ih
theorem seq36 (d : Nat) (f t : Int) (w : World) : (Op.equalIn (d + 2) 36 (.agg #[.int .i64 f, .int .i64 t]) (.agg #[.int .i64 f, .int .i64 t])).run Tryz.prog w = .ok true w := by
  rw [run_equalIn_struct w (d + 1) 36 _ _ us36 st36]
  refine fields_eq _ _ _ _ _ _ fun g hg => ?_
  have hm : (g.name, g.type, g.offset) ∈ [("From", 3, 0), ("To", 3, 1)] := by rw [← fs36]; exact List.mem_map_of_mem hg
  simp at hm
  rcases hm with ⟨_, h1, h2⟩ | ⟨_, h1, h2⟩
  · rw [h1, h2]
    refine ⟨.int .i64 f, .int .i64 f, by simp [Go.part, go_sem], by simp [Go.part, go_sem], ?_⟩
    rw [run_equalIn_int w d 3 .i64 .i64 f f Tryz.underlying3]; simp
  · rw [h1, h2]
    refine ⟨.int .i64 t, .int .i64 t, by simp [Go.part, go_sem], by simp [Go.part, go_sem], ?_⟩
    rw [run_equalIn_int w d 3 .i64 .i64 t t Tryz.underlying3]; simp
theorem seq40 (d : Nat) (a b : ByteArray) (t : Bool) (w : World) : (Op.equalIn (d + 2) 40 (.agg #[.string a, .string b, .bool t]) (.agg #[.string a, .string b, .bool t])).run Tryz.prog w = .ok true w := by
  rw [run_equalIn_struct w (d + 1) 40 _ _ us40 st40]
  refine fields_eq _ _ _ _ _ _ fun g hg => ?_
  have hm : (g.name, g.type, g.offset) ∈ [("Name", 9, 0), ("Val", 9, 1), ("Strong", 4, 2)] := by rw [← fs40]; exact List.mem_map_of_mem hg
  simp at hm
  rcases hm with ⟨_, h1, h2⟩ | ⟨_, h1, h2⟩ | ⟨_, h1, h2⟩
  · rw [h1, h2]
    refine ⟨.string a, .string a, by simp [Go.part, go_sem], by simp [Go.part, go_sem], ?_⟩
    rw [run_equalIn_string w d 9 a a Tryz.underlying9]; simp
  · rw [h1, h2]
    refine ⟨.string b, .string b, by simp [Go.part, go_sem], by simp [Go.part, go_sem], ?_⟩
    rw [run_equalIn_string w d 9 b b Tryz.underlying9]; simp
  · rw [h1, h2]
    refine ⟨.bool t, .bool t, by simp [Go.part, go_sem], by simp [Go.part, go_sem], ?_⟩
    rw [run_equalIn_bool' w d 4 t t Tryz.underlying4]; simp
theorem seq152 (d : Nat) (k : Int) (a b : ByteArray) (w : World) : (Op.equalIn (d + 2) 152 (.agg #[.int .i64 k, .string a, .string b]) (.agg #[.int .i64 k, .string a, .string b])).run Tryz.prog w = .ok true w := by
  rw [run_equalIn_struct w (d + 1) 152 _ _ us152 st152]
  refine fields_eq _ _ _ _ _ _ fun g hg => ?_
  have hm : (g.name, g.type, g.offset) ∈ [("Kind", 3, 0), ("Name", 9, 1), ("Val", 9, 2)] := by rw [← fs152]; exact List.mem_map_of_mem hg
  simp at hm
  rcases hm with ⟨_, h1, h2⟩ | ⟨_, h1, h2⟩ | ⟨_, h1, h2⟩
  · rw [h1, h2]
    refine ⟨.int .i64 k, .int .i64 k, by simp [Go.part, go_sem], by simp [Go.part, go_sem], ?_⟩
    rw [run_equalIn_int w d 3 .i64 .i64 k k Tryz.underlying3]; simp
  · rw [h1, h2]
    refine ⟨.string a, .string a, by simp [Go.part, go_sem], by simp [Go.part, go_sem], ?_⟩
    rw [run_equalIn_string w d 9 a a Tryz.underlying9]; simp
  · rw [h1, h2]
    refine ⟨.string b, .string b, by simp [Go.part, go_sem], by simp [Go.part, go_sem], ?_⟩
    rw [run_equalIn_string w d 9 b b Tryz.underlying9]; simp
theorem sneq36 (f t : Int) (w : World) : (binOp .neq 36 (.agg #[.int .i64 f, .int .i64 t]) (.agg #[.int .i64 f, .int .i64 t])).run Tryz.prog w = .ok (.bool false) w := by
  rw [run_neq_struct, seq36 9998]; rfl
theorem sneq40 (a b : ByteArray) (t : Bool) (w : World) : (binOp .neq 40 (.agg #[.string a, .string b, .bool t]) (.agg #[.string a, .string b, .bool t])).run Tryz.prog w = .ok (.bool false) w := by
  rw [run_neq_struct, seq40 9998]; rfl
theorem sneq152 (k : Int) (a b : ByteArray) (w : World) : (binOp .neq 152 (.agg #[.int .i64 k, .string a, .string b]) (.agg #[.int .i64 k, .string a, .string b])).run Tryz.prog w = .ok (.bool false) w := by
  rw [run_neq_struct, seq152 9998]; rfl
set_option maxHeartbeats 2000000 in
theorem sameDecls_any (l : List Dcl) (v1 v2 : Value) (w : World) (hL : l.length ≤ 100) (h1 : DsAt w v1 l) (h2 : DsAt w v2 l) :
    Calls Tryz.prog 43 #[v1, v2] w fun e w' => e = .returned (.bool true) ∧ ∃ n, w' = w.drewN n := by
  obtain ⟨a1, c1, rfl⟩ := own_form h1
  obtain ⟨a2, c2, rfl⟩ := own_form h2
  have H1 := hid h1
  have H2 := hid h2
  clear h1 h2
  go_enter Tryz.func43, Tryz.ntmps43
  go_wp2_with fail
  go_loopg [13] l.length (fun n i wr => ∃ k, k ≤ l.length ∧ n = l.length - k ∧ i = .int .i64 (k : Int) ∧ ∃ m, wr = w.drewN m)
  case atStart => exact ⟨0, Nat.zero_le _, rfl, rfl, 0, rfl⟩
  case round =>
    obtain ⟨k, hk, hn, rfl, m, rfl⟩ := hrel
    have GK := hid hn
    clear hn
    by_cases hlt : k < l.length
    · obtain ⟨g1, rfl, p⟩ := row_at (enc := encD) (sz := 3) (fun _ => rfl) rfl (show w.ownsRow 0 40 3 _ _ _ from H1.out) hlt (by decide)
      obtain ⟨g2, rfl, q⟩ := row_at (enc := encD) (sz := 3) (fun _ => rfl) rfl (show w.ownsRow 0 40 3 _ _ _ from H2.out) hlt (by decide)
      have p0 := p 0 (by decide)
      have p1 := p 1 (by decide)
      have p2 := p 2 (by decide)
      have q0 := q 0 (by decide)
      have q1 := q 1 (by decide)
      have q2 := q 2 (by decide)
      simp [encD, -Go.CellFam.cellOfFamily] at p0 p1 p2 q0 q1 q2
      generalize l[k] = d at *
      obtain ⟨nm, vl, st⟩ := d
      simp only at p0 p1 p2 q0 q1 q2
      have e77 := sneq40 (bs nm) (bs vl) st
      have g77 := eg40
      clear p q
      go_wp2_with fail
      go_quiet (fail)
      go_wp2_with fail
      go_roundg (l.length - (k + 1))
      case measure => have := GK.out; omega
      case rel => exact ⟨k + 1, by omega, rfl, by go_num, _, rfl⟩
    · go_wp2_with fail
      go_ret
      exact ⟨rfl, m, rfl⟩
set_option maxRecDepth 100000 in
set_option maxHeartbeats 4000000 in
theorem sameSel_any (l : List Prt) (v1 v2 : Value) (w : World) (hL : l.length ≤ 100) (hT : ∀ p ∈ l, p.tests.length ≤ 100) (h1 : PsAt w v1 l) (h2 : PsAt w v2 l) :
    Calls Tryz.prog 44 #[v1, v2] w fun e w' => e = .returned (.bool true) ∧ ∃ n, w' = w.drewN n := by
  obtain ⟨a1, c1, rfl⟩ := NAt.form (show PsIn w 0 v1 l from h1)
  obtain ⟨a2, c2, rfl⟩ := NAt.form (show PsIn w 0 v2 l from h2)
  obtain ⟨LV1, m1, o1, s1⟩ := h1
  obtain ⟨LV2, m2, o2, s2⟩ := h2
  have l1 : LV1.length = l.length := by rw [← m1, List.length_map]
  have l2 : LV2.length = l.length := by rw [← m2, List.length_map]
  have O1 := hid o1
  have O2 := hid o2
  have M1 := hid m1
  have M2 := hid m2
  have S1 := hid s1
  have S2 := hid s2
  have HT := hid hT
  have L1 := hid l1
  have L2 := hid l2
  clear o1 o2 m1 m2 s1 s2 hT l1 l2
  go_enter Tryz.func44, Tryz.ntmps44
  go_wp2_with fail
  go_loopg [14] l.length (fun n i wr => ∃ k, k ≤ l.length ∧ n = l.length - k ∧ i = .int .i64 (k : Int) ∧ ∃ m, wr = w.drewN m)
  case atStart => exact ⟨0, Nat.zero_le _, rfl, rfl, 0, rfl⟩
  case round =>
    obtain ⟨k, hk, hn, rfl, m, rfl⟩ := hrel
    have GK := hid hn
    clear hn
    by_cases hlt : k < l.length
    · have k1 : k < LV1.length := by rw [L1.out]; exact hlt
      have k2 : k < LV2.length := by rw [L2.out]; exact hlt
      obtain ⟨g1, rfl, p⟩ := row_at (enc := encP) (sz := 2) (fun _ => rfl) L1.out O1.out k1 (by decide)
      obtain ⟨g2, rfl, q⟩ := row_at (enc := encP) (sz := 2) (fun _ => rfl) L2.out O2.out k2 (by decide)
      have p0 := p 0 (by decide)
      have p1 := p 1 (by decide)
      have q0 := q 0 (by decide)
      have q1 := q 1 (by decide)
      have t1 := S1.out LV1[k] (List.getElem_mem k1)
      have t2 := S2.out LV2[k] (List.getElem_mem k2)
      have e1 : LV1[k].1 = l[k] := by have := M1.out; simp [← this]
      have e2 : LV2[k].1 = l[k] := by have := M2.out; simp [← this]
      have ht := HT.out l[k] (List.getElem_mem hlt)
      simp [encP, -Go.CellFam.cellOfFamily] at p0 p1 q0 q1
      rw [e1] at p0 t1
      rw [e2] at q0 t2
      generalize l[k] = pk at *
      generalize LV1[k].2 = x1 at *
      generalize LV2[k].2 = x2 at *
      obtain ⟨jn, ts⟩ := pk
      simp only at p0 p1 q0 q1 t1 t2 ht
      obtain ⟨b1, d1, rfl⟩ := own_form t1
      obtain ⟨b2, d2, rfl⟩ := own_form t2
      have T1 := hid t1
      have T2 := hid t2
      clear t1 t2 p q e1 e2 k1 k2
      go_wp2_with fail
      go_quiet (fail)
      go_wp2_with fail
      go_loopg [49] ts.length (fun n i wr => ∃ j, j ≤ ts.length ∧ n = ts.length - j ∧ i = .int .i64 (j : Int) ∧ ∃ m, wr = w.drewN m)
      case atStart => exact ⟨0, Nat.zero_le _, rfl, rfl, m + nq, rfl⟩
      case round =>
        obtain ⟨j, hj, hn, rfl, m2, rfl⟩ := hrel
        have GJ := hid hn
        clear hn
        by_cases hjl : j < ts.length
        · obtain ⟨h1, rfl, p⟩ := row_at (enc := encT) (sz := 3) (fun _ => rfl) rfl (show w.ownsRow 0 152 3 _ _ _ from T1.out) hjl (by decide)
          obtain ⟨h2, rfl, q⟩ := row_at (enc := encT) (sz := 3) (fun _ => rfl) rfl (show w.ownsRow 0 152 3 _ _ _ from T2.out) hjl (by decide)
          have r0 := p 0 (by decide)
          have r1 := p 1 (by decide)
          have r2 := p 2 (by decide)
          have u0 := q 0 (by decide)
          have u1 := q 1 (by decide)
          have u2 := q 2 (by decide)
          simp [encT, -Go.CellFam.cellOfFamily] at r0 r1 r2 u0 u1 u2
          generalize ts[j] = tj at *
          obtain ⟨kd, nm, vl⟩ := tj
          simp only at r0 r1 r2 u0 u1 u2
          have e104 := sneq152 kd (bs nm) (bs vl)
          have g104 := eg152
          clear p q
          go_wp2_with fail
          go_quiet (fail)
          go_wp2_with fail
          go_roundg (ts.length - (j + 1))
          case measure => have := GJ.out; omega
          case rel => exact ⟨j + 1, by omega, rfl, by go_num, _, rfl⟩
        · go_wp2_with fail
          go_roundg (l.length - (k + 1))
          case measure => have := GK.out; omega
          case rel => exact ⟨k + 1, by omega, rfl, by go_num, m2, rfl⟩
    · go_wp2_with fail
      go_ret
      exact ⟨rfl, m, rfl⟩
end Go.Proofs.YtblkldfokeeaeacGreatDoor.Sh
