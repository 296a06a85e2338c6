/-
  The law PropsEdge, walked: it answers true. Conditions: the texts are together of at most 2^20 bytes; the two tables hold what their texts say.
-/
import Derived.Test.YtnigckmaklbiaabDoorPEdge
import Derived.Laws.IdiomStrings
namespace Go.Proofs.YtnigckmaklbiaabDoor
open Go.RowKit

theorem bytes_row (w : World) (x : ByteArray) : ∀ j, j < x.size → (w.drew.alloc (.cells (bytesRow x (grownCap w x.size 0 5)) 5 ((bytesRow x (grownCap w x.size 0 5)).size, (bytesRow x (grownCap w x.size 0 5)).size + 1))).cell? ⟨w.heap.size, j, none⟩ = some (.int .u8 ((x.data.toList.getD j 0).toNat : Int)) := fun j hj => by
  have hB : (w.drew.alloc (.cells (bytesRow x (grownCap w x.size 0 5)) 5 ((bytesRow x (grownCap w x.size 0 5)).size, (bytesRow x (grownCap w x.size 0 5)).size + 1))).heap[w.heap.size]? = some _ := heap_alloc_new w.drew _
  unfold World.cell?
  rw [hB]
  simp [bytesRow, Array.getElem?_append, hj, List.getD]

set_option maxRecDepth 100000 in
set_option maxHeartbeats 8000000 in
theorem propsEdge_any (lv : Value) (l : List ByteArray) (w : World) (hl : BsAt w lv l) (hn : (l.map (fun y : ByteArray => y.size + 1)).sum ≤ lim) (hll : l.length ≤ lim) (hT : Tab w) :
    Calls Tryd.prog 7 #[lv] w fun e w' => e = .returned (.bool true) ∧ Below w.heap.size w w' := by
  obtain ⟨sa, sc, rfl⟩ := Sl.form hl
  have HL := hid hl
  have HT := hid hT
  have HS := hid hn
  unfold lim at hll
  clear hl hT hn
  go_enter Tryd.func7, Tryd.ntmps7
  go_wp2_with fail
  refine (alive_any w HT.out).mono ?_
  rintro e w1 ⟨rfl, hb1⟩
  have HB1 := hid hb1
  clear hb1
  go_wp2_with fail
  go_loopg [3, 14] l.length (fun n v i wr => ∃ (k : Nat), n = l.length - k ∧ k ≤ l.length ∧ k ≤ 4 ∧ i = .int .i64 (k : Int) ∧ v = .string (joinB (l.take k)) ∧ (∀ x ∈ l.take k, NoBl x) ∧ Below w.heap.size w wr)
  case atStart => exact ⟨0, rfl, Nat.zero_le _, Nat.zero_le _, rfl, rfl, by simp, HB1.out⟩
  case round =>
    clear HB1
    obtain ⟨k, hn, hk, hk4, rfl, rfl, hN, hB⟩ := hrel
    have GK := hid hn
    have HB := hid hB
    have HN := hid hN
    have HL' := HL.out.ext (Ext.below hB)
    have HT' := hid (HT.out.ext (Ext.below hB))
    rename World => wo
    clear hn hB hN
    by_cases hlt : k < l.length
    · obtain ⟨b, off, rfl, he⟩ := Sl.at HL' hlt
      have c0 := he.cells
      have hsx := sum_mem (List.getElem_mem hlt)
      have hsx2 := HS.out
      unfold lim at hsx2
      rw [Nat.mul_one] at c0
      have HJ : Hid (k ≠ 0 → joinB (l.take (k + 1)) = (joinB (l.take k) ++ blank) ++ l[k]) := fun h0 => by
        rw [List.take_succ_eq_append_getElem hlt, join_snoc _ (by intro h; have := congrArg List.length h; rw [List.length_take, List.length_nil] at this; omega)]
      have HJ0 : Hid (k = 0 → joinB (l.take (k + 1)) = l[k]) := fun h0 => by
        rw [List.take_succ_eq_append_getElem hlt]
        have : l.take k = [] := by rw [h0]; rfl
        rw [this]; rfl
      have HM : Hid (∀ y ∈ l.take (k + 1), y ∈ l.take k ∨ y = l[k]) := fun y hy => by
        rw [List.take_succ_eq_append_getElem hlt] at hy
        rcases List.mem_append.1 hy with h | h
        · exact .inl h
        · exact .inr (List.mem_singleton.1 h)
      have hjs := Nat.le_trans (joinB_size (l.take k)) (sum_take l k)
      clear he HL'
      generalize l[k] = x at *
      have hxs : x.size ≤ 1048576 := by omega
      have hjx : (joinB (l.take k)).size ≤ 1048576 := by omega
      clear hsx hsx2 hjs
      cases hxe : x.toList.isEmpty
      · by_cases h4 : 3 < k
        · go_wp2_with fail
          go_ret
          exact ⟨rfl, HB.out⟩
        · have hconv := run_bytes_of_string (P := Tryd.prog) wo 9 57 5 x Tryd.underlying9 Tryd.underlying57 Tryd.underlying5
          have HR : Hid (∀ j, j < x.size → (wo.alloc (.cells (bytesRow x (grownCap wo x.size 0 5)) 5 ((bytesRow x (grownCap wo x.size 0 5)).size, (bytesRow x (grownCap wo x.size 0 5)).size + 1))).drew.cell? ⟨wo.heap.size, j, none⟩ = some (.int .u8 ((x.data.toList.getD j 0).toNat : Int))) := bytes_row wo x
          have HBc : Hid (Below w.heap.size w (wo.alloc (.cells (bytesRow x (grownCap wo x.size 0 5)) 5 ((bytesRow x (grownCap wo x.size 0 5)).size, (bytesRow x (grownCap wo x.size 0 5)).size + 1))).drew) := (HB.out.alloc HB.out.size _).drew
          go_wp2_with fail
          clear hconv
          generalize (wo.alloc (.cells (bytesRow x (grownCap wo x.size 0 5)) 5 ((bytesRow x (grownCap wo x.size 0 5)).size, (bytesRow x (grownCap wo x.size 0 5)).size + 1))).drew = w2 at *
          generalize grownCap wo x.size 0 5 = bcap at *
          generalize wo.heap.size = BN at *
          go_loopg [28] x.size (fun n i wr => ∃ j : Nat, n = x.size - j ∧ j ≤ x.size ∧ i = .int .i64 (j : Int) ∧ (∀ q, q < j → x.data.toList.getD q 0 ≠ 32) ∧ wr = w2)
          case atStart => exact ⟨0, rfl, Nat.zero_le _, rfl, fun q hq => absurd hq (Nat.not_lt_zero _), rfl⟩
          case round =>
            obtain ⟨j, hn, hj, rfl, hQ, rfl⟩ := hrel
            have GJ := hid hn
            have HQ := hid hQ
            clear hn hQ
            by_cases hjl : j < x.size
            · have hc := HR.out j hjl
              have hnext : Hid (x.data.toList.getD j 0 ≠ 32 → ∀ q, q < j + 1 → x.data.toList.getD q 0 ≠ 32) := fun h q hq => by
                by_cases e : q = j
                · rw [e]; exact h
                · exact HQ.out q (by omega)
              have hby : ((x.data.toList.getD j 0).toNat : Int) = 32 ↔ x.data.toList.getD j 0 = 32 := by
                constructor
                · intro h
                  apply UInt8.toNat_inj.1
                  have : (x.data.toList.getD j 0).toNat = 32 := by omega
                  rw [this]; rfl
                · intro h; rw [h]; rfl
              have HBY := hid hby
              clear hby
              have hlt8 := (x.data.toList.getD j 0).toNat_lt
              generalize hz : ((x.data.toList.getD j 0).toNat : Int) = z at *
              by_cases h32 : z = 32
              · have hzb : (z == 32) = true := by simp [h32]
                clear h32
                go_wp2_with fail
                go_ret
                exact ⟨rfl, HBc.out⟩
              · have hzb : (z == 32) = false := by simp [h32]
                have HNX := hid (hnext.out (fun e => h32 (HBY.out.2 e)))
                clear h32 hnext
                go_wp2_with fail
                go_roundg (x.size - (j + 1))
                case measure => have := GJ.out; omega
                case rel => exact ⟨j + 1, rfl, by omega, by go_num, HNX.out, rfl⟩
            · have HNB : Hid (NoBl x) := fun b hb => by
                obtain ⟨q, hq, rfl⟩ := List.getElem_of_mem hb
                have hq' : q < x.size := by rw [Lib.size_eq]; exact hq
                have := HQ.out q (by omega)
                rw [List.getD_eq_getElem?_getD, List.getElem?_eq_getElem hq] at this
                exact this
              have HNN : Hid (∀ y ∈ l.take (k + 1), NoBl y) := fun y hy => by
                rcases HM.out y hy with h | h
                · exact HN.out y h
                · rw [h]; exact HNB.out
              by_cases hk0 : k = 0
              · have HJJ := hid (HJ0.out hk0)
                have HJ2 : Hid (joinB (l.take (k + 1)) = joinB (l.take k) ++ x) := by
                  show _ = _
                  have hj0 : joinB (l.take k) = ⟨#[]⟩ := by rw [hk0]; rfl
                  rw [HJJ.out, hj0]
                  apply ByteArray.ext
                  rw [ByteArray.data_append]
                  simp
                have hki : (k : Int) ≤ 0 := by omega
                clear hk0
                generalize joinB (l.take k) = S at *
                go_wp2_with fail
                go_roundg (l.length - (k + 1))
                case measure => have := GK.out; omega
                case rel => exact ⟨k + 1, rfl, by omega, by omega, by go_num, by rw [HJ2.out], HNN.out, HBc.out⟩
              · have HJ2 := hid (HJ.out hk0)
                have hki : (0 : Int) < (k : Int) := by omega
                generalize joinB (l.take k) = S at *
                have hjx2 : (S ++ (⟨#[32]⟩ : ByteArray)).size ≤ 1048577 := by rw [ByteArray.size_append]; have : (⟨#[32]⟩ : ByteArray).size = 1 := rfl; omega
                clear hk0
                go_wp2_with fail
                go_roundg (l.length - (k + 1))
                case measure => have := GK.out; omega
                case rel => exact ⟨k + 1, rfl, by omega, by omega, by go_num, by rw [HJ2.out]; rfl, HNN.out, HBc.out⟩
      · go_wp2_with fail
        go_ret
        exact ⟨rfl, HB.out⟩
    · have hkl : k = l.length := by omega
      subst hkl
      rw [List.take_length] at HN
      rw [List.take_length]
      match l, hk4 with
      | [], _ =>
        clear HL'
        go_wp2_with fail
        go_ret
        exact ⟨rfl, HB.out⟩
      | [x0], _ =>
        have HX : Hid (expB ⟨edgeN, joinB [x0], false⟩ = some [⟨sd0, x0, false⟩, ⟨sd1, x0, false⟩, ⟨sd2, x0, false⟩, ⟨sd3, x0, false⟩]) := by
          show _ = _
          have hc : cutB (joinB [x0]) = [x0] := (cut_eq (words_join 1 [x0] rfl (by simp) HN.out)).2 (by simp)
          have he : isE ⟨edgeN, joinB [x0], false⟩ = true := by show (edgeN.toList == edgeN.toList) = true; simp
          unfold expB
          rw [if_pos he]
          simp only
          rw [hc]
          rfl
        have hjs := Nat.le_trans (joinB_size [x0]) HS.out
        have HJS := hid hjs
        clear hjs
        obtain ⟨b, off, rfl, e0⟩ := Sl.at HL' (i := 0) (by simp)
        have c0 := e0.cells
        simp at c0
        clear e0 HL'
        have HC : Hid (wo.cell? ⟨b, off, none⟩ = some (.string x0)) := c0
        go_wp2_with fail
        refine (expand_any ⟨edgeN, joinB [x0], false⟩ wo ⟨by show edgeN.size ≤ lim; unfold lim; decide, HJS.out⟩ HT'.out).mono ?_
        rintro e w5 ⟨hA, hb5⟩
        rw [HX.out] at hA
        obtain ⟨da, dc, rfl, hD⟩ := hA
        have HB5 := hid (below_trans HB.out hb5 (Nat.le_refl _))
        have X5 := Ext.below hb5
        have g0 := X5 _ _ _ c0
        obtain ⟨db, do_, rfl, r0⟩ := Sl.at hD (i := 0) (by simp)
        have s0 := r0.cells.2.1
        obtain ⟨db', do', hd', r1⟩ := Sl.at hD (i := 1) (by simp)
        injection hd' with hd'
        injection hd' with hd1 hd2
        subst hd1 hd2
        have s1 := r1.cells.2.1
        obtain ⟨db', do', hd', r2⟩ := Sl.at hD (i := 2) (by simp)
        injection hd' with hd'
        injection hd' with hd1 hd2
        subst hd1 hd2
        have s2 := r2.cells.2.1
        obtain ⟨db', do', hd', r3⟩ := Sl.at hD (i := 3) (by simp)
        injection hd' with hd'
        injection hd' with hd1 hd2
        subst hd1 hd2
        have s3 := r3.cells.2.1
        simp at s0 s1 s2 s3
        clear r0 r1 r2 r3 hD hb5 X5 c0 HC
        go_wp2_with fail
        go_quiet (fail)
        go_wp2_with fail
        go_quiet (fail)
        go_wp2_with fail
        go_ret
        exact ⟨rfl, below_dN (below_dN HB5.out _) _⟩
      | [x0, x1], _ =>
        have HX : Hid (expB ⟨edgeN, joinB [x0, x1], false⟩ = some [⟨sd0, x0, false⟩, ⟨sd1, x1, false⟩, ⟨sd2, x0, false⟩, ⟨sd3, x1, false⟩]) := by
          show _ = _
          have hc : cutB (joinB [x0, x1]) = [x0, x1] := (cut_eq (words_join 2 [x0, x1] rfl (by simp) HN.out)).2 (by simp)
          have he : isE ⟨edgeN, joinB [x0, x1], false⟩ = true := by show (edgeN.toList == edgeN.toList) = true; simp
          unfold expB
          rw [if_pos he]
          simp only
          rw [hc]
          rfl
        have hjs := Nat.le_trans (joinB_size [x0, x1]) HS.out
        have HJS := hid hjs
        clear hjs
        obtain ⟨b, off, rfl, e0⟩ := Sl.at HL' (i := 0) (by simp)
        have c0 := e0.cells
        obtain ⟨b', off', hb', e1⟩ := Sl.at HL' (i := 1) (by simp)
        injection hb' with hb'
        injection hb' with hb1 hb2
        subst hb1 hb2
        have c1 := e1.cells
        simp at c0 c1
        clear e0 e1 HL'
        have HC : Hid (wo.cell? ⟨b, off, none⟩ = some (.string x0) ∧ wo.cell? ⟨b, off + 1, none⟩ = some (.string x1)) := ⟨c0, c1⟩
        go_wp2_with fail
        refine (expand_any ⟨edgeN, joinB [x0, x1], false⟩ wo ⟨by show edgeN.size ≤ lim; unfold lim; decide, HJS.out⟩ HT'.out).mono ?_
        rintro e w5 ⟨hA, hb5⟩
        rw [HX.out] at hA
        obtain ⟨da, dc, rfl, hD⟩ := hA
        have HB5 := hid (below_trans HB.out hb5 (Nat.le_refl _))
        have X5 := Ext.below hb5
        have g0 := X5 _ _ _ c0
        have g1 := X5 _ _ _ c1
        obtain ⟨db, do_, rfl, r0⟩ := Sl.at hD (i := 0) (by simp)
        have s0 := r0.cells.2.1
        obtain ⟨db', do', hd', r1⟩ := Sl.at hD (i := 1) (by simp)
        injection hd' with hd'
        injection hd' with hd1 hd2
        subst hd1 hd2
        have s1 := r1.cells.2.1
        obtain ⟨db', do', hd', r2⟩ := Sl.at hD (i := 2) (by simp)
        injection hd' with hd'
        injection hd' with hd1 hd2
        subst hd1 hd2
        have s2 := r2.cells.2.1
        obtain ⟨db', do', hd', r3⟩ := Sl.at hD (i := 3) (by simp)
        injection hd' with hd'
        injection hd' with hd1 hd2
        subst hd1 hd2
        have s3 := r3.cells.2.1
        simp at s0 s1 s2 s3
        clear r0 r1 r2 r3 hD hb5 X5 c0 c1 HC
        go_wp2_with fail
        go_quiet (fail)
        go_wp2_with fail
        go_quiet (fail)
        go_wp2_with fail
        go_ret
        exact ⟨rfl, below_dN (below_dN HB5.out _) _⟩
      | [x0, x1, x2], _ =>
        have HX : Hid (expB ⟨edgeN, joinB [x0, x1, x2], false⟩ = some [⟨sd0, x0, false⟩, ⟨sd1, x1, false⟩, ⟨sd2, x2, false⟩, ⟨sd3, x1, false⟩]) := by
          show _ = _
          have hc : cutB (joinB [x0, x1, x2]) = [x0, x1, x2] := (cut_eq (words_join 3 [x0, x1, x2] rfl (by simp) HN.out)).2 (by simp)
          have he : isE ⟨edgeN, joinB [x0, x1, x2], false⟩ = true := by show (edgeN.toList == edgeN.toList) = true; simp
          unfold expB
          rw [if_pos he]
          simp only
          rw [hc]
          rfl
        have hjs := Nat.le_trans (joinB_size [x0, x1, x2]) HS.out
        have HJS := hid hjs
        clear hjs
        obtain ⟨b, off, rfl, e0⟩ := Sl.at HL' (i := 0) (by simp)
        have c0 := e0.cells
        obtain ⟨b', off', hb', e1⟩ := Sl.at HL' (i := 1) (by simp)
        injection hb' with hb'
        injection hb' with hb1 hb2
        subst hb1 hb2
        have c1 := e1.cells
        obtain ⟨b', off', hb', e2⟩ := Sl.at HL' (i := 2) (by simp)
        injection hb' with hb'
        injection hb' with hb1 hb2
        subst hb1 hb2
        have c2 := e2.cells
        simp at c0 c1 c2
        clear e0 e1 e2 HL'
        have HC : Hid (wo.cell? ⟨b, off, none⟩ = some (.string x0) ∧ wo.cell? ⟨b, off + 1, none⟩ = some (.string x1) ∧ wo.cell? ⟨b, off + 2, none⟩ = some (.string x2)) := ⟨c0, c1, c2⟩
        go_wp2_with fail
        refine (expand_any ⟨edgeN, joinB [x0, x1, x2], false⟩ wo ⟨by show edgeN.size ≤ lim; unfold lim; decide, HJS.out⟩ HT'.out).mono ?_
        rintro e w5 ⟨hA, hb5⟩
        rw [HX.out] at hA
        obtain ⟨da, dc, rfl, hD⟩ := hA
        have HB5 := hid (below_trans HB.out hb5 (Nat.le_refl _))
        have X5 := Ext.below hb5
        have g0 := X5 _ _ _ c0
        have g1 := X5 _ _ _ c1
        have g2 := X5 _ _ _ c2
        obtain ⟨db, do_, rfl, r0⟩ := Sl.at hD (i := 0) (by simp)
        have s0 := r0.cells.2.1
        obtain ⟨db', do', hd', r1⟩ := Sl.at hD (i := 1) (by simp)
        injection hd' with hd'
        injection hd' with hd1 hd2
        subst hd1 hd2
        have s1 := r1.cells.2.1
        obtain ⟨db', do', hd', r2⟩ := Sl.at hD (i := 2) (by simp)
        injection hd' with hd'
        injection hd' with hd1 hd2
        subst hd1 hd2
        have s2 := r2.cells.2.1
        obtain ⟨db', do', hd', r3⟩ := Sl.at hD (i := 3) (by simp)
        injection hd' with hd'
        injection hd' with hd1 hd2
        subst hd1 hd2
        have s3 := r3.cells.2.1
        simp at s0 s1 s2 s3
        clear r0 r1 r2 r3 hD hb5 X5 c0 c1 c2 HC
        go_wp2_with fail
        go_quiet (fail)
        go_wp2_with fail
        go_quiet (fail)
        go_wp2_with fail
        go_ret
        exact ⟨rfl, below_dN (below_dN HB5.out _) _⟩
      | [x0, x1, x2, x3], _ =>
        have HX : Hid (expB ⟨edgeN, joinB [x0, x1, x2, x3], false⟩ = some [⟨sd0, x0, false⟩, ⟨sd1, x1, false⟩, ⟨sd2, x2, false⟩, ⟨sd3, x3, false⟩]) := by
          show _ = _
          have hc : cutB (joinB [x0, x1, x2, x3]) = [x0, x1, x2, x3] := (cut_eq (words_join 4 [x0, x1, x2, x3] rfl (by simp) HN.out)).2 (by simp)
          have he : isE ⟨edgeN, joinB [x0, x1, x2, x3], false⟩ = true := by show (edgeN.toList == edgeN.toList) = true; simp
          unfold expB
          rw [if_pos he]
          simp only
          rw [hc]
          rfl
        have hjs := Nat.le_trans (joinB_size [x0, x1, x2, x3]) HS.out
        have HJS := hid hjs
        clear hjs
        obtain ⟨b, off, rfl, e0⟩ := Sl.at HL' (i := 0) (by simp)
        have c0 := e0.cells
        obtain ⟨b', off', hb', e1⟩ := Sl.at HL' (i := 1) (by simp)
        injection hb' with hb'
        injection hb' with hb1 hb2
        subst hb1 hb2
        have c1 := e1.cells
        obtain ⟨b', off', hb', e2⟩ := Sl.at HL' (i := 2) (by simp)
        injection hb' with hb'
        injection hb' with hb1 hb2
        subst hb1 hb2
        have c2 := e2.cells
        obtain ⟨b', off', hb', e3⟩ := Sl.at HL' (i := 3) (by simp)
        injection hb' with hb'
        injection hb' with hb1 hb2
        subst hb1 hb2
        have c3 := e3.cells
        simp at c0 c1 c2 c3
        clear e0 e1 e2 e3 HL'
        have HC : Hid (wo.cell? ⟨b, off, none⟩ = some (.string x0) ∧ wo.cell? ⟨b, off + 1, none⟩ = some (.string x1) ∧ wo.cell? ⟨b, off + 2, none⟩ = some (.string x2) ∧ wo.cell? ⟨b, off + 3, none⟩ = some (.string x3)) := ⟨c0, c1, c2, c3⟩
        go_wp2_with fail
        refine (expand_any ⟨edgeN, joinB [x0, x1, x2, x3], false⟩ wo ⟨by show edgeN.size ≤ lim; unfold lim; decide, HJS.out⟩ HT'.out).mono ?_
        rintro e w5 ⟨hA, hb5⟩
        rw [HX.out] at hA
        obtain ⟨da, dc, rfl, hD⟩ := hA
        have HB5 := hid (below_trans HB.out hb5 (Nat.le_refl _))
        have X5 := Ext.below hb5
        have g0 := X5 _ _ _ c0
        have g1 := X5 _ _ _ c1
        have g2 := X5 _ _ _ c2
        have g3 := X5 _ _ _ c3
        obtain ⟨db, do_, rfl, r0⟩ := Sl.at hD (i := 0) (by simp)
        have s0 := r0.cells.2.1
        obtain ⟨db', do', hd', r1⟩ := Sl.at hD (i := 1) (by simp)
        injection hd' with hd'
        injection hd' with hd1 hd2
        subst hd1 hd2
        have s1 := r1.cells.2.1
        obtain ⟨db', do', hd', r2⟩ := Sl.at hD (i := 2) (by simp)
        injection hd' with hd'
        injection hd' with hd1 hd2
        subst hd1 hd2
        have s2 := r2.cells.2.1
        obtain ⟨db', do', hd', r3⟩ := Sl.at hD (i := 3) (by simp)
        injection hd' with hd'
        injection hd' with hd1 hd2
        subst hd1 hd2
        have s3 := r3.cells.2.1
        simp at s0 s1 s2 s3
        clear r0 r1 r2 r3 hD hb5 X5 c0 c1 c2 c3 HC
        go_wp2_with fail
        go_quiet (fail)
        go_wp2_with fail
        go_quiet (fail)
        go_wp2_with fail
        go_ret
        exact ⟨rfl, below_dN (below_dN HB5.out _) _⟩
end Go.Proofs.YtnigckmaklbiaabDoor
