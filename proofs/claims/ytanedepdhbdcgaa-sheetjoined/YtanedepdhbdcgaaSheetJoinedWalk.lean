/-
  What the law SheetJoined answers at every two texts: true. Conditions: the cell of internal/bytealg.MaxLen holds some int; the texts have at most 2 to the 47 bytes.
-/
import Derived.Test.YtanedepdhbdcgaaSheetAppend
namespace Go.Proofs.Ytanedepdhbdcgaa
open Go.RowKit

set_option maxRecDepth 100000 in
set_option maxHeartbeats 4000000 in
theorem sjoined_any (s t : ByteArray) (w : World) (hmx : Mx w) (hsz : s.size ≤ 140737488355328) (htz : t.size ≤ 140737488355328) : Calls Try.prog 11 #[.string s, .string t] w fun e w' => e = .returned (.bool true) ∧ Below w.heap.size w w' := by
  have HS : Hid (s.size = s.data.toList.length) := Lib.size_eq s
  have HT : Hid (t.size = t.data.toList.length) := Lib.size_eq t
  have h0 := hmx.pos
  go_enter Try.func11, Try.ntmps11
  go_wp2_with fail
  refine (salive_any w hmx).mono ?_
  rintro e w1 ⟨rfl, hb1⟩
  have m1 := hmx.below hb1 h0
  have z1 := hb1.size
  go_wp2_with fail
  -- both parses, whatever they answer
  refine sparse_any s w1 _ (by omega) m1 (hid ?_) (hid ?_)
  rotate_left
  · intro x w2 ex hb2
    have xe : ((x.1 : Int) != 0) = true := by have := (sheet_fault ex).1; simp; omega
    have u2 := hb1.trans (hb2.mono z1)
    have z2 := u2.size
    have fb := heap_alloc_new w2 (.cells #[.int .i64 x.1, .int .i64 x.2] 25)
    have m2 : Mx (w2.alloc (.cells #[.int .i64 x.1, .int .i64 x.2] 25)) := (m1.below hb2 m1.pos).alloc _
    have u3 : Below w.heap.size w (w2.alloc (.cells #[.int .i64 x.1, .int .i64 x.2] 25)) := u2.alloc z2 _
    have zf : w2.heap.size < (w2.alloc (.cells #[.int .i64 x.1, .int .i64 x.2] 25)).heap.size := by simp
    clear ex hb1 hb2 m1 u2
    go_wp2_with fail
    generalize w2.alloc (.cells #[.int .i64 x.1, .int .i64 x.2] 25) = w3 at *
    generalize w2.heap.size = F at *
    have z3 := u3.size
    refine sparse_any t w3 _ (by omega) m2 (hid ?_) (hid ?_)
    · intro L nv w4 _ hn hb4 _
      obtain ⟨na, ncap, rfl⟩ := NAt.form hn
      have c0 := cell_of ((hb4.block F zf).trans fb) 0
      simp at c0
      have z4 := hb4.size
      have u4 := hid (u3.trans (hb4.mono z3))
      have zz : w.heap.size ≤ w4.heap.size := u4.out.size
      have fl : F < w4.heap.size := lt_of_cell c0
      clear hn hb4 fb
      go_wp2_with fail
      go_ret
      exact ⟨rfl, u4.out.alloc zz _⟩
    · intro y w4 _ hb4
      have c0 := cell_of ((hb4.block F zf).trans fb) 0
      simp at c0
      have z4 := hb4.size
      have u4 := hid (u3.trans (hb4.mono z3))
      have zz : w.heap.size ≤ w4.heap.size := u4.out.size
      have fl : F < w4.heap.size := lt_of_cell c0
      clear hb4 fb
      go_wp2_with fail
      go_ret
      exact ⟨rfl, u4.out.alloc zz _⟩
  intro A av w2 eA hA hb2 hA60
  obtain ⟨aa, acap, rfl⟩ := NAt.form hA
  have u2 := hb1.trans (hb2.mono z1)
  have z2 := u2.size
  have fb := heap_alloc_new w2 (.cells #[.int .i64 0, .int .i64 0] 25)
  have m2 : Mx (w2.alloc (.cells #[.int .i64 0, .int .i64 0] 25)) := (m1.below hb2 m1.pos).alloc _
  have u3 : Below w.heap.size w (w2.alloc (.cells #[.int .i64 0, .int .i64 0] 25)) := u2.alloc z2 _
  have zf : w2.heap.size < (w2.alloc (.cells #[.int .i64 0, .int .i64 0] 25)).heap.size := by simp
  have A3 := hA.alloc (.cells #[.int .i64 0, .int .i64 0] 25)
  have EA := hid eA
  clear eA hA hb1 hb2 m1 u2
  go_wp2_with fail
  generalize w2.alloc (.cells #[.int .i64 0, .int .i64 0] 25) = w3 at *
  generalize w2.heap.size = F at *
  have z3 := u3.size
  refine sparse_any t w3 _ (by omega) m2 (hid ?_) (hid ?_)
  rotate_left
  · intro y w4 ey hb4
    have ye : ((y.1 : Int) != 0) = true := by have := (sheet_fault ey).1; simp; omega
    have c0 := cell_of ((hb4.block F zf).trans fb) 0
    simp at c0
    have z4 := hb4.size
    have u4 := hid (u3.trans (hb4.mono z3))
    have zz : w.heap.size ≤ w4.heap.size := u4.out.size
    have fl : F < w4.heap.size := lt_of_cell c0
    clear hb4 fb ey A3
    go_wp2_with fail
    go_ret
    exact ⟨rfl, u4.out.alloc zz _⟩
  intro B bv w4 eB hB hb4 hB60
  obtain ⟨ba, bcap, rfl⟩ := NAt.form hB
  have c0 := cell_of ((hb4.block F zf).trans fb) 0
  simp at c0
  have z4 := hb4.size
  have u4 := u3.trans (hb4.mono z3)
  have zz : w.heap.size ≤ w4.heap.size := u4.size
  have fl : F < w4.heap.size := lt_of_cell c0
  have A4 := A3.below hb4
  have rowA := A3.row
  have EB := hid eB
  have m4 := m2.below hb4 m2.pos
  clear hb4 fb eB A3
  by_cases hbig : 4000 < s.size + t.size + 1
  · have U4 := hid u4
    have dI : decide ((4000 : Int) < (s.size : Int) + (t.size : Int) + 1) = true := decide_eq_true (by omega)
    go_wp2_with fail
    go_ret
    exact ⟨rfl, U4.out.alloc zz _⟩
  by_cases h60 : 60 < A.length + B.length
  · have U4 := hid u4
    go_wp2_with fail
    go_ret
    exact ⟨rfl, U4.out.alloc zz _⟩
  have E5 := hid (sheet_joined EA.out EB.out (by rw [← HS.out, ← HT.out]; omega) (by omega))
  have fewA := hid (sheet_few EA.out).2.2
  have fewB := hid (sheet_few EB.out).2.2
  have few5 := hid (sheet_few E5.out).2.2
  have B4 := hB.alloc (.cells #[.int .i64 0, .int .i64 0] 25)
  have A5 := A4.alloc (.cells #[.int .i64 0, .int .i64 0] 25)
  have u5 : Below w.heap.size w (w4.alloc (.cells #[.int .i64 0, .int .i64 0] 25)) := u4.alloc zz _
  have m5 := m4.alloc (.cells #[.int .i64 0, .int .i64 0] 25)
  have zB : w3.heap.size ≤ (w4.alloc (.cells #[.int .i64 0, .int .i64 0] 25)).heap.size := by simp; omega
  have rowB := hB.row
  have sz5 : (s ++ { data := #[10] } ++ t).size = s.size + 1 + t.size := by rw [ByteArray.size_append, ByteArray.size_append]; rfl
  have dt5 : (s ++ { data := #[10] } ++ t).data.toList = s.data.toList ++ [10] ++ t.data.toList := by simp
  have SZ5 := hid sz5
  have DT5 := hid dt5
  clear sz5 dt5
  go_wp2_with fail
  have A5h := hid A5
  have B4h := hid B4
  have U5h := hid u5
  clear hB A4 u4 A5 B4 u5 c0
  generalize hW5 : w4.alloc (.cells #[.int .i64 0, .int .i64 0] 25) = w5 at *
  have z45 : w4.heap.size ≤ w5.heap.size := by rw [← hW5]; simp
  clear hW5
  refine sparse_any _ w5 _ (by rw [SZ5.out]; omega) m5 (hid ?_) (hid ?_)
  rotate_left
  · intro x w6 e6
    rw [DT5.out, E5.out] at e6
    cases e6
  intro C cv w6 eC hC hb6 hC60
  rw [DT5.out, E5.out] at eC
  injection eC with eC
  obtain ⟨ca, ccap, rfl⟩ := NAt.form hC
  have z6 := hb6.size
  have C7 := hC.alloc (.cells #[.int .i64 0, .int .i64 0] 25)
  have A7 := (A5h.out.below hb6).alloc (.cells #[.int .i64 0, .int .i64 0] 25)
  have B7 := (B4h.out.below hb6).alloc (.cells #[.int .i64 0, .int .i64 0] 25)
  have u7 : Below w.heap.size w (w6.alloc (.cells #[.int .i64 0, .int .i64 0] 25)) := (U5h.out.trans (hb6.mono (by omega))).alloc (by omega) _
  have H7 := heap_alloc_new w6 (.cells #[.int .i64 0, .int .i64 0] 25)
  have rowC := hC.row
  clear hC hb6 A5h B4h U5h m5 m4
  go_wp2_with fail
  generalize w6.alloc (.cells #[.int .i64 0, .int .i64 0] 25) = w7 at *
  have hH : w6.heap.size < w7.heap.size := (Array.getElem?_eq_some_iff.1 H7).1
  generalize w6.heap.size = HN at *
  have EC := hid eC
  clear eC
  have A7h := hid A7
  have B7h := hid B7
  have C7h := hid C7
  have U7h := hid u7
  have H7h := hid H7
  have RA := hid rowA
  have RB := hid rowB
  have RC := hid rowC
  have CHB := hid (sheet_few EB.out).2.1
  clear A7 B7 C7 u7 H7 rowA rowB rowC
  have lC : C.length = A.length + B.length := by rw [← EC.out]; simp
  go_loopg [59] B.length (fun n i wr => ∃ k, k ≤ B.length ∧ n = B.length - k ∧ i = .int .i64 (k : Int) ∧ RsIn wr w3.heap.size (.slice ba B.length bcap) ((B.take k).map (sh (s.data.toList.length + 1)) ++ B.drop k) ∧ RsIn wr 0 (.slice aa A.length acap) A ∧ RsIn wr 0 (.slice ca C.length ccap) C ∧ Below w.heap.size w wr ∧ wr.heap[HN]? = some (.cells #[.int .i64 0, .int .i64 0] 25 (0, 0)) ∧ w7.heap.size ≤ wr.heap.size)
  case atStart => exact ⟨0, Nat.zero_le _, rfl, rfl, by simpa using B7h.out, NAt.lower A7h.out (Nat.zero_le _), NAt.lower C7h.out (Nat.zero_le _), U7h.out, H7h.out, Nat.le_refl _⟩
  case round =>
    clear A7h B7h C7h U7h H7h
    obtain ⟨k, hk, hgk, rfl, hBr, hAr, hCr, hbr, hHr, zr⟩ := hrel
    have GK := hid hgk
    clear hgk
    by_cases hlt : k < B.length
    · have lenk : ((B.take k).map (sh (s.data.toList.length + 1)) ++ B.drop k).length = B.length := by simp; omega
      have getk : ((B.take k).map (sh (s.data.toList.length + 1)) ++ B.drop k)[k]'(by rw [lenk]; exact hlt) = B[k] := by
        rw [List.getElem_append_right (by simp; omega)]
        simp [Nat.min_eq_left (Nat.le_of_lt hlt)]
      obtain ⟨g, sv, dv, cur, rfl, hg, hgb, x1, x2, c0, c1, c2, c3, c4⟩ := RsIn.cells hBr lenk (i := k) (by rw [lenk]; exact hlt)
      clear x1 x2
      rw [getk] at c0 c3 c4
      have upd := (RsIn.upd hBr lenk (i := k) (by rw [lenk]; exact hlt) (sh (s.data.toList.length + 1) B[k]) (by rw [getk]; rfl) (by rw [getk]; rfl)).2 (by rw [getk]; rfl)
      have setk : ((B.take k).map (sh (s.data.toList.length + 1)) ++ B.drop k).set k (sh (s.data.toList.length + 1) B[k]) = (B.take (k + 1)).map (sh (s.data.toList.length + 1)) ++ B.drop (k + 1) := by
        have e0 : ((B.take k).map (sh (s.data.toList.length + 1))).length = k := by rw [List.length_map, List.length_take]; omega
        rw [List.set_append_right _ _ (by omega), e0, Nat.sub_self, List.drop_eq_getElem_cons hlt, List.set_cons_zero, List.take_succ_eq_append_getElem hlt, List.map_append, List.append_assoc]
        rfl
      rw [setk] at upd
      have hto := ((CHB.out.mem B[k] (List.getElem_mem hlt)))
      have f1 : B[k].from_ ≤ 4000 := by have := hto.2.1; have := hto.2.2.1; rw [← HT.out] at this; omega
      have f2 : B[k].to_ ≤ 4000 := by have := hto.2.2.1; rw [← HT.out] at this; omega
      simp only [sh] at upd
      rw [← HS.out] at upd
      have UPD := hid upd
      clear upd setk getk hto
      generalize B[k].from_ = fr at *
      generalize B[k].to_ = tt at *
      have gw := RB.out g rfl
      have kp1 : Kp (· = g) wr ((wr.setCell ⟨g, k * 5 + 3, none⟩ (.int .i64 ((fr + (s.size + 1) : Nat) : Int))).setCell ⟨g, k * 5 + 4, none⟩ (.int .i64 ((tt + (s.size + 1) : Nat) : Int))) := (Kp.set wr g _ _).trans (Kp.set _ g _ _)
      have nA : (Value.slice aa A.length acap).ownBlock ≠ some g := fun h => by have := RA.out g h; omega
      have nC : (Value.slice ca C.length ccap).ownBlock ≠ some g := fun h => by have := RC.out g h; omega
      have NA := hid (hAr.other kp1 hg nA)
      have NC := hid (hCr.other kp1 hg nC)
      have NH := hid ((kp1.block HN (Array.getElem?_eq_some_iff.1 hHr).1 (by omega)).trans hHr)
      have NB : Hid (Below w.heap.size w ((wr.setCell ⟨g, k * 5 + 3, none⟩ (.int .i64 ((fr + (s.size + 1) : Nat) : Int))).setCell ⟨g, k * 5 + 4, none⟩ (.int .i64 ((tt + (s.size + 1) : Nat) : Int)))) := (hbr.setCell (by simp; omega) _).setCell (by simp; omega) _
      have NZ : Hid (w7.heap.size ≤ ((wr.setCell ⟨g, k * 5 + 3, none⟩ (.int .i64 ((fr + (s.size + 1) : Nat) : Int))).setCell ⟨g, k * 5 + 4, none⟩ (.int .i64 ((tt + (s.size + 1) : Nat) : Int))).heap.size) := Nat.le_trans zr kp1.size
      have g3 := fz_of hg (k * 5 + 3)
      have g4 := fz_of hg (k * 5 + 4)
      have e3 : (fr : Int) + (s.size : Int) + 1 = ((fr + (s.size + 1) : Nat) : Int) := by omega
      have e4 : (tt : Int) + (s.size : Int) + 1 = ((tt + (s.size + 1) : Nat) : Int) := by omega
      have E3 := hid e3
      have E4 := hid e4
      clear e3 e4 hBr hAr hCr hbr hHr kp1 nA nC lenk
      go_wp2_with fail
      go_roundg (B.length - (k + 1))
      case measure => have := GK.out; omega
      case rel =>
        rw [E3.out, E4.out]
        exact ⟨k + 1, by omega, rfl, by go_num, UPD.out, NA.out, NC.out, NB.out, NH.out, NZ.out⟩
    · have hkl : k = B.length := by omega
      subst hkl
      rw [List.take_length, List.drop_length, List.append_nil] at hBr
      have c0 := cell_of hHr 0
      simp at c0
      have BB := hid hBr
      have AA := hid hAr
      have CC := hid hCr
      have RR := hid hbr
      clear hBr hAr hCr hbr hHr
      have FC := few5.out
      rw [EC.out] at FC
      have FC' := hid FC
      clear FC
      have zr' : w.heap.size ≤ wr.heap.size := RR.out.size
      go_wp2_with (first
        | (at_builtin; refine append_rules (by rfl) (.tmp 98) (.tmp 99) rfl wr.heap.size (.slice (some ⟨wr.heap.size, 0, none⟩) 0 0) [] rfl ⟨[], rfl, ⟨rfl, .inr ⟨_, 0, #[], rfl, Nat.le_refl _, heap_alloc_new wr _, Nat.le_refl _, by unfold maxLen; omega, rfl, rfl⟩⟩, by simp⟩ (.slice aa A.length acap) A rfl (AA.out.alloc _).src (by simp; omega) (by simp) ?_; intro v1 w8 hv1 hg1; have below8 : Below wr.heap.size wr w8 := ⟨hg1.os, hg1.tape, hg1.output, Nat.le_trans (by simp) hg1.size, fun j hj => (hg1.block j (by simp; omega) (by simp [Value.ownBlock]; omega)).trans (Below.heap_alloc wr _ j hj)⟩; have V1 := hid hv1; have b8 := hid (BB.out.below below8); have c8 := hid (CC.out.below below8); have u8 := hid (RR.out.trans (below8.mono zr')); have z8 := below8.size; clear hv1 hg1 below8)
        | (at_builtin; refine append_rules (by rfl) (.tmp 100) (.tmp 101) rfl wr.heap.size v1 ([] ++ A) rfl V1.out (.slice ba B.length bcap) (B.map (sh (s.data.toList.length + 1))) rfl b8.out.src (by simp; omega) z8 ?_; intro v2 w9 hv2 hg2; have V2 := hid hv2; have G2 := hid hg2; clear hv2 hg2))
      have row1 := V1.out.row
      have below9 : Below wr.heap.size w8 w9 := ⟨G2.out.os, G2.out.tape, G2.out.output, G2.out.size, fun j hj => G2.out.block j (by omega) (fun h => by have := row1 j h.symm; omega)⟩
      have c9 : RsIn w9 0 (.slice ca (A.length + B.length) ccap) C := by
        have := c8.out.grown V1.out G2.out (fun g h h' => by
          have a1 := RC.out g h
          have a2 := row1 g h'
          omega)
        rw [lC] at this
        exact this
      have v9 : RsIn w9 wr.heap.size v2 C := by
        have := V2.out
        rw [List.nil_append, EC.out] at this
        exact this
      refine (sameRules_any C _ _ _ _ _ (by omega) FC'.out c9 v9).mono ?_
      rintro e w10 ⟨rfl, n10, rfl⟩
      have FIN := hid (below_drewN' (u8.out.trans (below9.mono zr')) n10)
      clear c9 v9 below9 row1
      go_wp2_with fail
      go_ret
      exact ⟨rfl, FIN.out⟩
end Go.Proofs.Ytanedepdhbdcgaa
