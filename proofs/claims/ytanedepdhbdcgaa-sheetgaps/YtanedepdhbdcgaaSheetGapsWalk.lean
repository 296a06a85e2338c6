/-
  What the law SheetGaps answers at every text and every number: true. Conditions: the cell of internal/bytealg.MaxLen holds some int; the text has at most 2 to the 47 bytes.
-/
import Derived.Test.YtanedepdhbdcgaaSheetAppend
import Derived.Laws.IdiomStrings
import Derived.Deep.CutRange
import Derived.Deep.RegionHeld3
namespace Go.Proofs.Ytanedepdhbdcgaa
open Go.RowKit

/-- The text with blanks from a on, below b. -/
def blankL (S : List UInt8) (a b : Nat) : List UInt8 := (List.range S.length).map fun x => if a ≤ x ∧ x < b then 32 else S.getD x 0
theorem blankL_len (S : List UInt8) (a b : Nat) : (blankL S a b).length = S.length := by simp [blankL]
theorem blankL_get {S : List UInt8} {a b x : Nat} (hx : x < S.length) : (blankL S a b)[x]? = some (if a ≤ x ∧ x < b then 32 else S.getD x 0) := by
  simp [blankL, List.getElem?_range hx]
theorem blankL_out {S : List UInt8} {a b : Nat} (i : Nat) (h : i < a ∨ b ≤ i) : (blankL S a b)[i]? = S[i]? := by
  by_cases hi : i < S.length
  · rw [blankL_get hi, if_neg (by omega)]
    simp [List.getD, List.getElem?_eq_getElem hi]
  · rw [List.getElem?_eq_none (by rw [blankL_len]; omega), List.getElem?_eq_none (by omega)]
theorem blankL_in {S : List UInt8} {a b : Nat} (hb : b ≤ S.length) (i : Nat) (h1 : a ≤ i) (h2 : i < b) : (blankL S a b)[i]? = some 32 := by
  rw [blankL_get (by omega), if_pos ⟨h1, h2⟩]
/-- A rule that is blanked out is gone. -/
theorem sheet_blank {S : List UInt8} {A : List Rl} (h : sheetParse S = .ok A) {q : Nat} (hq : q < A.length) : sheetParse (blankL S A[q].from_ A[q].to_) = .ok (A.eraseIdx q) := by
  have hS := sheetParse_le h
  obtain ⟨h60, ch, _⟩ := sheet_few h
  have hto := (ch.mem A[q] (List.getElem_mem hq)).2.2.1
  rw [Ps.iff hS] at h
  rw [Ps.iff (by rw [blankL_len]; exact hS)]
  have := h.blank (S' := blankL S A[q].from_ A[q].to_) hS (blankL_len _ _ _) A[q].from_ A[q].to_ blankL_out (fun i h1 h2 => blankL_in hto i h1 h2) h60 A q hq (by simp) rfl rfl
  simpa using this

/-- The row of bytes in block g, of so many, blanks from a on below j. -/
def Row5 (w : World) (g : Nat) (S : List UInt8) (a j : Nat) : Prop :=
  ∃ (cur : Array Value) (N : Nat), w.heap[g]? = some (.cells cur 5 (N, N + 1)) ∧ S.length ≤ N ∧ cur.size = N ∧ ∀ x, x < S.length → cur[x]? = some (.int .u8 ((if a ≤ x ∧ x < j then 32 else S.getD x 0 : UInt8).toNat : Int))
theorem Row5.cell {w : World} {g : Nat} {S : List UInt8} {a j : Nat} (h : Row5 w g S a j) {x : Nat} (hx : x < S.length) : w.cell? ⟨g, x, none⟩ = some (.int .u8 ((if a ≤ x ∧ x < j then 32 else S.getD x 0 : UInt8).toNat : Int)) := by
  obtain ⟨cur, N, h1, h2, h3, h4⟩ := h
  rw [cell_of h1, h4 x hx]
theorem Row5.fz {w : World} {g : Nat} {S : List UInt8} {a j : Nat} (h : Row5 w g S a j) {x : Nat} (hx : x < S.length) : w.frozen? ⟨g, x, none⟩ = false := by
  obtain ⟨cur, N, h1, h2, h3, h4⟩ := h
  simp [World.frozen?, h1]
  omega
theorem Row5.set {w : World} {g : Nat} {S : List UInt8} {a j : Nat} (h : Row5 w g S a j) (ha : a ≤ j) (hj : j < S.length) : Row5 (w.setCell ⟨g, j, none⟩ (.int .u8 32)) g S a (j + 1) := by
  obtain ⟨cur, N, h1, h2, h3, h4⟩ := h
  refine ⟨_, N, heap_set h1 j _, h2, by simpa using h3, fun x hx => ?_⟩
  by_cases hxj : j = x
  · subst hxj
    rw [Array.getElem?_setIfInBounds_self_of_lt (by omega), if_pos (by omega)]
    rfl
  · rw [Array.getElem?_setIfInBounds_ne hxj, h4 x hx]
    congr 4
    by_cases hx1 : a ≤ x ∧ x < j
    · rw [if_pos hx1, if_pos (by omega)]
    · rw [if_neg hx1, if_neg (by omega)]

theorem wp_append_rules {w : World} {o : Oper} {a : Act} {K : Act → World → Prop} {Q : Exit → Act → World → Prop} (s x : Operand)
    (ho : o.op = .call { callee := .builtin .append, args := #[s, x], argTypes := #[44, 44] })
    (base : Nat) (v : Value) (A : List Rl) (hs : a.eval s = v) (hA : RsIn w base v A) (u : Value) (B : List Rl) (hx : a.eval x = u) (hB : RsSrc w u B) (hnm : A.length + B.length ≤ 1000) (hbase : base ≤ w.heap.size)
    (h : ∀ v' w', RsIn w' base v' (A ++ B) → w.grownBy w' v.ownBlock → K (a.put o.dst v') w') : o.wp Try.prog a w K Q := by
  obtain ⟨i0, hi, hz0, hz1, hz2⟩ := info_parts' Try.info56
  obtain ⟨LA, mA, oA, sA⟩ := hA
  obtain ⟨LB, mB, sB, src⟩ := hB
  have lB : LB.length = B.length := by rw [← mB, List.length_map]
  have fin : ∀ v' w', w'.ownsRow base 56 5 v' (A.length + B.length) (LA.flatMap encR ++ LB.flatMap encR) → w.grownBy w' v.ownBlock → K (a.put o.dst v') w' := by
    intro v' w' h2 h3
    have kk : Keeps (· ≠ 56) w w' := fun j cur U fz hU hj => h3.block j (Array.getElem?_eq_some_iff.1 hj).1 (own_ne oA hj hU)
    refine h v' w' ⟨LA ++ LB, by simp [mA, mB], by simpa using h2, fun p hp => ?_⟩ h3
    rcases List.mem_append.1 hp with hp | hp
    · exact ⟨(sA p hp).1.keeps kk (by decide), (sA p hp).2.keeps kk (by decide)⟩
    · exact ⟨(sB p hp).1.keeps kk (by decide), (sB p hp).2.keeps kk (by decide)⟩
  rcases src with ⟨h1, h2⟩ | ⟨ad, c, h1, h2⟩
  · have hrun := run_append_owned_none (P := Try.prog) (w := w) base 44 o.type 56 i0 5 Try.underlying44 hi v A.length (LA.flatMap encR) oA
    have e0 : LB = [] := List.eq_nil_of_length_eq_zero (by omega)
    unfold Oper.wp
    rw [h1] at hx
    simp [execOp, ho, resolve, invoke, builtin, hs, hx, hrun, Result.andThen]
    refine fin v w ?_ ⟨rfl, rfl, rfl, Nat.le_refl _, fun _ _ _ => rfl⟩
    rw [e0, h2]
    simpa using oA
  · refine wp_append_own w s x 44 ho base 56 i0 _ 5 80 Try.underlying44 hi hz0 hz1 hz2 rfl (by decide) v A.length (LA.flatMap encR) hs oA ad B.length c (LB.flatMap encR) (by rw [hx, h1]) (by rw [flat_len 5 encR (fun _ => rfl), lB]) h2 (rs_one sB) (by unfold maxLen; omega) (by omega) hbase ?_
    intro v' w' h3 h4 _
    exact fin v' w' h3 h4
theorem step_append_rules {w : World} {ops : Array Oper} {o : Oper} {a : Act} {K : Act → World → Prop} {Q : Exit → Act → World → Prop} {E : Prop} (hw : Region.wanted o (yielded ops a.tmps) = true) (s x : Operand)
    (ho : o.op = .call { callee := .builtin .append, args := #[s, x], argTypes := #[44, 44] })
    (base : Nat) (v : Value) (A : List Rl) (hs : a.eval s = v) (hA : RsIn w base v A) (u : Value) (B : List Rl) (hx : a.eval x = u) (hB : RsSrc w u B) (hnm : A.length + B.length ≤ 1000) (hbase : base ≤ w.heap.size)
    (h : ∀ v' w', RsIn w' base v' (A ++ B) → w.grownBy w' v.ownBlock → K (a.put o.dst v') w') : if Region.wanted o (yielded ops a.tmps) = true then Oper.wp Try.prog o a w K Q else E := by
  rw [if_pos hw]
  exact wp_append_rules s x ho base v A hs hA u B hx hB hnm hbase h

/-- The rules ahead of q, and those behind it, to read from. -/
theorem RsIn.split {w : World} {base g n cap : Nat} {L : List Rl} (h : RsIn w base (.slice (some ⟨g, 0, none⟩) n cap) L) (hn : L.length = n) {q : Nat} (hq : q < L.length) (c1 c2 : Nat) :
    RsSrc w (.slice (some ⟨g, 0, none⟩) q c1) (L.take q) ∧ RsSrc w (.slice (some ⟨g, (q + 1) * 5, none⟩) (n - (q + 1)) c2) (L.drop (q + 1)) := by
  subst hn
  obtain ⟨LV, m, o, sub⟩ := h
  have lv : LV.length = L.length := by rw [← m, List.length_map]
  have cells := fun j e he => o.cells (g := g) rfl j e he
  have split : ∀ k, k ≤ LV.length → LV.flatMap encR = (LV.take k).flatMap encR ++ (LV.drop k).flatMap encR := fun k _ => by rw [← List.flatMap_append, List.take_append_drop]
  constructor
  · refine ⟨LV.take q, by rw [List.map_take, m], fun p hp => sub p (List.mem_of_mem_take hp), .inr ⟨⟨g, 0, none⟩, c1, by rw [List.length_take, Nat.min_eq_left (by omega)], fun j e he => ?_⟩⟩
    refine cells j e ?_
    rw [split q (by omega), List.getElem?_append_left (List.getElem?_eq_some_iff.1 he).1]
    exact he
  · refine ⟨LV.drop (q + 1), by rw [List.map_drop, m], fun p hp => sub p (List.mem_of_mem_drop hp), .inr ⟨⟨g, (q + 1) * 5, none⟩, c2, by rw [List.length_drop], fun j e he => ?_⟩⟩
    have ht : ((LV.take (q + 1)).flatMap encR).length = (q + 1) * 5 := by rw [flat_len 5 encR (fun _ => rfl), List.length_take, Nat.min_eq_left (by omega)]
    have := cells ((q + 1) * 5 + j) e (by
      rw [split (q + 1) (by omega), List.getElem?_append_right (by omega), ht, Nat.add_sub_cancel_left]
      exact he)
    rw [addr_add] at this ⊢
    rw [Nat.zero_add] at this
    exact this

set_option maxRecDepth 100000 in
/-- What lies behind q, to read from, as a slice's bounds are reckoned. -/
theorem RsIn.behind {w : World} {base g n cap : Nat} {L : List Rl} (h : RsIn w base (.slice (some ⟨g, 0, none⟩) n cap) L) (hn : L.length = n) {q : Nat} (hq : q < L.length) (hc : n ≤ cap) (c : Nat) :
    RsSrc w (.slice (if cap = q + 1 then some ⟨g, 0, none⟩ else some ⟨g, (q + 1) * 5, none⟩) (n - (q + 1)) c) (L.drop (q + 1)) := by
  by_cases hl : cap = q + 1
  · rw [if_pos hl]
    have : L.drop (q + 1) = [] := List.drop_eq_nil_of_le (by omega)
    rw [this]
    have e : n - (q + 1) = 0 := by omega
    rw [e]
    exact ⟨[], rfl, by simp, .inr ⟨⟨g, 0, none⟩, c, rfl, fun j e he => by simp at he⟩⟩
  · rw [if_neg hl]
    exact (h.split hn hq 0 c).2

set_option maxRecDepth 100000 in
set_option maxHeartbeats 4000000 in
theorem sgaps_any (s : ByteArray) (which : Int) (w : World) (hmx : Mx w) (hsz : s.size ≤ 140737488355328) : Calls Try.prog 9 #[.string s, .int .i64 which] w fun e w' => e = .returned (.bool true) ∧ Below w.heap.size w w' := by
  have HS : Hid (s.size = s.data.toList.length) := Lib.size_eq s
  have h0 := hmx.pos
  go_enter Try.func9, Try.ntmps9
  go_wp2_with fail
  refine (salive_any w hmx).mono ?_
  rintro e w1 ⟨rfl, hb1⟩
  have m1 := hmx.below hb1 h0
  have z1 := hb1.size
  go_wp2_with fail
  refine sparse_any s w1 _ (by omega) m1 (hid ?_) (hid ?_)
  rotate_left
  · intro x w2 ex hb2
    have xe : ((x.1 : Int) != 0) = true := by have := (sheet_fault ex).1; simp; omega
    have UN := hid (hb1.trans (hb2.mono z1))
    have ZZ : w.heap.size ≤ w2.heap.size := UN.out.size
    clear ex hb1 hb2 m1
    go_wp2_with fail
    go_ret
    exact ⟨rfl, UN.out.alloc ZZ _⟩
  intro A av w2 eA hA hb2 h60
  obtain ⟨aa, acap, rfl⟩ := NAt.form hA
  have UN := hid (hb1.trans (hb2.mono z1))
  have z2 : w.heap.size ≤ w2.heap.size := UN.out.size
  by_cases hneg : which < 0
  · clear hb1 hb2 m1 eA hA
    go_wp2_with fail
    go_ret
    exact ⟨rfl, UN.out.alloc z2 _⟩
  obtain ⟨q, rfl⟩ : ∃ q : Nat, which = q := ⟨which.toNat, by omega⟩
  by_cases hge : A.length ≤ q
  · clear hb1 hb2 m1 eA hA
    go_wp2_with fail
    go_ret
    exact ⟨rfl, UN.out.alloc z2 _⟩
  have hq : q < A.length := by omega
  have EB := hid (sheet_blank eA hq)
  have few := hid (sheet_few eA).2.2
  have few2 := hid (sheet_few EB.out).2.2
  have hS4 := sheetParse_le eA
  have chq := (sheet_few eA).2.1.mem A[q] (List.getElem_mem hq)
  have m3 : Mx (w2.alloc (.cells #[.int .i64 0, .int .i64 0] 25)) := (m1.below hb2 m1.pos).alloc _
  have n3 : RsIn (w2.alloc (.cells #[.int .i64 0, .int .i64 0] 25)) 0 (.slice aa A.length acap) A := NAt.lower (hA.alloc _) (Nat.zero_le _)
  have u3 : Below w.heap.size w (w2.alloc (.cells #[.int .i64 0, .int .i64 0] 25)) := UN.out.alloc z2 _
  have f3 := heap_alloc_new w2 (.cells #[.int .i64 0, .int .i64 0] 25)
  have fl : w2.heap.size < (w2.alloc (.cells #[.int .i64 0, .int .i64 0] 25)).heap.size := by simp
  have z3 := u3.size
  clear hA hb1 hb2 m1 UN eA
  have hconv := fun w' => run_bytes_of_string (P := Try.prog) w' 9 53 5 s Try.underlying9 Try.underlying53 Try.underlying5
  go_upto_region 6 with fail
  generalize w2.alloc (.cells #[.int .i64 0, .int .i64 0] 25) = w3 at *
  generalize w2.heap.size = F at *
  obtain ⟨g, sv, dv, cur, rfl, hg, hgb, x1, x2, c0, c1, c2, c3, c4⟩ := RsIn.cells n3 rfl hq
  clear x1 x2 c0 c1 c2
  obtain ⟨p1, p2, p3, _⟩ := chq
  rw [← HS.out] at p3 hS4
  generalize hfr : A[q].from_ = fr at *
  generalize htt : A[q].to_ = tt at *
  have gl : g < w3.heap.size := lt_of_cell c3
  have B4 := heap_alloc_new w3 (.cells (bytesRow s (grownCap w3 s.size 0 5)) 5 ((bytesRow s (grownCap w3 s.size 0 5)).size, (bytesRow s (grownCap w3 s.size 0 5)).size + 1))
  have row4 : Row5 (w3.alloc (.cells (bytesRow s (grownCap w3 s.size 0 5)) 5 ((bytesRow s (grownCap w3 s.size 0 5)).size, (bytesRow s (grownCap w3 s.size 0 5)).size + 1))).drew w3.heap.size s.data.toList fr fr := by
    refine ⟨_, _, B4, ?_, rfl, fun x hx => ?_⟩
    · simp [bytesRow]
    · rw [if_neg (by omega)]
      have hx' : x < s.data.size := by simpa using hx
      have hx2 : x < s.size := hx'
      simp [bytesRow, Array.getElem?_append, hx2]
  have b34 : Below w3.heap.size w3 (w3.alloc (.cells (bytesRow s (grownCap w3 s.size 0 5)) 5 ((bytesRow s (grownCap w3 s.size 0 5)).size, (bytesRow s (grownCap w3 s.size 0 5)).size + 1))).drew := Below.drew ((Below.refl _ w3).alloc (Nat.le_refl _) _)
  clear B4
  have N4 := hid (n3.below b34)
  have U4 := hid (u3.trans (b34.mono z3))
  have M4 := hid (m3.below b34 m3.pos)
  have F4 := hid ((b34.block F fl).trans f3)
  go_wp2_with fail
  generalize hW4 : (w3.alloc (.cells (bytesRow s (grownCap w3 s.size 0 5)) 5 ((bytesRow s (grownCap w3 s.size 0 5)).size, (bytesRow s (grownCap w3 s.size 0 5)).size + 1))).drew = w4 at *
  have z34 : w3.heap.size < w4.heap.size := by rw [← hW4]; simp
  generalize grownCap w3 s.size 0 5 = bcap at *
  clear hW4 hconv
  have cc4 := hid ((b34.cell (p := ⟨g, q * 5 + 4, none⟩) gl).trans c4)
  have BK : Hid (w3.heap.size < w4.heap.size) := z34
  generalize hBN : w3.heap.size = BN at *
  have rdw := hid row4
  have HF := hid hfr
  have HT := hid htt
  clear row4 c3 c4 n3 u3 m3 f3 hfr htt
  go_loopg [8] (tt - fr) (fun n i wr => ∃ j : Nat, fr ≤ j ∧ j ≤ tt ∧ n = tt - j ∧ i = .int .i64 (j : Int) ∧ Row5 wr BN s.data.toList fr j ∧ Kp (· = BN) w4 wr)
  case atStart => exact ⟨fr, Nat.le_refl _, by omega, rfl, rfl, rdw.out, Kp.refl _ _⟩
  case round =>
    obtain ⟨j, hj1, hj2, hgk, rfl, hrow, hkp⟩ := hrel
    have GK := hid hgk
    have zk := hkp.size
    clear hgk
    have ct := (hkp.cell (j := g) (by omega) (by omega) (q * 5 + 4)).trans cc4.out
    by_cases hlt : j < tt
    · have hjs : j < s.data.toList.length := by rw [← HS.out]; omega
      have k1 := hrow.cell hjs
      have k2 := hrow.fz hjs
      have NR := hid (hrow.set hj1 hjs)
      have NK := hid (hkp.trans (Kp.set wr BN j (.int .u8 32)))
      have hjz : j < s.size := by omega
      clear hjs hrow hkp
      generalize (if fr ≤ j ∧ j < j then 32 else s.data.toList.getD j 0 : UInt8).toNat = ov at k1
      go_wp2_with fail
      go_roundg (tt - (j + 1))
      case measure => have := GK.out; omega
      case rel => exact ⟨j + 1, by omega, by omega, rfl, by go_num, NR.out, NK.out⟩
    have hjt : j = tt := by omega
    subst hjt
    -- the text of blanks
    have hback : (convert 53 9 (.slice (some ⟨BN, 0, none⟩) s.size bcap)).run Try.prog wr = .ok (.string ⟨(blankL s.data.toList fr j).toArray⟩) wr := by
      have hlen : (blankL s.data.toList fr j).length = s.size := by rw [blankL_len, HS.out]
      rw [← hlen]
      refine run_convert_bytes_back wr 53 9 5 ⟨BN, 0, none⟩ bcap (blankL s.data.toList fr j) Try.underlying53 Try.underlying5 Try.underlying9 (fun x hx => ?_)
      have hx' : x < s.data.toList.length := by rw [blankL_len] at hx; exact hx
      rw [addr_add, Nat.zero_add, hrow.cell hx']
      have := blankL_get (S := s.data.toList) (a := fr) (b := j) hx'
      rw [List.getElem?_eq_getElem hx] at this
      injection this with this
      rw [this]
    have kk : Keeps (· ≠ 5) w4 wr := Keeps.ofKp hkp (by
      rintro y rfl c U fz hU hc
      obtain ⟨cur5, N5, h5, _⟩ := rdw.out
      rw [h5] at hc
      injection hc with hc
      injection hc with _ h2 _
      exact hU h2.symm)
    have n5 := N4.out.keeps kk (by decide)
    have u5 : Below w.heap.size w wr := U4.out.trans ⟨hkp.os, hkp.tape, hkp.output, hkp.size, fun y hy => hkp.block y (by have := U4.out.size; omega) (by omega)⟩
    have f5 := (hkp.block F (by omega) (by omega)).trans F4.out
    have m5 : Mx wr := by
      obtain ⟨mx, h⟩ := M4.out
      exact ⟨mx, (hkp.cell (lt_of_cell h) (by have := hmx.pos; omega) 0).trans h⟩
    have N5 := hid n5
    have U5 := hid u5
    have zw5 := u5.size
    clear n5 u5 hkp kk hrow
    have bsz : Hid (({ data := (blankL s.data.toList fr j).toArray } : ByteArray).size = s.size) := by
      show _ = _
      rw [Lib.size_eq]
      show (blankL s.data.toList fr j).length = s.size
      rw [blankL_len, HS.out]
    go_wp2_with fail
    refine sparse_any _ wr _ (by rw [bsz.out]; omega) m5 (hid ?_) (hid ?_)
    rotate_left
    · intro x w6 ex
      have ex' : sheetParse (blankL s.data.toList fr j) = .error x := ex
      rw [EB.out] at ex'
      cases ex'
    intro M mv w6 eM0 hM hb6 _
    have eM : sheetParse (blankL s.data.toList fr j) = .ok M := eM0
    clear eM0
    rw [EB.out] at eM
    injection eM with eM
    subst eM
    obtain ⟨ma, mcap, rfl⟩ := NAt.form hM
    have z6 := hb6.size
    have n6 := N5.out.below hb6
    have f6 := (hb6.block F (by omega)).trans f5
    have u6 := U5.out.trans (hb6.mono zw5)
    have rowM := hM.row
    have c0 := cell_of f6 0
    have c1 := cell_of f6 1
    have g0 := fz_of f6 0
    have g1 := fz_of f6 1
    simp at c0 c1
    have kp : Kp (· = F) w6 ((w6.setCell ⟨F, 0, none⟩ (.int .i64 0)).setCell ⟨F, 1, none⟩ (.int .i64 0)) := (Kp.set w6 F 0 _).trans (Kp.set _ F 1 _)
    have kk : Keeps (· ≠ 25) w6 ((w6.setCell ⟨F, 0, none⟩ (.int .i64 0)).setCell ⟨F, 1, none⟩ (.int .i64 0)) := Keeps.ofKp kp (by
      rintro y rfl c U fz hU hc
      rw [f6] at hc
      injection hc with hc
      injection hc with _ h2 _
      exact hU h2.symm)
    have n7 := n6.keeps kk (by decide)
    have m7 := hM.keeps kk (by decide)
    have f7 := heap_set (heap_set f6 0 (.int .i64 0)) 1 (.int .i64 0)
    simp at f7
    have zF : w.heap.size ≤ F := by omega
    have u7 : Below w.heap.size w ((w6.setCell ⟨F, 0, none⟩ (.int .i64 0)).setCell ⟨F, 1, none⟩ (.int .i64 0)) := (u6.setCell (by simpa using zF) _).setCell (by simpa using zF) _
    have Z67 : Hid (w6.heap.size ≤ ((w6.setCell ⟨F, 0, none⟩ (.int .i64 0)).setCell ⟨F, 1, none⟩ (.int .i64 0)).heap.size) := kp.size
    clear f5 f6 n6 u6 hM kp kk hb6 m5
    go_upto_region 12 with fail
    generalize (w6.setCell ⟨F, 0, none⟩ (.int .i64 0)).setCell ⟨F, 1, none⟩ (.int .i64 0) = w7 at *
    have d0 := cell_of f7 0
    simp at d0
    have N7 := hid n7
    have M7 := hid m7
    have U7 := hid u7
    have z7 := u7.size
    clear n7 m7 u7 f7 c0 c1 g0 g1 ct
    have hcap : A.length ≤ acap := by
      obtain ⟨_, _, o, _⟩ := N7.out
      rcases o.2 with ⟨h1, _⟩ | ⟨_, _, _, h0, _, _, h2, _⟩
      · cases h1
      · injection h0 with _ _ h0
        omega
    have elen : (A.eraseIdx q).length ≤ 100 := by
      have := List.length_eraseIdx_le A q
      omega
    have ETD : Hid (([] ++ A.take q) ++ A.drop (q + 1) = A.eraseIdx q) := by
      show _ = _
      rw [List.nil_append, List.eraseIdx_eq_take_drop_succ]
    have z67 : w6.heap.size ≤ w7.heap.size := Z67.out
    have RM := hid rowM
    clear rowM
    have hq1 : q ≤ acap := by omega
    have hq2 : (q : Int) ≤ (acap : Int) := by omega
    have hq3 : q + 1 ≤ A.length := by omega
    have hq4 : (q : Int) + 1 ≤ (A.length : Int) := by omega
    have hq5 : (0 : Int) ≤ (q : Int) + 1 := by omega
    have hq6 : (q : Int) < 1000 := by omega
    have hq7 : (A.length : Int) ≤ (acap : Int) := by omega
    have hq8 : (0 : Int) ≤ (q : Int) := by omega
    have hq9 : ((q : Int) + 1).toNat = q + 1 := by omega
    have hq10 : (q : Int) < (A.length : Int) := by omega
    try clear hmx
    try clear hsz
    try clear HS
    try clear h0
    try clear z1
    try clear h60
    try clear hge
    try clear few
    try clear hS4
    try clear hneg
    try clear z2
    try clear hg
    try clear hgb
    try clear p1
    try clear N4
    try clear U4
    try clear M4
    try clear F4
    try clear hBN
    try clear z3
    try clear fl
    try clear gl
    try clear b34
    try clear z34
    try clear BK
    try clear rdw
    try clear HF
    try clear hj1
    try clear zk
    try clear p3
    try clear EB
    try clear p2
    try clear cc4
    try clear HT
    try clear hj2
    try clear GK
    try clear hlt
    try clear hback
    try clear N5
    try clear U5
    try clear zw5
    try clear bsz
    try clear z6
    try clear zF
    try clear Z67
    try clear hjt
    have hwr : IntKind.i64.wrap ((q : Int) + 1) = (q : Int) + 1 := by rw [IntKind.wrap_i64]; omega
    have dF : F < w7.heap.size := lt_of_cell d0
    have bw : Below w7.heap.size w7 (w7.alloc (Obj.cells #[] 56)).drew := Below.drew ((Below.refl _ w7).alloc (Nat.le_refl _) _)
    have BW := hid bw
    have n71 := N7.out.below bw
    have E0 : Hid (RsIn (w7.alloc (Obj.cells #[] 56)).drew w7.heap.size (.slice (some ⟨w7.heap.size, 0, none⟩) 0 0) []) := by
      have hh := heap_alloc_new w7 (Obj.cells #[] 56)
      exact ⟨[], rfl, ⟨rfl, .inr ⟨_, 0, #[], rfl, Nat.le_refl _, hh, Nat.le_refl _, by unfold maxLen; omega, rfl, rfl⟩⟩, by simp⟩
    have S1 := hid (n71.split rfl hq acap 0).1
    have HZ : Hid (w7.heap.size ≤ (w7.alloc (Obj.cells #[] 56)).drew.heap.size) := bw.size
    have HL : Hid (∀ y, y < w7.heap.size → y < (w7.alloc (Obj.cells #[] 56)).drew.heap.size) := fun y hy => Nat.lt_of_lt_of_le hy bw.size
    clear bw n71
    have hlen : A.length ≤ 101 := by have := List.length_eraseIdx_of_lt hq; omega
    have ht : (A.take q).length ≤ 1000 := by simp; omega
    have hd : ([] ++ A.take q : List Rl).length + (A.drop (q + 1)).length ≤ 1000 := by simp; omega
    go_wp2_with fail
    go_region_held3 (fun w' => w'.cell? ⟨F, 0, none⟩ = some (.int .i64 0)) (first | assumption | go_keep) (first
      | (go_at_call 25; have row1 := V1.out.row; have below9 : Below w7.heap.size w8 w9 := ⟨G2.out.os, G2.out.tape, G2.out.output, G2.out.size, fun y hy => G2.out.block y (by omega) (fun h => by have := row1 y h.symm; omega)⟩; have c9 := c8.out.grown V1.out G2.out (fun y h h' => by have a1 := RM.out y h; have a2 := row1 y h'; omega); have v9 : RsIn w9 w7.heap.size v2 (A.eraseIdx q) := by { have := V2.out; rw [ETD.out] at this; exact this }; refine (sameRules_any (A.eraseIdx q) _ _ _ _ _ elen few2.out c9 v9).mono ?_; rintro e w10 ⟨rfl, n10, rfl⟩; have b10 := below_drewN' (B8.out.trans below9) n10; have d10 := (b10.cell (p := ⟨F, 0, none⟩) dF).trans d0; have FIN := hid (U7.out.trans (b10.mono z7)); clear c9 v9 below9 row1 b10; dsimp only)
      | (refine step_append_rules (by rfl) (.tmp 62) (.tmp 65) rfl w7.heap.size (.slice (some ⟨w7.heap.size, 0, none⟩) 0 0) [] (by rfl) E0.out _ (A.take q) (by rfl) S1.out (by simpa using ht) HZ.out ?_; intro v1 w8 hv1 hg1; have below8 : Below w7.heap.size w7 w8 := BW.out.trans ⟨hg1.os, hg1.tape, hg1.output, hg1.size, fun y hy => hg1.block y (HL.out y hy) (by simp [Value.ownBlock]; omega)⟩; have B8 := hid below8; have V1 := hid hv1; have b8 := hid (N7.out.below below8); have c8 := hid (M7.out.below below8); have z8 := below8.size; have d8 := (below8.cell (p := ⟨F, 0, none⟩) dF).trans d0; clear hv1 hg1 below8)
      | (refine step_append_rules (by rfl) (.tmp 66) (.tmp 70) rfl w7.heap.size v1 ([] ++ A.take q) (by rfl) V1.out _ (A.drop (q + 1)) (by rfl) (b8.out.behind rfl hq hcap (acap - (q + 1))) hd z8 ?_; intro v2 w9 hv2 hg2; have V2 := hid hv2; have G2 := hid hg2; have row1 := V1.out.row; have d9 : w9.cell? ⟨F, 0, none⟩ = some (.int .i64 0) := (hg2.cell_far ⟨F, 0, none⟩ (Nat.lt_of_lt_of_le dF z8) (fun h => by have := row1 F h.symm; omega)).trans d8; clear hv2 hg2 row1))
    all_goals go_wp2_with fail
    all_goals go_ret
    all_goals exact ⟨rfl, FIN.out⟩
end Go.Proofs.Ytanedepdhbdcgaa
