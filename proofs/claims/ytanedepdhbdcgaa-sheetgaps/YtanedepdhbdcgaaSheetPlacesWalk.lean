/-
  What the law SheetPlaces answers at every text: true. Conditions: the cell of internal/bytealg.MaxLen holds some int; the text has at most 2 to the 47 bytes.
-/
import Derived.Test.YtanedepdhbdcgaaSheetUpd
namespace Go.Proofs.Ytanedepdhbdcgaa
open Go.RowKit

theorem Mx.below {w w' : World} {B : Nat} (h : Mx w) (hb : Below B w w') (hB : 0 < B) : Mx w' := by
  obtain ⟨mx, h⟩ := h
  exact ⟨mx, (hb.cell (p := ⟨0, 0, none⟩) hB).trans h⟩
theorem Mx.pos {w : World} (h : Mx w) : 0 < w.heap.size := by
  obtain ⟨mx, h⟩ := h
  exact lt_of_cell h

theorem setCell_comm (w : World) (g o1 o2 : Nat) (v1 v2 : Value) (h : o1 ≠ o2) : (w.setCell ⟨g, o1, none⟩ v1).setCell ⟨g, o2, none⟩ v2 = (w.setCell ⟨g, o2, none⟩ v2).setCell ⟨g, o1, none⟩ v1 := by
  have key : ∀ c : Array Value, (c.setIfInBounds o1 v1).setIfInBounds o2 v2 = (c.setIfInBounds o2 v2).setIfInBounds o1 v1 := fun c => Array.setIfInBounds_comm v1 v2 h
  unfold World.setCell
  congr 1
  apply Array.ext_getElem?
  intro j
  simp only [Array.getElem?_modify]
  by_cases hj : g = j
  · subst hj
    simp only [if_true]
    cases w.heap[g]? with
    | none => rfl
    | some o => cases o <;> simp [key]
  · simp [hj]

set_option maxRecDepth 100000 in
set_option maxHeartbeats 4000000 in
theorem splaces_any (s : ByteArray) (w : World) (hmx : Mx w) (hsz : s.size ≤ 140737488355328) : Calls Try.prog 10 #[.string s] w fun e w' => e = .returned (.bool true) ∧ Below w.heap.size w w' := by
  have HS : Hid (s.size = s.data.toList.length) := Lib.size_eq s
  have h0 := hmx.pos
  go_enter Try.func10, Try.ntmps10
  go_wp2_with fail
  refine (salive_any w hmx).mono ?_
  rintro e w1 ⟨rfl, hb1⟩
  have m1 := hmx.below hb1 h0
  have z1 := hb1.size
  go_wp2_with fail
  refine sparse_any s w1 _ (by omega) m1 (hid ?_) (hid ?_)
  rotate_left
  · intro x w2 ex hb2
    have xf := sheet_fault ex
    have x2 : (x.2 : Int) ≤ s.size := by rw [HS.out]; exact_mod_cast xf.2
    have xe : ((x.1 : Int) != 0) = true := by have := xf.1; simp; omega
    have UN := hid (hb1.trans (hb2.mono z1))
    have ZZ : w.heap.size ≤ w2.heap.size := UN.out.size
    obtain ⟨xa, xb⟩ := x
    simp only at x2 xe
    clear ex xf hb1 hb2 m1
    go_wp2_with fail
    go_ret
    exact ⟨rfl, UN.out.alloc ZZ _⟩
  intro L nv w2 eL hn hb2 h60
  obtain ⟨_, ch, few⟩ := sheet_few eL
  have hS4 := sheetParse_le eL
  have FEW := hid few
  have CH := hid ch
  clear few ch
  obtain ⟨na, ncap, rfl⟩ := NAt.form hn
  have UN := hid (hb1.trans (hb2.mono z1))
  have z2 : w.heap.size ≤ w2.heap.size := UN.out.size
  have fb := heap_alloc_new w2 (.cells #[.int .i64 0, .int .i64 0] 25)
  have m3 : Mx (w2.alloc (.cells #[.int .i64 0, .int .i64 0] 25)) := (m1.below hb2 m1.pos).alloc _
  have n3 : RsIn (w2.alloc (.cells #[.int .i64 0, .int .i64 0] 25)) 0 (.slice na L.length ncap) L := (hn.keeps (Keeps.below (Ts := fun _ => True) ((Below.refl _ _).alloc (Nat.le_refl _) _)) ⟨trivial, trivial, trivial, trivial, trivial⟩).lower (Nat.zero_le _)
  have u3 : Below w.heap.size w (w2.alloc (.cells #[.int .i64 0, .int .i64 0] 25)) := UN.out.alloc z2 _
  have z3 : w.heap.size ≤ (w2.alloc (.cells #[.int .i64 0, .int .i64 0] 25)).heap.size := u3.size
  clear hn hb1 hb2 m1 UN eL
  go_wp2_with fail
  generalize w2.alloc (.cells #[.int .i64 0, .int .i64 0] 25) = w3 at fb m3 n3 u3 z3 ⊢
  clear fb
  have N3 := hid n3
  have U3 := hid u3
  have M3 := hid m3
  clear n3 u3 m3
  go_loopg [37, 5] L.length (fun n i e wr => ∃ k en : Nat, k ≤ L.length ∧ n = L.length - k ∧ i = .int .i64 (k : Int) ∧ e = .int .i64 (en : Int) ∧ Chain s.data.toList en (L.drop k) ∧ Below w3.heap.size w3 wr)
  case atStart => exact ⟨0, 0, Nat.zero_le _, rfl, rfl, rfl, by simpa using CH.out, Below.refl _ _⟩
  case round =>
    obtain ⟨k, en, hk, hgk, rfl, rfl, hch, hb⟩ := hrel
    have GK := hid hgk
    clear hgk
    rename World => wo
    have zo := hb.size
    by_cases hlt : k < L.length
    · rw [List.drop_eq_getElem_cons hlt] at hch
      obtain ⟨q1, q2, q3, ⟨nn, q4⟩, q5⟩ := hch
      have lk := List.getElem_mem hlt
      have nw := N3.out.keeps (Keeps.below (Ts := fun _ => True) hb) ⟨trivial, trivial, trivial, trivial, trivial⟩
      obtain ⟨g, sv, dv, cur, rfl, hg, _, hsv, hdv, c0, c1, c2, c3, c4⟩ := RsIn.cells nw rfl hlt
      have fw := FEW.out L[k] lk
      have ra := rule_alone (by omega) q4 q3
      have RA := hid ra
      have Q5 := hid q5
      have FW := hid fw
      rw [← HS.out] at q3
      clear ra q4 q5 fw nw lk
      generalize L[k] = rk at *
      obtain ⟨md, sl, dl, fr, tt⟩ := rk
      simp only at q1 q2 q3 c0 c1 c2 c3 c4 hsv hdv
      obtain ⟨sa, scap, rfl⟩ := NAt.form (show SsIn wo 0 sv sl from hsv)
      obtain ⟨da, dcap, rfl⟩ := own_form hdv
      have hb4 : Below w3.heap.size w3 (wo.alloc (.cells #[.string (bs md), .slice sa sl.length scap, .slice da dl.length dcap, .int .i64 fr, .int .i64 tt] 56)) := hb.alloc zo _
      have R4 := heap_alloc_new wo (.cells #[.string (bs md), .slice sa sl.length scap, .slice da dl.length dcap, .int .i64 fr, .int .i64 tt] 56)
      have kk4 : Keeps (fun _ => True) wo (wo.alloc (.cells #[.string (bs md), .slice sa sl.length scap, .slice da dl.length dcap, .int .i64 fr, .int .i64 tt] 56)) := Keeps.below ((Below.refl _ _).alloc (Nat.le_refl _) _)
      have SV := hid (hsv.keeps kk4 ⟨trivial, trivial, trivial⟩)
      have DV := hid (hdv.keeps kk4 trivial)
      clear hsv hdv kk4
      have d1 : decide ((fr : Int) < (en : Int)) = false := decide_eq_false (by omega)
      have d1' : decide (fr < en) = false := decide_eq_false (by omega)
      have d2 : decide (s.size < tt) = false := decide_eq_false (by omega)
      have d3 : decide (tt ≤ fr) = false := decide_eq_false (by omega)
      go_upto_region 10 with fail
      generalize wo.alloc (.cells #[.string (bs md), .slice sa sl.length scap, .slice da dl.length dcap, .int .i64 fr, .int .i64 tt] 56) = w4 at hb4 R4 SV DV ⊢
      generalize wo.heap.size = RN at *
      clear c0 c1 c2 c3 c4 hg hb
      have r0 := cell_of R4 0
      have r3 := cell_of R4 3
      have r4 := cell_of R4 4
      simp at r0 r3 r4
      have m4 := M3.out.below hb4 M3.out.pos
      have rlt : RN < w4.heap.size := (Array.getElem?_eq_some_iff.1 R4).1
      go_wp2_with fail
      have ex : (s.extract fr tt).data.toList = sub s.data.toList fr tt := Lib.extract_data s fr tt
      have exs : (s.extract fr tt).size ≤ 9223372036854775807 := by rw [ByteArray.size_extract]; omega
      refine sparse_any (s.extract fr tt) w4 _ exs m4 (hid ?_) (hid ?_)
      rotate_left
      · intro x w5 e5 _
        rw [ex, RA.out] at e5
        cases e5
      intro L5 nv5 w5 e5 hn5 hb5 _
      rw [ex, RA.out] at e5
      injection e5 with e5
      subst e5
      clear ex exs RA
      obtain ⟨a5, cap5, rfl⟩ := NAt.form hn5
      have z5 := hb5.size
      have R5 := (hb5.block RN rlt).trans R4
      have kk5 : Keeps (fun _ => True) w4 w5 := Keeps.below hb5
      have fb := heap_alloc_new w5 (.cells #[.int .i64 0, .int .i64 0] 25)
      have k6 : Below w5.heap.size w5 (w5.alloc (.cells #[.int .i64 0, .int .i64 0] 25)) := (Below.refl _ _).alloc (Nat.le_refl _) _
      have kk6 : Keeps (fun _ => True) w5 (w5.alloc (.cells #[.int .i64 0, .int .i64 0] 25)) := Keeps.below k6
      have R6 := (k6.block RN (by omega)).trans R5
      have n6 := hn5.keeps kk6 ⟨trivial, trivial, trivial, trivial, trivial⟩
      have SV6 := hid ((SV.out.keeps kk5 ⟨trivial, trivial, trivial⟩).keeps kk6 ⟨trivial, trivial, trivial⟩)
      have DV6 := hid ((DV.out.keeps kk5 trivial).keeps kk6 trivial)
      have hb6 : Below w3.heap.size w3 (w5.alloc (.cells #[.int .i64 0, .int .i64 0] 25)) := (hb4.trans (hb5.mono (by have := hb4.size; omega))).trans (k6.mono (by have := hb4.size; omega))
      clear SV DV hn5 R5 R4 hb5 hb4 kk5 k6 m4 r0 r3 r4 d1 d1' d2 d3
      have z46 : w4.heap.size ≤ (w5.alloc (.cells #[.int .i64 0, .int .i64 0] 25)).heap.size := by simp; omega
      simp only [List.length_cons, List.length_nil, Nat.zero_add] at n6
      obtain ⟨g5, sv5, dv5, cur5, rfl, hg5, hgb, _, _, e0, e1, e2, e3, e4⟩ := RsIn.cells n6 rfl (i := 0) (by simp)
      simp only [Nat.zero_mul, Nat.zero_add] at e0 e1 e2 e3 e4
      go_upto_region 16 with fail
      generalize w5.alloc (.cells #[.int .i64 0, .int .i64 0] 25) = w6 at *
      clear fb kk6
      have r0 := cell_of R6 0
      have r3 := cell_of R6 3
      have r4 := cell_of R6 4
      simp at r0 r3 r4
      have f0 := fz_of hg5 0
      have f3 := fz_of hg5 3
      have f4 := fz_of hg5 4
      have gne : ¬ RN = g5 := by omega
      have gne' : ¬ g5 = RN := by omega
      go_cut [37] from 37 to 101 (fun i wx => i = .int .i64 (k : Int) ∧ Below w3.heap.size w3 wx ∧ RsIn wx w4.heap.size (.slice (some ⟨g5, 0, none⟩) 1 cap5) [⟨md, sl, dl, fr, tt⟩] ∧ wx.heap[RN]? = some (.cells #[.string (bs md), .slice sa sl.length scap, .slice da dl.length dcap, .int .i64 fr, .int .i64 tt] 56 (0, 0)) ∧ SsAt wx (.slice sa sl.length scap) sl ∧ DsAt wx (.slice da dl.length dcap) dl)
      case first =>
        have upd := (RsIn.upd n6 rfl (i := 0) (by simp) ⟨md, sl, dl, fr, tt⟩ rfl rfl).1
        simp only [Nat.zero_mul, Nat.zero_add] at upd
        have UPD := hid upd
        have b1 := heap_set hg5 0 (.string (bs md))
        have b2 := heap_set b1 3 (.int .i64 fr)
        have kk : Keeps (· ≠ 56) w6 (((w6.setCell ⟨g5, 0, none⟩ (.string (bs md))).setCell ⟨g5, 3, none⟩ (.int .i64 fr)).setCell ⟨g5, 4, none⟩ (.int .i64 tt)) := ((keeps_set56 hg5 _).trans (keeps_set56 b1 _)).trans (keeps_set56 b2 _)
        have zg : w3.heap.size ≤ g5 := by have := hb6.size; omega
        have FACTS : Hid (Below w3.heap.size w3 (((w6.setCell ⟨g5, 0, none⟩ (.string (bs md))).setCell ⟨g5, 3, none⟩ (.int .i64 fr)).setCell ⟨g5, 4, none⟩ (.int .i64 tt)) ∧ RsIn (((w6.setCell ⟨g5, 0, none⟩ (.string (bs md))).setCell ⟨g5, 3, none⟩ (.int .i64 fr)).setCell ⟨g5, 4, none⟩ (.int .i64 tt)) w4.heap.size (.slice (some ⟨g5, 0, none⟩) 1 cap5) [⟨md, sl, dl, fr, tt⟩] ∧ (((w6.setCell ⟨g5, 0, none⟩ (.string (bs md))).setCell ⟨g5, 3, none⟩ (.int .i64 fr)).setCell ⟨g5, 4, none⟩ (.int .i64 tt)).heap[RN]? = some (.cells #[.string (bs md), .slice sa sl.length scap, .slice da dl.length dcap, .int .i64 fr, .int .i64 tt] 56 (0, 0)) ∧ SsAt (((w6.setCell ⟨g5, 0, none⟩ (.string (bs md))).setCell ⟨g5, 3, none⟩ (.int .i64 fr)).setCell ⟨g5, 4, none⟩ (.int .i64 tt)) (.slice sa sl.length scap) sl ∧ DsAt (((w6.setCell ⟨g5, 0, none⟩ (.string (bs md))).setCell ⟨g5, 3, none⟩ (.int .i64 fr)).setCell ⟨g5, 4, none⟩ (.int .i64 tt)) (.slice da dl.length dcap) dl) := by
          refine ⟨((hb6.setCell (by simpa using zg) _).setCell (by simpa using zg) _).setCell (by simpa using zg) _, UPD.out, ?_, SV6.out.keeps kk (by decide), DV6.out.keeps kk (by decide)⟩
          rw [Below.heap_setCell _ _ _ _ (by simpa using gne), Below.heap_setCell _ _ _ _ (by simpa using gne), Below.heap_setCell _ _ _ _ (by simpa using gne)]
          exact R6
        have COM : Hid (((w6.setCell ⟨g5, 3, none⟩ (.int .i64 fr)).setCell ⟨g5, 4, none⟩ (.int .i64 tt)).setCell ⟨g5, 0, none⟩ (.string (bs md)) = ((w6.setCell ⟨g5, 0, none⟩ (.string (bs md))).setCell ⟨g5, 3, none⟩ (.int .i64 fr)).setCell ⟨g5, 4, none⟩ (.int .i64 tt)) := by
          show _ = _
          rw [setCell_comm _ g5 4 0 _ _ (by decide), setCell_comm _ g5 3 0 _ _ (by decide)]
        clear upd b1 b2 kk
        go_region
        all_goals
          go_wp2_with fail
          go_meet
          case rel =>
            obtain ⟨x1, x2, x3, x4, x5⟩ := FACTS.out
            first
              | exact ⟨rfl, Below.drew x1, x2, x3, x4, x5⟩
              | (have := COM.out; rw [← this] at x1 x2 x3 x4 x5; exact ⟨rfl, Below.drew x1, x2, x3, x4, x5⟩)
      case rest =>
        obtain ⟨rfl, y1, y2, y3, y4, y5⟩ := hcut
        have c0 := cell_of y3 0
        have c1 := cell_of y3 1
        have c2 := cell_of y3 2
        have c3 := cell_of y3 3
        have c4 := cell_of y3 4
        simp at c0 c1 c2 c3 c4
        have kk : Keeps (fun _ => True) wc (wc.alloc (.cells #[.string (bs md), .slice sa sl.length scap, .slice da dl.length dcap, .int .i64 fr, .int .i64 tt] 56)) := Keeps.below ((Below.refl _ _).alloc (Nat.le_refl _) _)
        have n1 := hid (y2.keeps kk ⟨trivial, trivial, trivial, trivial, trivial⟩)
        have n2 : Hid (RsIn (wc.alloc (.cells #[.string (bs md), .slice sa sl.length scap, .slice da dl.length dcap, .int .i64 fr, .int .i64 tt] 56)) 0 (.slice (some ⟨wc.heap.size, 0, none⟩) 1 1) [⟨md, sl, dl, fr, tt⟩]) := by
          refine ⟨[(⟨md, sl, dl, fr, tt⟩, (.slice sa sl.length scap, .slice da dl.length dcap))], rfl, ⟨rfl, .inr ⟨_, 1, _, rfl, Nat.zero_le _, heap_alloc_new wc _, Nat.le_refl _, by unfold maxLen; omega, rfl, rfl⟩⟩, ?_⟩
          intro p hp
          rw [List.mem_singleton.1 hp]
          exact ⟨y4.keeps kk ⟨trivial, trivial, trivial⟩, y5.keeps kk trivial⟩
        have Y1 := hid (y1.alloc y1.size (.cells #[.string (bs md), .slice sa sl.length scap, .slice da dl.length dcap, .int .i64 fr, .int .i64 tt] 56))
        clear y1 y2 y3 y4 y5 kk
        go_wp2_with fail
        refine (sameRules_any [⟨md, sl, dl, fr, tt⟩] _ _ _ _ _ (by simp) (by intro r hr; rw [List.mem_singleton.1 hr]; exact FW.out) n1.out n2.out).mono ?_
        rintro e w8 ⟨rfl, n8, rfl⟩
        go_wp2_with fail
        go_roundg (L.length - (k + 1))
        case measure => have := GK.out; omega
        case rel => exact ⟨k + 1, tt, by omega, rfl, by go_num, rfl, Q5.out, below_drewN' Y1.out _⟩
    · go_wp2_with fail
      go_ret
      exact ⟨rfl, U3.out.trans (hb.mono z3)⟩
end Go.Proofs.Ytanedepdhbdcgaa
