/-
  What the law SheetMedia answers at every text: true. Conditions: the cell of internal/bytealg.MaxLen holds some int; the text has at most 2 to the 47 bytes.
-/
import Derived.Test.YtanedepdhbdcgaaSheetAppend
import Derived.Deep.CutRange
namespace Go.Proofs.Ytanedepdhbdcgaa
open Go.RowKit

set_option maxRecDepth 100000 in
set_option maxHeartbeats 4000000 in
theorem smedia_any (s : ByteArray) (w : World) (hmx : Mx w) (hsz : s.size ≤ 140737488355328) : Calls Try.prog 12 #[.string s] w fun e w' => e = .returned (.bool true) ∧ Below w.heap.size w w' := by
  have HS : Hid (s.size = s.data.toList.length) := Lib.size_eq s
  have h0 := hmx.pos
  go_enter Try.func12, Try.ntmps12
  go_wp2_with fail
  refine (salive_any w hmx).mono ?_
  rintro e w1 ⟨rfl, hb1⟩
  have m1 := hmx.below hb1 h0
  have z1 := hb1.size
  go_wp2_with fail
  refine sparse_any s w1 _ (by omega) m1 (hid ?_) (hid ?_)
  rotate_left
  · intro x w2 ex hb2
    have xe : ((x.1 : Int) != 0) = true := by have := (sheet_fault ex).1; simp; omega
    have UN := hid (hb1.trans (hb2.mono z1))
    have ZZ : w.heap.size ≤ w2.heap.size := UN.out.size
    clear ex hb1 hb2 m1
    go_wp2_with fail
    go_ret
    exact ⟨rfl, UN.out.alloc ZZ _⟩
  intro A av w2 eA hA hb2 h60
  obtain ⟨aa, acap, rfl⟩ := NAt.form hA
  have UN := hid (hb1.trans (hb2.mono z1))
  have z2 : w.heap.size ≤ w2.heap.size := UN.out.size
  by_cases hbig : 4000 < s.size + 20
  · have dI : decide ((4000 : Int) < (s.size : Int) + 20) = true := decide_eq_true (by omega)
    clear hb1 hb2 m1 eA hA
    go_wp2_with fail
    go_ret
    exact ⟨rfl, UN.out.alloc z2 _⟩
  have m3 : Mx (w2.alloc (.cells #[.int .i64 0, .int .i64 0] 25)) := (m1.below hb2 m1.pos).alloc _
  have n3 : RsIn (w2.alloc (.cells #[.int .i64 0, .int .i64 0] 25)) 0 (.slice aa A.length acap) A := NAt.lower (hA.alloc _) (Nat.zero_le _)
  have u3 : Below w.heap.size w (w2.alloc (.cells #[.int .i64 0, .int .i64 0] 25)) := UN.out.alloc z2 _
  have z3 := u3.size
  have EA := hid eA
  clear hA hb1 hb2 m1 UN eA
  go_wp2_with fail
  generalize w2.alloc (.cells #[.int .i64 0, .int .i64 0] 25) = w3 at *
  have N3 := hid n3
  have U3 := hid u3
  have M3 := hid m3
  clear n3 u3 m3
  go_loopg [29] A.length (fun n i wr => ∃ k : Nat, k ≤ A.length ∧ n = A.length - k ∧ i = .int .i64 (k : Int) ∧ (∀ r ∈ A.take k, r.media = []) ∧ Below w3.heap.size w3 wr)
  case atStart => exact ⟨0, Nat.zero_le _, rfl, rfl, by simp, Below.refl _ _⟩
  case round =>
    obtain ⟨k, hk, hgk, rfl, hmd, hb⟩ := hrel
    have GK := hid hgk
    clear hgk
    rename World => wo
    have zo := hb.size
    by_cases hlt : k < A.length
    · have nw := N3.out.below hb
      obtain ⟨g, sv, dv, cur, rfl, hg, _, hsv, hdv, c0, c1, c2, c3, c4⟩ := RsIn.cells nw rfl hlt
      have TK : Hid (A.take (k + 1) = A.take k ++ [A[k]]) := List.take_succ_eq_append_getElem hlt
      have MD := hid hmd
      clear hmd nw
      generalize A[k] = rk at *
      obtain ⟨md, sl, dl, fr, tt⟩ := rk
      simp only at c0 c1 c2 c3 c4 hsv hdv
      obtain ⟨sa, scap, rfl⟩ := NAt.form (show SsIn wo 0 sv sl from hsv)
      obtain ⟨da, dcap, rfl⟩ := own_form hdv
      have HB4 := hid (hb.alloc zo (.cells #[.string (bs md), .slice sa sl.length scap, .slice da dl.length dcap, .int .i64 fr, .int .i64 tt] 56))
      clear hsv hdv hb
      cases md with
      | nil =>
        have hq : (bs ([] : List UInt8)).toList.isEmpty = true := by rw [bs_toList]; rfl
        go_wp2_with fail
        go_roundg (A.length - (k + 1))
        case measure => have := GK.out; omega
        case rel =>
          refine ⟨k + 1, by omega, rfl, by go_num, ?_, HB4.out⟩
          rw [TK.out]
          intro r hr
          rcases List.mem_append.1 hr with hr | hr
          · exact MD.out r hr
          · rw [List.mem_singleton.1 hr]
      | cons c l =>
        have hq : (bs (c :: l)).toList.isEmpty = false := by rw [bs_toList]; rfl
        go_wp2_with fail
        go_ret
        exact ⟨rfl, U3.out.trans (HB4.out.mono z3)⟩
    have hkl : k = A.length := by omega
    subst hkl
    rw [List.take_length] at hmd
    have SM := hid (sheet_media EA.out (by rw [← HS.out]; omega) hmd)
    have few := hid (sheet_few EA.out).2.2
    have SM0 := hid hmd
    have mo := M3.out.below hb M3.out.pos
    have no := hid (N3.out.below hb)
    have uo := hid (U3.out.trans (hb.mono z3))
    have zu : w.heap.size ≤ wo.heap.size := uo.out.size
    have sz5 : Hid ((({ data := #[64, 109, 101, 100, 105, 97, 32, 119, 105, 100, 101, 123] } : ByteArray) ++ s ++ { data := #[125] }).size = 12 + s.size + 1) := by show _ = _; rw [ByteArray.size_append, ByteArray.size_append]; rfl
    have dt5 : Hid ((({ data := #[64, 109, 101, 100, 105, 97, 32, 119, 105, 100, 101, 123] } : ByteArray) ++ s ++ { data := #[125] }).data.toList = mwideL ++ s.data.toList ++ [125]) := by show _ = _; simp [mwideL]
    clear hmd hb zo
    go_wp2_with fail
    refine sparse_any _ wo _ (by rw [sz5.out]; omega) mo (hid ?_) (hid ?_)
    rotate_left
    · intro x w5 e5 hb5
      rw [dt5.out] at e5
      rcases SM.out with h | ⟨y, h, h64⟩
      · rw [h] at e5; cases e5
      rw [h] at e5
      injection e5 with e5
      subst e5
      have U5 := hid (uo.out.trans (hb5.mono zu))
      have z5 : w.heap.size ≤ w5.heap.size := U5.out.size
      have f5 := heap_alloc_new w5 (.cells #[.int .i64 2, .int .i64 y] 25)
      have u6 := U5.out.alloc z5 (.cells #[.int .i64 2, .int .i64 y] 25)
      have H64 := hid h64
      clear h hb5 mo h64
      go_wp2_with fail
      generalize w5.alloc (.cells #[.int .i64 2, .int .i64 y] 25) = w6 at *
      generalize w5.heap.size = F at *
      have c0 := cell_of f5 0
      simp at c0
      have U6 := hid u6
      clear u6
      go_loopg [49] s.size (fun n i wr => ∃ k : Nat, k ≤ s.size ∧ n = s.size - k ∧ i = .int .i64 (k : Int) ∧ (∀ j, j < k → s.data.toList[j]? ≠ some 64) ∧ wr = w6)
      case atStart => exact ⟨0, Nat.zero_le _, rfl, rfl, fun j hj => absurd hj (Nat.not_lt_zero _), rfl⟩
      case round =>
        obtain ⟨k, hk, hgk, rfl, hno, rfl⟩ := hrel
        have GK2 := hid hgk
        have NO := hid hno
        clear hgk hno
        by_cases hlt : k < s.size
        · by_cases hat : s[k] = 64
          · have hv : (s[k].toNat : Int) = 64 := by rw [hat]; rfl
            have hv2 : (s[k].toNat == 64) = true := by rw [hat]; rfl
            have hv3 : s[k].toNat = 64 := by rw [hat]; rfl
            go_wp2_with fail
            go_ret
            exact ⟨rfl, U6.out⟩
          · have hv3 : ¬ s[k].toNat = 64 := fun h => hat (UInt8.toNat_inj.1 (by rw [h]; rfl))
            have hv : ¬ (s[k].toNat : Int) = 64 := by omega
            have hv2 : (s[k].toNat == 64) = false := by simp [hv3]
            have AT : Hid (s.data.toList[k]? ≠ some 64) := by
              show s.data.toList[k]? ≠ some 64
              intro h
              apply hat
              have hl : k < s.data.toList.length := by rw [← HS.out]; exact hlt
              rw [List.getElem?_eq_getElem hl] at h
              injection h with h
            go_wp2_with fail
            go_roundg (s.size - (k + 1))
            case measure => have := GK2.out; omega
            case rel =>
              refine ⟨k + 1, by omega, rfl, by go_num, fun j hj => ?_, rfl⟩
              by_cases hjk : j = k
              · rw [hjk]; exact AT.out
              · exact NO.out j (by omega)
        · exfalso
          obtain ⟨j, hj⟩ := List.getElem?_of_mem H64.out
          have hj' := (List.getElem?_eq_some_iff.1 hj).1
          rw [← HS.out] at hj'
          exact NO.out j (by omega) hj
    intro M mv w5 e5 hM hb5 _
    rw [dt5.out] at e5
    rcases SM.out with h | ⟨y, h, _⟩
    rotate_left
    · rw [h] at e5; cases e5
    rw [h] at e5
    injection e5 with e5
    obtain ⟨ma, mcap, rfl⟩ := NAt.form hM
    have lM : M.length = A.length := by rw [← e5]; simp
    have EM := hid e5
    have z5 := hb5.size
    have M6 := hM.alloc (.cells #[.int .i64 0, .int .i64 0] 25)
    have A6 := (no.out.below hb5).alloc (.cells #[.int .i64 0, .int .i64 0] 25)
    have u6 : Below w.heap.size w (w5.alloc (.cells #[.int .i64 0, .int .i64 0] 25)) := (uo.out.trans (hb5.mono zu)).alloc (by omega) _
    have rowM := hM.row
    have rowA := no.out.row
    clear hM hb5 mo e5 h
    rw [lM] at M6 rowM ⊢
    go_wp2_with fail
    generalize w5.alloc (.cells #[.int .i64 0, .int .i64 0] 25) = w6 at *
    have M6h := hid M6
    have A6h := hid A6
    have U6h := hid u6
    have RM := hid rowM
    have RA := hid rowA
    clear M6 A6 u6 rowM rowA
    have chA := hid (sheet_few EA.out).2.1
    go_loopg [62] A.length (fun n i wr => ∃ k : Nat, k ≤ A.length ∧ n = A.length - k ∧ i = .int .i64 (k : Int) ∧ RsIn wr wo.heap.size (.slice ma A.length mcap) (A.take k ++ M.drop k) ∧ RsIn wr 0 (.slice aa A.length acap) A ∧ Below w.heap.size w wr)
    case atStart => exact ⟨0, Nat.zero_le _, rfl, rfl, by simpa using M6h.out, A6h.out, U6h.out⟩
    case round =>
      clear M6h A6h U6h
      obtain ⟨k, hk, hgk, rfl, hMr, hAr, hbr⟩ := hrel
      have GK3 := hid hgk
      clear hgk
      by_cases hlt : k < A.length
      · have hltM : k < M.length := by omega
        have lenk : (A.take k ++ M.drop k).length = A.length := by simp; omega
        have getk : (A.take k ++ M.drop k)[k]'(by rw [lenk]; exact hlt) = mw A[k] := by
          rw [List.getElem_append_right (by simp; omega)]
          simp [Nat.min_eq_left (Nat.le_of_lt hlt), ← EM.out]
        obtain ⟨g, sv, dv, cur, rfl, hg, hgb, x1, x2, c0, c1, c2, c3, c4⟩ := RsIn.cells hMr lenk (i := k) (by rw [lenk]; exact hlt)
        clear x1 x2
        rw [getk] at c0 c3 c4
        have upd := (RsIn.upd hMr lenk (i := k) (by rw [lenk]; exact hlt) A[k] (by rw [getk]; rfl) (by rw [getk]; rfl)).1
        have setk : (A.take k ++ M.drop k).set k A[k] = A.take (k + 1) ++ M.drop (k + 1) := by
          have e0 : (A.take k).length = k := by rw [List.length_take]; omega
          rw [List.set_append_right _ _ (by omega), e0, Nat.sub_self, List.drop_eq_getElem_cons hltM, List.set_cons_zero, List.take_succ_eq_append_getElem hlt, List.append_assoc]
          rfl
        rw [setk] at upd
        have hmd0 : A[k].media = [] := SM0.out _ (List.getElem_mem hlt)
        have hto := chA.out.mem A[k] (List.getElem_mem hlt)
        have f1 : A[k].from_ ≤ 4000 := by have := hto.2.1; have := hto.2.2.1; rw [← HS.out] at this; omega
        have f2 : A[k].to_ ≤ 4000 := by have := hto.2.2.1; rw [← HS.out] at this; omega
        rw [hmd0] at upd
        simp only [mw, sh] at c0 c3 c4
        have UPD := hid upd
        clear upd setk getk hto hmd0
        generalize A[k].from_ = fr at *
        generalize A[k].to_ = tt at *
        have gw := RM.out g rfl
        have hq : ((bs wideN).toList == [119, 105, 100, 101]) = true := by rw [bs_toList]; rfl
        have kp1 : Kp (· = g) wr (((wr.setCell ⟨g, k * 5, none⟩ (.string (bs []))).setCell ⟨g, k * 5 + 3, none⟩ (.int .i64 fr)).setCell ⟨g, k * 5 + 4, none⟩ (.int .i64 tt)) := ((Kp.set wr g _ _).trans (Kp.set _ g _ _)).trans (Kp.set _ g _ _)
        have nA : (Value.slice aa A.length acap).ownBlock ≠ some g := fun h => by have := RA.out g h; omega
        have NA := hid (hAr.other kp1 hg nA)
        have NB : Hid (Below w.heap.size w (((wr.setCell ⟨g, k * 5, none⟩ (.string (bs []))).setCell ⟨g, k * 5 + 3, none⟩ (.int .i64 fr)).setCell ⟨g, k * 5 + 4, none⟩ (.int .i64 tt))) := ((hbr.setCell (by simp; omega) _).setCell (by simp; omega) _).setCell (by simp; omega) _
        have g0 := fz_of hg (k * 5)
        have hg' := heap_set hg (k * 5) (.string (bs []))
        have d3 := cell_of hg' (k * 5 + 3)
        have d4 := cell_of hg' (k * 5 + 4)
        have q3 := cell_of hg (k * 5 + 3)
        have q4 := cell_of hg (k * 5 + 4)
        rw [Array.getElem?_setIfInBounds_ne (by omega), ← q3, c3] at d3
        rw [Array.getElem?_setIfInBounds_ne (by omega), ← q4, c4] at d4
        have f3 := fz_of hg' (k * 5 + 3)
        have f4 := fz_of hg' (k * 5 + 4)
        clear hMr hAr hbr kp1 nA lenk q3 q4 c3 c4 hg hg'
        go_upto_region 27 with fail
        have e1 : wr.setCell ⟨g, k * 5, none⟩ (.string { data := #[] }) = wr.setCell ⟨g, k * 5, none⟩ (.string (bs [])) := rfl
        rw [e1]
        generalize wr.setCell ⟨g, k * 5, none⟩ (.string (bs [])) = w7 at *
        clear e1 c0 g0
        have e3 : ((fr + 12 : Nat) : Int) - 12 = (fr : Int) := by omega
        have e4 : ((tt + 12 : Nat) : Int) - 12 = (tt : Int) := by omega
        have E3 := hid e3
        have E4 := hid e4
        clear e3 e4
        go_region
        all_goals
          go_wp2_with fail
          go_roundg (A.length - (k + 1))
          case measure => have := GK3.out; omega
          case rel =>
            first
              | exact ⟨k + 1, by omega, rfl, by go_num, UPD.out, NA.out, Below.drew NB.out⟩
              | (rw [E3.out, E4.out]; exact ⟨k + 1, by omega, rfl, by go_num, UPD.out, NA.out, Below.drew NB.out⟩)
      · have hkl : k = A.length := by omega
        subst hkl
        rw [List.take_length, List.drop_of_length_le (by omega), List.append_nil] at hMr
        have MR := hid hMr
        have AR := hid hAr
        have BR := hid hbr
        clear hMr hAr hbr
        go_wp2_with fail
        refine (sameRules_any A _ _ _ _ _ (by omega) few.out AR.out MR.out).mono ?_
        rintro e w8 ⟨rfl, n8, rfl⟩
        go_wp2_with fail
        go_ret
        exact ⟨rfl, below_drewN' BR.out _⟩
end Go.Proofs.Ytanedepdhbdcgaa
