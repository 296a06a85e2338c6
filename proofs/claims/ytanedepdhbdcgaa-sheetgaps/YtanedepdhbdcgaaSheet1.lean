/-
  What the small readers of package sheet do (isWordByte, gaps, name, word, value), and page.Named and scan.HasName: the plain answers of the SheetSpec text, or their faults. Conditions: the text has at most 4000 bytes; the cell of internal/bytealg.MaxLen holds some int.
-/
import Derived.Test.YtanedepdhbdcgaaMem
import Derived.Test.YtanedepdhbdcgaaSheetSpec
namespace Go.Proofs.Ytanedepdhbdcgaa
open Go.RowKit

/-- The reader of package sheet. -/
abbrev Rs := RdT 96

/-- A fault that is thrown. -/
def thr (x : Nat × Nat) : Ending := .panicked [{ v := .iface 87 (.agg #[.int .i64 x.1, .int .i64 x.2]), recovered := false }]

/-- What a reader's method does at k: the plain answer r, as the value that E tells, or its fault; but for the reader's place nothing that was there has turned. -/
def Good {α : Type} (b : Nat) (s : ByteArray) (k : Nat) (nv : Value) (w : World) (r : Res (α × Nat)) (E : World → α → Value → Prop) (R : Ending → World → Prop) : Prop :=
  (∀ a k' v w', r = .ok (a, k') → k ≤ k' → k' ≤ s.size → Rs w' b s k' nv → Kp (· = b) w w' → E w' a v → R (.returned v) w') ∧
  (∀ x w', r = .error x → Below b w w' → R (.panicked [{ v := .iface 87 (.agg #[.int .i64 x.1, .int .i64 x.2]), recovered := false }]) w')

/-- The cell of internal/bytealg.MaxLen. -/
def Mx (w : World) : Prop := ∃ mx : Int, w.cell? ⟨0, 0, none⟩ = some (.int .i64 mx)

theorem Mx.kp {w w' : World} {b : Nat} (h : Mx w) (hk : Kp (· = b) w w') (hb : 0 < b) : Mx w' := by
  obtain ⟨mx, h⟩ := h
  exact ⟨mx, (hk.cell (lt_of_cell h) (by omega) 0).trans h⟩
theorem Mx.alloc {w : World} (h : Mx w) (o : Obj) : Mx (w.alloc o) := by
  obtain ⟨mx, h⟩ := h
  exact ⟨mx, cell_alloc h o⟩
theorem Mx.drewN {w : World} (h : Mx w) (n : Nat) : Mx (w.drewN n) := h

set_option maxHeartbeats 400000 in
theorem wordByte_any (c : UInt8) (w : World) :
    Calls Try.prog 107 #[.int .u8 c.toNat] w fun e w' => e = .returned (.bool (wordB c)) ∧ w' = w := by
  unfold wordB letterB
  go_enter Try.func107, Try.ntmps107
  go_wp2
  all_goals
    go_ret
    refine ⟨ret_bool ?_, rfl⟩
    rw [Bool.eq_iff_iff]
    simp
    try omega
theorem tellsW : Tells 107 wordB := wordByte_any
theorem cfW (args : Array Value) (w : World) : Sem.run Try.prog (callFunc 107 args) w = .ok (.enter 107 args) w := cf_of Try.func107 (by kernel_rfl) (by kernel_rfl) args w

theorem hasName_any (b : Nat) (s : ByteArray) (k : Nat) (w : World) (h0 : w.cell? ⟨b, 0, none⟩ = some (.string s)) (h1 : w.cell? ⟨b, 1, none⟩ = some (.int .i64 k)) :
    Calls Try.prog 83 #[.pointer (some ⟨b, 0, none⟩)] w fun e w' => e = .returned (.bool (fitsAt s.data.toList k letterB)) ∧ ∃ n, w' = w.drewN n := by
  go_enter Try.func83, Try.ntmps83
  go_wp2_with fail
  refine (hasByte_any 55 letterB cf31 tells31 b s k _ h0 h1).mono ?_
  rintro e w' ⟨rfl, n, rfl⟩
  go_wp2_with fail
  go_ret
  exact ⟨rfl, _, rfl⟩

set_option maxHeartbeats 1000000 in
theorem gaps_any (b : Nat) (s : ByteArray) (k : Nat) (nv : Value) (w : World) (R : Ending → World → Prop) (hl : s.size ≤ 4000) (hk : k ≤ s.size) (hb0 : 0 < b) (hmx : Mx w) (hr : Rs w b s k nv)
    (H : Hid (Good b s k nv w (gaps s.data.toList k) (fun _ a v => v = .bool a) R)) :
    Calls Try.prog 59 #[.pointer (some ⟨b, 0, none⟩)] w R := by
  have hlt := hr.lt
  have h1 := hr.c1
  have HS : Hid (s.size = s.data.toList.length) := Lib.size_eq s
  go_enter Try.func59, Try.ntmps59
  go_wp2_with fail
  refine (at_any b _ _ h1).mono ?_
  rintro e w' ⟨rfl, hw⟩
  obtain rfl := hw.symm
  go_wp2_with fail
  clear h1
  go_loopg [] 4001 (fun f wr => ∃ k', s.size - k' < f ∧ k ≤ k' ∧ k' ≤ s.size ∧ Rs wr b s k' nv ∧ Kp (· = b) w wr ∧ gapsTo f s.data.toList k' = gapsTo 4001 s.data.toList k)
  case atStart => exact ⟨k, by omega, Nat.le_refl _, hk, hr, Kp.refl _ _, rfl⟩
  case round =>
    obtain ⟨k', hf, hk1, hk2, hr', hkp, hE⟩ := hrel
    obtain ⟨f', rfl⟩ : ∃ f', gk = f' + 1 := ⟨gk - 1, by omega⟩
    have E : Hid (gapsTo (f' + 1) s.data.toList k' = gapsTo 4001 s.data.toList k) := hE
    clear hE
    have h1 := hr'.c1
    go_wp2_with fail
    refine (at_any b _ _ h1).mono ?_
    rintro e w' ⟨rfl, hw⟩
    obtain rfl := hw.symm
    clear h1
    go_wp2_with fail
    cases t1 : has s.data.toList k' [32] with
    | true =>
      have l1 := has_le t1 (by rw [← HS.out]; omega)
      rw [← HS.out] at l1
      have l1' : k' + 1 ≤ s.size := l1
      refine (take_yes b s ⟨#[32]⟩ k' nv _ hk2 (by omega) (by show (1 : Nat) ≤ 6000; omega) hr' t1).mono ?_
      rintro e w1 ⟨rfl, hr1, hkp1⟩
      have T1 := hid t1
      clear t1 l1
      go_wp2_with fail
      go_roundg f'
      case measure => omega
      case rel =>
        refine ⟨k' + 1, by omega, by omega, l1', hr1, hkp.trans hkp1, ?_⟩
        rw [← E.out, gapsTo, if_pos T1.out]
    | false =>
    refine (take_no b s ⟨#[32]⟩ k' nv _ hk2 hr' t1).mono ?_
    rintro e w1 ⟨rfl, n1, rfl⟩
    have T1 := hid t1
    clear t1
    have hr1 := hr'.drewN n1
    have hkp1 := hkp.drewN n1
    generalize wr.drewN n1 = w1 at hr1 hkp1 ⊢
    go_wp2_with fail
    cases t2 : has s.data.toList k' [10] with
    | true =>
      have l1 := has_le t2 (by rw [← HS.out]; omega)
      rw [← HS.out] at l1
      have l1' : k' + 1 ≤ s.size := l1
      refine (take_yes b s ⟨#[10]⟩ k' nv _ hk2 (by omega) (by show (1 : Nat) ≤ 6000; omega) hr1 t2).mono ?_
      rintro e w2 ⟨rfl, hr2, hkp2⟩
      have T2 := hid t2
      clear t2 l1
      go_wp2_with fail
      go_roundg f'
      case measure => omega
      case rel =>
        refine ⟨k' + 1, by omega, by omega, l1', hr2, hkp1.trans hkp2, ?_⟩
        have e1 := T1.out
        have e2 := T2.out
        rw [← E.out, gapsTo, if_neg (by rw [e1]; decide), if_pos e2]
    | false =>
    refine (take_no b s ⟨#[10]⟩ k' nv _ hk2 hr1 t2).mono ?_
    rintro e w2 ⟨rfl, n2, rfl⟩
    have T2 := hid t2
    clear t2
    have hr2 := hr1.drewN n2
    have hkp2 := hkp1.drewN n2
    generalize w1.drewN n2 = w2 at hr2 hkp2 ⊢
    go_wp2_with fail
    cases t3 : has s.data.toList k' [47, 42] with
    | false =>
      refine (take_no b s ⟨#[47, 42]⟩ k' nv _ hk2 hr2 t3).mono ?_
      rintro e w3 ⟨rfl, n3, rfl⟩
      have EX : Hid (gaps s.data.toList k = .ok (decide (k < k'), k')) := by
        have e1 := T1.out
        have e2 := T2.out
        show gaps s.data.toList k = .ok (decide (k < k'), k')
        unfold gaps
        rw [← E.out, gapsTo, if_neg (by rw [e1]; decide), if_neg (by rw [e2]; decide), if_neg (by rw [t3]; decide)]
      clear t3
      go_wp2_with fail
      have fin := H.out.1 (decide (k < k')) k' _ _ EX.out hk1 hk2 (hr2.drewN n3) (hkp2.drewN n3) rfl
      exact fin
    | true =>
      have l1 := has_le t3 (by rw [← HS.out]; omega)
      rw [← HS.out] at l1
      have l1' : k' + 2 ≤ s.size := l1
      clear l1
      refine (take_yes b s ⟨#[47, 42]⟩ k' nv _ hk2 (by omega) (by show (2 : Nat) ≤ 6000; omega) hr2 t3).mono ?_
      rintro e w3 ⟨rfl, hr3, hkp3⟩
      have T3 := hid t3
      clear t3
      have hkp4 := hkp2.trans hkp3
      obtain ⟨mx, hmx'⟩ := hmx.kp hkp4 hb0
      have MX := hid hmx'
      clear hmx'
      go_wp2_with fail
      cases hp : pastAt s.data.toList (k' + 2) [42, 47] with
      | none =>
        have EX : Hid (gaps s.data.toList k = .error (2, k')) := by
          have e1 := T1.out
          have e2 := T2.out
          show gaps s.data.toList k = .error (2, k')
          unfold gaps
          rw [← E.out, gapsTo, if_neg (by rw [e1]; decide), if_neg (by rw [e2]; decide), if_pos T3.out, hp]
        refine (past_no b s ⟨#[42, 47]⟩ (k' + 2) k' mx nv _ (by omega) l1' hr3 MX.out hp).mono ?_
        rintro e w4 ⟨rfl, hb2⟩
        exact ⟨rfl, H.out.2 (2, k') _ EX.out ((hkp4.under hlt).trans (hb2.mono (by have := hr3.lt; omega)))⟩
      | some e =>
        have l2 := pastAt_le hp (by rw [← HS.out]; exact l1')
        rw [← HS.out] at l2
        obtain ⟨l2, l3⟩ := l2
        have l3' : e + 2 ≤ s.size := l3
        clear l3
        refine (past_yes b s ⟨#[42, 47]⟩ (k' + 2) e k' mx nv _ (by omega) (by show (2 : Nat) ≤ 6000; omega) l1' hr3 MX.out hp (by omega)).mono ?_
        rintro e' w4 ⟨rfl, hr4, hkp5⟩
        have HP := hid hp
        clear hp
        go_wp2_with fail
        go_roundg f'
        case measure => omega
        case rel =>
          refine ⟨e + 2, by omega, by omega, l3', hr4, hkp4.trans hkp5, ?_⟩
          have e1 := T1.out
          have e2 := T2.out
          rw [← E.out, gapsTo, if_neg (by rw [e1]; decide), if_neg (by rw [e2]; decide), if_pos T3.out, HP.out]

set_option maxHeartbeats 400000 in
theorem isName_yes (n : ByteArray) (w : World) (hs : n.size ≤ 6000) (h0 : 0 < n.size) (hl : letterB n[0] = true) (ha : ∀ i (h : i < n.size), nameB n[i] = true) :
    Calls Try.prog 36 #[.string n] w fun e w' => e = .returned (.bool true) ∧ w' = w := by
  have hne : (n.toList == []) = false := by
    cases hq : n.toList with
    | nil =>
      have : n.data.toList.length = 0 := by rw [← Lib.toList_data, hq]; rfl
      rw [← Lib.size_eq] at this
      omega
    | cons => rfl
  have HA := hid ha
  clear ha
  go_enter Try.func36, Try.ntmps36
  go_wp2_with (first | (go_at_call 55; refine (letter_any _ _).mono ?_; rw [show letterB _ = true from hl]; rintro e w' ⟨rfl, hw⟩; obtain rfl := hw.symm))
  go_loopg [14] n.size (fun m i wr => ∃ j, j ≤ n.size ∧ m = n.size - j ∧ i = .int .i64 (j : Int) ∧ wr = w)
  case atStart => exact ⟨0, by omega, rfl, rfl, rfl⟩
  case round =>
    obtain ⟨j, hj, hm, rfl, rfl⟩ := hrel
    have A := hid hm
    clear hm
    by_cases hlt : j < n.size
    · have hb := HA.out j hlt
      go_wp2_with (first | (go_at_call 56; refine (nameByte_any _ _).mono ?_; rw [show nameB _ = true from hb]; rintro e w' ⟨rfl, hw⟩; obtain rfl := hw.symm))
      go_roundg (n.size - (j + 1))
      case measure => have := A.out; omega
      case rel => exact ⟨j + 1, by omega, rfl, by go_num, rfl⟩
    · go_wp2_with fail
      go_ret
      exact ⟨rfl, rfl⟩

set_option maxHeartbeats 400000 in
theorem named_any (n : ByteArray) (w : World) (hs : n.size ≤ 6000) (h0 : 0 < n.size) (hl : letterB n[0] = true) (ha : ∀ i (h : i < n.size), nameB n[i] = true) :
    Calls Try.prog 16 #[.string n] w fun e w' => e = .returned (.bool (decide (n.size ≤ 20))) ∧ w' = w := by
  have A := hid ha
  have B := hid hl
  clear ha hl
  by_cases h20 : n.size ≤ 20
  · go_enter Try.func16, Try.ntmps16
    go_wp2_with (first | (go_at_call 36; refine (isName_yes n _ hs h0 B.out A.out).mono ?_; rintro e w' ⟨rfl, hw⟩; obtain rfl := hw.symm))
    go_ret
    exact ⟨ret_bool (by simp [h20]), rfl⟩
  · go_enter Try.func16, Try.ntmps16
    go_wp2_with fail
    go_ret
    exact ⟨ret_bool (by simp), rfl⟩

theorem whileEnd_fits {S : List UInt8} {p : UInt8 → Bool} : ∀ (k j : Nat), k ≤ j → j < whileEnd S k p → fitsAt S j p = true := by
  intro k j hk hj
  unfold whileEnd at hj
  have hlt : j - k < ((S.drop k).takeWhile p).length := by omega
  have h1 := (List.all_eq_true.1 List.all_takeWhile) _ (List.getElem_mem hlt)
  have h2 : (S.drop k)[j - k]? = some (((S.drop k).takeWhile p)[j - k]) := by
    have := List.takeWhile_prefix (l := S.drop k) p
    rw [List.prefix_iff_getElem?] at this
    exact this _ hlt
  rw [List.getElem?_drop, show k + (j - k) = j by omega] at h2
  unfold fitsAt
  rw [h2]
  exact h1

theorem name_bytes {s : ByteArray} {k m : Nat} (h : nameTo s.data.toList k = .ok m) : ∃ h0 : 0 < (s.extract k m).size, letterB (s.extract k m)[0] = true ∧ ∀ i (hi : i < (s.extract k m).size), nameB (s.extract k m)[i] = true := by
  have hle := nameTo_le h
  rw [← Lib.size_eq] at hle
  unfold nameTo at h
  split at h
  · rename_i hf
    have hm : whileEnd s.data.toList (k + 1) nameB = m := by injection h
    have hsz : (s.extract k m).size = m - k := by rw [ByteArray.size_extract]; omega
    have hg : ∀ i (hi : i < (s.extract k m).size), (s.extract k m)[i] = s[k + i]'(by omega) := fun i hi => ByteArray.getElem_extract hi
    refine ⟨by omega, ?_, ?_⟩
    · rw [hg, ← fitsAt_ba letterB (by omega)]; exact hf
    · intro i hi
      rw [hg, ← fitsAt_ba nameB (by omega)]
      by_cases hi0 : i = 0
      · subst hi0
        rw [fitsAt_ba _ (by omega)] at hf ⊢
        unfold nameB
        rw [show letterB s[k + 0] = true from hf]
        rfl
      · exact whileEnd_fits (k + 1) (k + i) (by omega) (by omega)
  · cases h

set_option maxHeartbeats 1000000 in
theorem sname_any (b : Nat) (s : ByteArray) (k : Nat) (nv : Value) (w : World) (R : Ending → World → Prop) (hl : s.size ≤ 4000) (hr : Rs w b s k nv)
    (H : Hid (Good b s k nv w (sname s.data.toList k) (fun _ a v => v = .string (bs a)) R)) :
    Calls Try.prog 78 #[.pointer (some ⟨b, 0, none⟩)] w R := by
  have hlt := hr.lt
  have h1 := hr.c1
  go_enter Try.func78, Try.ntmps78
  go_wp2_with fail
  refine (at_any b _ _ h1).mono ?_
  rintro e w' ⟨rfl, hw⟩
  obtain rfl := hw.symm
  go_wp2_with fail
  clear h1
  cases hn : nameTo s.data.toList k with
  | error x =>
    refine (name_no b s k x nv _ hr hn).mono ?_
    rintro e w1 ⟨rfl, n, rfl⟩
    exact ⟨rfl, H.out.2 x _ (by simp only [sname, hn]) (below_drewN' (Below.refl _ _) _)⟩
  | ok m =>
    have hle := nameTo_le hn
    rw [← Lib.size_eq] at hle
    obtain ⟨hz, hb1, hb2⟩ := name_bytes hn
    have hsz : (s.extract k m).size = (sub s.data.toList k m).length := by rw [sub_bs, bs_size]
    have hsx : (s.extract k m).size ≤ 6000 := by rw [ByteArray.size_extract]; omega
    refine (name_yes b s k m nv _ (by omega) hr hn).mono ?_
    rintro e w1 ⟨rfl, hr1, hkp1⟩
    go_wp2_with fail
    refine (named_any _ _ hsx hz hb1 hb2).mono ?_
    rintro e w2 ⟨rfl, hw⟩
    obtain rfl := hw.symm
    clear hb1 hb2 hz
    have hsm : (s.extract k m).size = m - k := by rw [ByteArray.size_extract]; omega
    by_cases h20 : m ≤ 20 + k
    · have EX : Hid (sname s.data.toList k = .ok (sub s.data.toList k m, m)) := by
        show sname s.data.toList k = .ok (sub s.data.toList k m, m)
        simp only [sname, hn]
        rw [if_neg (by omega)]
      clear hn hsz hsm
      go_wp2_with fail
      have fin := H.out.1 _ m _ _ EX.out (by omega) hle.2 hr1 hkp1 rfl
      rw [← sub_bs] at fin
      exact fin
    · have EX : Hid (sname s.data.toList k = .error (2, k)) := by
        show sname s.data.toList k = .error (2, k)
        simp only [sname, hn]
        rw [if_pos (by omega)]
      clear hn hsz hsm
      go_wp2_with (go_at_call 71; refine (throw_any _ _ _).mono ?_; rintro e w' ⟨rfl, rfl⟩)
      exact ⟨rfl, H.out.2 (2, k) _ EX.out (hkp1.under hlt)⟩
end Go.Proofs.Ytanedepdhbdcgaa
