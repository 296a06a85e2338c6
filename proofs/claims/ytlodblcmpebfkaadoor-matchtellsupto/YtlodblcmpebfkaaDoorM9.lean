/-
  What Weigh answers: how many tests there are of each of the three sorts. Conditions: the selector lies as it must, at most 2^20 tests.
-/
import Derived.Test.YtlodblcmpebfkaaDoorM8
namespace Go.Proofs.YtlodblcmpebfkaaDoor
open Go.RowKit

/-- Three numbers in a block. -/
def WB (w : World) (T : Nat) (a b c : Int) : Prop := w.heap[T]? = some (.cells #[.int .i64 a, .int .i64 b, .int .i64 c] 35 (0, 0))
theorem WB.cell {w : World} {T : Nat} {a b c : Int} (h : WB w T a b c) : w.cell? ⟨T, 0, none⟩ = some (.int .i64 a) ∧ w.cell? ⟨T, 1, none⟩ = some (.int .i64 b) ∧ w.cell? ⟨T, 2, none⟩ = some (.int .i64 c) := by
  unfold WB at h
  unfold World.cell?
  rw [h]
  exact ⟨rfl, rfl, rfl⟩
theorem WB.fz {w : World} {T : Nat} {a b c : Int} (h : WB w T a b c) : w.frozen? ⟨T, 0, none⟩ = false ∧ w.frozen? ⟨T, 1, none⟩ = false ∧ w.frozen? ⟨T, 2, none⟩ = false := by
  unfold WB at h
  simp [World.frozen?, h]
theorem WB.lt {w : World} {T : Nat} {a b c : Int} (h : WB w T a b c) : T < w.heap.size := (Array.getElem?_eq_some_iff.1 h).1
theorem WB.keep {w w' : World} {T : Nat} {a b c : Int} (h : WB w T a b c) (e : w'.heap[T]? = w.heap[T]?) : WB w' T a b c := by
  unfold WB at h ⊢; rw [e]; exact h
theorem WB.alloc {w : World} {T : Nat} {a b c : Int} (h : WB w T a b c) (o : Obj) : WB (w.alloc o) T a b c := h.keep (Below.heap_alloc _ _ _ h.lt)
theorem WB.below {w w' : World} {T : Nat} {a b c : Int} (h : WB w T a b c) (hb : Below w.heap.size w w') : WB w' T a b c := h.keep (hb.block T h.lt)
theorem WB.set0 {w : World} {T : Nat} {a b c : Int} (h : WB w T a b c) (x : Int) : WB (w.setCell ⟨T, 0, none⟩ (.int .i64 x)) T x b c := by
  unfold WB at h ⊢
  simp [World.setCell, Array.getElem?_modify, h]
theorem WB.set1 {w : World} {T : Nat} {a b c : Int} (h : WB w T a b c) (x : Int) : WB (w.setCell ⟨T, 1, none⟩ (.int .i64 x)) T a x c := by
  unfold WB at h ⊢
  simp [World.setCell, Array.getElem?_modify, h]
theorem WB.set2 {w : World} {T : Nat} {a b c : Int} (h : WB w T a b c) (x : Int) : WB (w.setCell ⟨T, 2, none⟩ (.int .i64 x)) T a b x := by
  unfold WB at h ⊢
  simp [World.setCell, Array.getElem?_modify, h]
theorem WB.other {w : World} {T : Nat} {a b c : Int} (h : WB w T a b c) {p : Addr} (hp : T ≠ p.block) (v : Value) : WB (w.setCell p v) T a b c := h.keep (Below.heap_setCell _ _ _ _ hp)
theorem WB.new (w : World) (a b c : Int) : WB (w.alloc (.cells #[.int .i64 a, .int .i64 b, .int .i64 c] 35)) w.heap.size a b c := heap_alloc_new _ _

theorem setCell_size (w : World) (a : Addr) (v : Value) : (w.setCell a v).heap.size = w.heap.size := by simp [World.setCell]

def wtV (x : Wt) : Value := .agg #[.int .i64 x.a, .int .i64 x.b, .int .i64 x.c]

theorem cntT_le (f : Int → Bool) (l : List Ts) : cntT f l ≤ l.length := List.countP_le_length
theorem cnt_le (f : Int → Bool) {s : List Pt} (h : SmS s) (i : Nat) : cnt f (s.take i) ≤ lim := by
  refine Nat.le_trans (cntT_le f _) (Nat.le_trans ?_ h.2)
  conv => rhs; rw [← List.take_append_drop i s]
  rw [List.flatMap_append, List.length_append]
  omega

set_option maxRecDepth 100000 in
set_option maxHeartbeats 4000000 in
theorem weigh_any (sv : Value) (s : List Pt) (w : World) (hS : PsAt w sv s) (hss : SmS s) :
    Calls Tryd.prog 7 #[sv] w fun e w' => e = .returned (wtV (wts s)) ∧ Below w.heap.size w w' := by
  obtain ⟨sa, scap, rfl⟩ := Sl.form hS
  have HP := hid hS
  have HSS := hid hss
  have hsl := hss.1
  unfold lim at hsl
  clear hS hss
  go_enter Tryd.func7, Tryd.ntmps7
  go_wp2_with fail
  have HW0 := hid (WB.new (w.alloc (.cells #[.int .i64 0, .int .i64 0, .int .i64 0] 35)) 0 0 0)
  have HR0 := hid ((WB.new w 0 0 0).alloc (.cells #[.int .i64 0, .int .i64 0, .int .i64 0] 35))
  have HB0 : Hid (Below w.heap.size w ((w.alloc (.cells #[.int .i64 0, .int .i64 0, .int .i64 0] 35)).alloc (.cells #[.int .i64 0, .int .i64 0, .int .i64 0] 35))) := ((Below.refl _ _).alloc (Nat.le_refl _) _).alloc (by simp) _
  rw [show (w.alloc (.cells #[.int .i64 0, .int .i64 0, .int .i64 0] 35)).heap.size = w.heap.size + 1 by simp] at HW0
  generalize (w.alloc (.cells #[.int .i64 0, .int .i64 0, .int .i64 0] 35)).alloc (.cells #[.int .i64 0, .int .i64 0, .int .i64 0] 35) = W at *
  go_loopg [10] s.length (fun n i wr => ∃ k : Nat, n = s.length - k ∧ k ≤ s.length ∧ i = .int .i64 (k : Int) ∧ WB wr (w.heap.size + 1) (cnt k0 (s.take k)) (cnt k1 (s.take k)) (cnt k2 (s.take k)) ∧ WB wr w.heap.size 0 0 0 ∧ Below w.heap.size w wr)
  case atStart => exact ⟨0, rfl, Nat.zero_le _, rfl, HW0.out, HR0.out, HB0.out⟩
  case round =>
    clear HW0 HR0 HB0
    obtain ⟨k, hn, hk, rfl, hW, hR, hB⟩ := hrel
    have GK := hid hn
    have HW := hid hW
    have HR := hid hR
    have HB := hid hB
    have a1 := cnt_le k0 HSS.out k
    have a2 := cnt_le k1 HSS.out k
    have a3 := cnt_le k2 HSS.out k
    unfold lim at a1 a2 a3
    rename World => wo
    clear hn hW hR hB
    by_cases hlt : k < s.length
    · obtain ⟨b, off, rfl, he⟩ := Sl.at HP.out hlt
      obtain ⟨ta, tcap, e0, e1, hts⟩ := he.cells
      have c0 := Ext.below HB.out _ _ _ e0
      have c1 := Ext.below HB.out _ _ _ e1
      clear e0 e1
      have HTS := hid hts
      have htl := HSS.out.part (List.getElem_mem hlt)
      unfold lim at htl
      have HF : Hid (cnt k0 (s.take (k + 1)) = cnt k0 (s.take k) + cntT k0 s[k].tests ∧ cnt k1 (s.take (k + 1)) = cnt k1 (s.take k) + cntT k1 s[k].tests ∧ cnt k2 (s.take (k + 1)) = cnt k2 (s.take k) + cntT k2 s[k].tests) := by
        show _ ∧ _ ∧ _
        rw [List.take_succ_eq_append_getElem hlt, cnt_snoc, cnt_snoc, cnt_snoc]
        exact ⟨rfl, rfl, rfl⟩
      generalize s[k] = p at *
      obtain ⟨jn, ts⟩ := p
      simp only at c0 c1 hts htl HTS HF
      generalize cnt k0 (s.take k) = A0 at *
      generalize cnt k1 (s.take k) = B0 at *
      generalize cnt k2 (s.take k) = C0 at *
      clear he hts
      go_wp2_with fail
      go_loopg [17] ts.length (fun n i wr => ∃ (j : Nat) (A B C : Int), n = ts.length - j ∧ j ≤ ts.length ∧ i = .int .i64 (j : Int) ∧ WB wr (w.heap.size + 1) A B C ∧ WB wr w.heap.size 0 0 0 ∧ (A = A0 + cntT k0 (ts.take j) ∧ B = B0 + cntT k1 (ts.take j) ∧ C = C0 + cntT k2 (ts.take j)) ∧ Below w.heap.size w wr)
      case atStart => exact ⟨0, A0, B0, C0, rfl, Nat.zero_le _, rfl, HW.out.alloc _, HR.out.alloc _, by simp [cntT], HB.out.alloc HB.out.size _⟩
      case round =>
        clear c0 c1 HW HR HB
        obtain ⟨j, A, B, C, hn, hj, rfl, hW, hR, hA, hB⟩ := hrel
        have GJ := hid hn
        have HA := hid hA
        have HW := hid hW
        have HR := hid hR
        have HB := hid hB
        have bA : 0 ≤ A ∧ A ≤ 2097152 := by have := cntT_le k0 (ts.take j); simp at this; omega
        have bB : 0 ≤ B ∧ B ≤ 2097152 := by have := cntT_le k1 (ts.take j); simp at this; omega
        have bC : 0 ≤ C ∧ C ≤ 2097152 := by have := cntT_le k2 (ts.take j); simp at this; omega
        obtain ⟨bA0, bA1⟩ := bA
        obtain ⟨bB0, bB1⟩ := bB
        obtain ⟨bC0, bC1⟩ := bC
        obtain ⟨w0, w1, w2⟩ := hW.cell
        obtain ⟨f0, f1, f2⟩ := hW.fz
        have hTl := hW.lt
        clear hn hW hR hB hA
        by_cases hjl : j < ts.length
        · obtain ⟨b2, off2, rfl, he⟩ := Sl.at (HTS.out.ext (Ext.below HB.out)) hjl
          obtain ⟨d0, d1, d2⟩ := he.cells
          have hds := lt_of_cell d0
          have HT1 : Hid (cntT k0 (ts.take (j + 1)) = cntT k0 (ts.take j) + (if k0 ts[j].kind then 1 else 0) ∧ cntT k1 (ts.take (j + 1)) = cntT k1 (ts.take j) + (if k1 ts[j].kind then 1 else 0) ∧ cntT k2 (ts.take (j + 1)) = cntT k2 (ts.take j) + (if k2 ts[j].kind then 1 else 0)) := by
            show _ ∧ _ ∧ _
            rw [List.take_succ_eq_append_getElem hjl, cntT_snoc, cntT_snoc, cntT_snoc]
            exact ⟨rfl, rfl, rfl⟩
          generalize ts[j] = t at *
          obtain ⟨kd, nm, vl⟩ := t
          simp only at d0 d1 d2 HT1
          clear he
          by_cases h3 : kd = 3
          · subst h3
            have HT2 : Hid (cntT k0 (ts.take (j + 1)) = cntT k0 (ts.take j) + 1 ∧ cntT k1 (ts.take (j + 1)) = cntT k1 (ts.take j) + 0 ∧ cntT k2 (ts.take (j + 1)) = cntT k2 (ts.take j) + 0) := HT1.out
            clear HT1
            go_wp2_with fail
            go_roundg (ts.length - (j + 1))
            case measure => have := GJ.out; omega
            case rel => exact ⟨j + 1, A + 1, B, C, rfl, by omega, by go_num, (HW.out.set0 (A + 1)).alloc _, (HR.out.other (by simp) _).alloc _, by have := HT2.out; have := HA.out; omega, (HB.out.setCell (by simp) _).alloc (by rw [setCell_size]; exact HB.out.size) _⟩
          by_cases h2 : kd = 2
          · subst h2
            have HT2 : Hid (cntT k0 (ts.take (j + 1)) = cntT k0 (ts.take j) + 0 ∧ cntT k1 (ts.take (j + 1)) = cntT k1 (ts.take j) + 1 ∧ cntT k2 (ts.take (j + 1)) = cntT k2 (ts.take j) + 0) := HT1.out
            clear HT1
            go_wp2_with fail
            go_roundg (ts.length - (j + 1))
            case measure => have := GJ.out; omega
            case rel => exact ⟨j + 1, A, B + 1, C, rfl, by omega, by go_num, (HW.out.set1 (B + 1)).alloc _, (HR.out.other (by simp) _).alloc _, by have := HT2.out; have := HA.out; omega, (HB.out.setCell (by simp) _).alloc (by rw [setCell_size]; exact HB.out.size) _⟩
          by_cases h4 : kd = 4
          · subst h4
            have HT2 : Hid (cntT k0 (ts.take (j + 1)) = cntT k0 (ts.take j) + 0 ∧ cntT k1 (ts.take (j + 1)) = cntT k1 (ts.take j) + 1 ∧ cntT k2 (ts.take (j + 1)) = cntT k2 (ts.take j) + 0) := HT1.out
            clear HT1
            go_wp2_with fail
            go_roundg (ts.length - (j + 1))
            case measure => have := GJ.out; omega
            case rel => exact ⟨j + 1, A, B + 1, C, rfl, by omega, by go_num, (HW.out.set1 (B + 1)).alloc _, (HR.out.other (by simp) _).alloc _, by have := HT2.out; have := HA.out; omega, (HB.out.setCell (by simp) _).alloc (by rw [setCell_size]; exact HB.out.size) _⟩
          by_cases h5 : kd = 5
          · subst h5
            have HT2 : Hid (cntT k0 (ts.take (j + 1)) = cntT k0 (ts.take j) + 0 ∧ cntT k1 (ts.take (j + 1)) = cntT k1 (ts.take j) + 1 ∧ cntT k2 (ts.take (j + 1)) = cntT k2 (ts.take j) + 0) := HT1.out
            clear HT1
            go_wp2_with fail
            go_roundg (ts.length - (j + 1))
            case measure => have := GJ.out; omega
            case rel => exact ⟨j + 1, A, B + 1, C, rfl, by omega, by go_num, (HW.out.set1 (B + 1)).alloc _, (HR.out.other (by simp) _).alloc _, by have := HT2.out; have := HA.out; omega, (HB.out.setCell (by simp) _).alloc (by rw [setCell_size]; exact HB.out.size) _⟩
          by_cases h6 : kd = 6
          · subst h6
            have HT2 : Hid (cntT k0 (ts.take (j + 1)) = cntT k0 (ts.take j) + 0 ∧ cntT k1 (ts.take (j + 1)) = cntT k1 (ts.take j) + 1 ∧ cntT k2 (ts.take (j + 1)) = cntT k2 (ts.take j) + 0) := HT1.out
            clear HT1
            go_wp2_with fail
            go_roundg (ts.length - (j + 1))
            case measure => have := GJ.out; omega
            case rel => exact ⟨j + 1, A, B + 1, C, rfl, by omega, by go_num, (HW.out.set1 (B + 1)).alloc _, (HR.out.other (by simp) _).alloc _, by have := HT2.out; have := HA.out; omega, (HB.out.setCell (by simp) _).alloc (by rw [setCell_size]; exact HB.out.size) _⟩
          by_cases h1 : kd = 1
          · subst h1
            have HT2 : Hid (cntT k0 (ts.take (j + 1)) = cntT k0 (ts.take j) + 0 ∧ cntT k1 (ts.take (j + 1)) = cntT k1 (ts.take j) + 0 ∧ cntT k2 (ts.take (j + 1)) = cntT k2 (ts.take j) + 1) := HT1.out
            clear HT1
            go_wp2_with fail
            go_roundg (ts.length - (j + 1))
            case measure => have := GJ.out; omega
            case rel => exact ⟨j + 1, A, B, C + 1, rfl, by omega, by go_num, (HW.out.set2 (C + 1)).alloc _, (HR.out.other (by simp) _).alloc _, by have := HT2.out; have := HA.out; omega, (HB.out.setCell (by simp) _).alloc (by rw [setCell_size]; exact HB.out.size) _⟩
          · have HT2 : Hid (cntT k0 (ts.take (j + 1)) = cntT k0 (ts.take j) + 0 ∧ cntT k1 (ts.take (j + 1)) = cntT k1 (ts.take j) + 0 ∧ cntT k2 (ts.take (j + 1)) = cntT k2 (ts.take j) + 0) := by
              have := HT1.out
              simpa [k0, k1, k2, h3, h2, h4, h5, h6, h1, Hid] using this
            clear HT1
            go_wp2_with fail
            go_roundg (ts.length - (j + 1))
            case measure => have := GJ.out; omega
            case rel => exact ⟨j + 1, A, B, C, rfl, by omega, by go_num, HW.out.alloc _, HR.out.alloc _, by have := HT2.out; have := HA.out; omega, HB.out.alloc HB.out.size _⟩
        · have hE : ts.take j = ts := List.take_of_length_le (by omega)
          have HX : Hid (A = cnt k0 (s.take (k + 1)) ∧ B = cnt k1 (s.take (k + 1)) ∧ C = cnt k2 (s.take (k + 1))) := by
            have h1 := HF.out
            have h4 := HA.out
            rw [hE] at h4
            show _ ∧ _ ∧ _
            omega
          clear hE
          go_wp2_with fail
          go_roundg (s.length - (k + 1))
          case measure => have := GK.out; omega
          case rel => exact ⟨k + 1, rfl, by omega, by go_num, by rw [← HX.out.1, ← HX.out.2.1, ← HX.out.2.2]; exact HW.out, HR.out, HB.out⟩
    · have hE : s.take k = s := List.take_of_length_le (by omega)
      obtain ⟨w0, w1, w2⟩ := HW.out.cell
      obtain ⟨r0, r1, r2⟩ := HR.out.cell
      obtain ⟨f0, f1, f2⟩ := HR.out.fz
      have HE : Hid (wts s = ⟨cnt k0 (s.take k), cnt k1 (s.take k), cnt k2 (s.take k)⟩) := by show wts s = _; rw [hE]; rfl
      clear hE
      generalize cnt k0 (s.take k) = A at *
      generalize cnt k1 (s.take k) = B at *
      generalize cnt k2 (s.take k) = C at *
      go_wp2_with fail
      obtain ⟨q0, q1, q2⟩ := (((HR.out.set0 (A : Int)).set1 (B : Int)).set2 (C : Int)).cell
      refine bodyPost_ret (v := wtV ⟨A, B, C⟩) (by simp [results, Tryd.results7, go_sem, q0, q1, q2, wtV]) rfl ⟨by rw [HE.out], ?_⟩
      exact ((HB.out.setCell (Nat.le_refl _) _).setCell (Nat.le_refl _) _).setCell (Nat.le_refl _) _
end Go.Proofs.YtlodblcmpebfkaaDoor
