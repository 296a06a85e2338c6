/- Texts that the statement's proof stands on: M9, MA, MB, PMem, P1. -/
import Derived.Test.YtblkldfokeeaeacGreatDoorA19
import Derived.Laws.StructEq
import Derived.ChangeKeysEq
import Derived.Deep.RegionHeld3
import Derived.Deep.Slices
import Derived.Test.YtblkldfokeeaeacGreatDoorA05
import Derived.Test.YtblkldfokeeaeacGreatDoorProg
import Derived.WalkKit
import Derived.WalkSpells
import Derived.BigQuiet
import Derived.Deep.AppendLies
import Derived.Deep.RegionLaw
import Derived.Deep.LoopGhost
import Derived.Deep.CutRange
import Derived.Deep.DeepFit
namespace Go.Proofs.YtblkldfokeeaeacGreatDoor
open Go.RowKit
def WB (w : World) (T : Nat) (a b c : Int) : Prop := w.heap[T]? = some (.cells #[.int .i64 a, .int .i64 b, .int .i64 c] 86 (0, 0))
theorem WB.cell {w : World} {T : Nat} {a b c : Int} (h : WB w T a b c) : w.cell? ⟨T, 0, none⟩ = some (.int .i64 a) ∧ w.cell? ⟨T, 1, none⟩ = some (.int .i64 b) ∧ w.cell? ⟨T, 2, none⟩ = some (.int .i64 c) := by
  unfold WB at h
  unfold World.cell?
  rw [h]
  exact ⟨rfl, rfl, rfl⟩
theorem WB.fz {w : World} {T : Nat} {a b c : Int} (h : WB w T a b c) : w.frozen? ⟨T, 0, none⟩ = false ∧ w.frozen? ⟨T, 1, none⟩ = false ∧ w.frozen? ⟨T, 2, none⟩ = false := by
  unfold WB at h
  simp [World.frozen?, h]
theorem WB.lt {w : World} {T : Nat} {a b c : Int} (h : WB w T a b c) : T < w.heap.size := (Array.getElem?_eq_some_iff.1 h).1
theorem WB.keep {w w' : World} {T : Nat} {a b c : Int} (h : WB w T a b c) (e : w'.heap[T]? = w.heap[T]?) : WB w' T a b c := by
  unfold WB at h ⊢; rw [e]; exact h
theorem WB.alloc {w : World} {T : Nat} {a b c : Int} (h : WB w T a b c) (o : Obj) : WB (w.alloc o) T a b c := h.keep (Below.heap_alloc _ _ _ h.lt)
theorem WB.below {w w' : World} {T : Nat} {a b c : Int} (h : WB w T a b c) (hb : Below w.heap.size w w') : WB w' T a b c := h.keep (hb.block T h.lt)
theorem WB.set0 {w : World} {T : Nat} {a b c : Int} (h : WB w T a b c) (x : Int) : WB (w.setCell ⟨T, 0, none⟩ (.int .i64 x)) T x b c := by
  unfold WB at h ⊢
  simp [World.setCell, Array.getElem?_modify, h]
theorem WB.set1 {w : World} {T : Nat} {a b c : Int} (h : WB w T a b c) (x : Int) : WB (w.setCell ⟨T, 1, none⟩ (.int .i64 x)) T a x c := by
  unfold WB at h ⊢
  simp [World.setCell, Array.getElem?_modify, h]
theorem WB.set2 {w : World} {T : Nat} {a b c : Int} (h : WB w T a b c) (x : Int) : WB (w.setCell ⟨T, 2, none⟩ (.int .i64 x)) T a b x := by
  unfold WB at h ⊢
  simp [World.setCell, Array.getElem?_modify, h]
theorem WB.other {w : World} {T : Nat} {a b c : Int} (h : WB w T a b c) {p : Addr} (hp : T ≠ p.block) (v : Value) : WB (w.setCell p v) T a b c := h.keep (Below.heap_setCell _ _ _ _ hp)
theorem WB.new (w : World) (a b c : Int) : WB (w.alloc (.cells #[.int .i64 a, .int .i64 b, .int .i64 c] 86)) w.heap.size a b c := heap_alloc_new _ _
theorem setCell_size (w : World) (a : Addr) (v : Value) : (w.setCell a v).heap.size = w.heap.size := by simp [World.setCell]
def wtV (x : Wt) : Value := .agg #[.int .i64 x.a, .int .i64 x.b, .int .i64 x.c]
theorem cntT_le (f : Int → Bool) (l : List Ts) : cntT f l ≤ l.length := List.countP_le_length
theorem cnt_le (f : Int → Bool) {s : List Pt} (h : SmS s) (i : Nat) : cnt f (s.take i) ≤ lim := by
  refine Nat.le_trans (cntT_le f _) (Nat.le_trans ?_ h.2)
  conv => rhs; rw [← List.take_append_drop i s]
  rw [List.flatMap_append, List.length_append]
  omega
set_option maxRecDepth 100000 in
set_option maxHeartbeats 4000000 in
theorem weigh_any (sv : Value) (s : List Pt) (w : World) (hS : PsAt w sv s) (hss : SmS s) :
    Calls Tryz.prog 136 #[sv] w fun e w' => e = .returned (wtV (wts s)) ∧ Below w.heap.size w w' := by
  obtain ⟨sa, scap, rfl⟩ := Sl.form hS
  have HP := hid hS
  have HSS := hid hss
  have hsl := hss.1
  unfold lim at hsl
  clear hS hss
  go_enter Tryz.func136, Tryz.ntmps136
  go_wp2_with fail
  have HW0 := hid (WB.new (w.alloc (.cells #[.int .i64 0, .int .i64 0, .int .i64 0] 86)) 0 0 0)
  have HR0 := hid ((WB.new w 0 0 0).alloc (.cells #[.int .i64 0, .int .i64 0, .int .i64 0] 86))
  have HB0 : Hid (Below w.heap.size w ((w.alloc (.cells #[.int .i64 0, .int .i64 0, .int .i64 0] 86)).alloc (.cells #[.int .i64 0, .int .i64 0, .int .i64 0] 86))) := ((Below.refl _ _).alloc (Nat.le_refl _) _).alloc (by simp) _
  rw [show (w.alloc (.cells #[.int .i64 0, .int .i64 0, .int .i64 0] 86)).heap.size = w.heap.size + 1 by simp] at HW0
  generalize (w.alloc (.cells #[.int .i64 0, .int .i64 0, .int .i64 0] 86)).alloc (.cells #[.int .i64 0, .int .i64 0, .int .i64 0] 86) = W at *
  go_loopg [10] s.length (fun n i wr => ∃ k : Nat, n = s.length - k ∧ k ≤ s.length ∧ i = .int .i64 (k : Int) ∧ WB wr (w.heap.size + 1) (cnt k0 (s.take k)) (cnt k1 (s.take k)) (cnt k2 (s.take k)) ∧ WB wr w.heap.size 0 0 0 ∧ Below w.heap.size w wr)
  case atStart => exact ⟨0, rfl, Nat.zero_le _, rfl, HW0.out, HR0.out, HB0.out⟩
  case round =>
    clear HW0 HR0 HB0
    obtain ⟨k, hn, hk, rfl, hW, hR, hB⟩ := hrel
    have GK := hid hn
    have HW := hid hW
    have HR := hid hR
    have HB := hid hB
    have a1 := cnt_le k0 HSS.out k
    have a2 := cnt_le k1 HSS.out k
    have a3 := cnt_le k2 HSS.out k
    unfold lim at a1 a2 a3
    rename World => wo
    clear hn hW hR hB
    by_cases hlt : k < s.length
    · obtain ⟨b, off, rfl, he⟩ := Sl.at HP.out hlt
      obtain ⟨ta, tcap, e0, e1, hts⟩ := he.cells
      have c0 := Ext.below HB.out _ _ _ e0
      have c1 := Ext.below HB.out _ _ _ e1
      clear e0 e1
      have HTS := hid hts
      have htl := HSS.out.part (List.getElem_mem hlt)
      unfold lim at htl
      have HF : Hid (cnt k0 (s.take (k + 1)) = cnt k0 (s.take k) + cntT k0 s[k].tests ∧ cnt k1 (s.take (k + 1)) = cnt k1 (s.take k) + cntT k1 s[k].tests ∧ cnt k2 (s.take (k + 1)) = cnt k2 (s.take k) + cntT k2 s[k].tests) := by
        show _ ∧ _ ∧ _
        rw [List.take_succ_eq_append_getElem hlt, cnt_snoc, cnt_snoc, cnt_snoc]
        exact ⟨rfl, rfl, rfl⟩
      generalize s[k] = p at *
      obtain ⟨jn, ts⟩ := p
      simp only at c0 c1 hts htl HTS HF
      generalize cnt k0 (s.take k) = A0 at *
      generalize cnt k1 (s.take k) = B0 at *
      generalize cnt k2 (s.take k) = C0 at *
      clear he hts
      go_wp2_with fail
      go_loopg [17] ts.length (fun n i wr => ∃ (j : Nat) (A B C : Int), n = ts.length - j ∧ j ≤ ts.length ∧ i = .int .i64 (j : Int) ∧ WB wr (w.heap.size + 1) A B C ∧ WB wr w.heap.size 0 0 0 ∧ (A = A0 + cntT k0 (ts.take j) ∧ B = B0 + cntT k1 (ts.take j) ∧ C = C0 + cntT k2 (ts.take j)) ∧ Below w.heap.size w wr)
      case atStart => exact ⟨0, A0, B0, C0, rfl, Nat.zero_le _, rfl, HW.out.alloc _, HR.out.alloc _, by simp [cntT], HB.out.alloc HB.out.size _⟩
      case round =>
        clear c0 c1 HW HR HB
        obtain ⟨j, A, B, C, hn, hj, rfl, hW, hR, hA, hB⟩ := hrel
        have GJ := hid hn
        have HA := hid hA
        have HW := hid hW
        have HR := hid hR
        have HB := hid hB
        have bA : 0 ≤ A ∧ A ≤ 2097152 := by have := cntT_le k0 (ts.take j); simp at this; omega
        have bB : 0 ≤ B ∧ B ≤ 2097152 := by have := cntT_le k1 (ts.take j); simp at this; omega
        have bC : 0 ≤ C ∧ C ≤ 2097152 := by have := cntT_le k2 (ts.take j); simp at this; omega
        obtain ⟨bA0, bA1⟩ := bA
        obtain ⟨bB0, bB1⟩ := bB
        obtain ⟨bC0, bC1⟩ := bC
        obtain ⟨w0, w1, w2⟩ := hW.cell
        obtain ⟨f0, f1, f2⟩ := hW.fz
        have hTl := hW.lt
        clear hn hW hR hB hA
        by_cases hjl : j < ts.length
        · obtain ⟨b2, off2, rfl, he⟩ := Sl.at (HTS.out.ext (Ext.below HB.out)) hjl
          obtain ⟨d0, d1, d2⟩ := he.cells
          have hds := lt_of_cell d0
          have HT1 : Hid (cntT k0 (ts.take (j + 1)) = cntT k0 (ts.take j) + (if k0 ts[j].kind then 1 else 0) ∧ cntT k1 (ts.take (j + 1)) = cntT k1 (ts.take j) + (if k1 ts[j].kind then 1 else 0) ∧ cntT k2 (ts.take (j + 1)) = cntT k2 (ts.take j) + (if k2 ts[j].kind then 1 else 0)) := by
            show _ ∧ _ ∧ _
            rw [List.take_succ_eq_append_getElem hjl, cntT_snoc, cntT_snoc, cntT_snoc]
            exact ⟨rfl, rfl, rfl⟩
          generalize ts[j] = t at *
          obtain ⟨kd, nm, vl⟩ := t
          simp only at d0 d1 d2 HT1
          clear he
          by_cases h3 : kd = 3
          · subst h3
            have HT2 : Hid (cntT k0 (ts.take (j + 1)) = cntT k0 (ts.take j) + 1 ∧ cntT k1 (ts.take (j + 1)) = cntT k1 (ts.take j) + 0 ∧ cntT k2 (ts.take (j + 1)) = cntT k2 (ts.take j) + 0) := HT1.out
            clear HT1
            go_wp2_with fail
            go_roundg (ts.length - (j + 1))
            case measure => have := GJ.out; omega
            case rel => exact ⟨j + 1, A + 1, B, C, rfl, by omega, by go_num, (HW.out.set0 (A + 1)).alloc _, (HR.out.other (by simp) _).alloc _, by have := HT2.out; have := HA.out; omega, (HB.out.setCell (by simp) _).alloc (by rw [setCell_size]; exact HB.out.size) _⟩
          by_cases h2 : kd = 2
          · subst h2
            have HT2 : Hid (cntT k0 (ts.take (j + 1)) = cntT k0 (ts.take j) + 0 ∧ cntT k1 (ts.take (j + 1)) = cntT k1 (ts.take j) + 1 ∧ cntT k2 (ts.take (j + 1)) = cntT k2 (ts.take j) + 0) := HT1.out
            clear HT1
            go_wp2_with fail
            go_roundg (ts.length - (j + 1))
            case measure => have := GJ.out; omega
            case rel => exact ⟨j + 1, A, B + 1, C, rfl, by omega, by go_num, (HW.out.set1 (B + 1)).alloc _, (HR.out.other (by simp) _).alloc _, by have := HT2.out; have := HA.out; omega, (HB.out.setCell (by simp) _).alloc (by rw [setCell_size]; exact HB.out.size) _⟩
          by_cases h4 : kd = 4
          · subst h4
            have HT2 : Hid (cntT k0 (ts.take (j + 1)) = cntT k0 (ts.take j) + 0 ∧ cntT k1 (ts.take (j + 1)) = cntT k1 (ts.take j) + 1 ∧ cntT k2 (ts.take (j + 1)) = cntT k2 (ts.take j) + 0) := HT1.out
            clear HT1
            go_wp2_with fail
            go_roundg (ts.length - (j + 1))
            case measure => have := GJ.out; omega
            case rel => exact ⟨j + 1, A, B + 1, C, rfl, by omega, by go_num, (HW.out.set1 (B + 1)).alloc _, (HR.out.other (by simp) _).alloc _, by have := HT2.out; have := HA.out; omega, (HB.out.setCell (by simp) _).alloc (by rw [setCell_size]; exact HB.out.size) _⟩
          by_cases h5 : kd = 5
          · subst h5
            have HT2 : Hid (cntT k0 (ts.take (j + 1)) = cntT k0 (ts.take j) + 0 ∧ cntT k1 (ts.take (j + 1)) = cntT k1 (ts.take j) + 1 ∧ cntT k2 (ts.take (j + 1)) = cntT k2 (ts.take j) + 0) := HT1.out
            clear HT1
            go_wp2_with fail
            go_roundg (ts.length - (j + 1))
            case measure => have := GJ.out; omega
            case rel => exact ⟨j + 1, A, B + 1, C, rfl, by omega, by go_num, (HW.out.set1 (B + 1)).alloc _, (HR.out.other (by simp) _).alloc _, by have := HT2.out; have := HA.out; omega, (HB.out.setCell (by simp) _).alloc (by rw [setCell_size]; exact HB.out.size) _⟩
          by_cases h6 : kd = 6
          · subst h6
            have HT2 : Hid (cntT k0 (ts.take (j + 1)) = cntT k0 (ts.take j) + 0 ∧ cntT k1 (ts.take (j + 1)) = cntT k1 (ts.take j) + 1 ∧ cntT k2 (ts.take (j + 1)) = cntT k2 (ts.take j) + 0) := HT1.out
            clear HT1
            go_wp2_with fail
            go_roundg (ts.length - (j + 1))
            case measure => have := GJ.out; omega
            case rel => exact ⟨j + 1, A, B + 1, C, rfl, by omega, by go_num, (HW.out.set1 (B + 1)).alloc _, (HR.out.other (by simp) _).alloc _, by have := HT2.out; have := HA.out; omega, (HB.out.setCell (by simp) _).alloc (by rw [setCell_size]; exact HB.out.size) _⟩
          by_cases h1 : kd = 1
          · subst h1
            have HT2 : Hid (cntT k0 (ts.take (j + 1)) = cntT k0 (ts.take j) + 0 ∧ cntT k1 (ts.take (j + 1)) = cntT k1 (ts.take j) + 0 ∧ cntT k2 (ts.take (j + 1)) = cntT k2 (ts.take j) + 1) := HT1.out
            clear HT1
            go_wp2_with fail
            go_roundg (ts.length - (j + 1))
            case measure => have := GJ.out; omega
            case rel => exact ⟨j + 1, A, B, C + 1, rfl, by omega, by go_num, (HW.out.set2 (C + 1)).alloc _, (HR.out.other (by simp) _).alloc _, by have := HT2.out; have := HA.out; omega, (HB.out.setCell (by simp) _).alloc (by rw [setCell_size]; exact HB.out.size) _⟩
          · have HT2 : Hid (cntT k0 (ts.take (j + 1)) = cntT k0 (ts.take j) + 0 ∧ cntT k1 (ts.take (j + 1)) = cntT k1 (ts.take j) + 0 ∧ cntT k2 (ts.take (j + 1)) = cntT k2 (ts.take j) + 0) := by
              have := HT1.out
              simpa [k0, k1, k2, h3, h2, h4, h5, h6, h1, Hid] using this
            clear HT1
            go_wp2_with fail
            go_roundg (ts.length - (j + 1))
            case measure => have := GJ.out; omega
            case rel => exact ⟨j + 1, A, B, C, rfl, by omega, by go_num, HW.out.alloc _, HR.out.alloc _, by have := HT2.out; have := HA.out; omega, HB.out.alloc HB.out.size _⟩
        · have hE : ts.take j = ts := List.take_of_length_le (by omega)
          have HX : Hid (A = cnt k0 (s.take (k + 1)) ∧ B = cnt k1 (s.take (k + 1)) ∧ C = cnt k2 (s.take (k + 1))) := by
            have h1 := HF.out
            have h4 := HA.out
            rw [hE] at h4
            show _ ∧ _ ∧ _
            omega
          clear hE
          go_wp2_with fail
          go_roundg (s.length - (k + 1))
          case measure => have := GK.out; omega
          case rel => exact ⟨k + 1, rfl, by omega, by go_num, by rw [← HX.out.1, ← HX.out.2.1, ← HX.out.2.2]; exact HW.out, HR.out, HB.out⟩
    · have hE : s.take k = s := List.take_of_length_le (by omega)
      obtain ⟨w0, w1, w2⟩ := HW.out.cell
      obtain ⟨r0, r1, r2⟩ := HR.out.cell
      obtain ⟨f0, f1, f2⟩ := HR.out.fz
      have HE : Hid (wts s = ⟨cnt k0 (s.take k), cnt k1 (s.take k), cnt k2 (s.take k)⟩) := by show wts s = _; rw [hE]; rfl
      clear hE
      generalize cnt k0 (s.take k) = A at *
      generalize cnt k1 (s.take k) = B at *
      generalize cnt k2 (s.take k) = C at *
      go_wp2_with fail
      obtain ⟨q0, q1, q2⟩ := (((HR.out.set0 (A : Int)).set1 (B : Int)).set2 (C : Int)).cell
      refine bodyPost_ret (v := wtV ⟨A, B, C⟩) (by simp [results, Tryz.results136, go_sem, q0, q1, q2, wtV]) rfl ⟨by rw [HE.out], ?_⟩
      exact ((HB.out.setCell (Nat.le_refl _) _).setCell (Nat.le_refl _) _).setCell (Nat.le_refl _) _
end Go.Proofs.YtblkldfokeeaeacGreatDoor
namespace Go.Proofs.YtblkldfokeeaeacGreatDoor
open Go.RowKit
theorem ext_alloc (w : World) (o : Obj) : Ext w (w.alloc o) := Ext.below ((Below.refl _ _).alloc (Nat.le_refl _) _)
end Go.Proofs.YtblkldfokeeaeacGreatDoor
namespace Go.Proofs.YtblkldfokeeaeacGreatDoor
open Go.RowKit
def Src (w : World) (u : Value) (m : Nat) (news : List Value) : Prop :=
  (u = .slice none 0 0 ∧ m = 0 ∧ news = []) ∨ ∃ ad c, u = .slice (some ad) m c ∧ ∀ j e, news[j]? = some e → w.cell? (ad.add j) = some e
theorem addr_add (g o j : Nat) : (⟨g, o, none⟩ : Addr).add j = ⟨g, o + j, none⟩ := by unfold Addr.add; split <;> simp_all
theorem Ext.any {w w' : World} (h : Ext w w') {p : Addr} {v : Value} (hp : w.cell? p = some v) : w'.cell? p = some v := by
  obtain ⟨b, o, sp⟩ := p
  cases sp with
  | none => exact h b o v hp
  | some x =>
    unfold World.cell? at hp
    split at hp
    · simp at hp
    · cases hp
theorem Src.ext {w w' : World} {u : Value} {m : Nat} {news : List Value} (h : Src w u m news) (e : Ext w w') : Src w' u m news := by
  rcases h with h | ⟨ad, c, h1, h2⟩
  · exact .inl h
  · exact .inr ⟨ad, c, h1, fun j x hx => e.any (h2 j x hx)⟩
theorem wp_app {w : World} {o : Oper} {a : Act} {K : Act → World → Prop} {Q : Exit → Act → World → Prop} (s x : Operand) (t : TypeId)
    (ho : o.op = .call { callee := .builtin .append, args := #[s, x], argTypes := #[t, t] })
    (base : Nat) (e : TypeId) (z : Value) (size bytes : Nat) (ht : Tryz.prog.underlying t = some (.slice e)) (hin : (Tryz.prog.info? e).map (fun i => (i.zero, i.size, i.bytes)) = some (some z, size, bytes)) (hzs : z.cells.size = size) (hsz : 0 < size)
    (v : Value) (n : Nat) (xs : List Value) (hs : a.eval s = v) (hown : w.ownsRow base e size v n xs)
    (u : Value) (m : Nat) (news : List Value) (hx : a.eval x = u) (hsrc : Src w u m news) (hl : news.length = m * size) (h1 : ∀ u ∈ news, u.oneCell' = true)
    (h63 : n + m ≤ maxLen) (hbytes : (n + m) * bytes ≤ 140737488355328) (hbase : base ≤ w.heap.size)
    (h : ∀ v' w', w'.ownsRow base e size v' (n + m) (xs ++ news) → w.grownBy w' v.ownBlock → K (a.put o.dst v') w') : o.wp Tryz.prog a w K Q := by
  obtain ⟨i0, hi, hz0, hz1, hz2⟩ := info_parts hin
  rcases hsrc with ⟨h2, rfl, rfl⟩ | ⟨ad, c, h2, h3⟩
  · have hrun := run_append_owned_none (P := Tryz.prog) (w := w) base t o.type e i0 size ht hi v n xs hown
    unfold Oper.wp
    rw [h2] at hx
    simp [execOp, ho, resolve, invoke, builtin, hs, hx, hrun, Result.andThen]
    exact h v w (by simpa using hown) ⟨rfl, rfl, rfl, Nat.le_refl _, fun _ _ _ => rfl⟩
  · exact wp_append_own w s x t ho base e i0 z size bytes ht hi hz0 hz1 hz2 hzs hsz v n xs hs hown ad m c news (by rw [hx, h2]) hl h3 h1 h63 hbytes hbase (fun v' w' h3 h4 _ => h v' w' h3 h4)
theorem wpList_app {w : World} {ops : Array Oper} {rest : List Oper} {o : Oper} {a : Act} {Q : Exit → Act → World → Prop} (hgd : o.guard = none) (s x : Operand) (t : TypeId)
    (ho : o.op = .call { callee := .builtin .append, args := #[s, x], argTypes := #[t, t] })
    (base : Nat) (e : TypeId) (z : Value) (size bytes : Nat) (ht : Tryz.prog.underlying t = some (.slice e)) (hin : (Tryz.prog.info? e).map (fun i => (i.zero, i.size, i.bytes)) = some (some z, size, bytes)) (hzs : z.cells.size = size) (hsz : 0 < size)
    (v : Value) (n : Nat) (xs : List Value) (hs : a.eval s = v) (hown : w.ownsRow base e size v n xs)
    (u : Value) (m : Nat) (news : List Value) (hx : a.eval x = u) (hsrc : Src w u m news) (hl : news.length = m * size) (h1 : ∀ u ∈ news, u.oneCell' = true)
    (h63 : n + m ≤ maxLen) (hbytes : (n + m) * bytes ≤ 140737488355328) (hbase : base ≤ w.heap.size)
    (h : ∀ v' w', w'.ownsRow base e size v' (n + m) (xs ++ news) → w.grownBy w' v.ownBlock → wpList Tryz.prog ops Q rest (a.put o.dst v') w') : wpList Tryz.prog ops Q (o :: rest) a w :=
  wpList_plain hgd fun _ hK => wp_app s x t ho base e z size bytes ht hin hzs hsz v n xs hs hown u m news hx hsrc hl h1 h63 hbytes hbase fun v' w' h2 h3 => hK _ _ (h v' w' h2 h3)
theorem step_app {w : World} {ops : Array Oper} {o : Oper} {a : Act} {K : Act → World → Prop} {Q : Exit → Act → World → Prop} {E : Prop} (hgd : o.guard = none) (s x : Operand) (t : TypeId)
    (ho : o.op = .call { callee := .builtin .append, args := #[s, x], argTypes := #[t, t] })
    (base : Nat) (e : TypeId) (z : Value) (size bytes : Nat) (ht : Tryz.prog.underlying t = some (.slice e)) (hin : (Tryz.prog.info? e).map (fun i => (i.zero, i.size, i.bytes)) = some (some z, size, bytes)) (hzs : z.cells.size = size) (hsz : 0 < size)
    (v : Value) (n : Nat) (xs : List Value) (hs : a.eval s = v) (hown : w.ownsRow base e size v n xs)
    (u : Value) (m : Nat) (news : List Value) (hx : a.eval x = u) (hsrc : Src w u m news) (hl : news.length = m * size) (h1 : ∀ u ∈ news, u.oneCell' = true)
    (h63 : n + m ≤ maxLen) (hbytes : (n + m) * bytes ≤ 140737488355328) (hbase : base ≤ w.heap.size)
    (h : ∀ v' w', w'.ownsRow base e size v' (n + m) (xs ++ news) → w.grownBy w' v.ownBlock → K (a.put o.dst v') w') :
    if Region.wanted o (yielded ops a.tmps) = true then Oper.wp Tryz.prog o a w K Q else E := by
  rw [if_pos (by simp [Region.wanted, hgd])]
  exact wp_app s x t ho base e z size bytes ht hin hzs hsz v n xs hs hown u m news hx hsrc hl h1 h63 hbytes hbase h
def encT (t : Ts) : List Value := [.int .i64 t.kind, .string t.name, .string t.val]
def encP (x : Pt × Value) : List Value := [.int .i64 x.1.join, x.2]
theorem flat_len {α β : Type} (n : Nat) (f : α → List β) (hf : ∀ x, (f x).length = n) : ∀ l : List α, (l.flatMap f).length = l.length * n
  | [] => by simp
  | a :: l => by rw [List.flatMap_cons, List.length_append, hf, flat_len n f hf l, List.length_cons, Nat.add_mul]; omega
theorem flat_get {α β : Type} (n : Nat) (f : α → List β) (hf : ∀ x, (f x).length = n) : ∀ (l : List α) (i j : Nat) (hi : i < l.length), j < n → (l.flatMap f)[i * n + j]? = (f l[i])[j]?
  | [], _, _, hi, _ => absurd hi (Nat.not_lt_zero _)
  | a :: l, 0, j, _, hj => by
    rw [List.flatMap_cons, List.getElem?_append_left (by rw [hf]; omega)]
    simp
  | a :: l, i + 1, j, hi, hj => by
    rw [List.flatMap_cons, List.getElem?_append_right (by rw [hf, Nat.add_mul]; omega), hf]
    have := flat_get n f hf l i j (by simpa using hi) hj
    rw [show (i + 1) * n + j - n = i * n + j by rw [Nat.add_mul]; omega, this]
    simp
theorem src_of {α : Type} {w : World} {sz : Nat} (h0 : 0 < sz) (f : α → List Value) (hf : ∀ x, (f x).length = sz) {a : Option Addr} {cap : Nat} {l : List α} (hn : a = none → cap = 0)
    (h : ∀ i (hi : i < l.length), ∃ b off, a = some ⟨b, off, none⟩ ∧ ∀ j, j < sz → w.cell? ⟨b, off + i * sz + j, none⟩ = (f l[i])[j]?) : Src w (.slice a l.length cap) l.length (l.flatMap f) := by
  cases a with
  | none =>
    have hl : l.length = 0 := by
      by_cases h1 : 0 < l.length
      · obtain ⟨b, off, hb, _⟩ := h 0 h1; cases hb
      · omega
    obtain rfl := List.length_eq_zero_iff.1 hl
    rw [hn rfl]
    exact .inl ⟨rfl, rfl, rfl⟩
  | some ad =>
    by_cases h1 : 0 < l.length
    · obtain ⟨b, off, hb, _⟩ := h 0 h1
      injection hb with hb
      subst hb
      refine .inr ⟨⟨b, off, none⟩, cap, rfl, fun j e he => ?_⟩
      rw [addr_add]
      have hj : j < l.length * sz := by
        have := (List.getElem?_eq_some_iff.1 he).1
        rwa [flat_len sz f hf] at this
      have hi : j / sz < l.length := Nat.div_lt_of_lt_mul (by rw [Nat.mul_comm]; exact hj)
      have hm : j % sz < sz := Nat.mod_lt _ h0
      have hd : j = j / sz * sz + j % sz := by rw [Nat.mul_comm]; exact (Nat.div_add_mod j sz).symm
      obtain ⟨b', off', hb, hc⟩ := h (j / sz) hi
      injection hb with hb
      injection hb with hb1 hb2
      subst hb1 hb2
      have := hc (j % sz) hm
      rw [← flat_get sz f hf l (j / sz) (j % sz) hi hm, ← hd, he, Nat.add_assoc, ← hd] at this
      exact this
    · have hl : l.length = 0 := by omega
      obtain rfl := List.length_eq_zero_iff.1 hl
      exact .inr ⟨ad, cap, rfl, fun j e he => by cases he⟩
theorem TsAt.src {w : World} {a : Option Addr} {n cap : Nat} {ts : List Ts} (h : TsAt w (.slice a n cap) ts) : Src w (.slice a ts.length cap) ts.length (ts.flatMap encT) := by
  obtain ⟨a', cap', e, hn, h⟩ := h
  injection e with e1 e2 e3
  subst e1 e3
  refine src_of (sz := 3) (by decide) encT (fun _ => rfl) hn fun i hi => ?_
  obtain ⟨b, off, rfl, h0, h1, h2⟩ := h i hi
  refine ⟨b, off, rfl, fun j hj => ?_⟩
  match j, hj with
  | 0, _ => exact h0
  | 1, _ => exact h1
  | 2, _ => exact h2
theorem PsAt.src {w : World} {a : Option Addr} {n cap : Nat} {s : List Pt} (h : PsAt w (.slice a n cap) s) : ∃ LV : List (Pt × Value), LV.map (·.1) = s ∧ (∀ p ∈ LV, TsAt w p.2 p.1.tests) ∧ Src w (.slice a s.length cap) s.length (LV.flatMap encP) := by
  obtain ⟨a', cap', e, hn, h⟩ := h
  injection e with e1 e2 e3
  subst e1 e3
  have : ∃ f : Nat → Value, ∀ i, i < s.length → ∀ hi : i < s.length, ∃ b off, a = some ⟨b, off, none⟩ ∧ w.cell? ⟨b, off + i * 2 + 0, none⟩ = some (.int .i64 s[i].join) ∧ w.cell? ⟨b, off + i * 2 + 1, none⟩ = some (f i) ∧ TsAt w (f i) s[i].tests := by
    have : Inhabited Value := ⟨.bool true⟩
    refine Deep.choose_lt (p := fun i v => ∀ hi : i < s.length, ∃ b off, a = some ⟨b, off, none⟩ ∧ w.cell? ⟨b, off + i * 2 + 0, none⟩ = some (.int .i64 s[i].join) ∧ w.cell? ⟨b, off + i * 2 + 1, none⟩ = some v ∧ TsAt w v s[i].tests) fun i hi => ?_
    obtain ⟨b, off, hb, h0, v, h1, h2⟩ := h i hi
    exact ⟨v, fun _ => ⟨b, off, hb, h0, h1, h2⟩⟩
  obtain ⟨f, hf⟩ := this
  have hlen : ((List.range s.length).map fun i => (ptAt s i, f i)).length = s.length := by simp
  refine ⟨(List.range s.length).map fun i => (ptAt s i, f i), ?_, ?_, ?_⟩
  · rw [List.map_map]
    apply List.ext_getElem
    · simp
    · intro i h1 h2
      simp [ptAt_eq (show i < s.length by simpa using h2)]
  · intro p hp
    obtain ⟨i, hi, rfl⟩ := List.mem_map.1 hp
    have hi' : i < s.length := by simpa using hi
    obtain ⟨b, off, _, _, _, h3⟩ := hf i hi' hi'
    simp only [ptAt_eq hi']
    exact h3
  · have := src_of (w := w) (sz := 2) (by decide) encP (fun _ => rfl) (a := a) (cap := cap) (l := (List.range s.length).map fun i => (ptAt s i, f i)) hn (fun i hi => by
      have hi' : i < s.length := by simpa using hi
      obtain ⟨b, off, hb, h1, h2, _⟩ := hf i hi' hi'
      refine ⟨b, off, hb, fun j hj => ?_⟩
      match j, hj with
      | 0, _ => simpa [encP, ptAt_eq hi'] using h1
      | 1, _ => simpa [encP] using h2)
    rw [hlen] at this
    exact this
theorem own_at {α : Type} {w : World} {base : Nat} {e : TypeId} {sz : Nat} {f : α → List Value} (hf : ∀ x, (f x).length = sz) (h0 : 0 < sz) {v : Value} {l : List α} (h : w.ownsRow base e sz v l.length (l.flatMap f)) :
    ∃ a cap, v = .slice a l.length cap ∧ (a = none → cap = 0) ∧ ∀ i (hi : i < l.length), ∃ b off, a = some ⟨b, off, none⟩ ∧ ∀ j, j < sz → w.cell? ⟨b, off + i * sz + j, none⟩ = (f l[i])[j]? := by
  have hn : ∀ a cap, v = .slice a l.length cap → a = none → cap = 0 := by
    rintro a cap rfl rfl
    rcases h.2 with ⟨h1, _⟩ | ⟨g, cap, cur, h0, _⟩
    · injection h1
    · cases h0
  obtain ⟨a, cap, rfl⟩ := own_form h
  refine ⟨a, cap, rfl, hn a cap rfl, fun i hi => ?_⟩
  have key : ∀ j, j < sz → i * sz + j < l.length * sz := fun j hj => by
    have : (i + 1) * sz ≤ l.length * sz := Nat.mul_le_mul_right _ hi
    rw [Nat.add_mul, Nat.one_mul] at this
    omega
  obtain ⟨g, rfl, _⟩ := own_cell h (j := i * sz + 0) (key 0 h0)
  refine ⟨g, 0, rfl, fun j hj => ?_⟩
  obtain ⟨g', hg, hc⟩ := own_cell h (j := i * sz + j) (key j hj)
  injection hg with hg
  injection hg with hg
  subst hg
  rw [Nat.zero_add, hc, flat_get sz f hf l i j hi hj]
theorem TsAt.own {w : World} {base : Nat} {v : Value} {l : List Ts} (h : w.ownsRow base 152 3 v l.length (l.flatMap encT)) : TsAt w v l := by
  obtain ⟨a, cap, rfl, hn, hc⟩ := own_at (sz := 3) (f := encT) (fun _ => rfl) (by decide) h
  refine ⟨a, cap, rfl, hn, fun i hi => ?_⟩
  obtain ⟨b, off, rfl, hh⟩ := hc i hi
  exact ⟨b, off, rfl, hh 0 (by decide), hh 1 (by decide), hh 2 (by decide)⟩
theorem PsAt.own {w : World} {base : Nat} {v : Value} {LV : List (Pt × Value)} (h : w.ownsRow base 150 2 v LV.length (LV.flatMap encP)) (hs : ∀ p ∈ LV, TsAt w p.2 p.1.tests) : PsAt w v (LV.map (·.1)) := by
  obtain ⟨a, cap, rfl, hn, hc⟩ := own_at (sz := 2) (f := encP) (fun _ => rfl) (by decide) h
  refine ⟨a, cap, by simp, hn, fun i hi => ?_⟩
  have hi' : i < LV.length := by simpa using hi
  obtain ⟨b, off, rfl, hh⟩ := hc i hi'
  refine ⟨b, off, rfl, ?_, LV[i].2, hh 1 (by decide), ?_⟩
  · have := hh 0 (by decide)
    rw [List.getElem_map]
    exact this
  · have := hs LV[i] (List.getElem_mem hi')
    simpa using this
end Go.Proofs.YtblkldfokeeaeacGreatDoor
namespace Go.Proofs.YtblkldfokeeaeacGreatDoor
open Go.RowKit
def eD (c : Nat → Option Value) (x : Dc) : Prop := c 0 = some (.string x.name) ∧ c 1 = some (.string x.val) ∧ c 2 = some (.bool x.strong)
def DsAt (w : World) (v : Value) (l : List Dc) : Prop := Sl w 3 eD v l
def eB (c : Nat → Option Value) (x : ByteArray) : Prop := c 0 = some (.string x)
def BsAt (w : World) (v : Value) (l : List ByteArray) : Prop := Sl w 1 eB v l
variable {w w' : World} {v : Value}
theorem DsAt.ext {l : List Dc} (h : DsAt w v l) (e : Ext w w') : DsAt w' v l :=
  Sl.mono h fun _ _ _ ⟨h0, h1, h2⟩ => ⟨e _ _ _ h0, e _ _ _ h1, e _ _ _ h2⟩
theorem BsAt.ext {l : List ByteArray} (h : BsAt w v l) (e : Ext w w') : BsAt w' v l :=
  Sl.mono h fun _ _ _ h0 => e _ _ _ h0
theorem eD.cells {w : World} {b o : Nat} {x : Dc} (h : eD (fun j => w.cell? ⟨b, o + j, none⟩) x) : w.cell? ⟨b, o, none⟩ = some (.string x.name) ∧ w.cell? ⟨b, o + 1, none⟩ = some (.string x.val) ∧ w.cell? ⟨b, o + 2, none⟩ = some (.bool x.strong) := h
theorem eB.cells {w : World} {b o : Nat} {x : ByteArray} (h : eB (fun j => w.cell? ⟨b, o + j, none⟩) x) : w.cell? ⟨b, o, none⟩ = some (.string x) := h
def SmD (x : Dc) : Prop := x.name.size ≤ lim ∧ x.val.size ≤ lim
def SmDs (l : List Dc) : Prop := l.length ≤ lim ∧ ∀ x ∈ l, SmD x
def encD (d : Dc) : List Value := [.string d.name, .string d.val, .bool d.strong]
def encB (x : ByteArray) : List Value := [.string x]
theorem Tryz.infoD : (Tryz.prog.info? 40).map (fun i => (i.zero, i.size, i.bytes)) = some (some (.agg #[.string ⟨#[]⟩, .string ⟨#[]⟩, .bool false]), 3, 40) := by kernel_rfl
theorem Tryz.infoS : (Tryz.prog.info? 9).map (fun i => (i.zero, i.size, i.bytes)) = some (some (.string ⟨#[]⟩), 1, 16) := by kernel_rfl
theorem DsAt.src {w : World} {a : Option Addr} {n cap : Nat} {ds : List Dc} (h : DsAt w (.slice a n cap) ds) : Src w (.slice a ds.length cap) ds.length (ds.flatMap encD) := by
  obtain ⟨a', cap', e, hn, h⟩ := h
  injection e with e1 e2 e3
  subst e1 e3
  refine src_of (sz := 3) (by decide) encD (fun _ => rfl) hn fun i hi => ?_
  obtain ⟨b, off, rfl, h0, h1, h2⟩ := h i hi
  refine ⟨b, off, rfl, fun j hj => ?_⟩
  match j, hj with
  | 0, _ => exact h0
  | 1, _ => exact h1
  | 2, _ => exact h2
theorem DsAt.own {w : World} {base : Nat} {v : Value} {l : List Dc} (h : w.ownsRow base 40 3 v l.length (l.flatMap encD)) : DsAt w v l := by
  obtain ⟨a, cap, rfl, hn, hc⟩ := own_at (sz := 3) (f := encD) (fun _ => rfl) (by decide) h
  refine ⟨a, cap, rfl, hn, fun i hi => ?_⟩
  obtain ⟨b, off, rfl, hh⟩ := hc i hi
  exact ⟨b, off, rfl, hh 0 (by decide), hh 1 (by decide), hh 2 (by decide)⟩
theorem BsAt.own {w : World} {base : Nat} {v : Value} {l : List ByteArray} (h : w.ownsRow base 9 1 v l.length (l.flatMap encB)) : BsAt w v l := by
  obtain ⟨a, cap, rfl, hn, hc⟩ := own_at (sz := 1) (f := encB) (fun _ => rfl) (by decide) h
  refine ⟨a, cap, rfl, hn, fun i hi => ?_⟩
  obtain ⟨b, off, rfl, hh⟩ := hc i hi
  exact ⟨b, off, rfl, hh 0 (by decide)⟩
theorem ret_str {a b : ByteArray} (h : a = b) : Ending.returned (.string a) = .returned (.string b) := by rw [h]
theorem ds_new (w : World) (d : Dc) : DsAt (w.alloc (.cells #[.string d.name, .string d.val, .bool d.strong] 40)) (.slice (some ⟨w.heap.size, 0, none⟩) 1 1) [d] := by
  refine ⟨_, 1, rfl, nofun, fun i hi => ⟨w.heap.size, 0, rfl, ?_⟩⟩
  obtain rfl : i = 0 := by simp at hi; omega
  exact ⟨by show World.cell? _ ⟨_, 0, none⟩ = _; rw [cell_new]; rfl, by show World.cell? _ ⟨_, 1, none⟩ = _; rw [cell_new]; rfl, by show World.cell? _ ⟨_, 2, none⟩ = _; rw [cell_new]; rfl⟩
theorem src_one {w : World} {b : Nat} {d : Dc} (h0 : w.cell? ⟨b, 0, none⟩ = some (.string d.name)) (h1 : w.cell? ⟨b, 1, none⟩ = some (.string d.val)) (h2 : w.cell? ⟨b, 2, none⟩ = some (.bool d.strong)) (c : Nat) : Src w (.slice (some ⟨b, 0, none⟩) 1 c) 1 (encD d) := by
  refine .inr ⟨⟨b, 0, none⟩, c, rfl, fun j e he => ?_⟩
  rw [addr_add, Nat.zero_add]
  match j with
  | 0 => simp [encD] at he; rw [h0, he]
  | 1 => simp [encD] at he; rw [h1, he]
  | 2 => simp [encD] at he; rw [h2, he]
  | j + 3 => simp [encD] at he
theorem us40 : Tryz.prog.underlying 40 = some (.struct (Tryz.prog.fieldsOf 40)) := by kernel_rfl
theorem st40 : Tryz.prog.stoodInHeld 40 = false := by kernel_rfl
theorem fs40 : (Tryz.prog.fieldsOf 40).toList.map (fun f => (f.name, f.type, f.offset)) = [("Name", 9, 0), ("Val", 9, 1), ("Strong", 4, 2)] := by kernel_rfl
theorem eg40 : Tryz.prog.eqGuardType Tryz.prog.depth 40 = false := by kernel_rfl
theorem fields_eq (P : Program) (d : Nat) (xs ys : Array Value) (w : World) : ∀ fs : List Field, (∀ f ∈ fs, ∃ a b, (Go.part f.type xs f.offset).run P w = .ok a w ∧ (Go.part f.type ys f.offset).run P w = .ok b w ∧ (Op.equalIn d f.type a b).run P w = .ok true w) → (Op.eqFields d xs ys fs).run P w = .ok true w
  | [], _ => by simp [Op.eqFields]
  | f :: fs, h => by
    obtain ⟨a, b, h1, h2, h3⟩ := h f (List.mem_cons_self ..)
    have ih := fields_eq P d xs ys w fs (fun g hg => h g (List.mem_cons_of_mem _ hg))
    simp only [Op.eqFields]
    split
    · simp [Sem.run_bind, h1, h2, h3, ih]
    · exact ih
theorem seq40 (d : Nat) (a b : ByteArray) (t : Bool) (w : World) : (Op.equalIn (d + 2) 40 (.agg #[.string a, .string b, .bool t]) (.agg #[.string a, .string b, .bool t])).run Tryz.prog w = .ok true w := by
  rw [run_equalIn_struct w (d + 1) 40 _ _ us40 st40]
  refine fields_eq _ _ _ _ _ _ fun g hg => ?_
  have hm : (g.name, g.type, g.offset) ∈ [("Name", 9, 0), ("Val", 9, 1), ("Strong", 4, 2)] := by rw [← fs40]; exact List.mem_map_of_mem hg
  simp at hm
  rcases hm with ⟨_, h1, h2⟩ | ⟨_, h1, h2⟩ | ⟨_, h1, h2⟩
  · rw [h1, h2]
    refine ⟨.string a, .string a, by simp [Go.part, go_sem], by simp [Go.part, go_sem], ?_⟩
    rw [run_equalIn_string w d 9 a a Tryz.underlying9]; simp
  · rw [h1, h2]
    refine ⟨.string b, .string b, by simp [Go.part, go_sem], by simp [Go.part, go_sem], ?_⟩
    rw [run_equalIn_string w d 9 b b Tryz.underlying9]; simp
  · rw [h1, h2]
    refine ⟨.bool t, .bool t, by simp [Go.part, go_sem], by simp [Go.part, go_sem], ?_⟩
    rw [run_equalIn_bool' w d 4 t t Tryz.underlying4]; simp
theorem sneq40 (a b : ByteArray) (t : Bool) (w : World) : (binOp .neq 40 (.agg #[.string a, .string b, .bool t]) (.agg #[.string a, .string b, .bool t])).run Tryz.prog w = .ok (.bool false) w := by
  rw [run_neq_struct, seq40 9998]; rfl
end Go.Proofs.YtblkldfokeeaeacGreatDoor
namespace Go.Proofs.YtblkldfokeeaeacGreatDoor
open Go.RowKit
structure Tab (w : World) : Prop where
  s0 : w.cell? ⟨0, 0, none⟩ = some (.string sd0)
  s1 : w.cell? ⟨0, 1, none⟩ = some (.string sd1)
  s2 : w.cell? ⟨0, 2, none⟩ = some (.string sd2)
  s3 : w.cell? ⟨0, 3, none⟩ = some (.string sd3)
  i0 : w.cell? ⟨1, 0, none⟩ = some (.int .i64 0)
  i1 : w.cell? ⟨1, 1, none⟩ = some (.int .i64 0)
  i2 : w.cell? ⟨1, 2, none⟩ = some (.int .i64 0)
  i3 : w.cell? ⟨1, 3, none⟩ = some (.int .i64 1)
  mx : ∃ m : Int, w.cell? ⟨2, 0, none⟩ = some (.int .i64 m)
theorem Tab.ext {w w' : World} (h : Tab w) (e : Ext w w') : Tab w' := ⟨e _ _ _ h.s0, e _ _ _ h.s1, e _ _ _ h.s2, e _ _ _ h.s3, e _ _ _ h.i0, e _ _ _ h.i1, e _ _ _ h.i2, e _ _ _ h.i3, h.mx.imp fun _ hm => e _ _ _ hm⟩
def FB (w : World) (T : Nat) (a b c d : ByteArray) : Prop := w.heap[T]? = some (.cells #[.string a, .string b, .string c, .string d] 184 (0, 0))
theorem FB.cell {w : World} {T : Nat} {a b c d : ByteArray} (h : FB w T a b c d) : w.cell? ⟨T, 0, none⟩ = some (.string a) ∧ w.cell? ⟨T, 1, none⟩ = some (.string b) ∧ w.cell? ⟨T, 2, none⟩ = some (.string c) ∧ w.cell? ⟨T, 3, none⟩ = some (.string d) := by
  unfold FB at h
  unfold World.cell?
  rw [h]
  exact ⟨rfl, rfl, rfl, rfl⟩
theorem FB.fz {w : World} {T : Nat} {a b c d : ByteArray} (h : FB w T a b c d) : w.frozen? ⟨T, 0, none⟩ = false ∧ w.frozen? ⟨T, 1, none⟩ = false ∧ w.frozen? ⟨T, 2, none⟩ = false ∧ w.frozen? ⟨T, 3, none⟩ = false := by
  unfold FB at h
  simp [World.frozen?, h]
theorem FB.lt {w : World} {T : Nat} {a b c d : ByteArray} (h : FB w T a b c d) : T < w.heap.size := (Array.getElem?_eq_some_iff.1 h).1
theorem FB.keep {w w' : World} {T : Nat} {a b c d : ByteArray} (h : FB w T a b c d) (e : w'.heap[T]? = w.heap[T]?) : FB w' T a b c d := by
  unfold FB at h ⊢; rw [e]; exact h
theorem FB.alloc {w : World} {T : Nat} {a b c d : ByteArray} (h : FB w T a b c d) (o : Obj) : FB (w.alloc o) T a b c d := h.keep (Below.heap_alloc _ _ _ h.lt)
theorem FB.other {w : World} {T : Nat} {a b c d : ByteArray} (h : FB w T a b c d) {p : Addr} (hp : T ≠ p.block) (v : Value) : FB (w.setCell p v) T a b c d := h.keep (Below.heap_setCell _ _ _ _ hp)
theorem FB.set0 {w : World} {T : Nat} {a b c d : ByteArray} (h : FB w T a b c d) (x : ByteArray) : FB (w.setCell ⟨T, 0, none⟩ (.string x)) T x b c d := by
  unfold FB at h ⊢
  simp [World.setCell, Array.getElem?_modify, h]
theorem FB.set1 {w : World} {T : Nat} {a b c d : ByteArray} (h : FB w T a b c d) (x : ByteArray) : FB (w.setCell ⟨T, 1, none⟩ (.string x)) T a x c d := by
  unfold FB at h ⊢
  simp [World.setCell, Array.getElem?_modify, h]
theorem FB.set2 {w : World} {T : Nat} {a b c d : ByteArray} (h : FB w T a b c d) (x : ByteArray) : FB (w.setCell ⟨T, 2, none⟩ (.string x)) T a b x d := by
  unfold FB at h ⊢
  simp [World.setCell, Array.getElem?_modify, h]
theorem FB.set3 {w : World} {T : Nat} {a b c d : ByteArray} (h : FB w T a b c d) (x : ByteArray) : FB (w.setCell ⟨T, 3, none⟩ (.string x)) T a b c x := by
  unfold FB at h ⊢
  simp [World.setCell, Array.getElem?_modify, h]
theorem FB.new (w : World) (a b c d : ByteArray) : FB (w.alloc (.cells #[.string a, .string b, .string c, .string d] 184)) w.heap.size a b c d := heap_alloc_new _ _
def fillV (ws : List ByteArray) : Value := .agg #[.string (v0 ws), .string (v1 ws), .string (v2 ws), .string (v3 ws)]
theorem getD_in {l : List ByteArray} {j : Nat} (h : j < l.length) (a b : ByteArray) : l.getD j a = l.getD j b := by simp [List.getD, h]
theorem getD_out {l : List ByteArray} {j : Nat} (h : ¬ j < l.length) (a : ByteArray) : l.getD j a = a := by
  have : l[j]? = none := by simp; omega
  simp [List.getD, this]
def up (k j : Nat) (x : ByteArray) : ByteArray := if j < k then x else ⟨#[]⟩
set_option maxRecDepth 100000 in
set_option maxHeartbeats 4000000 in
theorem fill_any (gv : Value) (ws : List ByteArray) (w : World) (hW : BsAt w gv ws) (h0 : 0 < ws.length) (h4 : ws.length ≤ 4) (hT : Tab w) :
    Calls Tryz.prog 164 #[gv] w fun e w' => e = .returned (fillV ws) ∧ Below w.heap.size w w' := by
  obtain ⟨sa, scap, rfl⟩ := Sl.form hW
  have HP := hid hW
  have HT := hid hT
  clear hW hT
  go_enter Tryz.func164, Tryz.ntmps164
  go_wp2_with fail
  have HW0 := hid (FB.new (w.alloc (.cells #[.string ⟨#[]⟩, .string ⟨#[]⟩, .string ⟨#[]⟩, .string ⟨#[]⟩] 184)) ⟨#[]⟩ ⟨#[]⟩ ⟨#[]⟩ ⟨#[]⟩)
  have HR0 := hid ((FB.new w ⟨#[]⟩ ⟨#[]⟩ ⟨#[]⟩ ⟨#[]⟩).alloc (.cells #[.string ⟨#[]⟩, .string ⟨#[]⟩, .string ⟨#[]⟩, .string ⟨#[]⟩] 184))
  have HB0 : Hid (Below w.heap.size w ((w.alloc (.cells #[.string ⟨#[]⟩, .string ⟨#[]⟩, .string ⟨#[]⟩, .string ⟨#[]⟩] 184)).alloc (.cells #[.string ⟨#[]⟩, .string ⟨#[]⟩, .string ⟨#[]⟩, .string ⟨#[]⟩] 184))) := ((Below.refl _ _).alloc (Nat.le_refl _) _).alloc (by simp) _
  rw [show (w.alloc (.cells #[.string ⟨#[]⟩, .string ⟨#[]⟩, .string ⟨#[]⟩, .string ⟨#[]⟩] 184)).heap.size = w.heap.size + 1 by simp] at HW0
  generalize (w.alloc (.cells #[.string ⟨#[]⟩, .string ⟨#[]⟩, .string ⟨#[]⟩, .string ⟨#[]⟩] 184)).alloc (.cells #[.string ⟨#[]⟩, .string ⟨#[]⟩, .string ⟨#[]⟩, .string ⟨#[]⟩] 184) = W at *
  go_loopg [5] 4 (fun n i wr => ∃ k : Nat, n = 4 - k ∧ k ≤ 4 ∧ i = .int .i64 (k : Int) ∧ FB wr (w.heap.size + 1) (up k 0 (v0 ws)) (up k 1 (v1 ws)) (up k 2 (v2 ws)) (up k 3 (v3 ws)) ∧ FB wr w.heap.size ⟨#[]⟩ ⟨#[]⟩ ⟨#[]⟩ ⟨#[]⟩ ∧ Below w.heap.size w wr)
  case atStart => exact ⟨0, rfl, Nat.zero_le _, rfl, HW0.out, HR0.out, HB0.out⟩
  case round =>
    clear HW0 HR0 HB0
    obtain ⟨k, hn, hk, rfl, hW, hR, hB⟩ := hrel
    have GK := hid hn
    have HW := hid hW
    have HR := hid hR
    have HB := hid hB
    have hTT := HT.out.ext (Ext.below hB)
    have hBs := HP.out.ext (Ext.below hB)
    rename World => wo
    clear hn hR hB
    have key : ∀ j, j < ws.length → ∃ b off, sa = some ⟨b, off, none⟩ ∧ wo.cell? ⟨b, off + j, none⟩ = some (.string (ws.getD j ⟨#[]⟩)) := fun j hj => by
      obtain ⟨b, off, h1, h2⟩ := Sl.at hBs hj
      refine ⟨b, off, h1, ?_⟩
      have := h2.cells
      rw [Nat.mul_one] at this
      rw [this]
      simp [List.getD, hj]
    clear hBs
    match k, hk with
    | 0, _ =>
      obtain ⟨f0, f1, f2, f3⟩ := hW.fz
      obtain ⟨w0, w1, w2, w3⟩ := hW.cell
      have hTl := hW.lt
      simp only [up, Nat.reduceLT, if_false] at w0 w1 w2 w3
      clear hW
      have hj := h0
      obtain ⟨b, off, rfl, hc⟩ := key 0 hj
      have hc' : wo.cell? ⟨b, off + 0, none⟩ = some (.string (v0 ws)) := by rw [hc]; rfl
      rw [Nat.add_zero] at hc'
      clear key hc
      go_wp2_with fail
      go_roundg (4 - 1)
      case measure => have := GK.out; omega
      case rel => exact ⟨1, rfl, by omega, by go_num, HW.out.set0 (v0 ws), HR.out.other (by simp) _, HB.out.setCell (by simp) _⟩
    | 1, _ =>
      obtain ⟨f0, f1, f2, f3⟩ := hW.fz
      obtain ⟨w0, w1, w2, w3⟩ := hW.cell
      have hTl := hW.lt
      simp only [up, Nat.reduceLT, if_true, if_false] at w0 w1 w2 w3
      clear hW
      by_cases hj : 1 < ws.length
      · obtain ⟨b, off, rfl, hc⟩ := key 1 hj
        have hc' : wo.cell? ⟨b, off + 1, none⟩ = some (.string (v1 ws)) := by rw [hc]; rw [getD_in hj _ (v0 ws)]; rfl
        clear key hc
        go_wp2_with fail
        go_roundg (4 - 2)
        case measure => have := GK.out; omega
        case rel => exact ⟨2, rfl, by omega, by go_num, HW.out.set1 (v1 ws), HR.out.other (by simp) _, HB.out.setCell (by simp) _⟩
      · obtain ⟨t0, t1, t2, t3, i0, i1, i2, i3, _⟩ := hTT
        clear key t0 t1 t2 t3
        have he : v1 ws = v0 ws := getD_out hj _
        have HE := hid he
        clear he
        go_wp2_with fail
        go_roundg (4 - 2)
        case measure => have := GK.out; omega
        case rel => exact ⟨2, rfl, by omega, by go_num, by have := HW.out.set1 (v1 ws); rw [HE.out] at this ⊢; exact this, HR.out.other (by simp) _, HB.out.setCell (by simp) _⟩
    | 2, _ =>
      obtain ⟨f0, f1, f2, f3⟩ := hW.fz
      obtain ⟨w0, w1, w2, w3⟩ := hW.cell
      have hTl := hW.lt
      simp only [up, Nat.reduceLT, if_true, if_false] at w0 w1 w2 w3
      clear hW
      by_cases hj : 2 < ws.length
      · obtain ⟨b, off, rfl, hc⟩ := key 2 hj
        have hc' : wo.cell? ⟨b, off + 2, none⟩ = some (.string (v2 ws)) := by rw [hc]; rw [getD_in hj _ (v0 ws)]; rfl
        clear key hc
        go_wp2_with fail
        go_roundg (4 - 3)
        case measure => have := GK.out; omega
        case rel => exact ⟨3, rfl, by omega, by go_num, HW.out.set2 (v2 ws), HR.out.other (by simp) _, HB.out.setCell (by simp) _⟩
      · obtain ⟨t0, t1, t2, t3, i0, i1, i2, i3, _⟩ := hTT
        clear key t0 t1 t2 t3
        have he : v2 ws = v0 ws := getD_out hj _
        have HE := hid he
        clear he
        go_wp2_with fail
        go_roundg (4 - 3)
        case measure => have := GK.out; omega
        case rel => exact ⟨3, rfl, by omega, by go_num, by have := HW.out.set2 (v2 ws); rw [HE.out] at this ⊢; exact this, HR.out.other (by simp) _, HB.out.setCell (by simp) _⟩
    | 3, _ =>
      obtain ⟨f0, f1, f2, f3⟩ := hW.fz
      obtain ⟨w0, w1, w2, w3⟩ := hW.cell
      have hTl := hW.lt
      simp only [up, Nat.reduceLT, if_true, if_false] at w0 w1 w2 w3
      clear hW
      by_cases hj : 3 < ws.length
      · obtain ⟨b, off, rfl, hc⟩ := key 3 hj
        have hc' : wo.cell? ⟨b, off + 3, none⟩ = some (.string (v3 ws)) := by rw [hc]; rw [getD_in hj _ (v1 ws)]; rfl
        clear key hc
        go_wp2_with fail
        go_roundg (4 - 4)
        case measure => have := GK.out; omega
        case rel => exact ⟨4, rfl, by omega, by go_num, HW.out.set3 (v3 ws), HR.out.other (by simp) _, HB.out.setCell (by simp) _⟩
      · obtain ⟨t0, t1, t2, t3, i0, i1, i2, i3, _⟩ := hTT
        clear key t0 t1 t2 t3
        have he : v3 ws = v1 ws := getD_out hj _
        have HE := hid he
        clear he
        go_wp2_with fail
        go_roundg (4 - 4)
        case measure => have := GK.out; omega
        case rel => exact ⟨4, rfl, by omega, by go_num, by have := HW.out.set3 (v3 ws); rw [HE.out] at this ⊢; exact this, HR.out.other (by simp) _, HB.out.setCell (by simp) _⟩
    | 4, _ =>
      obtain ⟨w0, w1, w2, w3⟩ := hW.cell
      simp only [up, Nat.reduceLT, if_true] at w0 w1 w2 w3
      obtain ⟨r0, r1, r2, r3⟩ := HR.out.cell
      obtain ⟨f0, f1, f2, f3⟩ := HR.out.fz
      clear hW key
      go_wp2_with fail
      obtain ⟨q0, q1, q2, q3⟩ := ((((HR.out.set0 (v0 ws)).set1 (v1 ws)).set2 (v2 ws)).set3 (v3 ws)).cell
      refine bodyPost_ret (v := fillV ws) (by simp [results, Tryz.results164, go_sem, q0, q1, q2, q3, fillV]) rfl ⟨rfl, ?_⟩
      exact (((HB.out.setCell (Nat.le_refl _) _).setCell (Nat.le_refl _) _).setCell (Nat.le_refl _) _).setCell (Nat.le_refl _) _
end Go.Proofs.YtblkldfokeeaeacGreatDoor
