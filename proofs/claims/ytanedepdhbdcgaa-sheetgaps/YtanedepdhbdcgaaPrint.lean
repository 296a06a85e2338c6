/-
  What copyCheck and WriteString of a strings.Builder do at this program, and what Print of package sheet does: the plain text of the SheetSpec text. Conditions: at most 100 declarations, of names and values of at most 6000 bytes.
-/
import Derived.Test.YtanedepdhbdcgaaSheetA
import Derived.Test.YtanedepdhbdcgaaShelfB
import Derived.Laws.Externs
import Derived.Lib.OthersKept
import Derived.Deep.CutRange
namespace Go.Proofs.Ytanedepdhbdcgaa
open Go.RowKit

theorem sizeB : (Try.prog.info? 80).map (·.size) = some 2 := by kernel_rfl
theorem liesB : liesAt Try.prog Try.prog.depth 80 (2 / Try.prog.cellsOf 80) 0 80 1 = true := by kernel_rfl
theorem Try.info5 : (Try.prog.info? 5).map (fun i => (i.zero, i.size, i.bytes)) = some (some (.int .u8 0), 1, 1) := by kernel_rfl

set_option maxHeartbeats 1000000 in
theorem copyCheck_self (b : Nat) (w : World) (h0 : w.cell? ⟨b, 0, none⟩ = some (.pointer (some ⟨b, 0, none⟩))) :
    Calls Try.prog 74 #[.pointer (some ⟨b, 0, none⟩)] w fun e w' => e = .returned (.tuple #[]) ∧ w' = w := by
  obtain ⟨j, hj, _⟩ := Option.map_eq_some_iff.1 sizeB
  have hne := fun w => Lib.run_neq_ptr_same w ⟨b, 0, none⟩ Try.underlying78 hj
  go_enter Try.func74, Try.ntmps74
  go_wp2_with fail
  go_end0
  exact ⟨rfl, rfl⟩

set_option maxHeartbeats 1000000 in
theorem copyCheck_new (b : Nat) (w : World) (h0 : w.cell? ⟨b, 0, none⟩ = some (.pointer none)) (hsh : w.shape? b = some (80, 2)) (hfz : w.frozen? ⟨b, 0, none⟩ = false) :
    Calls Try.prog 74 #[.pointer (some ⟨b, 0, none⟩)] w fun e w' => e = .returned (.tuple #[]) ∧ w' = w.setCell ⟨b, 0, none⟩ (.pointer (some ⟨b, 0, none⟩)) := by
  obtain ⟨j, hj, hjs⟩ := Option.map_eq_some_iff.1 sizeB
  have c1 := Lib.run_to_unsafe w ⟨b, 0, none⟩ Try.underlying78 Try.underlying113 hj (by rw [hjs]; decide) hsh (Nat.zero_lt_succ 1)
  have c2 : ∀ x : Value, Sem.run Try.prog (callFunc 85 #[x]) w = .ok (.value x) w := fun x => by
    rw [run_callFunc_extern Try.func85 (by kernel_rfl) (by kernel_rfl) (by kernel_rfl) (e := Extern.AbiNoEscape.same) (by kernel_rfl), Lib.run_noEscape]
    rfl
  have c3 := Lib.run_from_unsafe w ⟨b, 0, none⟩ Try.underlying113 Try.underlying78 hj hsh liesB
  have hne := fun w => Lib.run_neq_ptr_same w ⟨b, 0, none⟩ Try.underlying78 hj
  go_enter Try.func74, Try.ntmps74
  go_wp2_with fail
  go_end0
  exact ⟨rfl, rfl⟩

/-- The builder in block b, its rows from B on, holds the bytes l. -/
def Bld (w : World) (B b : Nat) (l : List UInt8) : Prop := Lib.IsBuilder 80 5 B b (Lib.byteCells l) w

theorem Keeps.others {b : Nat} {w w' : World} (h : Lib.OthersKept 5 (some b) w w') (hb : ∃ c fz, w.heap[b]? = some (.cells c 80 fz)) : Keeps (fun U => U ≠ 5 ∧ U ≠ 80) w w' := by
  intro j cur U fz hU hj
  obtain ⟨c, z, hb⟩ := hb
  rw [h j _ hj (fun h => ?_) (fun c z h => ?_)]
  · exact hj.symm
  · injection h with h
    subst h
    rw [hb] at hj
    injection hj with hj
    injection hj with _ h2 _
    exact hU.2 h2.symm
  · injection h with _ h2 _
    exact hU.1 h2

set_option maxRecDepth 100000 in
set_option maxHeartbeats 1000000 in
theorem writeString_any (B b : Nat) (l : List UInt8) (s : ByteArray) (w : World) (h : Bld w B b l) (hlen : l.length + s.size ≤ 140737488355328) (hBw : B ≤ w.heap.size) :
    Calls Try.prog 47 #[.pointer (some ⟨b, 0, none⟩), .string s] w fun e w' => e = .returned (.tuple #[.int .i64 s.size, .nilIface]) ∧ Bld w' B b (l ++ s.data.toList) ∧ Below B w w' ∧ Keeps (fun U => U ≠ 5 ∧ U ≠ 80) w w' := by
  obtain ⟨i0, hi, hz0, hz1, hz2⟩ := info_parts' Try.info5
  have HI := hid hi
  have HZ : Hid (i0.zero = some (.int .u8 0) ∧ i0.size = 1 ∧ i0.bytes = 1) := ⟨hz0, hz1, hz2⟩
  clear hi hz0 hz1 hz2
  have cc : Calls Try.prog 74 #[.pointer (some ⟨b, 0, none⟩)] w fun e w' => e = .returned (.tuple #[]) ∧ Lib.BuilderAt 80 5 B b (.pointer (some ⟨b, 0, none⟩)) (Lib.byteCells l) w' ∧ Below B w w' ∧ Lib.OthersKept 5 (some b) w w' := by
    rcases h with h | h
    · refine (copyCheck_new b w h.cell0 h.shape h.frozen0).mono ?_
      rintro e w' ⟨rfl, rfl⟩
      exact ⟨rfl, h.used _, (Below.refl B w).setCell (p := ⟨b, 0, none⟩) h.1 _, (Lib.OthersKept.refl _ _ _).setCell ⟨b, 0, none⟩ rfl _⟩
    · refine (copyCheck_self b w h.cell0).mono ?_
      rintro e w' ⟨rfl, hw⟩
      obtain rfl := hw.symm
      exact ⟨rfl, h, Below.refl B _, Lib.OthersKept.refl _ _ _⟩
  have hb80 : ∃ c fz, w.heap[b]? = some (.cells c 80 fz) := by
    rcases h with ⟨_, v, h, _⟩ | ⟨_, v, h, _⟩
    · exact ⟨_, _, h⟩
    · exact ⟨_, _, h⟩
  have CC := hid cc
  clear cc
  go_enter Try.func47, Try.ntmps47
  go_wp2_with fail
  refine CC.out.mono ?_
  rintro e w1 ⟨rfl, h1, hb1, hk1⟩
  obtain ⟨hB, v, hbk, hown, hne⟩ := h1
  rw [Lib.byteCells_length] at hown
  have c1 : w1.cell? ⟨b, 1, none⟩ = some v := by rw [cell_of hbk]; rfl
  have z1 := hb1.size
  go_wp2_with (at_builtin; refine Lib.wpList_append_own_string _ rfl (.tmp 12) (.tmp 13) 53 9 rfl B 5 i0 Try.underlying53 Try.underlying9 HI.out HZ.out.1 HZ.out.2.1 HZ.out.2.2 v l.length (Lib.byteCells l) rfl hown s rfl (by unfold maxLen; omega) hlen (by omega) ?_; intro v' w2 hown' hgrow hnil; have hb2 := (hgrow.block b (Array.getElem?_eq_some_iff.1 hbk).1 (fun e => hne e.symm)).trans hbk; have d1 := cell_of hb2 1; have f1 := fz_of hb2 1; simp at d1; obtain ⟨ao, cap, hv'⟩ := own_form hown'; subst hv'; have HW := hid hown'; have HG := hid hgrow; clear hown' hgrow hnil)
  go_ret2
  refine ⟨rfl, .inr ?_, ?_, Keeps.others ((hk1.grown HG.out ?_).setCell ⟨b, 1, none⟩ rfl _) hb80⟩
  · refine Lib.BuilderAt.put (T := 80) (e := 5) hB hb2 ?_ (by decide)
    have := HW.out
    rw [Lib.strCells_eq, ← Lib.byteCells_append] at this
    have hl2 : (Lib.byteCells (l ++ s.data.toList)).length = l.length + s.size := by rw [Lib.byteCells_length, List.length_append, Lib.size_eq]
    rw [hl2]
    exact this
  · exact ((hb1.grown HG.out (by omega) (fun k hk => (hown.lt k hk).1)).setCell (p := ⟨b, 1, none⟩) hB _)
  · intro g hg
    rcases hown.2 with ⟨rfl, _⟩ | ⟨g', cap', cur, rfl, _, hc, _⟩
    · simp [Value.ownBlock] at hg
    · simp [Value.ownBlock] at hg
      subst hg
      exact ⟨_, _, hc⟩

theorem printL_snoc : ∀ (l : List Dcl) (d : Dcl), printL (l ++ [d]) = if l = [] then printOne d else printL l ++ [59, 32] ++ printOne d
  | [], d => by simp [printL]
  | [e], d => by simp [printL]
  | e :: f :: l, d => by
    have := printL_snoc (f :: l) d
    simp only [List.cons_append, printL] at this ⊢
    rw [this]
    simp
theorem printOne_len (d : Dcl) : (printOne d).length ≤ d.name.length + d.val.length + 13 := by
  unfold printOne
  split <;> simp [importantL] <;> omega
theorem printL_len : ∀ (l : List Dcl) (m : Nat), (∀ d ∈ l, (printOne d).length + 2 ≤ m) → (printL l).length ≤ l.length * m
  | [], _, _ => by simp [printL]
  | [d], m, h => by
    have := h d (by simp)
    simp [printL]; omega
  | d :: e :: l, m, h => by
    have h1 := h d (by simp)
    have h2 := printL_len (e :: l) m (fun x hx => h x (List.mem_cons_of_mem _ hx))
    have h3 : (d :: e :: l).length * m = (e :: l).length * m + m := by rw [List.length_cons, Nat.add_mul, Nat.one_mul]
    rw [printL, List.length_append, List.length_append, h3]
    have h4 : ([59, 32] : List UInt8).length = 2 := rfl
    omega

theorem Bld.alloc {w : World} {B b : Nat} {l : List UInt8} (h : Bld w B b l) (o : Obj) : Bld (w.alloc o) B b l := by
  have key : ∀ p, Lib.BuilderAt 80 5 B b p (Lib.byteCells l) w → Lib.BuilderAt 80 5 B b p (Lib.byteCells l) (w.alloc o) := by
    rintro p ⟨h1, v, h2, h3, h4⟩
    exact ⟨h1, v, (Below.heap_alloc w o _ (Array.getElem?_eq_some_iff.1 h2).1).trans h2, World.ownsRow.alloc h3 _, h4⟩
  rcases h with h | h
  · exact .inl (key _ h)
  · exact .inr (key _ h)

set_option maxRecDepth 100000 in
set_option maxHeartbeats 2000000 in
theorem print_any (l : List Dcl) (v : Value) (w : World) (hv : DsAt w v l) (hl : l.length ≤ 100) (hs : ∀ d ∈ l, d.name.length ≤ 6000 ∧ d.val.length ≤ 6000) :
    Calls Try.prog 29 #[v] w fun e w' => e = .returned (.string (bs (printL l))) ∧ Below w.heap.size w w' := by
  obtain ⟨va, vcap, rfl⟩ := own_form hv
  have HV := hid hv
  have HSZ := hid hs
  clear hs hv
  go_enter Try.func29, Try.ntmps29
  go_wp2_with fail
  have bb : Bld (w.alloc (.cells #[.pointer none, .slice none 0 0] 80)) w.heap.size w.heap.size [] := .inl ⟨Nat.le_refl _, .slice none 0 0, heap_alloc_new w _, World.ownsRow_nil _ _ _ _, by simp [Value.ownBlock]⟩
  have bw : Below w.heap.size w (w.alloc (.cells #[.pointer none, .slice none 0 0] 80)) := (Below.refl _ _).alloc (Nat.le_refl _) _
  go_loopg [8] l.length (fun n i wr => ∃ k, k ≤ l.length ∧ n = l.length - k ∧ i = .int .i64 (k : Int) ∧ Bld wr w.heap.size w.heap.size (printL (l.take k)) ∧ Below w.heap.size w wr)
  case atStart => exact ⟨0, Nat.zero_le _, rfl, rfl, by simpa [printL] using bb, bw⟩
  case round =>
    clear bb bw
    obtain ⟨k, hk, hn, rfl, hb, hw⟩ := hrel
    have GK := hid hn
    clear hn
    have zw := hw.size
    by_cases hlt : k < l.length
    · have hd := HSZ.out l[k] (List.getElem_mem hlt)
      have hvr : DsAt wr (.slice va l.length vcap) l := HV.out.keeps (Keeps.below (Ts := fun _ => True) hw) trivial
      have q0 : (l.flatMap encD)[k * 3 + 0]? = some (.string (bs l[k].name)) := flat_get 3 encD (fun _ => rfl) l k 0 hlt (by omega)
      have q1 : (l.flatMap encD)[k * 3 + 1]? = some (.string (bs l[k].val)) := flat_get 3 encD (fun _ => rfl) l k 1 hlt (by omega)
      have q2 : (l.flatMap encD)[k * 3 + 2]? = some (.bool l[k].strong) := flat_get 3 encD (fun _ => rfl) l k 2 hlt (by omega)
      obtain ⟨g, hg, c0⟩ := own_cell hvr (j := k * 3 + 0) (by omega)
      obtain ⟨g1, hg1, c1⟩ := own_cell hvr (j := k * 3 + 1) (by omega)
      obtain ⟨g2, hg2, c2⟩ := own_cell hvr (j := k * 3 + 2) (by omega)
      rw [q0] at c0
      rw [q1] at c1
      rw [q2] at c2
      subst hg
      injection hg1 with hg1
      injection hg1 with hg1
      subst hg1
      injection hg2 with hg2
      injection hg2 with hg2
      subst hg2
      simp only [Nat.add_zero] at c0
      have TK : Hid (printL (l.take (k + 1)) = if k = 0 then printOne l[k] else printL (l.take k) ++ [59, 32] ++ printOne l[k]) := by
        show printL (l.take (k + 1)) = _
        rw [List.take_succ_eq_append_getElem hlt, printL_snoc]
        have : (l.take k = []) ↔ k = 0 := by
          constructor
          · intro h
            have := congrArg List.length h
            rw [List.length_take] at this
            have h0 : min k l.length = 0 := this
            omega
          · rintro rfl; rfl
        by_cases hk0 : k = 0
        · rw [if_pos hk0, if_pos (this.2 hk0)]
        · rw [if_neg hk0, if_neg (fun h => hk0 (this.1 h))]
      have PL : Hid ((printL (l.take k)).length ≤ 100 * 12020) := by
        have h1 := printL_len (l.take k) 12020 (fun d hd => by
          have := printOne_len d
          have := HSZ.out d (List.mem_of_mem_take hd)
          omega)
        have h2 : (l.take k).length ≤ 100 := by rw [List.length_take]; omega
        show (printL (l.take k)).length ≤ 100 * 12020
        exact Nat.le_trans h1 (Nat.mul_le_mul_right _ h2)
      generalize hdk : l[k] = dk at *
      obtain ⟨nm, vl, st⟩ := dk
      simp only at c0 c1 c2 hd
      clear hvr q0 q1 q2 hdk
      obtain ⟨hd1, hd2⟩ := hd
      go_upto_region 5 with fail
      have D1 := heap_alloc_new wr (.cells #[.string (bs nm), .string (bs vl), .bool st] 77)
      have b1 := Bld.alloc hb (.cells #[.string (bs nm), .string (bs vl), .bool st] 77)
      have w1B := hw.alloc zw (.cells #[.string (bs nm), .string (bs vl), .bool st] 77)
      generalize wr.alloc (.cells #[.string (bs nm), .string (bs vl), .bool st] 77) = w1 at D1 b1 w1B ⊢
      generalize wr.heap.size = D at *
      have z1 := w1B.size
      clear c0 c1 c2 hb hw
      have ns := bs_size nm
      have vs := bs_size vl
      have AC : Hid (∃ acc : List UInt8, (if k = 0 then acc = printL (l.take k) else acc = printL (l.take k) ++ [59, 32]) ∧ acc.length ≤ 2000000 ∧ printL (l.take (k + 1)) = acc ++ printOne ⟨nm, vl, st⟩) := by
        have h1 := TK.out
        have h2 := PL.out
        show ∃ acc : List UInt8, _ ∧ _ ∧ _
        by_cases hk0 : k = 0
        · refine ⟨printL (l.take k), by rw [if_pos hk0], by omega, ?_⟩
          rw [h1, if_pos hk0, hk0]
          simp [printL]
        · refine ⟨printL (l.take k) ++ [59, 32], by rw [if_neg hk0], by simp; omega, ?_⟩
          rw [h1, if_neg hk0]
      obtain ⟨acc, ha1, ha2, ha3⟩ := AC.out
      have A1 := hid ha1
      have A3 := hid ha3
      have pl := PL.out
      clear ha1 ha3 AC TK PL
      by_cases hk0 : k = 0
      · have b2 : Bld w1 w.heap.size w.heap.size acc := by have := A1.out; rw [if_pos hk0] at this; rw [this]; exact b1
        have D2 := D1
        have w2B := w1B
        have z2 := z1
        clear b1 D1 w1B
        have d0 := cell_of D2 0
        have d1 := cell_of D2 1
        have d2 := cell_of D2 2
        simp at d0 d1 d2
        go_wp2_with fail
        refine (writeString_any w.heap.size w.heap.size acc _ _ b2 (by rw [ByteArray.size_append, ByteArray.size_append, ns, vs]; show acc.length + (nm.length + 2 + vl.length) ≤ _; omega) z2).mono ?_
        rintro e w3 ⟨rfl, b3', wb3, kk3⟩
        have D3 := (kk3 _ _ _ _ (by decide) D2).trans D2
        have w3B := w2B.trans wb3
        have z3 := w3B.size
        have b3 : Bld w3 w.heap.size w.heap.size (acc ++ (nm ++ [58, 32] ++ vl)) := by
          have e : (bs nm ++ { data := #[58, 32] } ++ bs vl).data.toList = nm ++ [58, 32] ++ vl := by simp [bs]
          rw [e] at b3'
          exact b3'
        clear b2 D2 w2B b3' wb3 kk3 d0 d1 d2 ns vs
        have d2 := cell_of D3 2
        simp at d2
        cases st with
        | false =>
          have FIN : Hid (Bld w3 w.heap.size w.heap.size (printL (l.take (k + 1)))) := by
            show Bld w3 w.heap.size w.heap.size (printL (l.take (k + 1)))
            rw [A3.out]
            simpa [printOne] using b3
          go_wp2_with fail
          go_roundg (l.length - (k + 1))
          case measure => have := GK.out; omega
          case rel => exact ⟨k + 1, by omega, rfl, by go_num, FIN.out, w3B⟩
        | true =>
          go_wp2_with fail
          refine (writeString_any w.heap.size w.heap.size _ ⟨#[32, 33, 105, 109, 112, 111, 114, 116, 97, 110, 116]⟩ _ b3 (by show _ + 11 ≤ _; simp; omega) z3).mono ?_
          rintro e w4 ⟨rfl, b4, wb4, kk4⟩
          have FIN : Hid (Bld w4 w.heap.size w.heap.size (printL (l.take (k + 1)))) := by
            show Bld w4 w.heap.size w.heap.size (printL (l.take (k + 1)))
            rw [A3.out]
            simpa [printOne, importantL] using b4
          have w4B := w3B.trans wb4
          clear b3 b4 wb4 kk4 D3 d2
          go_wp2_with fail
          go_roundg (l.length - (k + 1))
          case measure => have := GK.out; omega
          case rel => exact ⟨k + 1, by omega, rfl, by go_num, FIN.out, w4B⟩
      · have d0' := hid D1
        go_wp2_with fail
        refine (writeString_any w.heap.size w.heap.size (printL (l.take k)) ⟨#[59, 32]⟩ _ b1 (by show _ + 2 ≤ _; omega) z1).mono ?_
        rintro e w2 ⟨rfl, b2', wb2, kk2⟩
        have b2 : Bld w2 w.heap.size w.heap.size acc := by have := A1.out; rw [if_neg hk0] at this; rw [this]; exact b2'
        have D2 := (kk2 _ _ _ _ (by decide) D1).trans D1
        have w2B := w1B.trans wb2
        have z2 := w2B.size
        clear b1 D1 w1B b2' wb2 kk2 d0'
        have d0 := cell_of D2 0
        have d1 := cell_of D2 1
        have d2 := cell_of D2 2
        simp at d0 d1 d2
        go_wp2_with fail
        refine (writeString_any w.heap.size w.heap.size acc _ _ b2 (by rw [ByteArray.size_append, ByteArray.size_append, ns, vs]; show acc.length + (nm.length + 2 + vl.length) ≤ _; omega) z2).mono ?_
        rintro e w3 ⟨rfl, b3', wb3, kk3⟩
        have D3 := (kk3 _ _ _ _ (by decide) D2).trans D2
        have w3B := w2B.trans wb3
        have z3 := w3B.size
        have b3 : Bld w3 w.heap.size w.heap.size (acc ++ (nm ++ [58, 32] ++ vl)) := by
          have e : (bs nm ++ { data := #[58, 32] } ++ bs vl).data.toList = nm ++ [58, 32] ++ vl := by simp [bs]
          rw [e] at b3'
          exact b3'
        clear b2 D2 w2B b3' wb3 kk3 d0 d1 d2 ns vs
        have d2 := cell_of D3 2
        simp at d2
        cases st with
        | false =>
          have FIN : Hid (Bld w3 w.heap.size w.heap.size (printL (l.take (k + 1)))) := by
            show Bld w3 w.heap.size w.heap.size (printL (l.take (k + 1)))
            rw [A3.out]
            simpa [printOne] using b3
          go_wp2_with fail
          go_roundg (l.length - (k + 1))
          case measure => have := GK.out; omega
          case rel => exact ⟨k + 1, by omega, rfl, by go_num, FIN.out, w3B⟩
        | true =>
          go_wp2_with fail
          refine (writeString_any w.heap.size w.heap.size _ ⟨#[32, 33, 105, 109, 112, 111, 114, 116, 97, 110, 116]⟩ _ b3 (by show _ + 11 ≤ _; simp; omega) z3).mono ?_
          rintro e w4 ⟨rfl, b4, wb4, kk4⟩
          have FIN : Hid (Bld w4 w.heap.size w.heap.size (printL (l.take (k + 1)))) := by
            show Bld w4 w.heap.size w.heap.size (printL (l.take (k + 1)))
            rw [A3.out]
            simpa [printOne, importantL] using b4
          have w4B := w3B.trans wb4
          clear b3 b4 wb4 kk4 D3 d2
          go_wp2_with fail
          go_roundg (l.length - (k + 1))
          case measure => have := GK.out; omega
          case rel => exact ⟨k + 1, by omega, rfl, by go_num, FIN.out, w4B⟩
    · have hkl : k = l.length := by omega
      subst hkl
      rw [List.take_length] at hb
      go_wp2_with fail
      refine (Try.Builder_String_any w.heap.size w.heap.size (printL l) _ hb zw).mono ?_
      rintro e w1 ⟨rfl, hb1⟩
      go_wp2_with fail
      go_ret
      exact ⟨rfl, hw.trans hb1⟩
end Go.Proofs.Ytanedepdhbdcgaa
