/- Texts that the statement's proof stands on: Print, FG, FH. -/
import Derived.Test.YtblkldfokeeaeacGreatDoorA23
import Derived.Test.YtblkldfokeeaeacGreatDoorA10
import Derived.Laws.Externs
import Derived.Lib.OthersKept
import Derived.Deep.CutRange
import Derived.Test.YtblkldfokeeaeacGreatDoorA29
namespace Go.Proofs.YtblkldfokeeaeacGreatDoor.Sh
open Go.RowKit
theorem sizeB : (Tryz.prog.info? 122).map (·.size) = some 2 := by kernel_rfl
theorem liesB : liesAt Tryz.prog Tryz.prog.depth 122 (2 / Tryz.prog.cellsOf 122) 0 122 1 = true := by kernel_rfl
theorem Tryz.info5 : (Tryz.prog.info? 5).map (fun i => (i.zero, i.size, i.bytes)) = some (some (.int .u8 0), 1, 1) := by kernel_rfl
set_option maxHeartbeats 1000000 in
theorem copyCheck_self (b : Nat) (w : World) (h0 : w.cell? ⟨b, 0, none⟩ = some (.pointer (some ⟨b, 0, none⟩))) :
    Calls Tryz.prog 91 #[.pointer (some ⟨b, 0, none⟩)] w fun e w' => e = .returned (.tuple #[]) ∧ w' = w := by
  obtain ⟨j, hj, _⟩ := Option.map_eq_some_iff.1 sizeB
  have hne := fun w => Lib.run_neq_ptr_same w ⟨b, 0, none⟩ Tryz.underlying120 hj
  go_enter Tryz.func91, Tryz.ntmps91
  go_wp2_with fail
  go_end0
  exact ⟨rfl, rfl⟩
set_option maxHeartbeats 1000000 in
theorem copyCheck_new (b : Nat) (w : World) (h0 : w.cell? ⟨b, 0, none⟩ = some (.pointer none)) (hsh : w.shape? b = some (122, 2)) (hfz : w.frozen? ⟨b, 0, none⟩ = false) :
    Calls Tryz.prog 91 #[.pointer (some ⟨b, 0, none⟩)] w fun e w' => e = .returned (.tuple #[]) ∧ w' = w.setCell ⟨b, 0, none⟩ (.pointer (some ⟨b, 0, none⟩)) := by
  obtain ⟨j, hj, hjs⟩ := Option.map_eq_some_iff.1 sizeB
  have c1 := Lib.run_to_unsafe w ⟨b, 0, none⟩ Tryz.underlying120 Tryz.underlying212 hj (by rw [hjs]; decide) hsh (Nat.zero_lt_succ 1)
  have c2 : ∀ x : Value, Sem.run Tryz.prog (callFunc 125 #[x]) w = .ok (.value x) w := fun x => by
    rw [run_callFunc_extern Tryz.func125 (by kernel_rfl) (by kernel_rfl) (by kernel_rfl) (e := Extern.AbiNoEscape.same) (by kernel_rfl), Lib.run_noEscape]
    rfl
  have c3 := Lib.run_from_unsafe w ⟨b, 0, none⟩ Tryz.underlying212 Tryz.underlying120 hj hsh liesB
  have hne := fun w => Lib.run_neq_ptr_same w ⟨b, 0, none⟩ Tryz.underlying120 hj
  go_enter Tryz.func91, Tryz.ntmps91
  go_wp2_with fail
  go_end0
  exact ⟨rfl, rfl⟩
def Bld (w : World) (B b : Nat) (l : List UInt8) : Prop := Lib.IsBuilder 122 5 B b (Lib.byteCells l) w
theorem Keeps.others {b : Nat} {w w' : World} (h : Lib.OthersKept 5 (some b) w w') (hb : ∃ c fz, w.heap[b]? = some (.cells c 122 fz)) : Keeps (fun U => U ≠ 5 ∧ U ≠ 122) w w' := by
  intro j cur U fz hU hj
  obtain ⟨c, z, hb⟩ := hb
  rw [h j _ hj (fun h => ?_) (fun c z h => ?_)]
  · exact hj.symm
  · injection h with h
    subst h
    rw [hb] at hj
    injection hj with hj
    injection hj with _ h2 _
    exact hU.2 h2.symm
  · injection h with _ h2 _
    exact hU.1 h2
set_option maxRecDepth 100000 in
set_option maxHeartbeats 1000000 in
theorem writeString_any (B b : Nat) (l : List UInt8) (s : ByteArray) (w : World) (h : Bld w B b l) (hlen : l.length + s.size ≤ 140737488355328) (hBw : B ≤ w.heap.size) :
    Calls Tryz.prog 58 #[.pointer (some ⟨b, 0, none⟩), .string s] w fun e w' => e = .returned (.tuple #[.int .i64 s.size, .nilIface]) ∧ Bld w' B b (l ++ s.data.toList) ∧ Below B w w' ∧ Keeps (fun U => U ≠ 5 ∧ U ≠ 122) w w' := by
  obtain ⟨i0, hi, hz0, hz1, hz2⟩ := info_parts' Tryz.info5
  have HI := hid hi
  have HZ : Hid (i0.zero = some (.int .u8 0) ∧ i0.size = 1 ∧ i0.bytes = 1) := ⟨hz0, hz1, hz2⟩
  clear hi hz0 hz1 hz2
  have cc : Calls Tryz.prog 91 #[.pointer (some ⟨b, 0, none⟩)] w fun e w' => e = .returned (.tuple #[]) ∧ Lib.BuilderAt 122 5 B b (.pointer (some ⟨b, 0, none⟩)) (Lib.byteCells l) w' ∧ Below B w w' ∧ Lib.OthersKept 5 (some b) w w' := by
    rcases h with h | h
    · refine (copyCheck_new b w h.cell0 h.shape h.frozen0).mono ?_
      rintro e w' ⟨rfl, rfl⟩
      exact ⟨rfl, h.used _, (Below.refl B w).setCell (p := ⟨b, 0, none⟩) h.1 _, (Lib.OthersKept.refl _ _ _).setCell ⟨b, 0, none⟩ rfl _⟩
    · refine (copyCheck_self b w h.cell0).mono ?_
      rintro e w' ⟨rfl, hw⟩
      obtain rfl := hw.symm
      exact ⟨rfl, h, Below.refl B _, Lib.OthersKept.refl _ _ _⟩
  have hb80 : ∃ c fz, w.heap[b]? = some (.cells c 122 fz) := by
    rcases h with ⟨_, v, h, _⟩ | ⟨_, v, h, _⟩
    · exact ⟨_, _, h⟩
    · exact ⟨_, _, h⟩
  have CC := hid cc
  clear cc
  go_enter Tryz.func58, Tryz.ntmps58
  go_wp2_with fail
  refine CC.out.mono ?_
  rintro e w1 ⟨rfl, h1, hb1, hk1⟩
  obtain ⟨hB, v, hbk, hown, hne⟩ := h1
  rw [Lib.byteCells_length] at hown
  have c1 : w1.cell? ⟨b, 1, none⟩ = some v := by rw [cell_of hbk]; rfl
  have z1 := hb1.size
  go_wp2_with (at_builtin; refine Lib.wpList_append_own_string _ rfl (.tmp 12) (.tmp 13) 109 9 rfl B 5 i0 Tryz.underlying109 Tryz.underlying9 HI.out HZ.out.1 HZ.out.2.1 HZ.out.2.2 v l.length (Lib.byteCells l) rfl hown s rfl (by unfold maxLen; omega) hlen (by omega) ?_; intro v' w2 hown' hgrow hnil; have hb2 := (hgrow.block b (Array.getElem?_eq_some_iff.1 hbk).1 (fun e => hne e.symm)).trans hbk; have d1 := cell_of hb2 1; have f1 := fz_of hb2 1; simp at d1; obtain ⟨ao, cap, hv'⟩ := own_form hown'; subst hv'; have HW := hid hown'; have HG := hid hgrow; clear hown' hgrow hnil)
  go_ret2
  refine ⟨rfl, .inr ?_, ?_, Keeps.others ((hk1.grown HG.out ?_).setCell ⟨b, 1, none⟩ rfl _) hb80⟩
  · refine Lib.BuilderAt.put (T := 122) (e := 5) hB hb2 ?_ (by decide)
    have := HW.out
    rw [Lib.strCells_eq, ← Lib.byteCells_append] at this
    have hl2 : (Lib.byteCells (l ++ s.data.toList)).length = l.length + s.size := by rw [Lib.byteCells_length, List.length_append, Lib.size_eq]
    rw [hl2]
    exact this
  · exact ((hb1.grown HG.out (by omega) (fun k hk => (hown.lt k hk).1)).setCell (p := ⟨b, 1, none⟩) hB _)
  · intro g hg
    rcases hown.2 with ⟨rfl, _⟩ | ⟨g', cap', cur, rfl, _, hc, _⟩
    · simp [Value.ownBlock] at hg
    · simp [Value.ownBlock] at hg
      subst hg
      exact ⟨_, _, hc⟩
theorem printL_snoc : ∀ (l : List Dcl) (d : Dcl), printL (l ++ [d]) = if l = [] then printOne d else printL l ++ [59, 32] ++ printOne d
  | [], d => by simp [printL]
  | [e], d => by simp [printL]
  | e :: f :: l, d => by
    have := printL_snoc (f :: l) d
    simp only [List.cons_append, printL] at this ⊢
    rw [this]
    simp
theorem printOne_len (d : Dcl) : (printOne d).length ≤ d.name.length + d.val.length + 13 := by
  unfold printOne
  split <;> simp [importantL] <;> omega
theorem printL_len : ∀ (l : List Dcl) (m : Nat), (∀ d ∈ l, (printOne d).length + 2 ≤ m) → (printL l).length ≤ l.length * m
  | [], _, _ => by simp [printL]
  | [d], m, h => by
    have := h d (by simp)
    simp [printL]; omega
  | d :: e :: l, m, h => by
    have h1 := h d (by simp)
    have h2 := printL_len (e :: l) m (fun x hx => h x (List.mem_cons_of_mem _ hx))
    have h3 : (d :: e :: l).length * m = (e :: l).length * m + m := by rw [List.length_cons, Nat.add_mul, Nat.one_mul]
    rw [printL, List.length_append, List.length_append, h3]
    have h4 : ([59, 32] : List UInt8).length = 2 := rfl
    omega
theorem Bld.alloc {w : World} {B b : Nat} {l : List UInt8} (h : Bld w B b l) (o : Obj) : Bld (w.alloc o) B b l := by
  have key : ∀ p, Lib.BuilderAt 122 5 B b p (Lib.byteCells l) w → Lib.BuilderAt 122 5 B b p (Lib.byteCells l) (w.alloc o) := by
    rintro p ⟨h1, v, h2, h3, h4⟩
    exact ⟨h1, v, (Below.heap_alloc w o _ (Array.getElem?_eq_some_iff.1 h2).1).trans h2, World.ownsRow.alloc h3 _, h4⟩
  rcases h with h | h
  · exact .inl (key _ h)
  · exact .inr (key _ h)
set_option maxRecDepth 100000 in
set_option maxHeartbeats 2000000 in
theorem print_any (l : List Dcl) (v : Value) (w : World) (hv : DsAt w v l) (hl : l.length ≤ 100) (hs : ∀ d ∈ l, d.name.length ≤ 6000 ∧ d.val.length ≤ 6000) :
    Calls Tryz.prog 87 #[v] w fun e w' => e = .returned (.string (bs (printL l))) ∧ Below w.heap.size w w' := by
  obtain ⟨va, vcap, rfl⟩ := own_form hv
  have HV := hid hv
  have HSZ := hid hs
  clear hs hv
  go_enter Tryz.func87, Tryz.ntmps87
  go_wp2_with fail
  have bb : Bld (w.alloc (.cells #[.pointer none, .slice none 0 0] 122)) w.heap.size w.heap.size [] := .inl ⟨Nat.le_refl _, .slice none 0 0, heap_alloc_new w _, World.ownsRow_nil _ _ _ _, by simp [Value.ownBlock]⟩
  have bw : Below w.heap.size w (w.alloc (.cells #[.pointer none, .slice none 0 0] 122)) := (Below.refl _ _).alloc (Nat.le_refl _) _
  go_loopg [8] l.length (fun n i wr => ∃ k, k ≤ l.length ∧ n = l.length - k ∧ i = .int .i64 (k : Int) ∧ Bld wr w.heap.size w.heap.size (printL (l.take k)) ∧ Below w.heap.size w wr)
  case atStart => exact ⟨0, Nat.zero_le _, rfl, rfl, by simpa [printL] using bb, bw⟩
  case round =>
    clear bb bw
    obtain ⟨k, hk, hn, rfl, hb, hw⟩ := hrel
    have GK := hid hn
    clear hn
    have zw := hw.size
    by_cases hlt : k < l.length
    · have hd := HSZ.out l[k] (List.getElem_mem hlt)
      have hvr : DsAt wr (.slice va l.length vcap) l := HV.out.keeps (Keeps.below (Ts := fun _ => True) hw) trivial
      have q0 : (l.flatMap encD)[k * 3 + 0]? = some (.string (bs l[k].name)) := flat_get 3 encD (fun _ => rfl) l k 0 hlt (by omega)
      have q1 : (l.flatMap encD)[k * 3 + 1]? = some (.string (bs l[k].val)) := flat_get 3 encD (fun _ => rfl) l k 1 hlt (by omega)
      have q2 : (l.flatMap encD)[k * 3 + 2]? = some (.bool l[k].strong) := flat_get 3 encD (fun _ => rfl) l k 2 hlt (by omega)
      obtain ⟨g, hg, c0⟩ := own_cell hvr (j := k * 3 + 0) (by omega)
      obtain ⟨g1, hg1, c1⟩ := own_cell hvr (j := k * 3 + 1) (by omega)
      obtain ⟨g2, hg2, c2⟩ := own_cell hvr (j := k * 3 + 2) (by omega)
      rw [q0] at c0
      rw [q1] at c1
      rw [q2] at c2
      subst hg
      injection hg1 with hg1
      injection hg1 with hg1
      subst hg1
      injection hg2 with hg2
      injection hg2 with hg2
      subst hg2
      simp only [Nat.add_zero] at c0
      have TK : Hid (printL (l.take (k + 1)) = if k = 0 then printOne l[k] else printL (l.take k) ++ [59, 32] ++ printOne l[k]) := by
        show printL (l.take (k + 1)) = _
        rw [List.take_succ_eq_append_getElem hlt, printL_snoc]
        have : (l.take k = []) ↔ k = 0 := by
          constructor
          · intro h
            have := congrArg List.length h
            rw [List.length_take] at this
            have h0 : min k l.length = 0 := this
            omega
          · rintro rfl; rfl
        by_cases hk0 : k = 0
        · rw [if_pos hk0, if_pos (this.2 hk0)]
        · rw [if_neg hk0, if_neg (fun h => hk0 (this.1 h))]
      have PL : Hid ((printL (l.take k)).length ≤ 100 * 12020) := by
        have h1 := printL_len (l.take k) 12020 (fun d hd => by
          have := printOne_len d
          have := HSZ.out d (List.mem_of_mem_take hd)
          omega)
        have h2 : (l.take k).length ≤ 100 := by rw [List.length_take]; omega
        show (printL (l.take k)).length ≤ 100 * 12020
        exact Nat.le_trans h1 (Nat.mul_le_mul_right _ h2)
      generalize hdk : l[k] = dk at *
      obtain ⟨nm, vl, st⟩ := dk
      simp only at c0 c1 c2 hd
      clear hvr q0 q1 q2 hdk
      obtain ⟨hd1, hd2⟩ := hd
      go_upto_region 5 with fail
      have D1 := heap_alloc_new wr (.cells #[.string (bs nm), .string (bs vl), .bool st] 40)
      have b1 := Bld.alloc hb (.cells #[.string (bs nm), .string (bs vl), .bool st] 40)
      have w1B := hw.alloc zw (.cells #[.string (bs nm), .string (bs vl), .bool st] 40)
      generalize wr.alloc (.cells #[.string (bs nm), .string (bs vl), .bool st] 40) = w1 at D1 b1 w1B ⊢
      generalize wr.heap.size = D at *
      have z1 := w1B.size
      clear c0 c1 c2 hb hw
      have ns := bs_size nm
      have vs := bs_size vl
      have AC : Hid (∃ acc : List UInt8, (if k = 0 then acc = printL (l.take k) else acc = printL (l.take k) ++ [59, 32]) ∧ acc.length ≤ 2000000 ∧ printL (l.take (k + 1)) = acc ++ printOne ⟨nm, vl, st⟩) := by
        have h1 := TK.out
        have h2 := PL.out
        show ∃ acc : List UInt8, _ ∧ _ ∧ _
        by_cases hk0 : k = 0
        · refine ⟨printL (l.take k), by rw [if_pos hk0], by omega, ?_⟩
          rw [h1, if_pos hk0, hk0]
          simp [printL]
        · refine ⟨printL (l.take k) ++ [59, 32], by rw [if_neg hk0], by simp; omega, ?_⟩
          rw [h1, if_neg hk0]
      obtain ⟨acc, ha1, ha2, ha3⟩ := AC.out
      have A1 := hid ha1
      have A3 := hid ha3
      have pl := PL.out
      clear ha1 ha3 AC TK PL
      by_cases hk0 : k = 0
      · have b2 : Bld w1 w.heap.size w.heap.size acc := by have := A1.out; rw [if_pos hk0] at this; rw [this]; exact b1
        have D2 := D1
        have w2B := w1B
        have z2 := z1
        clear b1 D1 w1B
        have d0 := cell_of D2 0
        have d1 := cell_of D2 1
        have d2 := cell_of D2 2
        simp at d0 d1 d2
        go_wp2_with fail
        refine (writeString_any w.heap.size w.heap.size acc _ _ b2 (by rw [ByteArray.size_append, ByteArray.size_append, ns, vs]; show acc.length + (nm.length + 2 + vl.length) ≤ _; omega) z2).mono ?_
        rintro e w3 ⟨rfl, b3', wb3, kk3⟩
        have D3 := (kk3 _ _ _ _ (by decide) D2).trans D2
        have w3B := w2B.trans wb3
        have z3 := w3B.size
        have b3 : Bld w3 w.heap.size w.heap.size (acc ++ (nm ++ [58, 32] ++ vl)) := by
          have e : (bs nm ++ { data := #[58, 32] } ++ bs vl).data.toList = nm ++ [58, 32] ++ vl := by simp [bs]
          rw [e] at b3'
          exact b3'
        clear b2 D2 w2B b3' wb3 kk3 d0 d1 d2 ns vs
        have d2 := cell_of D3 2
        simp at d2
        cases st with
        | false =>
          have FIN : Hid (Bld w3 w.heap.size w.heap.size (printL (l.take (k + 1)))) := by
            show Bld w3 w.heap.size w.heap.size (printL (l.take (k + 1)))
            rw [A3.out]
            simpa [printOne] using b3
          go_wp2_with fail
          go_roundg (l.length - (k + 1))
          case measure => have := GK.out; omega
          case rel => exact ⟨k + 1, by omega, rfl, by go_num, FIN.out, w3B⟩
        | true =>
          go_wp2_with fail
          refine (writeString_any w.heap.size w.heap.size _ ⟨#[32, 33, 105, 109, 112, 111, 114, 116, 97, 110, 116]⟩ _ b3 (by show _ + 11 ≤ _; simp; omega) z3).mono ?_
          rintro e w4 ⟨rfl, b4, wb4, kk4⟩
          have FIN : Hid (Bld w4 w.heap.size w.heap.size (printL (l.take (k + 1)))) := by
            show Bld w4 w.heap.size w.heap.size (printL (l.take (k + 1)))
            rw [A3.out]
            simpa [printOne, importantL] using b4
          have w4B := w3B.trans wb4
          clear b3 b4 wb4 kk4 D3 d2
          go_wp2_with fail
          go_roundg (l.length - (k + 1))
          case measure => have := GK.out; omega
          case rel => exact ⟨k + 1, by omega, rfl, by go_num, FIN.out, w4B⟩
      · have d0' := hid D1
        go_wp2_with fail
        refine (writeString_any w.heap.size w.heap.size (printL (l.take k)) ⟨#[59, 32]⟩ _ b1 (by show _ + 2 ≤ _; omega) z1).mono ?_
        rintro e w2 ⟨rfl, b2', wb2, kk2⟩
        have b2 : Bld w2 w.heap.size w.heap.size acc := by have := A1.out; rw [if_neg hk0] at this; rw [this]; exact b2'
        have D2 := (kk2 _ _ _ _ (by decide) D1).trans D1
        have w2B := w1B.trans wb2
        have z2 := w2B.size
        clear b1 D1 w1B b2' wb2 kk2 d0'
        have d0 := cell_of D2 0
        have d1 := cell_of D2 1
        have d2 := cell_of D2 2
        simp at d0 d1 d2
        go_wp2_with fail
        refine (writeString_any w.heap.size w.heap.size acc _ _ b2 (by rw [ByteArray.size_append, ByteArray.size_append, ns, vs]; show acc.length + (nm.length + 2 + vl.length) ≤ _; omega) z2).mono ?_
        rintro e w3 ⟨rfl, b3', wb3, kk3⟩
        have D3 := (kk3 _ _ _ _ (by decide) D2).trans D2
        have w3B := w2B.trans wb3
        have z3 := w3B.size
        have b3 : Bld w3 w.heap.size w.heap.size (acc ++ (nm ++ [58, 32] ++ vl)) := by
          have e : (bs nm ++ { data := #[58, 32] } ++ bs vl).data.toList = nm ++ [58, 32] ++ vl := by simp [bs]
          rw [e] at b3'
          exact b3'
        clear b2 D2 w2B b3' wb3 kk3 d0 d1 d2 ns vs
        have d2 := cell_of D3 2
        simp at d2
        cases st with
        | false =>
          have FIN : Hid (Bld w3 w.heap.size w.heap.size (printL (l.take (k + 1)))) := by
            show Bld w3 w.heap.size w.heap.size (printL (l.take (k + 1)))
            rw [A3.out]
            simpa [printOne] using b3
          go_wp2_with fail
          go_roundg (l.length - (k + 1))
          case measure => have := GK.out; omega
          case rel => exact ⟨k + 1, by omega, rfl, by go_num, FIN.out, w3B⟩
        | true =>
          go_wp2_with fail
          refine (writeString_any w.heap.size w.heap.size _ ⟨#[32, 33, 105, 109, 112, 111, 114, 116, 97, 110, 116]⟩ _ b3 (by show _ + 11 ≤ _; simp; omega) z3).mono ?_
          rintro e w4 ⟨rfl, b4, wb4, kk4⟩
          have FIN : Hid (Bld w4 w.heap.size w.heap.size (printL (l.take (k + 1)))) := by
            show Bld w4 w.heap.size w.heap.size (printL (l.take (k + 1)))
            rw [A3.out]
            simpa [printOne, importantL] using b4
          have w4B := w3B.trans wb4
          clear b3 b4 wb4 kk4 D3 d2
          go_wp2_with fail
          go_roundg (l.length - (k + 1))
          case measure => have := GK.out; omega
          case rel => exact ⟨k + 1, by omega, rfl, by go_num, FIN.out, w4B⟩
    · have hkl : k = l.length := by omega
      subst hkl
      rw [List.take_length] at hb
      go_wp2_with fail
      refine (Tryz.Builder_String_any w.heap.size w.heap.size (printL l) _ hb zw).mono ?_
      rintro e w1 ⟨rfl, hb1⟩
      go_wp2_with fail
      go_ret
      exact ⟨rfl, hw.trans hb1⟩
end Go.Proofs.YtblkldfokeeaeacGreatDoor.Sh
namespace Go.Proofs.YtblkldfokeeaeacGreatDoor
open Go.RowKit Go.Maps
theorem enc_toL (d : Dc) : Sh.encD (Sh.toL d) = encD d := by
  obtain ⟨⟨n⟩, ⟨v⟩, s⟩ := d
  simp [Sh.encD, Sh.toL, encD, Sh.bs]
theorem flat_toL (D : List Dc) : (D.map Sh.toL).flatMap Sh.encD = D.flatMap encD := by
  rw [List.flatMap_map]
  simp only [enc_toL]
set_option maxRecDepth 100000 in
set_option maxHeartbeats 4000000 in
theorem printed_any (v : Value) (D : List Dc) (w : World) (hD : DsAt w v D) (hl : D.length ≤ 100) (ht : ∀ d ∈ D, d.name.size ≤ 6000 ∧ d.val.size ≤ 6000) :
    Calls Tryz.prog 54 #[v] w fun e w' => e = .returned (.string (bsL (printD D))) ∧ Below w.heap.size w w' := by
  obtain ⟨a, c, rfl⟩ := Sl.form hD
  have HD := hid hD
  have HT := hid ht
  clear hD ht
  go_enter Tryz.func54, Tryz.ntmps54
  go_wp2_with fail
  go_loopg [3, 8] D.length (fun g v i wr => ∃ j : Nat, g = D.length - j ∧ j ≤ D.length ∧ i = .int .i64 (j : Int) ∧ wr.ownsRow w.heap.size 40 3 v j ((D.take j).flatMap encD) ∧ Below w.heap.size w wr)
  case atStart => exact ⟨0, rfl, Nat.zero_le _, rfl, World.ownsRow_nil _ _ _ _, Below.refl _ _⟩
  case round =>
    obtain ⟨j, hg, hj, rfl, hO, hB⟩ := hrel
    rename World => wo
    have GK := hid hg
    have HO := hid hO
    have HBo := hid hB
    obtain ⟨va, vc, rfl⟩ := own_form hO
    clear hg hO hB
    by_cases hlt : j < D.length
    · obtain ⟨b, off, rfl, he⟩ := Sl.at (HD.out.ext (Ext.below HBo.out)) hlt
      obtain ⟨c0, c1, c2⟩ := he.cells
      have HN : Hid ((D.take (j + 1)).flatMap encD = (D.take j).flatMap encD ++ encD D[j]) := by
        show _ = _
        rw [List.take_succ_eq_append_getElem hlt, List.flatMap_append]; simp
      have HJ := hid hlt
      clear he
      generalize D[j] = d at *
      obtain ⟨nm, vl, st⟩ := d
      simp only at c0 c1 c2
      have B3 := hid (HBo.out.alloc HBo.out.size (.cells #[.string nm, .string vl, .bool st] 60))
      have O3 := hid (HO.out.alloc (.cells #[.string nm, .string vl, .bool st] 60))
      have B4 := hid (B3.out.alloc B3.out.size (.cells #[.string nm, .string vl, .bool st] 40))
      have O4 := hid (O3.out.alloc (.cells #[.string nm, .string vl, .bool st] 40))
      have S4 : Hid (Src ((wo.alloc (.cells #[.string nm, .string vl, .bool st] 60)).alloc (.cells #[.string nm, .string vl, .bool st] 40)) (.slice (some ⟨wo.heap.size + 1, 0, none⟩) 1 1) 1 (encD ⟨nm, vl, st⟩)) := by
        have := World.news_of_block (heap_alloc_new (wo.alloc (.cells #[.string nm, .string vl, .bool st] 60)) (.cells #[.string nm, .string vl, .bool st] 40))
        rw [show (wo.alloc (.cells #[.string nm, .string vl, .bool st] 60)).heap.size = wo.heap.size + 1 by simp] at this
        exact .inr ⟨_, 1, rfl, this⟩
      go_wp2_with (at_builtin; refine wpList_app rfl (.tmp 12) (.tmp 14) 34 rfl w.heap.size 40 _ 3 40 Tryz.underlying34 Tryz.infoD rfl (by decide) (.slice va j vc) j _ rfl O4.out _ 1 (encD ⟨nm, vl, st⟩) rfl S4.out rfl (one_d _) (by unfold maxLen; omega) (by omega) B4.out.size ?_; intro v5 w5 hv5 hg5; have B5 := hid (B4.out.grown hg5 B4.out.size (fun i hi => (O4.out.lt i hi).1)); have O5 := hid hv5; clear hv5 hg5)
      go_roundg (D.length - (j + 1))
      case measure => have := GK.out; have := HJ.out; omega
      case rel => exact ⟨j + 1, rfl, by have := HJ.out; omega, by go_num, by rw [HN.out]; exact O5.out, B5.out⟩
    · have hjl : j = D.length := by omega
      subst hjl
      have hds : Sh.DsAt wo (.slice va D.length vc) (D.map Sh.toL) := by
        have := HO.out
        rw [List.take_length] at this
        show wo.ownsRow _ _ _ _ _ _
        rw [flat_toL, List.length_map]
        exact Sh.own_lower this (Nat.zero_le _)
      have HP := hid (Sh.print_any (D.map Sh.toL) _ wo hds (by rw [List.length_map]; exact hl) (fun d hd => by
        obtain ⟨x, hx, rfl⟩ := List.mem_map.1 hd
        exact HT.out x hx))
      clear hds
      go_wp2_with (go_at_call 87; refine HP.out.mono ?_; rintro e w2 ⟨rfl, hb2⟩; have HB2 := hid (below_trans HBo.out hb2 (Nat.le_refl _)); clear hb2)
      go_ret
      exact ⟨rfl, HB2.out⟩
end Go.Proofs.YtblkldfokeeaeacGreatDoor
namespace Go.Proofs.YtblkldfokeeaeacGreatDoor
open Go.RowKit Go.Maps
theorem Rd.bd {S : Bs} {L : List Sh.Nd} {R : List Sh.Rl} (h : Rd S L R) : ∀ r ∈ R, RlBd r := fun r hr => by
  rw [h.flat] at hr
  obtain ⟨n, hn, hr⟩ := List.mem_flatMap.1 hr
  obtain ⟨q, hq, rfl⟩ := List.mem_map.1 hr
  by_cases hs : n.name = Sh.styleL
  · exact shift_bd _ (sheet_rl (h.sheet n hn hs) q hq)
  · rw [rulesAt_not hs] at hq; cases hq
theorem Tryz.infoEd : (Tryz.prog.info? 113).map (fun i => (i.zero, i.size, i.bytes)) = some (some (.agg #[.int .i64 0, .int .i64 0, .string ⟨#[]⟩]), 3, 32) := by kernel_rfl
theorem one_ed (e : Sh.Ed) : ∀ u ∈ encE e, u.oneCell' = true := by
  intro u hd
  simp [encE] at hd
  rcases hd with rfl | rfl | rfl <;> rfl
theorem one_eds (E : List Sh.Ed) : ∀ u ∈ E.flatMap encE, u.oneCell' = true := fun u hu => by
  obtain ⟨e, _, hu⟩ := List.mem_flatMap.1 hu
  exact one_ed e u hu
theorem eds_len (E : List Sh.Ed) : (E.flatMap encE).length = E.length * 3 := Sh.flat_len 3 encE (fun _ => rfl) E
def encG (p : Ru × (Value × Value)) : List Value := [.string p.1.media, p.2.1, p.2.2, .int .i64 p.1.rf, .int .i64 p.1.rt]
def GoIn (w0 w : World) (base : Nat) (v : Value) (G : List Ru) : Prop := ∃ VS : List (Ru × (Value × Value)), VS.map (·.1) = G ∧ w.ownsRow base 38 5 v G.length (VS.flatMap encG) ∧ ∀ p ∈ VS, SsAt w0 p.2.1 p.1.sels ∧ DsAt w0 p.2.2 p.1.decls
theorem GoIn.nil (w0 w : World) (base : Nat) : GoIn w0 w base (.slice none 0 0) [] := ⟨[], rfl, World.ownsRow_nil _ _ _ _, by simp⟩
theorem GoIn.form {w0 w : World} {base : Nat} {v : Value} {G : List Ru} (h : GoIn w0 w base v G) : ∃ a c, v = .slice a G.length c := by
  obtain ⟨VS, h1, h2, h3⟩ := h
  exact own_form h2
theorem GoIn.keeps {w0 w w' : World} {base : Nat} {v : Value} {G : List Ru} (h : GoIn w0 w base v G) {Ts : TypeId → Prop} (hk : Sh.Keeps Ts w w') (hT : Ts 38) : GoIn w0 w' base v G := by
  obtain ⟨VS, h1, h2, h3⟩ := h
  exact ⟨VS, h1, Sh.own_keeps h2 hk hT, h3⟩
theorem GoIn.below {w0 w w' : World} {base : Nat} {v : Value} {G : List Ru} (h : GoIn w0 w base v G) (hb : Below w.heap.size w w') : GoIn w0 w' base v G := h.keeps (Sh.Keeps.below (Ts := fun _ => True) hb) trivial
theorem GoIn.rus {w0 w : World} {base : Nat} {v : Value} {G : List Ru} (h : GoIn w0 w base v G) (hx : Ext w0 w) : RusAt w v G := by
  obtain ⟨VS, rfl, h2, h3⟩ := h
  rw [List.length_map] at h2
  obtain ⟨a, cap, rfl, hn, hc⟩ := own_at (sz := 5) (f := encG) (fun _ => rfl) (by decide) h2
  refine ⟨a, cap, by simp, hn, fun i hi => ?_⟩
  have hi' : i < VS.length := by simpa using hi
  obtain ⟨b, off, rfl, hh⟩ := hc i hi'
  have hp := h3 _ (List.getElem_mem hi')
  refine ⟨b, off, rfl, ?_⟩
  rw [List.getElem_map]
  exact ⟨hh 0 (by decide), ⟨_, hh 1 (by decide), hp.1.ext hx⟩, ⟨_, hh 2 (by decide), hp.2.ext hx⟩, hh 3 (by decide), hh 4 (by decide)⟩
theorem GoIn.push {w0 w3 : World} {base : Nat} {v3 : Value} {G : List Ru} {VS : List (Ru × (Value × Value))} {r : Ru} {x : Value × Value} (h1 : VS.map (·.1) = G) (h3 : ∀ p ∈ VS, SsAt w0 p.2.1 p.1.sels ∧ DsAt w0 p.2.2 p.1.decls) (hr : SsAt w0 x.1 r.sels ∧ DsAt w0 x.2 r.decls) (ho : w3.ownsRow base 38 5 v3 (G.length + 1) (VS.flatMap encG ++ encG (r, x))) : GoIn w0 w3 base v3 (G ++ [r]) := by
  refine ⟨VS ++ [(r, x)], by simp [h1], by simpa using ho, fun p hp => ?_⟩
  rcases List.mem_append.1 hp with hp | hp
  · exact h3 p hp
  · rw [List.mem_singleton.1 hp]; exact hr
theorem one_g (md : ByteArray) (sa da : Option Addr) (sn sc dn dc : Nat) (rf rt : Int) : ∀ u ∈ [Value.string md, .slice sa sn sc, .slice da dn dc, .int .i64 rf, .int .i64 rt], u.oneCell' = true := by
  intro u hd
  simp at hd
  rcases hd with rfl | rfl | rfl | rfl | rfl <;> rfl
structure EdW (w0 w : World) (Gb : Nat) (flags : List Bool) (gv ev : Value) (G : List Ru) (E : List Sh.Ed) : Prop where
  go : GoIn w0 w w0.heap.size gv G
  ed : w.ownsRow w0.heap.size 113 3 ev E.length (E.flatMap encE)
  fl : w.heap[Gb]? = some (.cells (bsV flags) 4 (0, 0))
  fa : FaB w w0.heap.size 0 0
  b : Below w0.heap.size w0 w
section
variable {w0 w w' : World} {Gb : Nat} {flags : List Bool} {gv ev : Value} {G : List Ru} {E : List Sh.Ed}
theorem EdW.below (h : EdW w0 w Gb flags gv ev G E) (hb : Below w.heap.size w w') : EdW w0 w' Gb flags gv ev G E :=
  ⟨h.go.below hb, own_ext h.ed hb, (hb.block _ (lt_heap h.fl)).trans h.fl, h.fa.below hb, below_trans h.b hb (Nat.le_refl _)⟩
theorem EdW.grownE (h : EdW w0 w Gb flags gv ev G E) {ev' : Value} {E' : List Sh.Ed} (hg : w.grownBy w' ev.ownBlock) (ho : w'.ownsRow w0.heap.size 113 3 ev' (E.length + E'.length) (E.flatMap encE ++ E'.flatMap encE)) : EdW w0 w' Gb flags gv ev' G (E ++ E') := by
  have kk := grown_keeps h.ed hg
  refine ⟨h.go.keeps kk (by decide), by rw [List.length_append, List.flatMap_append]; exact ho, (kk Gb _ 4 _ (by decide) h.fl).trans h.fl, (kk _ _ 25 _ (by decide) h.fa).trans h.fa, h.b.grown hg h.b.size (fun i hi => (h.ed.lt i hi).1)⟩
theorem EdW.grownG (h : EdW w0 w Gb flags gv ev G E) {gv' : Value} {r : Ru} {x : Value × Value} {VS : List (Ru × (Value × Value))} (h1 : VS.map (·.1) = G) (h2 : w.ownsRow w0.heap.size 38 5 gv G.length (VS.flatMap encG)) (h3 : ∀ p ∈ VS, SsAt w0 p.2.1 p.1.sels ∧ DsAt w0 p.2.2 p.1.decls) (hr : SsAt w0 x.1 r.sels ∧ DsAt w0 x.2 r.decls) (hg : w.grownBy w' gv.ownBlock) (ho : w'.ownsRow w0.heap.size 38 5 gv' (G.length + 1) (VS.flatMap encG ++ encG (r, x))) : EdW w0 w' Gb flags gv' ev (G ++ [r]) E := by
  have kk := grown_keeps h2 hg
  exact ⟨GoIn.push h1 h3 hr ho, Sh.own_keeps h.ed kk (by decide), (kk Gb _ 4 _ (by decide) h.fl).trans h.fl, (kk _ _ 25 _ (by decide) h.fa).trans h.fa, h.b.grown hg h.b.size (fun i hi => (h2.lt i hi).1)⟩
end
noncomputable def goTo (L : List Sh.Nd) (R : List Sh.Rl) (j : Nat) : List Ru := ((R.take j).filter fun r => !stayB (L.map ofN) (R.map ofR) (ofR r)).map ofR
noncomputable def edTo (L : List Sh.Nd) (R : List Sh.Rl) (j : Nat) : List Sh.Ed := ((R.take j).filter fun r => !stayB (L.map ofN) (R.map ofR) (ofR r)).map fun r => (r.from_, r.to_, [32])
section
variable {L : List Sh.Nd} {R : List Sh.Rl}
theorem goTo_stay {j : Nat} (hj : j < R.length) (h : stayB (L.map ofN) (R.map ofR) (ofR R[j]) = true) : goTo L R (j + 1) = goTo L R j ∧ edTo L R (j + 1) = edTo L R j := by
  unfold goTo edTo
  rw [List.take_succ_eq_append_getElem hj, List.filter_append]
  simp [h]
theorem goTo_go {j : Nat} (hj : j < R.length) (h : stayB (L.map ofN) (R.map ofR) (ofR R[j]) = false) : goTo L R (j + 1) = goTo L R j ++ [ofR R[j]] ∧ edTo L R (j + 1) = edTo L R j ++ [(R[j].from_, R[j].to_, [32])] := by
  unfold goTo edTo
  rw [List.take_succ_eq_append_getElem hj, List.filter_append]
  simp [h]
theorem goTo_len (j : Nat) : (goTo L R j).length ≤ R.length ∧ (edTo L R j).length ≤ R.length := by
  unfold goTo edTo
  have h1 := List.length_filter_le (fun r => !stayB (L.map ofN) (R.map ofR) (ofR r)) (R.take j)
  have h2 := List.length_take_le j R
  have h3 : (R.take j).length ≤ R.length := by simp; omega
  simp only [List.length_map]
  omega
theorem goTo_all : goTo L R R.length = goesB (L.map ofN) (R.map ofR) ∧ edTo L R R.length = ruleEds L R := by
  unfold goTo edTo goesB ruleEds
  rw [List.take_length, List.filter_map]
  exact ⟨rfl, rfl⟩
end
noncomputable def reTo (L : List Sh.Nd) (R : List Sh.Rl) (k : Nat) : List Sh.Ed := ruleEds L R ++ (L.zipIdx.take k).flatMap fun x => restyleB x.1 (newV (L.map ofN) (R.map ofR) x.2)
section
variable {L : List Sh.Nd} {R : List Sh.Rl}
theorem reTo_zero : reTo L R 0 = ruleEds L R := by simp [reTo]
theorem zip_at {k : Nat} (hk : k < L.length) : L.zipIdx[k]? = some (L[k], k) := by
  rw [List.getElem?_zipIdx, List.getElem?_eq_getElem hk]
  simp
theorem reTo_next {k : Nat} (hk : k < L.length) : reTo L R (k + 1) = reTo L R k ++ restyleB L[k] (newV (L.map ofN) (R.map ofR) k) := by
  unfold reTo
  have hl : k < L.zipIdx.length := by simpa using hk
  have e : L.zipIdx[k] = (L[k], k) := by
    have := zip_at hk
    rw [List.getElem?_eq_getElem hl] at this
    exact Option.some.inj this
  rw [List.take_succ_eq_append_getElem hl, List.flatMap_append, List.append_assoc, e]
  simp
theorem reTo_all : reTo L R L.length = madeEds L R := by
  unfold reTo madeEds
  rw [List.take_of_length_le (by simp)]
theorem restyle_len (n : Sh.Nd) (v : Bs) : (restyleB n v).length ≤ 1 := by
  unfold restyleB
  split
  · simp
  · cases ownA n <;> simp
theorem reTo_len : ∀ k, (reTo L R k).length ≤ R.length + k := fun k => by
  unfold reTo
  have h1 : (ruleEds L R).length ≤ R.length := by
    unfold ruleEds
    rw [List.length_map]
    exact List.length_filter_le _ _
  have h2 : ∀ M : List (Sh.Nd × Nat), (M.flatMap fun x => restyleB x.1 (newV (L.map ofN) (R.map ofR) x.2)).length ≤ M.length := fun M => by
    induction M with
    | nil => simp
    | cons a M ih =>
      rw [List.flatMap_cons, List.length_append, List.length_cons]
      have := restyle_len a.1 (newV (L.map ofN) (R.map ofR) a.2)
      omega
  have h3 := h2 (L.zipIdx.take k)
  have h4 : (L.zipIdx.take k).length ≤ k := by simp; omega
  rw [List.length_append]
  omega
noncomputable def manyFrom (L : List Sh.Nd) (R : List Sh.Rl) (k : Nat) : Option Nat := ((L.zipIdx.drop k).find? fun x => tooMany x.1 (lookAt (L.map ofN) (R.map ofR) x.2)).map (·.1.nameEnd)
theorem many_zero : manyFrom L R 0 = manyAt L R := rfl
theorem many_step {k : Nat} (hk : k < L.length) : manyFrom L R k = if tooMany L[k] (lookAt (L.map ofN) (R.map ofR) k) then some L[k].nameEnd else manyFrom L R (k + 1) := by
  unfold manyFrom
  have hl : k < L.zipIdx.length := by simpa using hk
  have e : L.zipIdx[k] = (L[k], k) := by
    have := zip_at hk
    rw [List.getElem?_eq_getElem hl] at this
    exact Option.some.inj this
  rw [List.drop_eq_getElem_cons hl, e]
  cases h : tooMany L[k] (lookAt (L.map ofN) (R.map ofR) k) with
  | true => rw [List.find?_cons_of_pos (by exact h)]; rfl
  | false => rw [List.find?_cons_of_neg (by simp [h])]; rfl
theorem many_end : manyFrom L R L.length = none := by
  unfold manyFrom
  rw [List.drop_of_length_le (by simp)]
  rfl
end
end Go.Proofs.YtblkldfokeeaeacGreatDoor
