/- Texts that the statement's proof stands on: C1, C2, C3, C4. -/
import Derived.Test.YtblkldfokeeaeacGreatDoorA21
import Derived.Test.YtblkldfokeeaeacGreatDoorA06
namespace Go.Proofs.YtblkldfokeeaeacGreatDoor
open Go.RowKit Go.Maps
def clV (c : Cl) : Value := .agg #[.string c.d.name, .string c.d.val, .bool c.d.strong, .bool c.own, .int .i64 c.w.a, .int .i64 c.w.b, .int .i64 c.w.c]
def clD (c : Cl) : DataW Unit := .agg [.lit (.string c.d.name.data.toList), .lit (.string c.d.val.data.toList), .lit (.bool c.d.strong), .lit (.bool c.own), .lit (.int .i64 c.w.a), .lit (.int .i64 c.w.b), .lit (.int .i64 c.w.c)]
def clR (v : Value) : Option (DataW Unit × List MemPlace) := match v with
  | .agg ⟨[.string n, .string v, .bool s, .bool o, .int k1 a, .int k2 b, .int k3 c]⟩ => some (.agg [.lit (.string n.data.toList), .lit (.string v.data.toList), .lit (.bool s), .lit (.bool o), .lit (.int k1 a), .lit (.int k2 b), .lit (.int k3 c)], [])
  | _ => none
theorem clR_mk (c : Cl) : clR (clV c) = some (clD c, []) := rfl
theorem ba_ext {a b : ByteArray} (h : a.data.toList = b.data.toList) : a = b := ByteArray.ext (Array.toList_inj.1 h)
theorem clR_inv (v : Value) (c : Cl) (ps : List MemPlace) (h : clR v = some (clD c, ps)) : v = clV c := by
  unfold clR at h
  split at h
  · simp only [clD, Option.some.injEq, Prod.mk.injEq, DataW.agg.injEq, List.cons.injEq, DataW.lit.injEq, Lit.bool.injEq, Lit.string.injEq, Lit.int.injEq, and_true] at h
    obtain ⟨⟨h1, h2, h3, h4, ⟨h5, h6⟩, ⟨h7, h8⟩, h9, h10⟩, _⟩ := h
    rw [ba_ext h1, ba_ext h2, h3, h4, h5, h6, h7, h8, h9, h10]
    rfl
  · cases h
def cl0 : Cl := ⟨⟨⟨#[]⟩, ⟨#[]⟩, false⟩, false, ⟨0, 0, 0⟩⟩
theorem zero88 (w : World) : (zeroValue 88).run Tryz.prog w = .ok (clV cl0) w := by kernel_rfl
theorem Mp.congr {β : Type} {R : Value → Option (DataW Unit × List MemPlace)} {dt : β → DataW Unit} {w : World} {B n : Nat} {f g : Key → Option β} (h : Mp R dt w B n f) (e : ∀ q, f q = g q) : Mp R dt w B n g := by
  obtain ⟨D, h1, h2⟩ := h
  exact ⟨D, h1, fun q z => by rw [← e]; exact h2 q z⟩
theorem Mp.insB {β : Type} {R : Value → Option (DataW Unit × List MemPlace)} {dt : β → DataW Unit} {en : β → Value} {w : World} {B n : Nat} {f : Key → Option β} (h : Mp R dt w B n f) (hn : n < maxLen) {t e : TypeId} (ht : Tryz.prog.underlying t = some (.map 9 e)) (k : ByteArray) (wk : k.size ≤ maxLen) (c : β) (wc : R (en c) = some (dt c, [])) :
    ∃ w', (Instr.mapUpdate t (.map (some B)) (.string k) (en c)).run Tryz.prog w = .ok () w' ∧ Mp R dt w' B (n + 1) (updK f k.data.toList c) ∧ w.grownBy w' (some B) := by
  obtain ⟨D, ho, hf⟩ := h
  obtain ⟨w', h1, h2, h3⟩ := ho.update keyS ht hn (WideMaps.keyOf_string_mk Tryz.underlying9 wk) wc
  refine ⟨w', h1, ⟨_, h2, fun q z => ?_⟩, h3⟩
  have hm : IsMap D := ho.isMap
  unfold updK
  by_cases e : q = k.data.toList
  · subst e
    rw [if_pos rfl]
    exact atKey_put_same hm (by simp [WideAt.IsKeyLit]) _ _
  · rw [if_neg e, atKey_put_other (by intro h; injection h with h; exact e h)]
    exact hf q z
abbrev Mpc := Mp clR clD
def MW (w : World) (M : Nat) (cs : List Cl) : Prop := ∃ n, n ≤ cs.length ∧ Mpc w M n (fun q => win q cs)
structure Fr (M : Nat) (w w' : World) : Prop where
  os : w'.os = w.os
  tape : w'.tape = w.tape
  output : w'.output = w.output
  size : w.heap.size ≤ w'.heap.size
  block : ∀ j, j < w.heap.size → j ≠ M → w'.heap[j]? = w.heap[j]?
theorem Fr.refl (M : Nat) (w : World) : Fr M w w := ⟨rfl, rfl, rfl, Nat.le_refl _, fun _ _ _ => rfl⟩
theorem Fr.trans {M : Nat} {a b c : World} (h : Fr M a b) (k : Fr M b c) : Fr M a c :=
  ⟨k.os.trans h.os, k.tape.trans h.tape, k.output.trans h.output, Nat.le_trans h.size k.size, fun j hj hm => (k.block j (Nat.lt_of_lt_of_le hj h.size) hm).trans (h.block j hj hm)⟩
theorem Fr.below {w w' : World} (h : Below w.heap.size w w') (M : Nat) : Fr M w w' := ⟨h.os, h.tape, h.output, h.size, fun j hj _ => h.block j hj⟩
theorem Fr.grown {M : Nat} {w w' : World} (h : w.grownBy w' (some M)) : Fr M w w' := by
  have b : Below 0 w w' := (Below.refl 0 w).grown h (Nat.zero_le _) (fun _ _ => Nat.zero_le _)
  exact ⟨b.os, b.tape, b.output, b.size, fun j hj hm => h.block j hj (by simpa using hm)⟩
theorem Fr.under {B M : Nat} {a w w' : World} (h : Below B a w) (k : Fr M w w') (hB : B ≤ w.heap.size) (hM : B ≤ M) : Below B a w' :=
  h.trans ⟨k.os, k.tape, k.output, k.size, fun j hj => k.block j (by omega) (by omega)⟩
theorem MW.map {w : World} {M : Nat} {cs : List Cl} (h : MW w M cs) : ∃ es c, w.heap[M]? = some (.map es c) := by
  obtain ⟨_, _, D, ⟨es, c, h1, _⟩, _⟩ := h
  exact ⟨es, c, h1⟩
theorem MW.lt {w : World} {M : Nat} {cs : List Cl} (h : MW w M cs) : M < w.heap.size := by
  obtain ⟨es, c, h⟩ := h.map
  exact (Array.getElem?_eq_some_iff.1 h).1
theorem Fr.ext {M : Nat} {w w' : World} (h : Fr M w w') {es : Array MapEntry} {c : Nat} (hm : w.heap[M]? = some (.map es c)) : Ext w w' := fun b o v hv => by
  have hlt := lt_of_cell hv
  by_cases e : b = M
  · subst e
    simp [World.cell?, hm] at hv
  · simp only [World.cell?] at hv ⊢
    rw [h.block b hlt e]
    exact hv
theorem MW.below {w w' : World} {M : Nat} {cs : List Cl} (h : MW w M cs) (hb : Below w.heap.size w w') : MW w' M cs := by
  obtain ⟨n, hn, hm⟩ := h
  exact ⟨n, hn, hm.below hb⟩
theorem MW.made (w : World) : MW (w.alloc (.map #[] 0)) w.heap.size [] := ⟨0, Nat.le_refl _, (Mp.made w).congr fun _ => rfl⟩
set_option maxRecDepth 100000 in
theorem uponC_ins {w : World} {o : Oper} {a : Act} {K : Act → World → Prop} {Q : Exit → Act → World → Prop} {M n : Nat} {f : Key → Option Cl} {k v : ByteArray} {s ow : Bool} {x y z : Int} (h : Mpc w M n f) (hn : n < maxLen) (wk : k.size ≤ maxLen)
    (hK : ∀ w', Mpc w' M (n + 1) (updK f k.data.toList ⟨⟨k, v, s⟩, ow, ⟨x, y, z⟩⟩) → w.grownBy w' (some M) → K (a.put o.dst undef) w') :
    Oper.upon Tryz.prog o a K Q (((Instr.mapUpdate 82 (.map (some M)) (.string k) (.agg #[.string k, .string v, .bool s, .bool ow, .int .i64 x, .int .i64 y, .int .i64 z])).run Tryz.prog w).andThen fun _ w' => .ok .skip w') := by
  obtain ⟨w', h1, h2, h3⟩ := Mp.insB (en := clV) h hn (e := 88) Tryz.underlying82 k wk ⟨⟨k, v, s⟩, ow, ⟨x, y, z⟩⟩ (clR_mk _)
  have h1' : (Instr.mapUpdate 82 (.map (some M)) (.string k) (.agg #[.string k, .string v, .bool s, .bool ow, .int .i64 x, .int .i64 y, .int .i64 z])).run Tryz.prog w = .ok () w' := h1
  rw [h1']
  exact hK w' h2 h3
theorem cmp3_anti (x y : Wt) : (0 < cmp3 x y) ↔ (cmp3 y x < 0) := by
  unfold cmp3
  repeat' split
  all_goals simp <;> omega
theorem beats_go (a b : Cl) : (!beats b a) = (if a.d.strong == b.d.strong then (if a.own == b.own then decide (0 < cmp3 a.w b.w) else a.own) else a.d.strong) := by
  unfold beats
  have h : lessW b.w a.w = decide (0 < cmp3 a.w b.w) := by rw [lessW_cmp]; exact decide_eq_decide.2 (cmp3_anti a.w b.w).symm
  rw [h]
  cases a.d.strong <;> cases b.d.strong <;> cases a.own <;> cases b.own <;> simp
set_option maxHeartbeats 2000000 in
theorem compare4 (T U : Nat) (x y : Wt) (w : World) (x0 : w.cell? ⟨T, 4, none⟩ = some (.int .i64 x.a)) (x1 : w.cell? ⟨T, 5, none⟩ = some (.int .i64 x.b)) (x2 : w.cell? ⟨T, 6, none⟩ = some (.int .i64 x.c))
    (y0 : w.cell? ⟨U, 4, none⟩ = some (.int .i64 y.a)) (y1 : w.cell? ⟨U, 5, none⟩ = some (.int .i64 y.b)) (y2 : w.cell? ⟨U, 6, none⟩ = some (.int .i64 y.c)) :
    Calls Tryz.prog 101 #[.slice (some ⟨T, 4, none⟩) 3 3, .slice (some ⟨U, 4, none⟩) 3 3] w fun e w' => e = .returned (.int .i64 (cmp3 x y)) ∧ w' = w := by
  obtain ⟨a, b, c⟩ := x
  obtain ⟨p, q, r⟩ := y
  simp only at x0 x1 x2 y0 y1 y2
  have HC : Hid (cmp3 ⟨a, b, c⟩ ⟨p, q, r⟩ = cmpFrom ⟨a, b, c⟩ ⟨p, q, r⟩ 0) := rfl
  generalize cmp3 ⟨a, b, c⟩ ⟨p, q, r⟩ = R at *
  go_enter Tryz.func101, Tryz.ntmps101
  go_wp2_with fail
  go_loopg [11] 3 (fun n i wr => ∃ j : Nat, n = 3 - j ∧ j ≤ 3 ∧ i = .int .i64 (j : Int) ∧ R = cmpFrom ⟨a, b, c⟩ ⟨p, q, r⟩ j ∧ wr = w)
  case atStart => exact ⟨0, rfl, Nat.zero_le _, rfl, HC.out, rfl⟩
  case round =>
    obtain ⟨j, hn, hj, rfl, hR, hw⟩ := hrel
    subst hw
    have GK := hid hn
    have HR := hid hR
    clear hn hR
    by_cases h3 : j = 3
    · subst h3
      have HR2 : Hid (R = 0) := HR.out
      go_wp2_with fail
      go_ret
      exact ⟨ret_int HR2.out.symm, rfl⟩
    · have hj3 : j = 0 ∨ j = 1 ∨ j = 2 := by omega
      clear h3 hj
      rcases hj3 with rfl | rfl | rfl
      · rcases Int.lt_trichotomy a p with h | h | h
        · have HR2 : Hid (R = -1) := by have := HR.out; simpa [cmpFrom, cmp3, h, Hid] using this
          go_wp2_with (go_at_call 57; refine (Tryz.cmp_Compare_int _ _ _).mono ?_; rintro e w' ⟨rfl, rfl⟩; rw [cmpInt_lt h])
          go_ret
          exact ⟨ret_int HR2.out.symm, rfl⟩
        · subst h
          have HR2 : Hid (R = cmpFrom ⟨a, b, c⟩ ⟨a, q, r⟩ 1) := by have := HR.out; simpa [cmpFrom, cmp3, Hid] using this
          go_wp2_with (go_at_call 57; refine (Tryz.cmp_Compare_int _ _ _).mono ?_; rintro e w' ⟨rfl, rfl⟩; rw [cmpInt_eq])
          go_roundg 2
          case measure => have := GK.out; omega
          case rel => exact ⟨1, rfl, by omega, by go_num, HR2.out, rfl⟩
        · have HR2 : Hid (R = 1) := by have := HR.out; simpa [cmpFrom, cmp3, h, Int.not_lt.2 (Int.le_of_lt h), Hid] using this
          go_wp2_with (go_at_call 57; refine (Tryz.cmp_Compare_int _ _ _).mono ?_; rintro e w' ⟨rfl, rfl⟩; rw [cmpInt_gt h])
          go_ret
          exact ⟨ret_int HR2.out.symm, rfl⟩
      · rcases Int.lt_trichotomy b q with h | h | h
        · have HR2 : Hid (R = -1) := by have := HR.out; simpa [cmpFrom, h, Hid] using this
          go_wp2_with (go_at_call 57; refine (Tryz.cmp_Compare_int _ _ _).mono ?_; rintro e w' ⟨rfl, rfl⟩; rw [cmpInt_lt h])
          go_ret
          exact ⟨ret_int HR2.out.symm, rfl⟩
        · subst h
          have HR2 : Hid (R = cmpFrom ⟨a, b, c⟩ ⟨p, b, r⟩ 2) := by have := HR.out; simpa [cmpFrom, Hid] using this
          go_wp2_with (go_at_call 57; refine (Tryz.cmp_Compare_int _ _ _).mono ?_; rintro e w' ⟨rfl, rfl⟩; rw [cmpInt_eq])
          go_roundg 1
          case measure => have := GK.out; omega
          case rel => exact ⟨2, rfl, by omega, by go_num, HR2.out, rfl⟩
        · have HR2 : Hid (R = 1) := by have := HR.out; simpa [cmpFrom, h, Int.not_lt.2 (Int.le_of_lt h), Hid] using this
          go_wp2_with (go_at_call 57; refine (Tryz.cmp_Compare_int _ _ _).mono ?_; rintro e w' ⟨rfl, rfl⟩; rw [cmpInt_gt h])
          go_ret
          exact ⟨ret_int HR2.out.symm, rfl⟩
      · rcases Int.lt_trichotomy c r with h | h | h
        · have HR2 : Hid (R = -1) := by have := HR.out; simpa [cmpFrom, h, Hid] using this
          go_wp2_with (go_at_call 57; refine (Tryz.cmp_Compare_int _ _ _).mono ?_; rintro e w' ⟨rfl, rfl⟩; rw [cmpInt_lt h])
          go_ret
          exact ⟨ret_int HR2.out.symm, rfl⟩
        · subst h
          have HR2 : Hid (R = cmpFrom ⟨a, b, c⟩ ⟨p, q, c⟩ 3) := by have := HR.out; simpa [cmpFrom, Hid] using this
          go_wp2_with (go_at_call 57; refine (Tryz.cmp_Compare_int _ _ _).mono ?_; rintro e w' ⟨rfl, rfl⟩; rw [cmpInt_eq])
          go_roundg 0
          case measure => have := GK.out; omega
          case rel => exact ⟨3, rfl, by omega, by go_num, HR2.out, rfl⟩
        · have HR2 : Hid (R = 1) := by have := HR.out; simpa [cmpFrom, h, Int.not_lt.2 (Int.le_of_lt h), Hid] using this
          go_wp2_with (go_at_call 57; refine (Tryz.cmp_Compare_int _ _ _).mono ?_; rintro e w' ⟨rfl, rfl⟩; rw [cmpInt_gt h])
          go_ret
          exact ⟨ret_int HR2.out.symm, rfl⟩
set_option maxRecDepth 100000 in
set_option maxHeartbeats 4000000 in
theorem beats_any (c d : Cl) (w : World) :
    Calls Tryz.prog 67 #[clV c, clV d] w fun e w' => e = .returned (.bool (!beats d c)) ∧ Below w.heap.size w w' := by
  rw [beats_go]
  obtain ⟨⟨n1, v1, s1⟩, o1, ⟨a1, b1, c1⟩⟩ := c
  obtain ⟨⟨n2, v2, s2⟩, o2, ⟨a2, b2, c2⟩⟩ := d
  simp only [clV]
  have K : Hid (∀ n, Below w.heap.size w (((w.alloc (.cells #[.string n1, .string v1, .bool s1, .bool o1, .int .i64 a1, .int .i64 b1, .int .i64 c1] 88)).alloc (.cells #[.string n2, .string v2, .bool s2, .bool o2, .int .i64 a2, .int .i64 b2, .int .i64 c2] 88)).drewN n)) := fun n =>
    below_dN (((Below.refl _ _).alloc (Nat.le_refl _) _).alloc (by simp) _) n
  have x0 : ((w.alloc (.cells #[.string n1, .string v1, .bool s1, .bool o1, .int .i64 a1, .int .i64 b1, .int .i64 c1] 88)).alloc (.cells #[.string n2, .string v2, .bool s2, .bool o2, .int .i64 a2, .int .i64 b2, .int .i64 c2] 88)).cell? ⟨w.heap.size, 4, none⟩ = some (.int .i64 a1) := ext_alloc _ _ _ _ _ (cell_new w _ _ 4)
  have x1 : ((w.alloc (.cells #[.string n1, .string v1, .bool s1, .bool o1, .int .i64 a1, .int .i64 b1, .int .i64 c1] 88)).alloc (.cells #[.string n2, .string v2, .bool s2, .bool o2, .int .i64 a2, .int .i64 b2, .int .i64 c2] 88)).cell? ⟨w.heap.size, 5, none⟩ = some (.int .i64 b1) := ext_alloc _ _ _ _ _ (cell_new w _ _ 5)
  have x2 : ((w.alloc (.cells #[.string n1, .string v1, .bool s1, .bool o1, .int .i64 a1, .int .i64 b1, .int .i64 c1] 88)).alloc (.cells #[.string n2, .string v2, .bool s2, .bool o2, .int .i64 a2, .int .i64 b2, .int .i64 c2] 88)).cell? ⟨w.heap.size, 6, none⟩ = some (.int .i64 c1) := ext_alloc _ _ _ _ _ (cell_new w _ _ 6)
  have hz : (w.alloc (.cells #[.string n1, .string v1, .bool s1, .bool o1, .int .i64 a1, .int .i64 b1, .int .i64 c1] 88)).heap.size = w.heap.size + 1 := by simp
  have y0 := cell_new (w.alloc (.cells #[.string n1, .string v1, .bool s1, .bool o1, .int .i64 a1, .int .i64 b1, .int .i64 c1] 88)) #[.string n2, .string v2, .bool s2, .bool o2, .int .i64 a2, .int .i64 b2, .int .i64 c2] 88 4
  have y1 := cell_new (w.alloc (.cells #[.string n1, .string v1, .bool s1, .bool o1, .int .i64 a1, .int .i64 b1, .int .i64 c1] 88)) #[.string n2, .string v2, .bool s2, .bool o2, .int .i64 a2, .int .i64 b2, .int .i64 c2] 88 5
  have y2 := cell_new (w.alloc (.cells #[.string n1, .string v1, .bool s1, .bool o1, .int .i64 a1, .int .i64 b1, .int .i64 c1] 88)) #[.string n2, .string v2, .bool s2, .bool o2, .int .i64 a2, .int .i64 b2, .int .i64 c2] 88 6
  rw [hz] at y0 y1 y2
  have CC : Hid (∀ n, Calls Tryz.prog 101 #[.slice (some ⟨w.heap.size, 4, none⟩) 3 3, .slice (some ⟨w.heap.size + 1, 4, none⟩) 3 3] (((w.alloc (.cells #[.string n1, .string v1, .bool s1, .bool o1, .int .i64 a1, .int .i64 b1, .int .i64 c1] 88)).alloc (.cells #[.string n2, .string v2, .bool s2, .bool o2, .int .i64 a2, .int .i64 b2, .int .i64 c2] 88)).drewN n)
      fun e w' => e = .returned (.int .i64 (cmp3 ⟨a1, b1, c1⟩ ⟨a2, b2, c2⟩)) ∧ w' = ((w.alloc (.cells #[.string n1, .string v1, .bool s1, .bool o1, .int .i64 a1, .int .i64 b1, .int .i64 c1] 88)).alloc (.cells #[.string n2, .string v2, .bool s2, .bool o2, .int .i64 a2, .int .i64 b2, .int .i64 c2] 88)).drewN n) := fun n =>
    compare4 w.heap.size (w.heap.size + 1) ⟨a1, b1, c1⟩ ⟨a2, b2, c2⟩ _ x0 x1 x2 y0 y1 y2
  clear x0 x1 x2 y0 y1 y2 hz
  by_cases hs : s1 = s2
  · by_cases ho : o1 = o2
    · subst hs ho
      have HE : Hid ((if (s1 == s1) = true then if (o1 == o1) = true then decide (0 < cmp3 ⟨a1, b1, c1⟩ ⟨a2, b2, c2⟩) else o1 else s1) = decide (0 < cmp3 ⟨a1, b1, c1⟩ ⟨a2, b2, c2⟩)) := by
        show _ = _
        simp
      simp only [HE.out]
      clear HE
      generalize cmp3 ⟨a1, b1, c1⟩ ⟨a2, b2, c2⟩ = c at *
      go_enter Tryz.func67, Tryz.ntmps67
      go_wp2_with fail
      generalize (w.alloc (.cells #[.string n1, .string v1, .bool s1, .bool o1, .int .i64 a1, .int .i64 b1, .int .i64 c1] 88)).alloc (.cells #[.string n2, .string v2, .bool s1, .bool o1, .int .i64 a2, .int .i64 b2, .int .i64 c2] 88) = w2 at *
      go_quiet ((go_at_call 101; exact Calls.quiet_of_same (CC.out _)))
      go_wp2_with fail
      go_ret
      exact ⟨rfl, K.out _⟩
    · subst hs
      have HE : Hid ((if (s1 == s1) = true then if (o1 == o2) = true then decide (0 < cmp3 ⟨a1, b1, c1⟩ ⟨a2, b2, c2⟩) else o1 else s1) = o1) := by
        show _ = _
        simp [ho]
      simp only [HE.out]
      clear HE CC
      have hob : (o1 == o2) = false := by simpa using ho
      go_enter Tryz.func67, Tryz.ntmps67
      go_wp2_with fail
      go_ret
      exact ⟨rfl, K.out 0⟩
  · have HE : Hid ((if (s1 == s2) = true then if (o1 == o2) = true then decide (0 < cmp3 ⟨a1, b1, c1⟩ ⟨a2, b2, c2⟩) else o1 else s1) = s1) := by
      show _ = _
      simp [hs]
    simp only [HE.out]
    clear HE CC
    have hob : (s1 == s2) = false := by simpa using hs
    go_enter Tryz.func67, Tryz.ntmps67
    go_wp2_with fail
    go_ret
    exact ⟨rfl, K.out 0⟩
end Go.Proofs.YtblkldfokeeaeacGreatDoor
namespace Go.Proofs.YtblkldfokeeaeacGreatDoor
open Go.RowKit Go.Maps
theorem win_none {cs : List Cl} {c : Cl} (h : win (nm c.d) cs = none) (q : Key) : updK (fun q => win q cs) (nm c.d) c q = win q (cs ++ [c]) := by
  unfold updK
  by_cases e : q = nm c.d
  · subst e; rw [if_pos rfl, win_put, h]
  · rw [if_neg e, win_other cs (fun h => e h.symm)]
theorem win_more {cs : List Cl} {c a : Cl} (h : win (nm c.d) cs = some a) (hb : beats c a = true) (q : Key) : updK (fun q => win q cs) (nm c.d) c q = win q (cs ++ [c]) := by
  unfold updK
  by_cases e : q = nm c.d
  · subst e; rw [if_pos rfl, win_put, h]; simp [hb]
  · rw [if_neg e, win_other cs (fun h => e h.symm)]
theorem win_less {cs : List Cl} {c a : Cl} (h : win (nm c.d) cs = some a) (hb : beats c a = false) (q : Key) : win q cs = win q (cs ++ [c]) := by
  by_cases e : q = nm c.d
  · subst e; rw [win_put, h]; simp [hb]
  · rw [win_other cs (fun h => e h.symm)]
theorem Mp.kept {β : Type} {R : Value → Option (DataW Unit × List MemPlace)} {dt : β → DataW Unit} {w w' : World} {B n : Nat} {f : Key → Option β} (h : Mp R dt w B n f) (e : w'.heap[B]? = w.heap[B]?) : Mp R dt w' B n f := by
  obtain ⟨D, ⟨es, c, h1, h2⟩, hf⟩ := h
  exact ⟨D, ⟨es, c, by rw [e]; exact h1, h2⟩, hf⟩
set_option maxRecDepth 100000 in
set_option maxHeartbeats 4000000 in
theorem tell_any (c : Cl) (B M : Nat) (cs : List Cl) (w : World) (hB : w.cell? ⟨B, 0, none⟩ = some (.map (some M))) (hM : MW w M cs) (hn : cs.length < maxLen) (wk : c.d.name.size ≤ maxLen) :
    Calls Tryz.prog 66 #[clV c, .pointer (some ⟨B, 0, none⟩)] w fun e w' => e = .returned (.tuple #[]) ∧ MW w' M (cs ++ [c]) ∧ Fr M w w' := by
  have HB := hid hB
  obtain ⟨n, hn', hm⟩ := hM
  have HN : Hid (n < maxLen) := Nat.lt_of_le_of_lt hn' hn
  have HL := hid hn'
  clear hn hn'
  obtain ⟨⟨nn, vl, st⟩, ow, ⟨x, y, z⟩⟩ := c
  have wk' : nn.size ≤ maxLen := wk
  have WK := hid wk'
  clear wk
  have m1 : Mpc (w.alloc (.cells #[.string nn, .string vl, .bool st, .bool ow, .int .i64 x, .int .i64 y, .int .i64 z] 88)) M n (fun q => win q cs) := hm.below ((Below.refl _ _).alloc (Nat.le_refl _) _)
  have b1 : Below w.heap.size w (w.alloc (.cells #[.string nn, .string vl, .bool st, .bool ow, .int .i64 x, .int .i64 y, .int .i64 z] 88)) := (Below.refl _ _).alloc (Nat.le_refl _) _
  have hlk := m1.look2 (en := clV) Tryz.underlying82 cl0 (zero88 _) (clR_mk _) clR_inv nn wk'
  have hB1 := ext_alloc w (.cells #[.string nn, .string vl, .bool st, .bool ow, .int .i64 x, .int .i64 y, .int .i64 z] 88) _ _ _ hB
  clear hm wk'
  cases ho : win nn.data.toList cs with
  | none =>
    have HO : Hid (∀ q, updK (fun q => win q cs) nn.data.toList ⟨⟨nn, vl, st⟩, ow, ⟨x, y, z⟩⟩ q = win q (cs ++ [⟨⟨nn, vl, st⟩, ow, ⟨x, y, z⟩⟩])) := fun q => win_none (c := ⟨⟨nn, vl, st⟩, ow, ⟨x, y, z⟩⟩) ho q
    rw [ho] at hlk
    simp only [Option.getD, Option.isSome, clV, cl0] at hlk ⊢
    have M1 := hid m1
    have hB2 := ext_alloc _ (.cells #[.string ⟨#[]⟩, .string ⟨#[]⟩, .bool false, .bool false, .int .i64 0, .int .i64 0, .int .i64 0] 88) _ _ _ hB1
    clear m1 ho
    go_enter Tryz.func66, Tryz.ntmps66
    go_wp2_with fail
    refine uponC_ins (n := n) (f := fun q => win q cs) (M1.out.below ((Below.refl _ _).alloc (Nat.le_refl _) _)) HN.out WK.out fun w' hm' hg => ?_
    go_wp2_with fail
    refine bodyPost_end (results_none rfl _ _ _) rfl ⟨rfl, ⟨n + 1, by have := HL.out; simp; omega, hm'.congr HO.out⟩, (Fr.below b1 M).trans ((Fr.below ((Below.refl _ _).alloc (Nat.le_refl _) _) M).trans (Fr.grown hg))⟩
  | some a =>
    obtain ⟨⟨an, av, ast⟩, ao, ⟨p, q, r⟩⟩ := a
    have BT := fun w => beats_any ⟨⟨an, av, ast⟩, ao, ⟨p, q, r⟩⟩ ⟨⟨nn, vl, st⟩, ow, ⟨x, y, z⟩⟩ w
    simp only [clV] at BT
    have HBT := hid BT
    clear BT
    rw [ho] at hlk
    simp only [Option.getD, Option.isSome, clV] at hlk ⊢
    have hB2 := ext_alloc _ (.cells #[.string an, .string av, .bool ast, .bool ao, .int .i64 p, .int .i64 q, .int .i64 r] 88) _ _ _ hB1
    have HB2 := hid hB2
    have m2 : Mpc ((w.alloc (.cells #[.string nn, .string vl, .bool st, .bool ow, .int .i64 x, .int .i64 y, .int .i64 z] 88)).alloc (.cells #[.string an, .string av, .bool ast, .bool ao, .int .i64 p, .int .i64 q, .int .i64 r] 88)) M n (fun q => win q cs) := m1.below ((Below.refl _ _).alloc (Nat.le_refl _) _)
    have b2 : Below w.heap.size w ((w.alloc (.cells #[.string nn, .string vl, .bool st, .bool ow, .int .i64 x, .int .i64 y, .int .i64 z] 88)).alloc (.cells #[.string an, .string av, .bool ast, .bool ao, .int .i64 p, .int .i64 q, .int .i64 r] 88)) := b1.alloc (by simp) _
    have C2 : Hid (∀ j v, #[Value.string nn, .string vl, .bool st, .bool ow, .int .i64 x, .int .i64 y, .int .i64 z][j]? = some v → ((w.alloc (.cells #[.string nn, .string vl, .bool st, .bool ow, .int .i64 x, .int .i64 y, .int .i64 z] 88)).alloc (.cells #[.string an, .string av, .bool ast, .bool ao, .int .i64 p, .int .i64 q, .int .i64 r] 88)).cell? ⟨w.heap.size, j, none⟩ = some v) :=
      fun j v hv => ext_alloc _ _ _ _ _ ((cell_new w _ _ j).trans hv)
    have M2 := hid m2
    have B2 := hid b2
    clear m1 m2 b1 b2
    cases hb : beats ⟨⟨nn, vl, st⟩, ow, ⟨x, y, z⟩⟩ ⟨⟨an, av, ast⟩, ao, ⟨p, q, r⟩⟩ with
    | false =>
      have HO : Hid (∀ q, win q cs = win q (cs ++ [⟨⟨nn, vl, st⟩, ow, ⟨x, y, z⟩⟩])) := fun q => win_less (c := ⟨⟨nn, vl, st⟩, ow, ⟨x, y, z⟩⟩) ho hb q
      rw [hb] at HBT
      clear ho hb
      go_enter Tryz.func66, Tryz.ntmps66
      go_wp2_with (go_at_call 67; refine (HBT.out _).mono ?_; rintro e w3 ⟨rfl, hb3⟩)
      exact bodyPost_end (results_none rfl _ _ _) rfl ⟨rfl, ⟨n, by have := HL.out; simp; omega, (M2.out.below hb3).congr HO.out⟩, Fr.below (below_trans B2.out hb3 (Nat.le_refl _)) M⟩
    | true =>
      have HO : Hid (∀ q, updK (fun q => win q cs) nn.data.toList ⟨⟨nn, vl, st⟩, ow, ⟨x, y, z⟩⟩ q = win q (cs ++ [⟨⟨nn, vl, st⟩, ow, ⟨x, y, z⟩⟩])) := fun q => win_more (c := ⟨⟨nn, vl, st⟩, ow, ⟨x, y, z⟩⟩) ho hb q
      rw [hb] at HBT
      clear ho hb
      go_enter Tryz.func66, Tryz.ntmps66
      go_wp2_with (go_at_call 67; refine (HBT.out _).mono ?_; rintro e w3 ⟨rfl, hb3⟩; have x3 := Ext.below hb3; have g := x3 _ _ _ HB2.out; have g0 := x3 _ _ _ (C2.out 0 _ rfl); have g1 := x3 _ _ _ (C2.out 1 _ rfl); have g2 := x3 _ _ _ (C2.out 2 _ rfl); have g3 := x3 _ _ _ (C2.out 3 _ rfl); have g4 := x3 _ _ _ (C2.out 4 _ rfl); have g5 := x3 _ _ _ (C2.out 5 _ rfl); have g6 := x3 _ _ _ (C2.out 6 _ rfl); have HB3 := hid hb3; clear x3 hb3)
      refine uponC_ins (n := n) (f := fun q => win q cs) (M2.out.below HB3.out) HN.out WK.out fun w' hm' hg => ?_
      go_wp2_with fail
      exact bodyPost_end (results_none rfl _ _ _) rfl ⟨rfl, ⟨n + 1, by have := HL.out; simp; omega, hm'.congr HO.out⟩, (Fr.below (below_trans B2.out HB3.out (Nat.le_refl _)) M).trans (Fr.grown hg)⟩
end Go.Proofs.YtblkldfokeeaeacGreatDoor
namespace Go.Proofs.YtblkldfokeeaeacGreatDoor
open Go.RowKit Go.Maps
def WC (w : World) (T : Nat) (x : Wt) : Prop := w.cell? ⟨T, 0, none⟩ = some (.int .i64 x.a) ∧ w.cell? ⟨T, 1, none⟩ = some (.int .i64 x.b) ∧ w.cell? ⟨T, 2, none⟩ = some (.int .i64 x.c)
theorem WC.ext {w w' : World} {T : Nat} {x : Wt} (h : WC w T x) (e : Ext w w') : WC w' T x := ⟨e _ _ _ h.1, e _ _ _ h.2.1, e _ _ _ h.2.2⟩
def tellV (B : Nat) : Value := .func (.func 66) #[] #[.pointer (some ⟨B, 0, none⟩)]
set_option maxRecDepth 100000 in
set_option maxHeartbeats 4000000 in
theorem tell1_any (d : Dc) (F T B M : Nat) (x : Wt) (cs : List Cl) (w : World) (hF : w.cell? ⟨F, 0, none⟩ = some (tellV B)) (hT : WC w T x) (hB : w.cell? ⟨B, 0, none⟩ = some (.map (some M))) (hM : MW w M cs) (hn : cs.length < maxLen) (wk : d.name.size ≤ maxLen) :
    Calls Tryz.prog 99 #[declV d, .pointer (some ⟨F, 0, none⟩), .pointer (some ⟨T, 0, none⟩)] w fun e w' => e = .returned (.tuple #[]) ∧ MW w' M (cs ++ [⟨d, false, x⟩]) ∧ Fr M w w' := by
  obtain ⟨nn, vl, st⟩ := d
  obtain ⟨a, b, c⟩ := x
  have e1 := ext_alloc w (.cells #[.string nn, .string vl, .bool st] 40)
  have b1 : Below w.heap.size w (w.alloc (.cells #[.string nn, .string vl, .bool st] 40)) := (Below.refl _ _).alloc (Nat.le_refl _) _
  have f1 := e1 _ _ _ hF
  obtain ⟨t0, t1, t2⟩ := hT.ext e1
  have HC := hid (tell_any ⟨⟨nn, vl, st⟩, false, ⟨a, b, c⟩⟩ B M cs (w.alloc (.cells #[.string nn, .string vl, .bool st] 40)) (e1 _ _ _ hB) (hM.below b1) hn wk)
  have B1 := hid b1
  simp only [declV, tellV, clV] at *
  clear e1 b1 hF hT hB hM hn wk
  go_enter Tryz.func99, Tryz.ntmps99
  go_wp2_with (go_at_call 66; refine HC.out.mono ?_; rintro e w3 ⟨rfl, hm3, hf3⟩)
  exact bodyPost_end (results_none rfl _ _ _) rfl ⟨rfl, hm3, (Fr.below B1.out M).trans hf3⟩
set_option maxRecDepth 100000 in
set_option maxHeartbeats 4000000 in
theorem tell2_any (d : Dc) (F B M : Nat) (cs : List Cl) (w : World) (hF : w.cell? ⟨F, 0, none⟩ = some (tellV B)) (hB : w.cell? ⟨B, 0, none⟩ = some (.map (some M))) (hM : MW w M cs) (hn : cs.length < maxLen) (wk : d.name.size ≤ maxLen) :
    Calls Tryz.prog 100 #[declV d, .pointer (some ⟨F, 0, none⟩)] w fun e w' => e = .returned (.tuple #[]) ∧ MW w' M (cs ++ [⟨d, true, w00⟩]) ∧ Fr M w w' := by
  obtain ⟨nn, vl, st⟩ := d
  have e1 := ext_alloc w (.cells #[.string nn, .string vl, .bool st] 40)
  have b1 : Below w.heap.size w (w.alloc (.cells #[.string nn, .string vl, .bool st] 40)) := (Below.refl _ _).alloc (Nat.le_refl _) _
  have f1 := e1 _ _ _ hF
  have HC := hid (tell_any ⟨⟨nn, vl, st⟩, true, w00⟩ B M cs (w.alloc (.cells #[.string nn, .string vl, .bool st] 40)) (e1 _ _ _ hB) (hM.below b1) hn wk)
  have B1 := hid b1
  simp only [declV, tellV, clV, w00] at *
  clear e1 b1 hF hB hM hn wk
  go_enter Tryz.func100, Tryz.ntmps100
  go_wp2_with (go_at_call 66; refine HC.out.mono ?_; rintro e w3 ⟨rfl, hm3, hf3⟩)
  exact bodyPost_end (results_none rfl _ _ _) rfl ⟨rfl, hm3, (Fr.below B1.out M).trans hf3⟩
end Go.Proofs.YtblkldfokeeaeacGreatDoor
namespace Go.Proofs.YtblkldfokeeaeacGreatDoor
open Go.RowKit Go.Maps
theorem exp_names {d : Dc} {X : List Dc} (h : expB d = some X) (hs : d.name.size ≤ lim) : ∀ y ∈ X, y.name.size ≤ lim := by
  unfold expB at h
  split at h
  · split at h
    · cases h
    · injection h with h
      subst h
      intro y hy
      simp only [fourB, List.mem_cons, List.not_mem_nil, or_false] at hy
      rcases hy with rfl | rfl | rfl | rfl
      · exact (show sd0.size ≤ lim by decide +kernel)
      · exact (show sd1.size ≤ lim by decide +kernel)
      · exact (show sd2.size ≤ lim by decide +kernel)
      · exact (show sd3.size ≤ lim by decide +kernel)
  · injection h with h
    subst h
    intro y hy
    simp only [List.mem_singleton] at hy
    subst hy
    exact hs
theorem all_names : ∀ {l a : List Dc}, allB l = some a → (∀ x ∈ l, x.name.size ≤ lim) → ∀ y ∈ a, y.name.size ≤ lim
  | [], a, h, _ => by
    injection h with h
    subst h
    intro y hy
    cases hy
  | d :: l, a, h, hs => by
    unfold allB at h
    cases hx : expB d with
    | none => rw [hx] at h; cases h
    | some X =>
      cases hl : allB l with
      | none => rw [hx, hl] at h; cases h
      | some A =>
        rw [hx, hl] at h
        injection h with h
        subst h
        intro y hy
        rcases List.mem_append.1 hy with hy | hy
        · exact exp_names hx (hs d (List.mem_cons_self ..)) y hy
        · exact all_names hl (fun x hx => hs x (List.mem_cons_of_mem _ hx)) y hy
theorem asC_snoc (own : Bool) (x : Wt) (A : List Dc) {j : Nat} (hj : j < A.length) : asC own x (A.take (j + 1)) = asC own x (A.take j) ++ [⟨A[j], own, x⟩] := by
  unfold asC
  rw [List.take_succ_eq_append_getElem hj, List.map_append]
  rfl
theorem asC_len (own : Bool) (x : Wt) (A : List Dc) : (asC own x A).length = A.length := by unfold asC; simp
def codeA (o : Option (List Dc)) : Int := if o.isSome then 0 else 5
set_option maxRecDepth 100000 in
set_option maxHeartbeats 4000000 in
theorem exp1_any (dv : Value) (ds : List Dc) (F T B M : Nat) (x : Wt) (cs : List Cl) (w : World) (hD : DsAt w dv ds) (hs : SmDs ds) (hTb : Tab w) (hF : w.cell? ⟨F, 0, none⟩ = some (tellV B)) (hT : WC w T x) (hB : w.cell? ⟨B, 0, none⟩ = some (.map (some M))) (hM : MW w M cs) (hn : cs.length ≤ 1152921504606846976) :
    Calls Tryz.prog 98 #[dv, .func (.func 99) #[] #[.pointer (some ⟨F, 0, none⟩), .pointer (some ⟨T, 0, none⟩)]] w fun e w' => e = .returned (.int .i64 (codeA (allB ds))) ∧ MW w' M (cs ++ asC false x ((allB ds).getD [])) ∧ Fr M w w' := by
  obtain ⟨sa, sc, rfl⟩ := Sl.form hD
  have HD := hid hD
  have HS := hid hs
  have HT := hid hT
  have HTb := hid hTb
  have HF := hid hF
  have HB := hid hB
  have HM := hid hM
  have hll := hs.1
  unfold lim at hll
  clear hD hs hTb hF hT hB hM
  go_enter Tryz.func98, Tryz.ntmps98
  go_wp2_with fail
  refine (all_any _ ds w HD.out HS.out HTb.out).mono ?_
  rintro e w1 ⟨hA, hb1⟩
  have HB1 := hid hb1
  cases ha : allB ds with
  | none =>
    rw [ha] at hA
    obtain rfl : e = .returned badV := hA
    simp only [badV]
    have HM1 := hid (HM.out.below hb1)
    have HA := hid ha
    clear ha hb1
    go_wp2_with fail
    go_loopg [16] 0 (fun n i wr => i = .int .i64 0 ∧ wr = w1)
    case atStart => exact ⟨rfl, rfl⟩
    case round =>
      obtain ⟨rfl, hw⟩ := hrel
      subst hw
      go_wp2_with fail
      go_ret
      rw [HA.out]
      exact ⟨rfl, by simpa [asC] using HM1.out, Fr.below HB1.out M⟩
  | some A =>
    rw [ha] at hA
    obtain ⟨aa, ac, rfl, hDA⟩ := hA
    have hAl : A.length ≤ 4194304 := by have := allB_len ha; omega
    have HNm := hid (fun y hy => Nat.le_trans (all_names ha (fun x hx => (HS.out.2 x hx).1) y hy) (show lim ≤ maxLen by decide))
    have HM1 := hid (HM.out.below hb1)
    have HDA := hid hDA
    have HA := hid ha
    have HF1 := hid (Ext.below hb1 _ _ _ HF.out)
    have HBc1 := hid (Ext.below hb1 _ _ _ HB.out)
    have HT1 := hid (HT.out.ext (Ext.below hb1))
    clear ha hDA hb1 HF HB HT
    go_wp2_with fail
    go_loopg [16] A.length (fun n i wr => ∃ j : Nat, n = A.length - j ∧ j ≤ A.length ∧ i = .int .i64 (j : Int) ∧ MW wr M (cs ++ asC false x (A.take j)) ∧ Fr M w1 wr)
    case atStart => exact ⟨0, rfl, Nat.zero_le _, rfl, by simpa [asC] using HM1.out, Fr.refl _ _⟩
    case round =>
      obtain ⟨j, hn', hj, rfl, hm, hf⟩ := hrel
      have GK := hid hn'
      have MM := hid hm
      have FF := hid hf
      have MT : Hid (M < w1.heap.size) := HM1.out.lt
      obtain ⟨es, cl, hmap⟩ := HM1.out.map
      have XX := hid (hf.ext hmap)
      clear hn' hm hf hmap
      by_cases hlt : j < A.length
      · obtain ⟨b, off, rfl, he⟩ := Sl.at (HDA.out.ext XX.out) hlt
        obtain ⟨c0, c1, c2⟩ := he.cells
        have HSn := hid (asC_snoc false x A hlt)
        have HNj := hid (HNm.out A[j] (List.getElem_mem hlt))
        clear he
        generalize A[j] = d at *
        obtain ⟨dn, dl, st⟩ := d
        simp only at c0 c1 c2
        have e2 := ext_alloc wr (.cells #[.string dn, .string dl, .bool st] 40)
        have b2 : Below wr.heap.size wr (wr.alloc (.cells #[.string dn, .string dl, .bool st] 40)) := (Below.refl _ _).alloc (Nat.le_refl _) _
        have B2 := hid b2
        have HC := hid (tell1_any ⟨dn, dl, st⟩ F T B M x (cs ++ asC false x (A.take j)) (wr.alloc (.cells #[.string dn, .string dl, .bool st] 40)) (e2 _ _ _ (XX.out _ _ _ HF1.out)) ((HT1.out.ext XX.out).ext e2) (e2 _ _ _ (XX.out _ _ _ HBc1.out)) (MM.out.below b2)
          (by rw [List.length_append, asC_len, List.length_take]; unfold maxLen; omega) HNj.out)
        simp only [declV] at HC
        clear e2 b2
        go_wp2_with (go_at_call 99; refine HC.out.mono ?_; rintro e w3 ⟨rfl, hm3, hf3⟩)
        go_roundg (A.length - (j + 1))
        case measure => have := GK.out; omega
        case rel => exact ⟨j + 1, rfl, by omega, by go_num, by rw [HSn.out, ← List.append_assoc]; exact hm3, FF.out.trans ((Fr.below B2.out M).trans hf3)⟩
      · go_wp2_with fail
        go_ret
        rw [HA.out]
        refine ⟨rfl, ?_, (Fr.below HB1.out M).trans FF.out⟩
        have := MM.out
        rw [List.take_of_length_le (by omega)] at this
        exact this
set_option maxRecDepth 100000 in
set_option maxHeartbeats 4000000 in
theorem exp2_any (dv : Value) (ds : List Dc) (F B M : Nat) (cs : List Cl) (w : World) (hD : DsAt w dv ds) (hs : SmDs ds) (hTb : Tab w) (hF : w.cell? ⟨F, 0, none⟩ = some (tellV B)) (hB : w.cell? ⟨B, 0, none⟩ = some (.map (some M))) (hM : MW w M cs) (hn : cs.length ≤ 1152921504606846976) :
    Calls Tryz.prog 98 #[dv, .func (.func 100) #[] #[.pointer (some ⟨F, 0, none⟩)]] w fun e w' => e = .returned (.int .i64 (codeA (allB ds))) ∧ MW w' M (cs ++ asC true w00 ((allB ds).getD [])) ∧ Fr M w w' := by
  obtain ⟨sa, sc, rfl⟩ := Sl.form hD
  have HD := hid hD
  have HS := hid hs
  have HTb := hid hTb
  have HF := hid hF
  have HB := hid hB
  have HM := hid hM
  have hll := hs.1
  unfold lim at hll
  clear hD hs hTb hF hB hM
  go_enter Tryz.func98, Tryz.ntmps98
  go_wp2_with fail
  refine (all_any _ ds w HD.out HS.out HTb.out).mono ?_
  rintro e w1 ⟨hA, hb1⟩
  have HB1 := hid hb1
  cases ha : allB ds with
  | none =>
    rw [ha] at hA
    obtain rfl : e = .returned badV := hA
    simp only [badV]
    have HM1 := hid (HM.out.below hb1)
    have HA := hid ha
    clear ha hb1
    go_wp2_with fail
    go_loopg [16] 0 (fun n i wr => i = .int .i64 0 ∧ wr = w1)
    case atStart => exact ⟨rfl, rfl⟩
    case round =>
      obtain ⟨rfl, hw⟩ := hrel
      subst hw
      go_wp2_with fail
      go_ret
      rw [HA.out]
      exact ⟨rfl, by simpa [asC] using HM1.out, Fr.below HB1.out M⟩
  | some A =>
    rw [ha] at hA
    obtain ⟨aa, ac, rfl, hDA⟩ := hA
    have hAl : A.length ≤ 4194304 := by have := allB_len ha; omega
    have HNm := hid (fun y hy => Nat.le_trans (all_names ha (fun x hx => (HS.out.2 x hx).1) y hy) (show lim ≤ maxLen by decide))
    have HM1 := hid (HM.out.below hb1)
    have HDA := hid hDA
    have HA := hid ha
    have HF1 := hid (Ext.below hb1 _ _ _ HF.out)
    have HBc1 := hid (Ext.below hb1 _ _ _ HB.out)
    clear ha hDA hb1 HF HB
    go_wp2_with fail
    go_loopg [16] A.length (fun n i wr => ∃ j : Nat, n = A.length - j ∧ j ≤ A.length ∧ i = .int .i64 (j : Int) ∧ MW wr M (cs ++ asC true w00 (A.take j)) ∧ Fr M w1 wr)
    case atStart => exact ⟨0, rfl, Nat.zero_le _, rfl, by simpa [asC] using HM1.out, Fr.refl _ _⟩
    case round =>
      obtain ⟨j, hn', hj, rfl, hm, hf⟩ := hrel
      have GK := hid hn'
      have MM := hid hm
      have FF := hid hf
      have MT : Hid (M < w1.heap.size) := HM1.out.lt
      obtain ⟨es, cl, hmap⟩ := HM1.out.map
      have XX := hid (hf.ext hmap)
      clear hn' hm hf hmap
      by_cases hlt : j < A.length
      · obtain ⟨b, off, rfl, he⟩ := Sl.at (HDA.out.ext XX.out) hlt
        obtain ⟨c0, c1, c2⟩ := he.cells
        have HSn := hid (asC_snoc true w00 A hlt)
        have HNj := hid (HNm.out A[j] (List.getElem_mem hlt))
        clear he
        generalize A[j] = d at *
        obtain ⟨dn, dl, st⟩ := d
        simp only at c0 c1 c2
        have e2 := ext_alloc wr (.cells #[.string dn, .string dl, .bool st] 40)
        have b2 : Below wr.heap.size wr (wr.alloc (.cells #[.string dn, .string dl, .bool st] 40)) := (Below.refl _ _).alloc (Nat.le_refl _) _
        have B2 := hid b2
        have HC := hid (tell2_any ⟨dn, dl, st⟩ F B M (cs ++ asC true w00 (A.take j)) (wr.alloc (.cells #[.string dn, .string dl, .bool st] 40)) (e2 _ _ _ (XX.out _ _ _ HF1.out)) (e2 _ _ _ (XX.out _ _ _ HBc1.out)) (MM.out.below b2)
          (by rw [List.length_append, asC_len, List.length_take]; unfold maxLen; omega) HNj.out)
        simp only [declV] at HC
        clear e2 b2
        go_wp2_with (go_at_call 100; refine HC.out.mono ?_; rintro e w3 ⟨rfl, hm3, hf3⟩)
        go_roundg (A.length - (j + 1))
        case measure => have := GK.out; omega
        case rel => exact ⟨j + 1, rfl, by omega, by go_num, by rw [HSn.out, ← List.append_assoc]; exact hm3, FF.out.trans ((Fr.below B2.out M).trans hf3)⟩
      · go_wp2_with fail
        go_ret
        rw [HA.out]
        refine ⟨rfl, ?_, (Fr.below HB1.out M).trans FF.out⟩
        have := MM.out
        rw [List.take_of_length_le (by omega)] at this
        exact this
end Go.Proofs.YtblkldfokeeaeacGreatDoor
