/-
  The closed fact that the statements ask first: alive answers true. Condition: the world holds a number where the library keeps MaxLen.
-/
import Derived.Test.YtlodblcmpebfkaaDoorM9
import Derived.Laws.StructEq
import Derived.ChangeKeysEq
namespace Go.Proofs.YtlodblcmpebfkaaDoor
open Go.RowKit

def pgL : List Nd := [⟨⟨#[112]⟩, -1, [⟨clsN, ⟨#[97, 32, 98]⟩, 0, 0⟩], 0, 0, 0⟩, ⟨⟨#[98]⟩, 0, [], 0, 0, 0⟩, ⟨⟨#[105]⟩, 0, [⟨idN, ⟨#[113]⟩, 0, 0⟩], 0, 0, 0⟩]
def alS : List Pt := [⟨1, [⟨2, ⟨#[98]⟩, ⟨#[]⟩⟩]⟩, ⟨1, [⟨3, ⟨#[113]⟩, ⟨#[]⟩⟩]⟩]

theorem al_ab0 : aboves pgL 0 = [] := aboves_neg (by decide)
theorem al_ab2 : aboves pgL 2 = [0] := by
  rw [aboves_pos (by decide) (by decide)]
  show 0 :: aboves pgL 0 = [0]
  rw [al_ab0]
theorem al_yes : matchB pgL 2 alS = true := by
  show (true && true && (partB pgL 2 ⟨1, [⟨3, ⟨#[113]⟩, ⟨#[]⟩⟩]⟩ && (aboves pgL 2).any fun y => partB pgL y ⟨1, [⟨2, ⟨#[98]⟩, ⟨#[]⟩⟩]⟩ && true)) = true
  rw [al_ab2]
  decide +kernel
theorem al_no : matchB pgL 1 alS = false := by
  show (true && true && (partB pgL 1 ⟨1, [⟨3, ⟨#[113]⟩, ⟨#[]⟩⟩]⟩ && (aboves pgL 1).any fun y => partB pgL y ⟨1, [⟨2, ⟨#[98]⟩, ⟨#[]⟩⟩]⟩ && true)) = false
  have : partB pgL 1 ⟨1, [⟨3, ⟨#[113]⟩, ⟨#[]⟩⟩]⟩ = false := by decide +kernel
  rw [this]; rfl
theorem al_w : wts alS = ⟨1, 1, 0⟩ := rfl
theorem al_sm : SmNs pgL := ⟨by unfold lim; decide, fun x hx => by
  simp [pgL] at hx
  rcases hx with rfl | rfl | rfl
  · exact ⟨by unfold lim; decide, fun a ha => by simp at ha; subst ha; unfold lim; decide⟩
  · exact ⟨by unfold lim; decide, fun a ha => by simp at ha⟩
  · exact ⟨by unfold lim; decide, fun a ha => by simp at ha; subst ha; unfold lim; decide⟩⟩
theorem al_ss : SmS alS := ⟨by unfold lim; decide, by unfold lim; decide⟩

/-! ### weights are equal where their numbers are -/
def wEq (x y : Wt) : Bool := x.a == y.a && (x.b == y.b && x.c == y.c)
theorem Tryd.arrW : Tryd.prog.underlying 35 = some (.array 3 3) := by kernel_rfl
theorem eg35 : Tryd.prog.eqGuardType Tryd.prog.depth 35 = false := by kernel_rfl
theorem cells3 : Tryd.prog.cellsOf 3 = 1 := by kernel_rfl
theorem weqIn (d : Nat) (a b c x y z : Int) (w : World) : (Op.equalIn (d + 2) 35 (.agg #[.int .i64 a, .int .i64 b, .int .i64 c]) (.agg #[.int .i64 x, .int .i64 y, .int .i64 z])).run Tryd.prog w = .ok (a == x && (b == y && c == z)) w := by
  obtain ⟨i0, hi, _, _, _⟩ := info_parts Tryd.infoI
  rw [run_equalIn_array w (d + 1) _ _ Tryd.arrW hi, cells3]
  have p : ∀ (u v q : Int) (j : Nat) (t : Int), (#[Value.int .i64 u, .int .i64 v, .int .i64 q])[j]? = some (.int .i64 t) → ∀ w, (Go.part 3 #[.int .i64 u, .int .i64 v, .int .i64 q] j).run Tryd.prog w = .ok (.int .i64 t) w := fun u v q j t h w => by
    simp [Go.part, go_sem, h]
  have e : ∀ (u v : Int) (w : World), (Op.equalIn (d + 1) 3 (.int .i64 u) (.int .i64 v)).run Tryd.prog w = .ok (u == v) w := fun u v w => run_equalIn_int w d 3 .i64 .i64 u v Tryd.underlying3
  have a0 := p a b c 0 a rfl
  have a1 := p a b c 1 b rfl
  have a2 := p a b c 2 c rfl
  have x0 := p x y z 0 x rfl
  have x1 := p x y z 1 y rfl
  have x2 := p x y z 2 z rfl
  show (Op.eqItems (d + 1) 3 1 _ _ [0, 1, 2]).run Tryd.prog w = _
  simp only [Op.eqItems, Sem.run_bind, Nat.mul_one, a0, x0, Result.andThen_ok, e]
  cases (a == x) <;> cases hb : (b == y) <;> cases hc : (c == z) <;> simp [a1, a2, x1, x2, e, hb, hc]
theorem weq (a b c x y z : Int) (w : World) : (binOp .eql 35 (.agg #[.int .i64 a, .int .i64 b, .int .i64 c]) (.agg #[.int .i64 x, .int .i64 y, .int .i64 z])).run Tryd.prog w = .ok (.bool (a == x && (b == y && c == z))) w := by
  rw [run_eql_struct, weqIn 9998]; rfl

theorem ats_new (w : World) (n v : ByteArray) : AtsAt (w.alloc (.cells #[.string n, .string v, .int .i64 0, .int .i64 0] 68)) (.slice (some ⟨w.heap.size, 0, none⟩) 1 1) [⟨n, v, 0, 0⟩] := by
  refine ⟨_, 1, rfl, nofun, fun i hi => ⟨w.heap.size, 0, rfl, ?_⟩⟩
  obtain rfl : i = 0 := by simp at hi; omega
  exact ⟨by show World.cell? _ ⟨_, 0, none⟩ = _; rw [cell_new]; rfl, by show World.cell? _ ⟨_, 1, none⟩ = _; rw [cell_new]; rfl, by show World.cell? _ ⟨_, 2, none⟩ = _; rw [cell_new]; rfl, by show World.cell? _ ⟨_, 3, none⟩ = _; rw [cell_new]; rfl⟩
theorem ts_new (w : World) (k : Int) (n v : ByteArray) : TsAt (w.alloc (.cells #[.int .i64 k, .string n, .string v] 41)) (.slice (some ⟨w.heap.size, 0, none⟩) 1 1) [⟨k, n, v⟩] := by
  refine ⟨_, 1, rfl, nofun, fun i hi => ⟨w.heap.size, 0, rfl, ?_⟩⟩
  obtain rfl : i = 0 := by simp at hi; omega
  exact ⟨by show World.cell? _ ⟨_, 0, none⟩ = _; rw [cell_new]; rfl, by show World.cell? _ ⟨_, 1, none⟩ = _; rw [cell_new]; rfl, by show World.cell? _ ⟨_, 2, none⟩ = _; rw [cell_new]; rfl⟩
theorem ats_nil (w : World) : AtsAt w (.slice none 0 0) [] := ⟨none, 0, rfl, fun _ => rfl, fun _ hi => absurd hi (Nat.not_lt_zero _)⟩
theorem ext_alloc (w : World) (o : Obj) : Ext w (w.alloc o) := Ext.below ((Below.refl _ _).alloc (Nat.le_refl _) _)

theorem one_any (kd : Int) (nm : ByteArray) (w : World) :
    Calls Tryd.prog 19 #[.int .i64 kd, .string nm] w fun e w' => ∃ a c, e = .returned (.agg #[.int .i64 1, .slice a 1 c]) ∧ TsAt w' (.slice a 1 c) [⟨kd, nm, ⟨#[]⟩⟩] ∧ Below w.heap.size w w' := by
  go_enter Tryd.func19, Tryd.ntmps19
  go_wp2
  refine bodyPost_ret (v := .agg #[.int .i64 1, .slice (some ⟨w.heap.size + 1, 0, none⟩) 1 1]) (by simp [results, Tryd.results19, go_sem]) rfl ⟨_, _, rfl, ?_, ((Below.refl _ _).alloc (Nat.le_refl _) _).alloc (by simp) _⟩
  have := ts_new (w.alloc (.cells #[.int .i64 1, .slice (some ⟨w.heap.size + 1, 0, none⟩) 1 1] 45)) kd nm ⟨#[]⟩
  simpa using this
theorem nds_new (w : World) (v0 v1 : Value) (a0 a1 : List At) (n0 n1 n2 : ByteArray) (p0 p1 p2 : Int) (h0 : AtsAt w v0 a0) (h1 : AtsAt w v1 a1) :
    NdsAt (w.alloc (.cells #[.string n0, .int .i64 p0, v0, .int .i64 0, .int .i64 0, .int .i64 0, .string n1, .int .i64 p1, .slice none 0 0, .int .i64 0, .int .i64 0, .int .i64 0, .string n2, .int .i64 p2, v1, .int .i64 0, .int .i64 0, .int .i64 0] 51)) (.slice (some ⟨w.heap.size, 0, none⟩) 3 3)
      [⟨n0, p0, a0, 0, 0, 0⟩, ⟨n1, p1, [], 0, 0, 0⟩, ⟨n2, p2, a1, 0, 0, 0⟩] := by
  have e := ext_alloc w (.cells #[.string n0, .int .i64 p0, v0, .int .i64 0, .int .i64 0, .int .i64 0, .string n1, .int .i64 p1, .slice none 0 0, .int .i64 0, .int .i64 0, .int .i64 0, .string n2, .int .i64 p2, v1, .int .i64 0, .int .i64 0, .int .i64 0] 51)
  have c := cell_new w #[.string n0, .int .i64 p0, v0, .int .i64 0, .int .i64 0, .int .i64 0, .string n1, .int .i64 p1, .slice none 0 0, .int .i64 0, .int .i64 0, .int .i64 0, .string n2, .int .i64 p2, v1, .int .i64 0, .int .i64 0, .int .i64 0] 51
  refine ⟨_, 3, rfl, nofun, fun i hi => ⟨w.heap.size, 0, rfl, ?_⟩⟩
  match i, hi with
  | 0, _ => exact ⟨c 0, c 1, ⟨v0, c 2, h0.ext e⟩, c 3, c 4, c 5⟩
  | 1, _ => exact ⟨c 6, c 7, ⟨_, c 8, ats_nil _⟩, c 9, c 10, c 11⟩
  | 2, _ => exact ⟨c 12, c 13, ⟨v1, c 14, h1.ext e⟩, c 15, c 16, c 17⟩
theorem page_any (w : World) :
    Calls Tryd.prog 20 #[] w fun e w' => ∃ v, e = .returned v ∧ NdsAt w' v pgL ∧ Below w.heap.size w w' := by
  go_enter Tryd.func20, Tryd.ntmps20
  go_wp2
  go_ret
  refine ⟨_, rfl, ?_, (((Below.refl _ _).alloc (Nat.le_refl _) _).alloc (by simp) _).alloc (by simp; omega) _⟩
  have h0 := ats_new w clsN ⟨#[97, 32, 98]⟩
  have h1 := ats_new (w.alloc (.cells #[.string clsN, .string ⟨#[97, 32, 98]⟩, .int .i64 0, .int .i64 0] 68)) idN ⟨#[113]⟩
  have := nds_new _ _ _ _ _ ⟨#[112]⟩ ⟨#[98]⟩ ⟨#[105]⟩ (-1) 0 0 (h0.ext (ext_alloc _ (.cells #[.string idN, .string ⟨#[113]⟩, .int .i64 0, .int .i64 0] 68))) h1
  simp at this
  exact this
theorem ps_new (w : World) (v0 v1 : Value) (t0 t1 : List Ts) (h0 : TsAt w v0 t0) (h1 : TsAt w v1 t1) :
    PsAt (w.alloc (.cells #[.int .i64 1, v0, .int .i64 1, v1] 45)) (.slice (some ⟨w.heap.size, 0, none⟩) 2 2) [⟨1, t0⟩, ⟨1, t1⟩] := by
  have e := ext_alloc w (.cells #[.int .i64 1, v0, .int .i64 1, v1] 45)
  have c := cell_new w #[.int .i64 1, v0, .int .i64 1, v1] 45
  refine ⟨_, 2, rfl, nofun, fun i hi => ⟨w.heap.size, 0, rfl, ?_⟩⟩
  match i, hi with
  | 0, _ => exact ⟨c 0, v0, c 1, h0.ext e⟩
  | 1, _ => exact ⟨c 2, v1, c 3, h1.ext e⟩

set_option maxHeartbeats 1000000 in
theorem alive_any (w : World) (hm : Mx w) :
    Calls Tryd.prog 11 #[] w fun e w' => e = .returned (.bool true) ∧ Below w.heap.size w w' := by
  have HM := hid hm
  clear hm
  go_enter Tryd.func11, Tryd.ntmps11
  go_wp2_with fail
  refine (one_any 2 ⟨#[98]⟩ w).mono ?_
  rintro e w1 ⟨a1, c1, rfl, ht1, hb1⟩
  have HT1 := hid ht1
  have HB1 := hid hb1
  clear ht1 hb1
  go_wp2_with fail
  refine (one_any 3 ⟨#[113]⟩ w1).mono ?_
  rintro e w2 ⟨a2, c2, rfl, ht2, hb2⟩
  have HT2 := hid ht2
  have HT1' := hid (HT1.out.ext (Ext.below hb2))
  have HB2 := hid (below_trans HB1.out hb2 (Nat.le_refl _))
  clear ht2 hb2 HT1 HB1
  go_wp2_with fail
  have HP := hid (ps_new w2 (.slice a1 1 c1) (.slice a2 1 c2) _ _ HT1'.out HT2.out)
  have HB3 := hid (HB2.out.alloc HB2.out.size (.cells #[.int .i64 1, .slice a1 1 c1, .int .i64 1, .slice a2 1 c2] 45))
  have HSZ : Hid (∃ q, w2.heap.size = q) := ⟨_, rfl⟩
  generalize w2.alloc (.cells #[.int .i64 1, .slice a1 1 c1, .int .i64 1, .slice a2 1 c2] 45) = w3 at *
  refine (page_any w3).mono ?_
  rintro e w4 ⟨v4, rfl, hn4, hb4⟩
  have HN4 := hid hn4
  have HP4 := hid (HP.out.ext (Ext.below hb4))
  have HB4 := hid (below_trans HB3.out hb4 (Nat.le_refl _))
  clear hn4 hb4 HB3 HP
  go_wp2_with fail
  refine (matches_any v4 pgL 2 _ alS w4 HN4.out al_sm (HM.out.ext (Ext.below HB4.out)) HP4.out al_ss).mono ?_
  rintro e w5 ⟨rfl, hb5⟩
  rw [al_yes]
  have HP5 := hid (HP4.out.ext (Ext.below hb5))
  have HB5 := hid (below_trans HB4.out hb5 (Nat.le_refl _))
  clear hb5 HB4 HP4 HN4
  go_wp2_with fail
  refine (page_any w5).mono ?_
  rintro e w6 ⟨v6, rfl, hn6, hb6⟩
  have HN6 := hid hn6
  have HP6 := hid (HP5.out.ext (Ext.below hb6))
  have HB6 := hid (below_trans HB5.out hb6 (Nat.le_refl _))
  clear hn6 hb6 HB5 HP5
  go_wp2_with fail
  refine (matches_any v6 pgL 1 _ alS w6 HN6.out al_sm (HM.out.ext (Ext.below HB6.out)) HP6.out al_ss).mono ?_
  rintro e w7 ⟨rfl, hb7⟩
  rw [al_no]
  have HP7 := hid (HP6.out.ext (Ext.below hb7))
  have HB7 := hid (below_trans HB6.out hb7 (Nat.le_refl _))
  clear hb7 HB6 HP6 HN6
  go_wp2_with fail
  refine (weigh_any _ alS w7 HP7.out al_ss).mono ?_
  rintro e w8 ⟨rfl, hb8⟩
  rw [al_w]
  have HB8 := hid (below_trans HB7.out hb8 (Nat.le_refl _))
  clear hb8 HB7 HP7
  simp only [wtV]
  have e35 : ∀ w, (binOp .eql 35 (.agg #[.int .i64 1, .int .i64 1, .int .i64 0]) (.agg #[.int .i64 1, .int .i64 1, .int .i64 0])).run Tryd.prog w = .ok (.bool true) w := fun w => weq 1 1 0 1 1 0 w
  have i35 : ∀ w, (Op.equalIn 10000 35 (.agg #[.int .i64 1, .int .i64 1, .int .i64 0]) (.agg #[.int .i64 1, .int .i64 1, .int .i64 0])).run Tryd.prog w = .ok true w := fun w => weqIn 9998 1 1 0 1 1 0 w
  have g35 := eg35
  go_wp2_with fail
  go_ret
  exact ⟨rfl, HB8.out⟩
end Go.Proofs.YtlodblcmpebfkaaDoor
