/-
  What SameLook, rule and alive answer; the law CascadeMedia returns true. Conditions: the sizes that SmNs and SmRs name; the tables hold what their texts say.
-/
import Derived.Test.YtfobkiglmphgjabGreatDoorKC
namespace Go.Proofs.YtfobkiglmphgjabGreatDoor
open Go.RowKit Go.Maps

theorem us50 : Tryz.prog.underlying 50 = some (.struct (Tryz.prog.fieldsOf 50)) := by kernel_rfl
theorem st50 : Tryz.prog.stoodInHeld 50 = false := by kernel_rfl
theorem fs50 : (Tryz.prog.fieldsOf 50).toList.map (fun f => (f.name, f.type, f.offset)) = [("Name", 9, 0), ("Val", 9, 1), ("Strong", 4, 2)] := by kernel_rfl
theorem eg50 : Tryz.prog.eqGuardType Tryz.prog.depth 50 = false := by kernel_rfl
theorem seq50 (d : Nat) (a b : ByteArray) (t : Bool) (w : World) : (Op.equalIn (d + 2) 50 (.agg #[.string a, .string b, .bool t]) (.agg #[.string a, .string b, .bool t])).run Tryz.prog w = .ok true w := by
  rw [run_equalIn_struct w (d + 1) 50 _ _ us50 st50]
  refine fields_eq _ _ _ _ _ _ fun g hg => ?_
  have hm : (g.name, g.type, g.offset) ∈ [("Name", 9, 0), ("Val", 9, 1), ("Strong", 4, 2)] := by rw [← fs50]; exact List.mem_map_of_mem hg
  simp at hm
  rcases hm with ⟨_, h1, h2⟩ | ⟨_, h1, h2⟩ | ⟨_, h1, h2⟩
  · rw [h1, h2]
    refine ⟨.string a, .string a, by simp [Go.part, go_sem], by simp [Go.part, go_sem], ?_⟩
    rw [run_equalIn_string w d 9 a a Tryz.underlying9]; simp
  · rw [h1, h2]
    refine ⟨.string b, .string b, by simp [Go.part, go_sem], by simp [Go.part, go_sem], ?_⟩
    rw [run_equalIn_string w d 9 b b Tryz.underlying9]; simp
  · rw [h1, h2]
    refine ⟨.bool t, .bool t, by simp [Go.part, go_sem], by simp [Go.part, go_sem], ?_⟩
    rw [run_equalIn_bool' w d 4 t t Tryz.underlying4]; simp
theorem sneq50 (a b : ByteArray) (t : Bool) (w : World) : (binOp .neq 50 (.agg #[.string a, .string b, .bool t]) (.agg #[.string a, .string b, .bool t])).run Tryz.prog w = .ok (.bool false) w := by
  rw [run_neq_struct, seq50 9998]; rfl
set_option maxHeartbeats 2000000 in
theorem sameLook_any (l : List Dc) (u1 u2 : Value) (w : World) (hL : l.length ≤ 4398046511104) (h1 : DsAt w u1 l) (h2 : DsAt w u2 l) :
    Calls Tryz.prog 11 #[u1, u2] w fun e w' => e = .returned (.bool true) ∧ ∃ n, w' = w.drewN n := by
  obtain ⟨a1, c1, rfl⟩ := Sl.form h1
  obtain ⟨a2, c2, rfl⟩ := Sl.form h2
  have H1 := hid h1
  have H2 := hid h2
  clear h1 h2
  go_enter Tryz.func11, Tryz.ntmps11
  go_wp2_with fail
  go_loopg [13] l.length (fun n i wr => ∃ k, k ≤ l.length ∧ n = l.length - k ∧ i = .int .i64 (k : Int) ∧ ∃ m, wr = w.drewN m)
  case atStart => exact ⟨0, Nat.zero_le _, rfl, rfl, 0, rfl⟩
  case round =>
    obtain ⟨k, hk, hn, rfl, m, rfl⟩ := hrel
    have GK := hid hn
    clear hn
    by_cases hlt : k < l.length
    · obtain ⟨b1, o1, rfl, p⟩ := Sl.at H1.out hlt
      obtain ⟨b2, o2, rfl, q⟩ := Sl.at H2.out hlt
      obtain ⟨p0, p1, p2⟩ := p.cells
      obtain ⟨q0, q1, q2⟩ := q.cells
      clear p q
      generalize l[k] = d at *
      obtain ⟨nm, vl, st⟩ := d
      simp only at p0 p1 p2 q0 q1 q2
      have e50 := sneq50 nm vl st
      have g50 := eg50
      go_wp2_with fail
      go_quiet (fail)
      go_wp2_with fail
      go_roundg (l.length - (k + 1))
      case measure => have := GK.out; omega
      case rel => exact ⟨k + 1, by omega, rfl, by go_num, _, rfl⟩
    · go_wp2_with fail
      go_ret
      exact ⟨rfl, m, rfl⟩

/-! ### a rule of one test and one declaration -/
def ruleA (name prop val : ByteArray) : Ru := ⟨⟨#[]⟩, [[⟨0, [⟨1, name, ⟨#[]⟩⟩]⟩]], [⟨prop, val, false⟩], 0, 0⟩
theorem sl_one {α : Type} {w : World} {sz : Nat} {E : (Nat → Option Value) → α → Prop} {b : Nat} {x : α} (h : E (fun j => w.cell? ⟨b, 0 + 0 * sz + j, none⟩) x) : Sl w sz E (.slice (some ⟨b, 0, none⟩) 1 1) [x] := by
  refine ⟨_, 1, rfl, nofun, fun i hi => ⟨b, 0, rfl, ?_⟩⟩
  obtain rfl : i = 0 := by simp at hi; omega
  exact h
set_option maxHeartbeats 1000000 in
theorem rule_any (name prop val : ByteArray) (w : World) :
    Calls Tryz.prog 31 #[.string name, .string prop, .string val] w fun e w' => ∃ sa sn sc da dn dc, e = .returned (ruleV ⟨#[]⟩ (.slice sa sn sc) (.slice da dn dc) 0 0) ∧ SsAt w' (.slice sa sn sc) (ruleA name prop val).sels ∧ DsAt w' (.slice da dn dc) (ruleA name prop val).decls ∧ Below w.heap.size w w' := by
  go_enter Tryz.func31, Tryz.ntmps31
  go_wp2
  refine bodyPost_ret (v := ruleV ⟨#[]⟩ (.slice (some ⟨w.heap.size + 1 + 1 + 1, 0, none⟩) 1 1) (.slice (some ⟨w.heap.size + 1 + 1 + 1 + 1, 0, none⟩) 1 1) 0 0) (by simp [results, Tryz.results31, go_sem, ruleV]) rfl ⟨_, _, _, _, _, _, rfl, ?_⟩
  have b0 := (Below.refl w.heap.size w).alloc (Nat.le_refl _) (.cells #[.string ⟨#[]⟩, .slice (some ⟨w.heap.size + 1 + 1 + 1, 0, none⟩) 1 1, .slice (some ⟨w.heap.size + 1 + 1 + 1 + 1, 0, none⟩) 1 1, .int .i64 0, .int .i64 0] 40)
  have z0 : (w.alloc (.cells #[.string ⟨#[]⟩, .slice (some ⟨w.heap.size + 1 + 1 + 1, 0, none⟩) 1 1, .slice (some ⟨w.heap.size + 1 + 1 + 1 + 1, 0, none⟩) 1 1, .int .i64 0, .int .i64 0] 40)).heap.size = w.heap.size + 1 := by simp
  generalize w.alloc (.cells #[.string ⟨#[]⟩, .slice (some ⟨w.heap.size + 1 + 1 + 1, 0, none⟩) 1 1, .slice (some ⟨w.heap.size + 1 + 1 + 1 + 1, 0, none⟩) 1 1, .int .i64 0, .int .i64 0] 40) = A0 at *
  have t1 := ts_new A0 1 name ⟨#[]⟩
  have b1 := b0.alloc b0.size (.cells #[.int .i64 1, .string name, .string ⟨#[]⟩] 109)
  have z1 : (A0.alloc (.cells #[.int .i64 1, .string name, .string ⟨#[]⟩] 109)).heap.size = w.heap.size + 1 + 1 := by simp [z0]
  rw [z0] at t1
  generalize A0.alloc (.cells #[.int .i64 1, .string name, .string ⟨#[]⟩] 109) = A1 at *
  have b2 := b1.alloc b1.size (.cells #[.int .i64 0, .slice (some ⟨w.heap.size + 1, 0, none⟩) 1 1] 112)
  have e2 := ext_alloc A1 (.cells #[.int .i64 0, .slice (some ⟨w.heap.size + 1, 0, none⟩) 1 1] 112)
  have c2 := cell_new A1 #[.int .i64 0, .slice (some ⟨w.heap.size + 1, 0, none⟩) 1 1] 112
  have z2 : (A1.alloc (.cells #[.int .i64 0, .slice (some ⟨w.heap.size + 1, 0, none⟩) 1 1] 112)).heap.size = w.heap.size + 1 + 1 + 1 := by simp [z1]
  rw [z1] at c2
  generalize A1.alloc (.cells #[.int .i64 0, .slice (some ⟨w.heap.size + 1, 0, none⟩) 1 1] 112) = A2 at *
  have p2 : PsAt A2 (.slice (some ⟨w.heap.size + 1 + 1, 0, none⟩) 1 1) [⟨0, [⟨1, name, ⟨#[]⟩⟩]⟩] := sl_one ⟨by simpa using c2 0, _, by simpa using c2 1, t1.ext e2⟩
  have b3 := b2.alloc b2.size (.cells #[.slice (some ⟨w.heap.size + 1 + 1, 0, none⟩) 1 1] 58)
  have e3 := ext_alloc A2 (.cells #[.slice (some ⟨w.heap.size + 1 + 1, 0, none⟩) 1 1] 58)
  have c3 := cell_new A2 #[.slice (some ⟨w.heap.size + 1 + 1, 0, none⟩) 1 1] 58
  have z3 : (A2.alloc (.cells #[.slice (some ⟨w.heap.size + 1 + 1, 0, none⟩) 1 1] 58)).heap.size = w.heap.size + 1 + 1 + 1 + 1 := by simp [z2]
  rw [z2] at c3
  generalize A2.alloc (.cells #[.slice (some ⟨w.heap.size + 1 + 1, 0, none⟩) 1 1] 58) = A3 at *
  have s3 : SsAt A3 (.slice (some ⟨w.heap.size + 1 + 1 + 1, 0, none⟩) 1 1) [[⟨0, [⟨1, name, ⟨#[]⟩⟩]⟩]] := sl_one ⟨_, by simpa using c3 0, p2.ext e3⟩
  have d4 := ds_new A3 ⟨prop, val, false⟩
  rw [z3] at d4
  exact ⟨s3.ext (ext_alloc _ _), d4, b3.alloc b3.size _⟩
end Go.Proofs.YtfobkiglmphgjabGreatDoor

namespace Go.Proofs.YtfobkiglmphgjabGreatDoor
open Go.RowKit Go.Maps

def pN : ByteArray := ⟨#[112]⟩
def bN : ByteArray := ⟨#[98]⟩
def colorN : ByteArray := ⟨#[99, 111, 108, 111, 114]⟩
def widthN : ByteArray := ⟨#[119, 105, 100, 116, 104]⟩
def redN : ByteArray := ⟨#[114, 101, 100]⟩
def fiveN : ByteArray := ⟨#[53]⟩
def alL : List Nd := [⟨pN, -1, [], 0, 0, 0⟩, ⟨bN, 0, [], 0, 0, 0⟩]
def alR : List Ru := [ruleA pN colorN redN, ruleA pN widthN fiveN]
theorem al_m0 : matchB alL 0 [⟨0, [⟨1, pN, ⟨#[]⟩⟩]⟩] = true := by
  show (true && true && (partB alL 0 ⟨0, [⟨1, pN, ⟨#[]⟩⟩]⟩ && true)) = true
  decide +kernel
theorem al_m1 : matchB alL 1 [⟨0, [⟨1, pN, ⟨#[]⟩⟩]⟩] = false := by
  show (true && true && (partB alL 1 ⟨0, [⟨1, pN, ⟨#[]⟩⟩]⟩ && true)) = false
  decide +kernel
theorem al_st : styB ⟨#[]⟩ = .ok [] := by
  have : Sh.declsParse (⟨#[]⟩ : ByteArray).data.toList = .ok [] := by rfl
  unfold styB
  rw [this]
  rfl
theorem al_ct : counts ⟨#[]⟩ [] = true := by
  unfold counts
  rw [Lib.toList_data]
  rfl
theorem al_pl {d : Dc} (h : isE d = false) : allB [d] = some [d] := plain_allB (fun y hy => by
  obtain rfl := List.mem_singleton.1 hy
  exact h)
theorem al_r1 (p v : ByteArray) : ruleC alL 1 [] (ruleA pN p v) = some [] := ruleC_not (by
  show (bestB alL 1 [[⟨0, [⟨1, pN, ⟨#[]⟩⟩]⟩]]).2 = false
  rw [bestTo_one, al_m1]
  rfl)
theorem al_r0 {p v : ByteArray} (h : isE ⟨p, v, false⟩ = false) : ruleC alL 0 [] (ruleA pN p v) = some [⟨⟨p, v, false⟩, false, ⟨0, 0, 1⟩⟩] := by
  have hb : bestB alL 0 (ruleA pN p v).sels = (⟨0, 0, 1⟩, true) := by
    show bestB alL 0 [[⟨0, [⟨1, pN, ⟨#[]⟩⟩]⟩]] = _
    rw [bestTo_one, al_m0]
    rfl
  rw [ruleC_yes (show counts (ruleA pN p v).media [] = true from al_ct) (by rw [hb]), hb]
  show (allB [⟨p, v, false⟩]).map _ = _
  rw [al_pl h]
  rfl
theorem al_own (x : Nd) (h : x.attrs = []) : ownC styB x = .ok [] := by
  unfold ownC
  rw [h, show ((getA styleN []).getD ⟨#[]⟩) = ⟨#[]⟩ from rfl, al_st]
  rfl
theorem al_c1 : claimsB styB alL (1 : Nat) alR [] = .ok [] := by
  have hr : rulesC alL (1 : Nat) [] alR = some [] := by
    show (ruleC alL 1 [] (ruleA pN colorN redN)).bind (fun x => ((ruleC alL 1 [] (ruleA pN widthN fiveN)).bind fun x => (some []).map (x ++ ·)).map (x ++ ·)) = _
    rw [al_r1, al_r1]
    rfl
  rw [claims_own (show 1 < alL.length by decide) hr, al_own _ rfl]
  rfl
theorem al_c0 : claimsB styB alL (0 : Nat) alR [] = .ok [⟨⟨colorN, redN, false⟩, false, ⟨0, 0, 1⟩⟩, ⟨⟨widthN, fiveN, false⟩, false, ⟨0, 0, 1⟩⟩] := by
  have hr : rulesC alL (0 : Nat) [] alR = some [⟨⟨colorN, redN, false⟩, false, ⟨0, 0, 1⟩⟩, ⟨⟨widthN, fiveN, false⟩, false, ⟨0, 0, 1⟩⟩] := by
    show (ruleC alL 0 [] (ruleA pN colorN redN)).bind (fun x => ((ruleC alL 0 [] (ruleA pN widthN fiveN)).bind fun x => (some []).map (x ++ ·)).map (x ++ ·)) = _
    rw [al_r0 (by decide +kernel), al_r0 (by decide +kernel)]
    rfl
  rw [claims_own (show 0 < alL.length by decide) hr, al_own _ rfl]
  rfl
theorem al_inh : inhB colorN = true := by decide +kernel
theorem al_inw : inhB widthN = false := by decide +kernel
theorem al_ini : iniB widthN = ⟨#[110, 111, 110, 101]⟩ := by
  have : kf7 widthN.data.toList = none := by decide +kernel
  unfold iniB
  rw [this]
  rfl
theorem al_color : valueB styB inhB iniB alL alR [] colorN 1 = .ok redN := by
  rw [value_up styB inhB iniB al_c1 (show lookF [] colorN.data.toList = none from rfl) al_inh (show 0 ≤ par alL 1 by decide) (show par alL 1 < (1 : Nat) by decide)]
  show valueB styB inhB iniB alL alR [] colorN 0 = _
  have hw : lookF [⟨⟨colorN, redN, false⟩, false, ⟨0, 0, 1⟩⟩, ⟨⟨widthN, fiveN, false⟩, false, ⟨0, 0, 1⟩⟩] colorN.data.toList = some ⟨colorN, redN, false⟩ := by rfl
  exact value_there styB inhB iniB al_c0 hw
theorem al_width : valueB styB inhB iniB alL alR [] widthN 1 = .ok ⟨#[110, 111, 110, 101]⟩ := by
  rw [value_end styB inhB iniB al_c1 (show lookF [] widthN.data.toList = none from rfl) (by rw [al_inw]; simp), al_ini]
theorem al_smn : SmNs alL := ⟨by unfold lim; decide, fun x hx => by
  simp [alL] at hx
  rcases hx with rfl | rfl
  · exact ⟨by unfold lim; decide, fun a ha => by simp at ha⟩
  · exact ⟨by unfold lim; decide, fun a ha => by simp at ha⟩⟩
theorem al_smr : SmRs alR := ⟨by decide, by decide, fun x hx => by
  have hh : ∀ p v : ByteArray, p.size ≤ lim → v.size ≤ lim → SmR (ruleA pN p v) := fun p v h1 h2 => ⟨⟨by show (1 : Nat) ≤ lim; decide, fun s hs => by
    obtain rfl := List.mem_singleton.1 hs
    exact ⟨by show (1 : Nat) ≤ lim; decide, by show (1 : Nat) ≤ lim; decide⟩⟩, ⟨by show (1 : Nat) ≤ lim; decide, fun y hy => by
    obtain rfl := List.mem_singleton.1 hy
    exact ⟨h1, h2⟩⟩⟩
  simp only [alR, List.mem_cons, List.not_mem_nil, or_false] at hx
  rcases hx with rfl | rfl
  · exact hh _ _ (by decide) (by decide)
  · exact hh _ _ (by decide) (by decide)⟩
theorem nds2 (w : World) : NdsAt (w.alloc (.cells #[.string pN, .int .i64 (-1), .slice none 0 0, .int .i64 0, .int .i64 0, .int .i64 0, .string bN, .int .i64 0, .slice none 0 0, .int .i64 0, .int .i64 0, .int .i64 0] 54)) (.slice (some ⟨w.heap.size, 0, none⟩) 2 2) alL := by
  have c := cell_new w #[.string pN, .int .i64 (-1), .slice none 0 0, .int .i64 0, .int .i64 0, .int .i64 0, .string bN, .int .i64 0, .slice none 0 0, .int .i64 0, .int .i64 0, .int .i64 0] 54
  refine ⟨_, 2, rfl, nofun, fun i hi => ⟨w.heap.size, 0, rfl, ?_⟩⟩
  match i, hi with
  | 0, _ => exact ⟨c 0, c 1, ⟨_, c 2, ats_nil _⟩, c 3, c 4, c 5⟩
  | 1, _ => exact ⟨c 6, c 7, ⟨_, c 8, ats_nil _⟩, c 9, c 10, c 11⟩
theorem rus2 (w : World) {s1 d1 s2 d2 : Value} {r1 r2 : Ru} (hs1 : SsAt w s1 r1.sels) (hd1 : DsAt w d1 r1.decls) (hs2 : SsAt w s2 r2.sels) (hd2 : DsAt w d2 r2.decls) (h1 : r1.rf = 0 ∧ r1.rt = 0) (h2 : r2.rf = 0 ∧ r2.rt = 0) :
    RusAt (w.alloc (.cells #[.string r1.media, s1, d1, .int .i64 0, .int .i64 0, .string r2.media, s2, d2, .int .i64 0, .int .i64 0] 40)) (.slice (some ⟨w.heap.size, 0, none⟩) 2 2) [r1, r2] := by
  have c := cell_new w #[.string r1.media, s1, d1, .int .i64 0, .int .i64 0, .string r2.media, s2, d2, .int .i64 0, .int .i64 0] 40
  have e := ext_alloc w (.cells #[.string r1.media, s1, d1, .int .i64 0, .int .i64 0, .string r2.media, s2, d2, .int .i64 0, .int .i64 0] 40)
  refine ⟨_, 2, rfl, nofun, fun i hi => ⟨w.heap.size, 0, rfl, ?_⟩⟩
  match i, hi with
  | 0, _ => exact ⟨c 0, ⟨_, c 1, hs1.ext e⟩, ⟨_, c 2, hd1.ext e⟩, by show _ = some (Value.int .i64 r1.rf); rw [h1.1]; exact c 3, by show _ = some (Value.int .i64 r1.rt); rw [h1.2]; exact c 4⟩
  | 1, _ => exact ⟨c 5, ⟨_, c 6, hs2.ext e⟩, ⟨_, c 7, hd2.ext e⟩, by show _ = some (Value.int .i64 r2.rf); rw [h2.1]; exact c 8, by show _ = some (Value.int .i64 r2.rt); rw [h2.2]; exact c 9⟩
theorem bs_nil (w : World) : BsAt w (.slice none 0 0) [] := ⟨none, 0, rfl, fun _ => rfl, fun _ hi => absurd hi (Nat.not_lt_zero _)⟩

set_option maxRecDepth 100000 in
set_option maxHeartbeats 4000000 in
theorem alive_any (w : World) (hT : Tab w) :
    Calls Tryz.prog 14 #[] w fun e w' => e = .returned (.bool true) ∧ Below w.heap.size w w' := by
  have HT := hid hT
  have HN := hid (nds2 w)
  have HB := hid ((Below.refl w.heap.size w).alloc (Nat.le_refl _) (.cells #[.string pN, .int .i64 (-1), .slice none 0 0, .int .i64 0, .int .i64 0, .int .i64 0, .string bN, .int .i64 0, .slice none 0 0, .int .i64 0, .int .i64 0, .int .i64 0] 54))
  simp only [pN, bN] at HN HB
  clear hT
  go_enter Tryz.func14, Tryz.ntmps14
  go_wp2_with fail
  generalize w.alloc (.cells #[.string ⟨#[112]⟩, .int .i64 (-1), .slice none 0 0, .int .i64 0, .int .i64 0, .int .i64 0, .string ⟨#[98]⟩, .int .i64 0, .slice none 0 0, .int .i64 0, .int .i64 0, .int .i64 0] 54) = w0 at *
  refine (rule_any ⟨#[112]⟩ colorN redN w0).mono ?_
  rintro e w1 ⟨sa1, sn1, sc1, da1, dn1, dc1, rfl, hs1, hd1, hb1⟩
  simp only [ruleV]
  have S1 := hid hs1
  have D1 := hid hd1
  have B1 := hid (below_trans HB.out hb1 (Nat.le_refl _))
  have N1 := hid (HN.out.ext (Ext.below hb1))
  clear hs1 hd1 hb1 HN HB
  go_wp2_with fail
  refine (rule_any ⟨#[112]⟩ widthN fiveN w1).mono ?_
  rintro e w2 ⟨sa2, sn2, sc2, da2, dn2, dc2, rfl, hs2, hd2, hb2⟩
  simp only [ruleV]
  have x2 := Ext.below hb2
  have R2 := hid (rus2 w2 (r1 := ruleA pN colorN redN) (r2 := ruleA pN widthN fiveN) (S1.out.ext x2) (D1.out.ext x2) hs2 hd2 ⟨rfl, rfl⟩ ⟨rfl, rfl⟩)
  have b2 := below_trans B1.out hb2 (Nat.le_refl _)
  have B2 := hid (b2.alloc b2.size (.cells #[.string ⟨#[]⟩, .slice sa1 sn1 sc1, .slice da1 dn1 dc1, .int .i64 0, .int .i64 0, .string ⟨#[]⟩, .slice sa2 sn2 sc2, .slice da2 dn2 dc2, .int .i64 0, .int .i64 0] 40))
  have N2 := hid ((N1.out.ext x2).ext (ext_alloc w2 (.cells #[.string ⟨#[]⟩, .slice sa1 sn1 sc1, .slice da1 dn1 dc1, .int .i64 0, .int .i64 0, .string ⟨#[]⟩, .slice sa2 sn2 sc2, .slice da2 dn2 dc2, .int .i64 0, .int .i64 0] 40)))
  simp only [ruleA] at R2
  clear hs2 hd2 hb2 x2 b2 S1 D1 N1 B1
  go_wp2_with fail
  generalize w2.alloc (.cells #[.string ⟨#[]⟩, .slice sa1 sn1 sc1, .slice da1 dn1 dc1, .int .i64 0, .int .i64 0, .string ⟨#[]⟩, .slice sa2 sn2 sc2, .slice da2 dn2 dc2, .int .i64 0, .int .i64 0] 40) = w3 at *
  refine (value_any (l := alL) (rules := alR) (media := []) 1 colorN w3 N2.out al_smn R2.out al_smr (bs_nil _) (by decide) (HT.out.ext (Ext.below B2.out)) (by decide)).mono ?_
  rintro e w4 ⟨hA, hb4⟩
  rw [al_color] at hA
  obtain rfl : e = _ := hA
  have B4 := hid (below_trans B2.out hb4 (Nat.le_refl _))
  have N4 := hid (N2.out.ext (Ext.below hb4))
  clear hb4 B2 N2 R2
  simp only [redN]
  go_wp2_with fail
  refine (rule_any ⟨#[112]⟩ colorN redN w4).mono ?_
  rintro e w5 ⟨sa1, sn1, sc1, da1, dn1, dc1, rfl, hs1, hd1, hb1⟩
  simp only [ruleV]
  have S1 := hid hs1
  have D1 := hid hd1
  have B1 := hid (below_trans B4.out hb1 (Nat.le_refl _))
  have N1 := hid (N4.out.ext (Ext.below hb1))
  clear hs1 hd1 hb1 N4 B4
  go_wp2_with fail
  refine (rule_any ⟨#[112]⟩ widthN fiveN w5).mono ?_
  rintro e w6 ⟨sa2, sn2, sc2, da2, dn2, dc2, rfl, hs2, hd2, hb2⟩
  simp only [ruleV]
  have x2 := Ext.below hb2
  have R2 := hid (rus2 w6 (r1 := ruleA pN colorN redN) (r2 := ruleA pN widthN fiveN) (S1.out.ext x2) (D1.out.ext x2) hs2 hd2 ⟨rfl, rfl⟩ ⟨rfl, rfl⟩)
  have b2 := below_trans B1.out hb2 (Nat.le_refl _)
  have B2 := hid (b2.alloc b2.size (.cells #[.string ⟨#[]⟩, .slice sa1 sn1 sc1, .slice da1 dn1 dc1, .int .i64 0, .int .i64 0, .string ⟨#[]⟩, .slice sa2 sn2 sc2, .slice da2 dn2 dc2, .int .i64 0, .int .i64 0] 40))
  have N2 := hid ((N1.out.ext x2).ext (ext_alloc w6 (.cells #[.string ⟨#[]⟩, .slice sa1 sn1 sc1, .slice da1 dn1 dc1, .int .i64 0, .int .i64 0, .string ⟨#[]⟩, .slice sa2 sn2 sc2, .slice da2 dn2 dc2, .int .i64 0, .int .i64 0] 40)))
  simp only [ruleA] at R2
  clear hs2 hd2 hb2 x2 b2 S1 D1 N1 B1
  go_wp2_with fail
  generalize w6.alloc (.cells #[.string ⟨#[]⟩, .slice sa1 sn1 sc1, .slice da1 dn1 dc1, .int .i64 0, .int .i64 0, .string ⟨#[]⟩, .slice sa2 sn2 sc2, .slice da2 dn2 dc2, .int .i64 0, .int .i64 0] 40) = w7 at *
  refine (value_any (l := alL) (rules := alR) (media := []) 1 widthN w7 N2.out al_smn R2.out al_smr (bs_nil _) (by decide) (HT.out.ext (Ext.below B2.out)) (by decide)).mono ?_
  rintro e w8 ⟨hA, hb8⟩
  rw [al_width] at hA
  obtain rfl : e = _ := hA
  have B8 := hid (below_trans B2.out hb8 (Nat.le_refl _))
  clear hb8 B2 N2 R2
  go_wp2_with fail
  go_ret
  exact ⟨rfl, B8.out⟩
end Go.Proofs.YtfobkiglmphgjabGreatDoor

namespace Go.Proofs.YtfobkiglmphgjabGreatDoor
open Go.RowKit Go.Maps

theorem own_zero {W : World} {G base sz : Nat} {e : TypeId} (h : W.heap[G]? = some (.cells #[] e (0, 0))) (hb : base ≤ G) : W.ownsRow base e sz (.slice (some ⟨G, 0, none⟩) 0 0) 0 [] :=
  ⟨by simp, .inr ⟨_, 0, #[], rfl, hb, h, Nat.le_refl _, by unfold maxLen; omega, by simp, by simp⟩⟩
theorem BsAt.src {w : World} {a : Option Addr} {n cap : Nat} {ds : List ByteArray} (h : BsAt w (.slice a n cap) ds) : Src w (.slice a ds.length cap) ds.length (ds.flatMap encB) := by
  obtain ⟨a', cap', e, hn, h⟩ := h
  injection e with e1 e2 e3
  subst e1 e3
  refine src_of (sz := 1) (by decide) encB (fun _ => rfl) hn fun i hi => ?_
  obtain ⟨b, off, rfl, h0⟩ := h i hi
  refine ⟨b, off, rfl, fun j hj => ?_⟩
  obtain rfl : j = 0 := by omega
  exact h0
theorem one_B (l : List ByteArray) : ∀ u ∈ l.flatMap encB, u.oneCell' = true := by
  intro u hu
  obtain ⟨d, _, hd⟩ := List.mem_flatMap.1 hu
  simp only [encB, List.mem_singleton] at hd
  rw [hd]
  rfl
theorem claims_same {l : List Nd} {k : Int} {r1 r2 : List Ru} {m1 m2 : List ByteArray} (h : rulesC l k m1 r1 = rulesC l k m2 r2) : claimsB styB l k r1 m1 = claimsB styB l k r2 m2 := by
  unfold claimsB
  rw [h]
/-- An answer of Declared, taken apart. -/
def AnsE (w : World) (a : Option Addr) (n c : Nat) (x : Int) : Except Int (List Cl) → Prop
  | .ok cs => x = 0 ∧ ∃ L, n = L.length ∧ DsAt w (.slice a n c) L ∧ IsLook L (lookF cs) ∧ L.length ≤ 2199023255700
  | .error y => x = y ∧ y ≠ 0 ∧ a = none ∧ n = 0 ∧ c = 0
theorem AnsD.form {w : World} {e : Ending} {r : Except Int (List Cl)} (h : AnsD w e r) : ∃ a n c x, e = .returned (.tuple #[.slice a n c, .int .i64 x]) ∧ AnsE w a n c x r := by
  cases r with
  | ok cs =>
    obtain ⟨a, c, L, rfl, h1, h2, h3⟩ := h
    exact ⟨a, _, c, 0, rfl, rfl, L, rfl, h1, h2, h3⟩
  | error y =>
    obtain ⟨rfl, hy⟩ := h
    exact ⟨none, 0, 0, y, rfl, rfl, hy, rfl, rfl, rfl⟩
theorem same_looks {w1 w2 w : World} {a1 a2 : Option Addr} {n1 c1 n2 c2 : Nat} {x1 x2 : Int} {r1 r2 : Except Int (List Cl)} (h1 : AnsE w1 a1 n1 c1 x1 r1) (h2 : AnsE w2 a2 n2 c2 x2 r2) (ha : Alike r1 r2) (e1 : Ext w1 w) (e2 : Ext w2 w) :
    x2 = x1 ∧ Calls Tryz.prog 11 #[.slice a1 n1 c1, .slice a2 n2 c2] w fun e w' => e = .returned (.bool true) ∧ ∃ n, w' = w.drewN n := by
  cases r1 with
  | ok cs1 =>
    cases r2 with
    | error y => exact ha.elim
    | ok cs2 =>
      obtain ⟨rfl, L1, rfl, d1, l1, z1⟩ := h1
      obtain ⟨rfl, L2, rfl, d2, l2, z2⟩ := h2
      obtain rfl := l1.same l2 ha
      exact ⟨rfl, sameLook_any L1 _ _ w (by omega) (d1.ext e1) (d2.ext e2)⟩
  | error y1 =>
    cases r2 with
    | ok cs => exact ha.elim
    | error y2 =>
      obtain ⟨rfl, _, rfl, rfl, rfl⟩ := h1
      obtain ⟨rfl, _, rfl, rfl, rfl⟩ := h2
      have e : x1 = x2 := ha
      exact ⟨e.symm, sameLook_any [] _ _ w (by simp) (ds_nil w) (ds_nil w)⟩
variable {l : List Nd} {rules : List Ru} {media : List ByteArray} {mv lv rv : Value}

set_option maxRecDepth 100000 in
set_option maxHeartbeats 8000000 in
theorem cascadeMedia_any (k : Int) (more : ByteArray) (w : World) (hl : NdsAt w lv l) (hs : SmNs l) (hr : RusAt w rv rules) (hrs : SmRs rules) (hm : BsAt w mv media) (hml : media.length ≤ lim) (hT : Tab w) :
    Calls Tryz.prog 7 #[lv, .int .i64 k, rv, mv, .string more] w fun e w' => e = .returned (.bool true) ∧ Below w.heap.size w w' := by
  obtain ⟨la, lc, rfl⟩ := Sl.form hl
  obtain ⟨ra, rc, rfl⟩ := Sl.form hr
  obtain ⟨ma, mc, rfl⟩ := Sl.form hm
  have HL := hid hl
  have HN := hid hs
  have HR := hid hr
  have HRs := hid hrs
  have HM := hid hm
  have HML := hid hml
  have HT := hid hT
  have hrl := hrs.len
  have hml' : media.length ≤ 1048576 := hml
  clear hl hs hr hrs hm hml hT
  go_enter Tryz.func7, Tryz.ntmps7
  go_wp2_with fail
  refine (alive_any w HT.out).mono ?_
  rintro e w1 ⟨rfl, hb1⟩
  have HB1 := hid hb1
  clear hb1
  go_wp2_with fail
  go_loopg [21] rules.length (fun n i wr => ∃ j : Nat, n = rules.length - j ∧ j ≤ rules.length ∧ i = .int .i64 (j : Int) ∧ (∀ r ∈ rules.take j, (r.media.toList == more.toList) = false) ∧ Below w.heap.size w wr)
  case atStart => exact ⟨0, rfl, Nat.zero_le _, rfl, by simp, HB1.out⟩
  case round =>
    obtain ⟨j, hn', hj, rfl, hA, hB⟩ := hrel
    rename World => wo
    have GK := hid hn'
    have HA := hid hA
    have HB := hid hB
    have X0 := hid (Ext.below hB)
    clear hn' hA hB
    by_cases hlt : j < rules.length
    · obtain ⟨b, off, rfl, he⟩ := Sl.at (HR.out.ext X0.out) hlt
      obtain ⟨sa, sn, sc, da, dn, dc, c0, c1, c2, c3, c4, hS, hD⟩ := eR.cells he
      have HA2 : Hid ((rules[j].media.toList == more.toList) = false → ∀ r ∈ rules.take (j + 1), (r.media.toList == more.toList) = false) := fun h r hr => by
        rw [List.take_succ_eq_append_getElem hlt] at hr
        rcases List.mem_append.1 hr with hr | hr
        · exact HA.out r hr
        · rw [List.mem_singleton.1 hr]; exact h
      clear he hS hD
      generalize rules[j] = r at *
      obtain ⟨md, ss, dd, rf, rt⟩ := r
      simp only at c0 c1 c2 c3 c4 HA2
      have HB2 := hid (HB.out.alloc HB.out.size (.cells #[.string md, .slice sa sn sc, .slice da dn dc, .int .i64 rf, .int .i64 rt] 40))
      cases hq : (md.toList == more.toList)
      · have HA3 := hid (HA2.out hq)
        clear HA2
        go_wp2_with fail
        go_roundg (rules.length - (j + 1))
        case measure => have := GK.out; omega
        case rel => exact ⟨j + 1, rfl, by omega, by go_num, HA3.out, HB2.out⟩
      · clear HA2
        go_wp2_with fail
        go_ret
        exact ⟨rfl, HB2.out⟩
    · have HE : Hid (claimsB styB l k rules (media ++ [more]) = claimsB styB l k rules media) := by
        refine claims_same (rules_media fun r hr => ?_)
        have := HA.out
        rw [List.take_of_length_le (by omega)] at this
        exact this r hr
      clear HA
      have DA := hid (declared_any (rules := rules) (media := media) k wo (HL.out.ext X0.out) HN.out (HR.out.ext X0.out) HRs.out (HM.out.ext X0.out) (by omega) (HT.out.ext X0.out))
      go_wp2_with fail
      refine DA.out.mono ?_
      rintro e w3 ⟨hA, hb3⟩
      have HB3 := hid (below_trans HB.out hb3 (Nat.le_refl _))
      have X3 := hid (X0.out.trans (Ext.below hb3))
      clear hb3 DA X0 HB
      have HO0 : Hid ((w3.alloc (.cells #[] 9)).ownsRow w3.heap.size 9 1 (.slice (some ⟨w3.heap.size, 0, none⟩) 0 0) 0 []) := own_zero (heap_alloc_new _ _) (Nat.le_refl _)
      have HSr := hid (((HM.out.ext X3.out).ext (ext_alloc w3 (.cells #[] 9))).src)
      obtain ⟨a1, n1, c1, x1, rfl, hE1⟩ := hA.form
      have E1 := hid hE1
      clear hA hE1
      go_wp2_with (first
        | (at_builtin; refine wpList_app rfl (.tmp 42) (.tmp 43) 24 rfl w3.heap.size 9 _ 1 16 Tryz.underlying24 Tryz.infoS rfl (by decide) (.slice (some ⟨w3.heap.size, 0, none⟩) 0 0) 0 [] rfl HO0.out (.slice ma media.length mc) media.length (media.flatMap encB) rfl HSr.out (by rw [flat_len 1 encB (fun _ => rfl)]) (one_B _) (by unfold maxLen; omega) (by omega) (by simp) ?_; intro v4 w4 hv4 hg4; have B4 := hid (((Below.refl w3.heap.size w3).alloc (Nat.le_refl _) (.cells #[] 9)).grown hg4 (by simp) (fun i hi => (HO0.out.lt i hi).1)); have hv4' : w4.ownsRow w3.heap.size 9 1 v4 media.length (media.flatMap encB) := (by simpa using hv4); have HV4 := hid hv4'; obtain ⟨va4, vc4, rfl⟩ := own_form hv4'; clear hv4 hg4 hv4')
        | (at_builtin; refine wpList_app rfl (.tmp 44) (.tmp 46) 24 rfl w3.heap.size 9 _ 1 16 Tryz.underlying24 Tryz.infoS rfl (by decide) (.slice va4 media.length vc4) media.length (media.flatMap encB) rfl (HV4.out.alloc _) _ 1 (encB more) rfl (.inr ⟨_, 1, rfl, World.news_of_block (heap_alloc_new w4 _)⟩) rfl (by simp [encB, Value.oneCell']) (by unfold maxLen; omega) (by omega) (B4.out.alloc B4.out.size _).size ?_; intro v5 w5 hv5 hg5; have B5 := hid ((B4.out.alloc B4.out.size (.cells #[.string more] 9)).grown hg5 (B4.out.alloc B4.out.size (.cells #[.string more] 9)).size (fun i hi => (HV4.out.lt i hi).1)); have HV5 := hid hv5; obtain ⟨va5, vc5, rfl⟩ := own_form hv5; clear hv5 hg5))
      have HBs : Hid (BsAt w5 (.slice va5 (media.length + 1) vc5) (media ++ [more])) := by
        refine BsAt.own (base := w3.heap.size) ?_
        have := HV5.out
        rw [List.length_append, List.flatMap_append]
        exact this
      have X5 := hid (X3.out.trans (Ext.below B5.out))
      have HB5 := hid (below_trans HB3.out B5.out (Nat.le_refl _))
      have E15 := hid (Ext.below B5.out)
      refine (declared_any (rules := rules) (media := media ++ [more]) k w5 (HL.out.ext X5.out) HN.out (HR.out.ext X5.out) HRs.out HBs.out (by rw [List.length_append]; simp; omega) (HT.out.ext X5.out)).mono ?_
      rintro e w6 ⟨hA6, hb6⟩
      rw [HE.out] at hA6
      obtain ⟨a2, n2, c2, x2, rfl, hE2⟩ := hA6.form
      obtain ⟨hx, hS⟩ := same_looks (w := w6) E1.out hE2 (Alike.refl _) (E15.out.trans (Ext.below hb6)) (Ext.refl _)
      subst hx
      have HS := hid hS
      have HB6 := hid (below_trans HB5.out hb6 (Nat.le_refl _))
      clear hS hb6 hA6 hE2 HBs HV5 HV4 B4 B5
      go_wp2_with (go_at_call 11; refine HS.out.mono ?_; rintro e w7 ⟨rfl, m, rfl⟩)
      go_ret
      exact ⟨rfl, below_dN HB6.out _⟩
end Go.Proofs.YtfobkiglmphgjabGreatDoor
