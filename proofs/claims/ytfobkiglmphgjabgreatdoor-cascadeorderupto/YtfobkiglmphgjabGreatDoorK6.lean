/-
  Maps from texts; what Inherits and Initial answer: the plain answers. Conditions: a name of at most 2^20 bytes; the two tables hold what their texts say.
-/
import Derived.Test.YtfobkiglmphgjabGreatDoorK5
import Derived.Maps.Own
import Derived.Maps.OwnOps
import Derived.Maps.OwnSet
import Derived.Maps.Views
import Derived.Maps.StringElems
namespace Go.Proofs.YtfobkiglmphgjabGreatDoor
open Go.RowKit Go.Maps

theorem keyS : Keyed Tryz.prog 9 := string_keyed Tryz.underlying9
abbrev Key := List UInt8
def updK {β : Type} (f : Key → Option β) (k : Key) (c : β) : Key → Option β := fun q => if q = k then some c else f q

section
variable {β : Type}
/-- Block B is a map that holds f q at q. -/
def Mp (R : Value → Option (DataW Unit × List MemPlace)) (dt : β → DataW Unit) (w : World) (B n : Nat) (f : Key → Option β) : Prop :=
  ∃ D : DataW Unit, w.ownsMap Tryz.prog 9 R B n D ∧ ∀ q z, D.atKey (.string q) z = match f q with
    | none => z
    | some x => dt x
variable {R : Value → Option (DataW Unit × List MemPlace)} {dt : β → DataW Unit} {en : β → Value}
theorem Mp.made (w : World) : Mp R dt (w.alloc (.map #[] 0)) w.heap.size 0 (fun _ => none) := ⟨_, World.ownsMap_made w _ _ _, fun _ _ => rfl⟩
theorem Mp.ins {w : World} {B n : Nat} {f : Key → Option β} (h : Mp R dt w B n f) (hn : n < 100) {t e : TypeId} (ht : Tryz.prog.underlying t = some (.map 9 e)) (k : ByteArray) (wk : k.size ≤ maxLen) (c : β) (wc : R (en c) = some (dt c, [])) :
    ∃ w', (Instr.mapUpdate t (.map (some B)) (.string k) (en c)).run Tryz.prog w = .ok () w' ∧ Mp R dt w' B (n + 1) (updK f k.data.toList c) ∧ w.grownBy w' (some B) := by
  obtain ⟨D, ho, hf⟩ := h
  obtain ⟨w', h1, h2, h3⟩ := ho.update keyS ht (by unfold maxLen; omega) (WideMaps.keyOf_string_mk Tryz.underlying9 wk) wc
  refine ⟨w', h1, ⟨_, h2, fun q z => ?_⟩, h3⟩
  have hm : IsMap D := ho.isMap
  unfold updK
  by_cases e : q = k.data.toList
  · subst e
    rw [if_pos rfl]
    exact atKey_put_same hm (by simp [WideAt.IsKeyLit]) _ _
  · rw [if_neg e, atKey_put_other (by intro h; injection h with h; exact e h)]
    exact hf q z
theorem Mp.look {w : World} {B n : Nat} {f : Key → Option β} (h : Mp R dt w B n f) {t e : TypeId} (ht : Tryz.prog.underlying t = some (.map 9 e)) (z0 : β) (hz : (zeroValue e).run Tryz.prog w = .ok (en z0) w) (wz : R (en z0) = some (dt z0, []))
    (inv : ∀ v x ps, R v = some (dt x, ps) → v = en x) (k : ByteArray) (wk : k.size ≤ maxLen) : (Instr.lookup t (.map (some B)) (.string k) false).run Tryz.prog w = .ok (en ((f k.data.toList).getD z0)) w := by
  obtain ⟨D, ho, hf⟩ := h
  obtain ⟨v, ps, h1, h2⟩ := ho.lookup keyS ht hz wz (WideMaps.keyOf_string_mk Tryz.underlying9 wk)
  rw [hf] at h2
  rw [h1]
  cases hq : f k.data.toList with
  | none => rw [hq] at h2; rw [inv _ _ _ h2]; rfl
  | some x => rw [hq] at h2; rw [inv _ _ _ h2]; rfl
theorem Mp.look2 {w : World} {B n : Nat} {f : Key → Option β} (h : Mp R dt w B n f) {t e : TypeId} (ht : Tryz.prog.underlying t = some (.map 9 e)) (z0 : β) (hz : (zeroValue e).run Tryz.prog w = .ok (en z0) w) (wz : R (en z0) = some (dt z0, []))
    (inv : ∀ v x ps, R v = some (dt x, ps) → v = en x) (k : ByteArray) (wk : k.size ≤ maxLen) : (Instr.lookup t (.map (some B)) (.string k) true).run Tryz.prog w = .ok (.tuple #[en ((f k.data.toList).getD z0), .bool (f k.data.toList).isSome]) w := by
  obtain ⟨D, ho, hf⟩ := h
  obtain ⟨v, ps, h1, h2⟩ := ho.look_ok keyS ht hz wz (WideMaps.keyOf_string_mk Tryz.underlying9 wk)
  rw [h1]
  have hq2 := hf k.data.toList
  rw [hf] at h2
  cases hq : f k.data.toList with
  | none => rw [hq] at h2 hq2; rw [inv _ _ _ h2, has_false_of_atKey hq2]; rfl
  | some x => rw [hq] at h2 hq2; rw [inv _ _ _ h2, has_true_of_atKey hq2]; rfl
theorem Mp.below {w w' : World} {B n : Nat} {f : Key → Option β} (h : Mp R dt w B n f) (hb : Below w.heap.size w w') : Mp R dt w' B n f := by
  obtain ⟨D, ho, hf⟩ := h
  refine ⟨D, ?_, hf⟩
  obtain ⟨es, c, h1, h2⟩ := ho
  exact ⟨es, c, by rw [hb.block B (Array.getElem?_eq_some_iff.1 h1).1]; exact h1, h2⟩
def MI (R : Value → Option (DataW Unit × List MemPlace)) (dt : β → DataW Unit) (W w : World) (n : Nat) (f : Key → Option β) : Prop := Mp R dt w W.heap.size n f ∧ Below W.heap.size W w
theorem MI.made (W : World) : MI R dt W (W.alloc (.map #[] 0)) 0 (fun _ => none) := ⟨Mp.made W, (Below.refl _ _).alloc (Nat.le_refl _) _⟩
end

/-! ### properties: whether inherited, and what at the beginning -/
def pV (x : Bool × ByteArray) : Value := .agg #[.bool x.1, .string x.2]
def pD (x : Bool × ByteArray) : DataW Unit := .agg [.lit (.bool x.1), .lit (.string x.2.data.toList)]
def pR (v : Value) : Option (DataW Unit × List MemPlace) := match v with
  | .agg ⟨[.bool b, .string s]⟩ => some (.agg [.lit (.bool b), .lit (.string s.data.toList)], [])
  | _ => none
theorem pR_mk (x : Bool × ByteArray) : pR (pV x) = some (pD x, []) := rfl
theorem pR_inv (v : Value) (x : Bool × ByteArray) (ps : List MemPlace) (h : pR v = some (pD x, ps)) : v = pV x := by
  unfold pR at h
  split at h
  · rename_i b s
    simp only [pD, Option.some.injEq, Prod.mk.injEq, DataW.agg.injEq, List.cons.injEq, DataW.lit.injEq, Lit.bool.injEq, Lit.string.injEq, and_true] at h
    obtain ⟨⟨h1, h2⟩, _⟩ := h
    rw [h1, ByteArray.ext (Array.toList_inj.1 h2)]
    rfl
  · cases h
def sV (x : ByteArray) : Value := .string x
def sD (x : ByteArray) : DataW Unit := .lit (.string x.data.toList)
def sR (v : Value) : Option (DataW Unit × List MemPlace) := match v with
  | .string s => some (.lit (.string s.data.toList), [])
  | _ => none
theorem sR_mk (x : ByteArray) : sR (sV x) = some (sD x, []) := rfl
theorem sR_inv (v : Value) (x : ByteArray) (ps : List MemPlace) (h : sR v = some (sD x, ps)) : v = sV x := by
  unfold sR at h
  split at h
  · rename_i s
    simp only [sD, Option.some.injEq, Prod.mk.injEq, DataW.lit.injEq, Lit.string.injEq] at h
    rw [ByteArray.ext (Array.toList_inj.1 h.1)]
    rfl
  · cases h
theorem zero88 (w : World) : (zeroValue 88).run Tryz.prog w = .ok (pV (false, ⟨#[]⟩)) w := by kernel_rfl
theorem zero9 (w : World) : (zeroValue 9).run Tryz.prog w = .ok (sV ⟨#[]⟩) w := by kernel_rfl
abbrev MIp := MI pR pD
abbrev MIs := MI sR sD
abbrev Mpp := Mp pR pD

theorem uponP_make {W : World} {o : Oper} {a : Act} {K : Act → World → Prop} {Q : Exit → Act → World → Prop} (hK : K (a.put o.dst (.map (some W.heap.size))) (W.alloc (.map #[] 0))) :
    Oper.upon Tryz.prog o a K Q (((Instr.makeMap 89 none).run Tryz.prog W).andThen fun v w' => .ok (.value v) w') := by
  rw [run_makeMap]
  exact hK
theorem MI.below {β : Type} {R : Value → Option (DataW Unit × List MemPlace)} {dt : β → DataW Unit} {W w : World} {n : Nat} {f : Key → Option β} (h : MI R dt W w n f) : Below W.heap.size W w := h.2
theorem MI.mp {β : Type} {R : Value → Option (DataW Unit × List MemPlace)} {dt : β → DataW Unit} {W w : World} {n : Nat} {f : Key → Option β} (h : MI R dt W w n f) : Mp R dt w W.heap.size n f := h.1
theorem MI.mk {β : Type} {R : Value → Option (DataW Unit × List MemPlace)} {dt : β → DataW Unit} {W w : World} {n : Nat} {f : Key → Option β} (h : Mp R dt w W.heap.size n f) (hb : Below W.heap.size W w) : MI R dt W w n f := ⟨h, hb⟩
set_option maxRecDepth 100000 in
theorem uponP_ins {W w : World} {o : Oper} {a : Act} {K : Act → World → Prop} {Q : Exit → Act → World → Prop} {n : Nat} {f : Key → Option (Bool × ByteArray)} {k s : ByteArray} {b : Bool} (h : MIp W w n f) (hn : n < 100) (wk : k.size ≤ maxLen)
    (hK : ∀ w', MIp W w' (n + 1) (updK f k.data.toList (b, s)) → K (a.put o.dst undef) w') :
    Oper.upon Tryz.prog o a K Q (((Instr.mapUpdate 89 (.map (some W.heap.size)) (.string k) (.agg #[.bool b, .string s])).run Tryz.prog w).andThen fun _ w' => .ok .skip w') := by
  have hx := Mp.ins (R := pR) (dt := pD) (en := pV) (MI.mp h) hn (e := 88) Tryz.underlying89 k wk (b, s) (pR_mk (b, s))
  refine hx.elim fun w' hx => ?_
  have h1 := hx.1
  have h2 := hx.2.1
  have h3 := hx.2.2
  have h1' : (Instr.mapUpdate 89 (.map (some W.heap.size)) (.string k) (.agg #[.bool b, .string s])).run Tryz.prog w = .ok () w' := h1
  rw [h1']
  exact hK w' (MI.mk h2 ((MI.below h).grown h3 (MI.below h).size (fun j hj => by injection hj with hj; omega)))
theorem uponS_make {W : World} {o : Oper} {a : Act} {K : Act → World → Prop} {Q : Exit → Act → World → Prop} (hK : K (a.put o.dst (.map (some W.heap.size))) (W.alloc (.map #[] 0))) :
    Oper.upon Tryz.prog o a K Q (((Instr.makeMap 107 none).run Tryz.prog W).andThen fun v w' => .ok (.value v) w') := by
  rw [run_makeMap]
  exact hK
set_option maxRecDepth 100000 in
theorem uponS_ins {W w : World} {o : Oper} {a : Act} {K : Act → World → Prop} {Q : Exit → Act → World → Prop} {n : Nat} {f : Key → Option ByteArray} {k s : ByteArray} (h : MIs W w n f) (hn : n < 100) (wk : k.size ≤ maxLen)
    (hK : ∀ w', MIs W w' (n + 1) (updK f k.data.toList s) → K (a.put o.dst undef) w') :
    Oper.upon Tryz.prog o a K Q (((Instr.mapUpdate 107 (.map (some W.heap.size)) (.string k) (.string s)).run Tryz.prog w).andThen fun _ w' => .ok .skip w') := by
  have hx := Mp.ins (R := sR) (dt := sD) (en := sV) (MI.mp h) hn (e := 9) Tryz.underlying107 k wk s (sR_mk s)
  refine hx.elim fun w' hx => ?_
  have h1 := hx.1
  have h2 := hx.2.1
  have h3 := hx.2.2
  have h1' : (Instr.mapUpdate 107 (.map (some W.heap.size)) (.string k) (.string s)).run Tryz.prog w = .ok () w' := h1
  rw [h1']
  exact hK w' (MI.mk h2 ((MI.below h).grown h3 (MI.below h).size (fun j hj => by injection hj with hj; omega)))
theorem uponS_look {W w : World} {o : Oper} {a : Act} {K : Act → World → Prop} {Q : Exit → Act → World → Prop} {n : Nat} {f : Key → Option ByteArray} {k : ByteArray} (r : Option ByteArray) (h : MIs W w n f) (wk : k.size ≤ maxLen) (hs : f k.data.toList = r)
    (hK : K (a.put o.dst (.tuple #[.string (r.getD ⟨#[]⟩), .bool r.isSome])) w) :
    Oper.upon Tryz.prog o a K Q (((Instr.lookup 107 (.map (some W.heap.size)) (.string k) true).run Tryz.prog w).andThen fun v w' => .ok (.value v) w') := by
  have := (MI.mp h).look2 (en := sV) Tryz.underlying107 ⟨#[]⟩ (zero9 w) (sR_mk _) sR_inv k wk
  rw [this, hs]
  exact hK

def black : ByteArray := ⟨#[98, 108, 97, 99, 107]⟩
def plainN : ByteArray := ⟨#[112, 108, 97, 105, 110]⟩
def ten : ByteArray := ⟨#[49, 48]⟩
def nought : ByteArray := ⟨#[48]⟩
def noneN : ByteArray := ⟨#[110, 111, 110, 101]⟩
def kf3 : Key → Option (Bool × ByteArray) := updK (updK (updK (fun _ => none) cN.data.toList (true, black)) fN.data.toList (true, plainN)) zN.data.toList (true, ten)
def kf4 : Key → Option (Bool × ByteArray) := updK kf3 sd0.data.toList (false, nought)
def kf5 : Key → Option (Bool × ByteArray) := updK kf4 sd1.data.toList (false, nought)
def kf6 : Key → Option (Bool × ByteArray) := updK kf5 sd2.data.toList (false, nought)
def kf7 : Key → Option (Bool × ByteArray) := updK kf6 sd3.data.toList (false, nought)
def kfs : Nat → Key → Option (Bool × ByteArray)
  | 0 => kf3
  | 1 => kf4
  | 2 => kf5
  | 3 => kf6
  | _ => kf7

set_option maxRecDepth 100000 in
set_option maxHeartbeats 4000000 in
theorem known_any (w : World) (hT : Tab w) :
    Calls Tryz.prog 36 #[] w fun e w' => e = .returned (.map (some w.heap.size)) ∧ Mpp w' w.heap.size 7 kf7 ∧ Below w.heap.size w w' := by
  have HT := hid hT
  clear hT
  go_enter Tryz.func36, Tryz.ntmps36
  go_wp2_with fail
  refine uponP_make ?_
  have hM : MIp w (w.alloc (.map #[] 0)) 0 (fun _ => none) := MI.made w
  generalize w.alloc (.map #[] 0) = w0 at *
  have KT : ∀ {w'}, Below w.heap.size w w' → Hid (Tab w') := fun h => HT.out.ext (Ext.below h)
  go_wp2_with (with_reducible refine uponP_ins (W := w) (by assumption) ?_ ?_ ?_; (focus decide); (focus decide); intro w' hM'; obtain ⟨s0, s1, s2, s3, _, _, _, _, _⟩ := (KT (MI.below hM')).out)
  have HM3 : Hid (MIp w w' 3 kf3) := hM'
  clear hM'
  generalize w' = w3 at *
  go_loopg [10] 4 (fun n i wr => ∃ k : Nat, n = 4 - k ∧ k ≤ 4 ∧ i = .int .i64 (k : Int) ∧ MIp w wr (3 + k) (kfs k))
  case atStart => exact ⟨0, rfl, Nat.zero_le _, rfl, HM3.out⟩
  case round =>
    clear HM3 s0 s1 s2 s3
    obtain ⟨k, hn, hk, rfl, hM⟩ := hrel
    have GK := hid hn
    have hk' : k = 0 ∨ k = 1 ∨ k = 2 ∨ k = 3 ∨ k = 4 := by omega
    clear hn hk
    rcases hk' with rfl | rfl | rfl | rfl | rfl
    · have ix := idx0 sd0 sd1 sd2 sd3
      go_wp2_with fail
      refine uponP_ins (W := w) hM (by decide) (by decide) fun w' hM' => ?_
      have HMn : Hid (MIp w w' (3 + 1) (kfs 1)) := hM'
      clear hM'
      go_wp2_with fail
      go_roundg (4 - 1)
      case measure => have := GK.out; omega
      case rel => exact ⟨1, rfl, by omega, by go_num, HMn.out⟩
    · have ix := idx1 sd0 sd1 sd2 sd3
      go_wp2_with fail
      refine uponP_ins (W := w) hM (by decide) (by decide) fun w' hM' => ?_
      have HMn : Hid (MIp w w' (3 + 2) (kfs 2)) := hM'
      clear hM'
      go_wp2_with fail
      go_roundg (4 - 2)
      case measure => have := GK.out; omega
      case rel => exact ⟨2, rfl, by omega, by go_num, HMn.out⟩
    · have ix := idx2 sd0 sd1 sd2 sd3
      go_wp2_with fail
      refine uponP_ins (W := w) hM (by decide) (by decide) fun w' hM' => ?_
      have HMn : Hid (MIp w w' (3 + 3) (kfs 3)) := hM'
      clear hM'
      go_wp2_with fail
      go_roundg (4 - 3)
      case measure => have := GK.out; omega
      case rel => exact ⟨3, rfl, by omega, by go_num, HMn.out⟩
    · have ix := idx3 sd0 sd1 sd2 sd3
      go_wp2_with fail
      refine uponP_ins (W := w) hM (by decide) (by decide) fun w' hM' => ?_
      have HMn : Hid (MIp w w' (3 + 4) (kfs 4)) := hM'
      clear hM'
      go_wp2_with fail
      go_roundg (4 - 4)
      case measure => have := GK.out; omega
      case rel => exact ⟨4, rfl, by omega, by go_num, HMn.out⟩
    · go_wp2_with fail
      go_ret
      exact ⟨rfl, hM.mp, hM.below⟩
end Go.Proofs.YtfobkiglmphgjabGreatDoor

namespace Go.Proofs.YtfobkiglmphgjabGreatDoor
open Go.RowKit Go.Maps

def inhB (name : ByteArray) : Bool := ((kf7 name.data.toList).getD (false, ⟨#[]⟩)).1
def iniB (name : ByteArray) : ByteArray := match kf7 name.data.toList with
  | some x => x.2
  | none => noneN
def rf7 : Key → Option ByteArray := updK (updK (updK (updK (updK (updK (updK (fun _ => none) cN.data.toList black) fN.data.toList plainN) zN.data.toList ten) sd0.data.toList nought) sd1.data.toList nought) sd2.data.toList nought) sd3.data.toList nought
theorem rf7_eq (q : Key) : rf7 q = (kf7 q).map (·.2) := by
  simp only [rf7, kf7, kf6, kf5, kf4, kf3, updK]
  repeat' split
  all_goals rfl
theorem inhB_eq (name : ByteArray) : inhB name = (name.toList == [99, 111, 108, 111, 114] || (name.toList == [102, 111, 110, 116] || name.toList == [115, 105, 122, 101])) := by
  unfold inhB
  rw [Lib.toList_data]
  generalize name.data.toList = q
  simp only [kf7, kf6, kf5, kf4, kf3, updK]
  have e3 : sd3.data.toList = [101, 100, 103, 101, 45, 108, 101, 102, 116] := rfl
  have e2 : sd2.data.toList = [101, 100, 103, 101, 45, 98, 111, 116, 116, 111, 109] := rfl
  have e1 : sd1.data.toList = [101, 100, 103, 101, 45, 114, 105, 103, 104, 116] := rfl
  have e0 : sd0.data.toList = [101, 100, 103, 101, 45, 116, 111, 112] := rfl
  have ez : zN.data.toList = [115, 105, 122, 101] := rfl
  have ef : fN.data.toList = [102, 111, 110, 116] := rfl
  have ec : cN.data.toList = [99, 111, 108, 111, 114] := rfl
  rw [e0, e1, e2, e3, ez, ef, ec]
  repeat' split
  all_goals simp_all

theorem field88 (b : Bool) (s : ByteArray) (w : World) : (Instr.field 88 (.agg #[.bool b, .string s]) 0).run Tryz.prog w = .ok (.bool b) w := by
  simp [Instr.field, go_sem, Go.part, asAgg]
set_option maxRecDepth 100000 in
set_option maxHeartbeats 1000000 in
theorem inherits_any (name : ByteArray) (w : World) (hs : name.size ≤ lim) (hT : Tab w) :
    Calls Tryz.prog 17 #[.string name] w fun e w' => e = .returned (.bool (inhB name)) ∧ Below w.heap.size w w' := by
  have wk : name.size ≤ maxLen := by unfold lim at hs; unfold maxLen; omega
  have HI : Hid (inhB name = ((kf7 name.data.toList).getD (false, ⟨#[]⟩)).1) := rfl
  go_enter Tryz.func17, Tryz.ntmps17
  go_wp2_with fail
  refine (known_any w hT).mono ?_
  rintro e w1 ⟨rfl, hM, hB⟩
  have HB := hid hB
  have hlk := hM.look (en := pV) Tryz.underlying89 (false, ⟨#[]⟩) (zero88 w1) (pR_mk _) pR_inv name wk
  generalize (kf7 name.data.toList).getD (false, ⟨#[]⟩) = x at *
  obtain ⟨b, s⟩ := x
  simp only [pV] at hlk
  have hfd := field88 b s
  clear hM hB wk
  go_wp2_with fail
  go_ret
  exact ⟨ret_bool HI.out.symm, HB.out⟩

set_option maxRecDepth 100000 in
set_option maxHeartbeats 1000000 in
theorem initial_any (name : ByteArray) (w : World) (hs : name.size ≤ lim) (hT : Tab w) :
    Calls Tryz.prog 18 #[.string name] w fun e w' => e = .returned (.string (iniB name)) ∧ Below w.heap.size w w' := by
  have wk : name.size ≤ maxLen := by unfold lim at hs; unfold maxLen; omega
  have HI : Hid (iniB name = match kf7 name.data.toList with | some x => x.2 | none => noneN) := rfl
  go_enter Tryz.func18, Tryz.ntmps18
  go_wp2_with fail
  refine (known_any w hT).mono ?_
  rintro e w1 ⟨rfl, hM, hB⟩
  have HB := hid hB
  have hlk := hM.look2 (en := pV) Tryz.underlying89 (false, ⟨#[]⟩) (zero88 w1) (pR_mk _) pR_inv name wk
  generalize kf7 name.data.toList = o at *
  clear hM hB wk
  cases o with
  | none =>
    simp only [pV, Option.getD, Option.isSome] at hlk HI
    go_wp2_with fail
    go_ret
    exact ⟨ret_str HI.out.symm, HB.out.alloc HB.out.size _⟩
  | some x =>
    obtain ⟨b, s⟩ := x
    simp only [pV, Option.getD, Option.isSome] at hlk HI
    go_wp2_with fail
    go_ret
    exact ⟨ret_str HI.out.symm, HB.out.alloc HB.out.size _⟩

end Go.Proofs.YtfobkiglmphgjabGreatDoor
