/-
  A map from whole numbers to texts that a call makes: what an insert and a look-up do, in whatever order. No function of the program is named here; no condition.
-/
import Derived.Test.YtlodblcmpebfkaaDoorR1
import Derived.Maps.Own
import Derived.Maps.OwnOps
import Derived.Maps.OwnSet
import Derived.Maps.Views
import Derived.Maps.StringElems
import Derived.Deep.RegionHeld3
namespace Go.Proofs.YtlodblcmpebfkaaDoor
open Go.RowKit Go.Maps

theorem keyI : Keyed Tryd.prog 3 := int_keyed Tryd.underlying3
theorem zero9 (w : World) : (zeroValue 9).run Tryd.prog w = .ok (.string ⟨#[]⟩) w := by kernel_rfl
def upd (f : Int → ByteArray) (k : Int) (s : ByteArray) : Int → ByteArray := fun q => if q = k then s else f q
/-- Block B is a map that holds f q at q (the empty text where there is none). -/
def Mm (w : World) (B n : Nat) (f : Int → ByteArray) : Prop :=
  ∃ D : DataW Unit, w.ownsMap Tryd.prog 3 (plainElem Tryd.prog 9) B n D ∧ (∀ q, D.atKey (.int .i64 q) (.lit (.string [])) = .lit (.string (f q).data.toList))
theorem Mm.made (w : World) : Mm (w.alloc (.map #[] 0)) w.heap.size 0 (fun _ => ⟨#[]⟩) := ⟨_, World.ownsMap_made w _ _ _, fun _ => rfl⟩
theorem Mm.drew {w : World} {B n : Nat} {f : Int → ByteArray} (h : Mm w B n f) : Mm w.drew B n f := h
theorem Mm.ins {w : World} {B n : Nat} {f : Int → ByteArray} (h : Mm w B n f) (hn : n < 100) (k : Int) (wk : (Lit.int .i64 k).wf = true) (s : ByteArray) (hs : s.size ≤ maxLen) :
    ∃ w', (Instr.mapUpdate 65 (.map (some B)) (.int .i64 k) (.string s)).run Tryd.prog w = .ok () w' ∧ Mm w' B (n + 1) (upd f k s) ∧ w.grownBy w' (some B) := by
  obtain ⟨D, ho, hf⟩ := h
  obtain ⟨w', h1, h2, h3⟩ := ho.update keyI Tryd.underlying65 (by unfold maxLen; omega) (keyOf_int_mk Tryd.underlying3 wk) (plainElem_string Tryd.underlying9 hs)
  refine ⟨w', h1, ⟨_, h2, fun q => ?_⟩, h3⟩
  unfold upd
  split
  · rename_i e
    subst e
    exact atKey_put_same (by obtain ⟨es, c, _, _, _, hD⟩ := ho; exact ⟨_, hD⟩) (by simp [WideAt.IsKeyLit]) _ _
  · rename_i e
    rw [atKey_put_other (by intro h; injection h with _ h; exact e h), hf q]
theorem Mm.look {w : World} {B n : Nat} {f : Int → ByteArray} (h : Mm w B n f) (q : Int) (wq : (Lit.int .i64 q).wf = true) : (Instr.lookup 65 (.map (some B)) (.int .i64 q) false).run Tryd.prog w = .ok (.string (f q)) w := by
  obtain ⟨D, ho, hf⟩ := h
  obtain ⟨v, ps, h1, h2⟩ := ho.lookup keyI Tryd.underlying65 (zero9 w) (plainElem_string (H := Unit) Tryd.underlying9 (s := ⟨#[]⟩) (by decide)) (keyOf_int_mk Tryd.underlying3 wq)
  obtain ⟨s, rfl, h3, _⟩ := plainElem_string_inv Tryd.underlying9 h2
  simp only [Prod.mk.injEq] at h3
  have := h3.1
  rw [show (DataW.lit (.string (⟨#[]⟩ : ByteArray).data.toList) : DataW Unit) = .lit (.string []) from rfl, hf q] at this
  injection this with this
  injection this with this
  have e : f q = s := ByteArray.ext (Array.toList_inj.1 this)
  rw [h1, e]

theorem step_ins {w : World} {ops : Array Oper} {o : Oper} {a : Act} {K : Act → World → Prop} {Q : Exit → Act → World → Prop} {E : Prop} (hgd : o.guard = none) (m x v : Operand) (hop : o.op = Op.insert 65 m x v)
    {B n : Nat} {f : Int → ByteArray} (h : Mm w B n f) (hn : n < 100) (hm : a.eval m = .map (some B)) (k : Int) (wk : (Lit.int .i64 k).wf = true) (hx : a.eval x = .int .i64 k) (s : ByteArray) (hv : a.eval v = .string s) (hs : s.size ≤ maxLen)
    (hK : ∀ w', Mm w' B (n + 1) (upd f k s) → w.grownBy w' (some B) → K (a.put o.dst undef) w') :
    if Region.wanted o (yielded ops a.tmps) = true then Oper.wp Tryd.prog o a w K Q else E := by
  rw [if_pos (by simp [Region.wanted, hgd])]
  obtain ⟨w', h1, h2, h3⟩ := h.ins hn k wk s hs
  unfold Oper.wp
  simp [execOp, hop, hm, hx, hv, h1, Result.andThen]
  exact hK w' h2 h3
theorem step_look {w : World} {ops : Array Oper} {o : Oper} {a : Act} {K : Act → World → Prop} {Q : Exit → Act → World → Prop} {E : Prop} (hgd : o.guard = none) (m x : Operand) (hop : o.op = Op.lookup 65 m x false)
    {B n : Nat} {f : Int → ByteArray} (h : Mm w B n f) (hm : a.eval m = .map (some B)) (k : Int) (wk : (Lit.int .i64 k).wf = true) (hx : a.eval x = .int .i64 k) (s : ByteArray) (hs : f k = s)
    (hK : K (a.put o.dst (.string s)) w) :
    if Region.wanted o (yielded ops a.tmps) = true then Oper.wp Tryd.prog o a w K Q else E := by
  rw [if_pos (by simp [Region.wanted, hgd])]
  have h1 := h.look k wk
  rw [hs] at h1
  unfold Oper.wp
  simp [execOp, hop, hm, hx, h1, Result.andThen]
  exact hK
/-- Which attribute a kind of tests asks for. -/
def nmK (kd : Int) (nm : ByteArray) : ByteArray := if kd = 2 then clsN else if kd = 3 then idN else if kd = 4 then nm else if kd = 5 then nm else ⟨#[]⟩
end Go.Proofs.YtlodblcmpebfkaaDoor
