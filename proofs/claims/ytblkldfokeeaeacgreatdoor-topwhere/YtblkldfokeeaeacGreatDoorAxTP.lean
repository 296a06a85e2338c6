/-
  The law TopWhere returns true. Conditions: the tables hold what their texts say; the texts are shorter than 2 to the 63.
-/
import Derived.Test.YtblkldfokeeaeacGreatDoorAxTO
import Derived.Maps.RangeWalk
namespace Go.Proofs.YtblkldfokeeaeacGreatDoor
open Go.RowKit Go.Maps

def sV (x : ByteArray) : Value := .string x
def sD (x : ByteArray) : DataW Unit := .lit (.string x.data.toList)
def sR (v : Value) : Option (DataW Unit × List MemPlace) := match v with
  | .string s => some (.lit (.string s.data.toList), [])
  | _ => none
theorem sR_mk (x : ByteArray) : sR (sV x) = some (sD x, []) := rfl
abbrev MIs := MI sR sD
set_option maxRecDepth 100000 in
theorem uponS_ins {W w : World} {o : Oper} {a : Act} {K : Act → World → Prop} {Q : Exit → Act → World → Prop} {n : Nat} {f : Key → Option ByteArray} {k s : ByteArray} (h : MIs W w n f) (hn : n < 100) (wk : k.size ≤ maxLen)
    (hK : ∀ w', MIs W w' (n + 1) (updK f k.data.toList s) → K (a.put o.dst undef) w') :
    Oper.upon Tryz.prog o a K Q (((Instr.mapUpdate 72 (.map (some W.heap.size)) (.string k) (.string s)).run Tryz.prog w).andThen fun _ w' => .ok .skip w') := by
  have hx := Mp.ins (R := sR) (dt := sD) (en := sV) (MI.mp h) hn (e := 9) Tryz.underlying72 k wk s (sR_mk s)
  refine hx.elim fun w' hx => ?_
  have h1 := hx.1
  have h2 := hx.2.1
  have h3 := hx.2.2
  have h1' : (Instr.mapUpdate 72 (.map (some W.heap.size)) (.string k) (.string s)).run Tryz.prog w = .ok () w' := h1
  rw [h1']
  exact hK w' (MI.mk h2 ((MI.below h).grown h3 (MI.below h).size (fun j hj => by injection hj with hj; omega)))

/-- Fold of the text k is the text v. -/
def FoldsTo (k v : ByteArray) : Prop := ∀ w, Tab w → Calls Tryz.prog 16 #[.string k] w fun e w' => e = .returned (.tuple #[.string v, faultV (0, 0)]) ∧ Below w.heap.size w w'
theorem folds_pg {t : Sh.Tr} {rows : Nat → List RuT} {lk : Nat → List Dc} (h : Pg t rows lk) {T : Bs} (e : Sh.text (Sh.edit (fun k => printD (lk k)) (fun j _ => List.replicate (rows j).length 32) 0 t) = T) {s o : ByteArray} (hs : s.data.toList = Sh.text t) (ho : o.data.toList = T) : FoldsTo s o := fun w hT => by
  have FA := fold_any s w (by rw [Lib.size_eq, hs]; have := h.len; omega) hT
  rw [hs, h.fold, e] at FA
  have : bsL T = o := ba_ext (by rw [ho]; rfl)
  rw [← this]
  exact FA
/-- Every entry of f: Fold of its key is its element. -/
def GoodF (f : Key → Option ByteArray) : Prop := ∀ k v : ByteArray, f k.data.toList = some v → FoldsTo k v
theorem GoodF.ins {f : Key → Option ByteArray} (h : GoodF f) {k v : ByteArray} (hf : FoldsTo k v) : GoodF (updK f k.data.toList v) := fun k' v' h' => by
  unfold updK at h'
  split at h'
  · rename_i e
    injection h' with h'
    subst h'
    rw [ba_ext e]
    exact hf
  · exact h k' v' h'
theorem GoodF.none : GoodF (fun _ => none) := fun _ _ h => by cases h
/-- A map under way, all of whose entries are good. -/
def MG (W w : World) (n : Nat) : Prop := ∃ f, MIs W w n f ∧ GoodF f
theorem MG.made (W : World) : MG W (W.alloc (.map #[] 0)).drew 0 := ⟨fun _ => none, ⟨Mp.made (R := sR) (dt := sD) W, ((Below.refl _ _).alloc (Nat.le_refl _) _).drew⟩, GoodF.none⟩
set_option maxRecDepth 100000 in
theorem uponG_ins {W w : World} {o : Oper} {a : Act} {K : Act → World → Prop} {Q : Exit → Act → World → Prop} {n : Nat} {k s : ByteArray} (h : MG W w n) (hn : n < 100) (wk : k.size ≤ maxLen) (hf : FoldsTo k s)
    (hK : ∀ w', MG W w' (n + 1) → K (a.put o.dst undef) w') :
    Oper.upon Tryz.prog o a K Q (((Instr.mapUpdate 72 (.map (some W.heap.size)) (.string k) (.string s)).run Tryz.prog w).andThen fun _ w' => .ok .skip w') := by
  obtain ⟨f, h1, h2⟩ := h
  exact uponS_ins h1 hn wk fun w' h' => hK w' ⟨_, h', h2.ins hf⟩
/-- A loop over such a map under way. -/
def RG (W w : World) (r cnt : Nat) : Prop := ∃ n D left f, w.ranges Tryz.prog 9 sR W.heap.size r n D left cnt ∧ (∀ q z, D.atKey (.string q) z = (f q).elim z sD) ∧ GoodF f ∧ Below W.heap.size W w ∧ W.heap.size < r
set_option maxRecDepth 100000 in
theorem uponG_range {W w : World} {o : Oper} {a : Act} {K : Act → World → Prop} {Q : Exit → Act → World → Prop} {n : Nat} (h : MG W w n)
    (hK : ∀ w' r cnt, RG W w' r cnt → K (a.put o.dst (.pointer (some ⟨r, 0, none⟩))) w') :
    Oper.upon Tryz.prog o a K Q (((Instr.range 72 (.map (some W.heap.size))).run Tryz.prog w).andThen fun v w' => .ok (.value v) w') := by
  obtain ⟨f, ⟨⟨D, ho, hf⟩, hb⟩, hg⟩ := h
  obtain ⟨w', h1, h2, h3, h4⟩ := ho.range keyS Tryz.underlying72
  rw [h1]
  exact hK w' _ _ ⟨n, D, _, f, h2, fun q z => by rw [hf]; cases f q <;> rfl, hg, hb.grown h3 hb.size (fun j hj => by cases hj), ho.lt⟩
theorem sR_form (v : Value) (y : DataW Unit × List MemPlace) (h : sR v = some y) : ∃ c : ByteArray, v = .string c := by
  unfold sR at h
  split at h
  · exact ⟨_, rfl⟩
  · cases h
theorem key_form (key : Value) (kl : Lit) (h : keyOf Tryz.prog 9 key = some kl) : ∃ x : ByteArray, key = .string x := by
  obtain ⟨s, h1, _⟩ := WideMaps.string_of_keyOf Tryz.underlying9 h
  exact ⟨s, h1⟩
set_option maxRecDepth 100000 in
theorem wpList_where {o : Oper} {rest : List Oper} {a : Act} {ops : Array Oper} {Q : Exit → Act → World → Prop} {W w : World} {r cnt : Nat} (hg : o.guard = none) (it : Operand) (hop : o.op = Op.next it false) (hit : a.eval it = .pointer (some ⟨r, 0, none⟩)) (h : RG W w r cnt)
    (hDone : wpList Tryz.prog ops Q rest (a.put o.dst (.tuple #[.bool false])) w)
    (hMore : ∀ (k v : ByteArray) (w' : World) (cnt' : Nat), FoldsTo k v → RG W w' r cnt' → w'.rangeLeft W.heap.size r < w.rangeLeft W.heap.size r → (Instr.entry (.pointer (some ⟨r, 0, none⟩))).run Tryz.prog w' = .ok (.tuple #[.string k, .string v]) w' → wpList Tryz.prog ops Q rest (a.put o.dst (.tuple #[.bool true, .string k, .string v])) w') :
    wpList Tryz.prog ops Q (o :: rest) a w := by
  obtain ⟨n, D, left, f, h1, h2, h3, h4, h5⟩ := h
  refine wpList_next_ranges w hg it hop 9 keyS sR Value.string Value.string key_form sR_form W.heap.size r n D left cnt hit h1 (fun _ _ => hDone) fun x c kl y w' cnt' hk hl hy hat hr hlt hgr hs hen => ?_
  obtain ⟨s, e1, rfl, _⟩ := WideMaps.string_of_keyOf Tryz.underlying9 hk
  injection e1 with e1
  subst e1
  have hy' : y = (sD c, []) := by
    have := sR_mk c
    unfold sV at this
    rw [this] at hy
    injection hy with hy
    exact hy.symm
  subst hy'
  refine hMore x c w' cnt' (h3 x c ?_) ⟨n, D, _, f, hr, h2, h3, h4.grown hgr h4.size (fun j hj => by injection hj with hj; omega), h5⟩ (by rw [hr.left_eq, h1.left_eq]; exact hlt) hen
  have k1 := h2 x.data.toList (.map [])
  rw [hat] at k1
  cases hq : f x.data.toList with
  | none =>
    rw [hq] at k1
    simp [sD] at k1
  | some u =>
    rw [hq] at k1
    simp only [sD, Option.elim_some, DataW.lit.injEq, Lit.string.injEq] at k1
    rw [ba_ext k1]
theorem RG.below {W w w' : World} {r cnt : Nat} (h : RG W w r cnt) (hb : Below w.heap.size w w') : RG W w' r cnt := by
  obtain ⟨n, D, left, f, h1, h2, h3, h4, h5⟩ := h
  exact ⟨n, D, left, f, h1.kept (row := none) ⟨hb.os, hb.tape, hb.output, hb.size, fun i hi _ => hb.block i hi⟩ (by simp) (by simp), h2, h3, below_trans h4 hb (Nat.le_refl _), h5⟩
theorem RG.bl {W w : World} {r cnt : Nat} (h : RG W w r cnt) : Below W.heap.size W w := by
  obtain ⟨_, _, _, _, _, _, _, h4, _⟩ := h
  exact h4
theorem RG.left {W w : World} {r cnt : Nat} (h : RG W w r cnt) : w.rangeLeft W.heap.size r = cnt := by
  obtain ⟨_, _, _, _, h1, _⟩ := h
  exact h1.left_eq
end Go.Proofs.YtblkldfokeeaeacGreatDoor
