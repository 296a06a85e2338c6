/-
  The law FoldGone returns true. Conditions: the tables hold what their texts say; the page is shorter than 2 to the 63.
-/
import Derived.Test.YtblkldfokeeaeacGreatDoorA32
import Derived.Test.YtblkldfokeeaeacGreatDoorAxSheetSame2
import Derived.Test.YtblkldfokeeaeacGreatDoorA15
namespace Go.Proofs.YtblkldfokeeaeacGreatDoor
open Go.RowKit Go.Maps
section
variable (st : Sh.Rl → Bool) (R : List Sh.Rl)
def stTo (j : Nat) : Nat := ((R.take j).filter st).length
def mdTo (j : Nat) : Bool := (R.take j).any fun r => !r.media.isEmpty
theorem stTo_yes {j : Nat} (hj : j < R.length) (h : st R[j] = true) : stTo st R (j + 1) = stTo st R j + 1 := by
  unfold stTo
  rw [List.take_succ_eq_append_getElem hj, List.filter_append]
  simp [h]
theorem stTo_no {j : Nat} (hj : j < R.length) (h : st R[j] = false) : stTo st R (j + 1) = stTo st R j := by
  unfold stTo
  rw [List.take_succ_eq_append_getElem hj, List.filter_append]
  simp [h]
theorem stTo_all : stTo st R R.length = (R.filter st).length := by unfold stTo; rw [List.take_length]
theorem stTo_at {j : Nat} (hj : j < R.length) (h : st R[j] = true) : (R.filter st)[stTo st R j]? = some R[j] := by
  have e : R.filter st = (R.take j).filter st ++ (R[j] :: (R.drop (j + 1)).filter st) := by
    conv => lhs; rw [← List.take_append_drop j R, List.drop_eq_getElem_cons hj]
    rw [List.filter_append, List.filter_cons, if_pos h]
  rw [e]
  unfold stTo
  rw [List.getElem?_append_right (Nat.le_refl _), Nat.sub_self]
  rfl
theorem mdTo_next {j : Nat} (hj : j < R.length) : mdTo R (j + 1) = (mdTo R j || !R[j].media.isEmpty) := by
  unfold mdTo
  rw [List.take_succ_eq_append_getElem hj, List.any_append]
  simp
theorem mdTo_no {j : Nat} (hj : R.length ≤ j) (h : mdTo R j = false) : ∀ r ∈ R, r.media = [] := fun r hr => by
  unfold mdTo at h
  rw [List.take_of_length_le hj, List.any_eq_false] at h
  have := h r hr
  cases hm : r.media with
  | nil => rfl
  | cons a l => rw [hm] at this; simp at this
end
theorem left_of {R R' : List Sh.Rl} {st : Sh.Rl → Bool} (h : R'.map Sh.bare = (R.filter st).map Sh.bare) {j : Nat} (hj : j < R.length) (hs : st R[j] = true) : ∃ hk : stTo st R j < R'.length, R'[stTo st R j].media = R[j].media ∧ R'[stTo st R j].sels = R[j].sels ∧ R'[stTo st R j].decls = R[j].decls := by
  have h1 := stTo_at st R hj hs
  have h2 : (R'.map Sh.bare)[stTo st R j]? = some (Sh.bare R[j]) := by rw [h, List.getElem?_map, h1]; rfl
  rw [List.getElem?_map] at h2
  cases h3 : R'[stTo st R j]? with
  | none => rw [h3] at h2; cases h2
  | some r =>
    rw [h3] at h2
    obtain ⟨hk, hr⟩ := List.getElem?_eq_some_iff.1 h3
    have h4 : Sh.bare r = Sh.bare R[j] := Option.some.inj h2
    refine ⟨hk, ?_⟩
    rw [hr]
    exact ⟨congrArg (·.media) h4, congrArg (·.sels) h4, congrArg (·.decls) h4⟩
theorem hA_new {X : World} {T : TypeId} {P : Nat} {cs : Array Value} (h : X.heap.size = P) : (X.alloc (.cells cs T)).heap[P]? = some (.cells cs T (0, 0)) := h ▸ heap_alloc_new X _
theorem hA_al {X : World} {P : Nat} {o o' : Obj} (h : X.heap[P]? = some o) : (X.alloc o').heap[P]? = some o := (Below.heap_alloc _ _ _ (lt_heap h)).trans h
theorem hA_dr {X : World} {P : Nat} {o : Obj} (h : X.heap[P]? = some o) : X.drew.heap[P]? = some o := h
theorem one_rule {X : World} {P : Nat} {r : Sh.Rl} {sv dv : Value} (h : X.heap[P]? = some (.cells #[.string (Sh.bs r.media), sv, dv, .int .i64 r.from_, .int .i64 r.to_] 38 (0, 0))) (hs : Sh.SsAt X sv r.sels) (hd : Sh.DsAt X dv r.decls) : Sh.RsIn X 0 (.slice (some ⟨P, 0, none⟩) 1 1) [r] :=
  ⟨[(r, (sv, dv))], rfl, ⟨rfl, .inr ⟨P, 1, _, rfl, Nat.zero_le _, h, Nat.le_refl _, by unfold maxLen; omega, rfl, rfl⟩⟩, fun p hp => by rw [List.mem_singleton.1 hp]; exact ⟨hs, hd⟩⟩
theorem few_of {r : Sh.Rl} (h : RlBd r) : Sh.Few r := ⟨h.sels, Nat.le_trans h.decls (by decide), h.parts⟩
theorem ss_below {w w' : World} {v : Value} {l : List (List Sh.Prt)} (h : Sh.SsAt w v l) (hb : Below w.heap.size w w') : Sh.SsAt w' v l := h.keeps (Sh.Keeps.below (Ts := fun _ => True) hb) ⟨trivial, trivial, trivial⟩
theorem ds_below {w w' : World} {v : Value} {l : List Sh.Dcl} (h : Sh.DsAt w v l) (hb : Below w.heap.size w w') : Sh.DsAt w' v l := h.keeps (Sh.Keeps.below (Ts := fun _ => True) hb) trivial
end Go.Proofs.YtblkldfokeeaeacGreatDoor
