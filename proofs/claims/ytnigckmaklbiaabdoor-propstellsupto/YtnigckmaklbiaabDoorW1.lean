/-
  What the document's own Words answers: the words. Condition: the text is of at most 2^20 bytes.
-/
import Derived.Test.YtnigckmaklbiaabDoorP6
namespace Go.Proofs.YtnigckmaklbiaabDoor
open Go.RowKit

/-- So far: the words laid, and what is under way from at on. -/
def Far (L : List UInt8) (i at_ : Nat) (out : List ByteArray) : Prop := words L = out.map (·.data.toList) ++ glue ((L.drop at_).take (i - at_)) (words (L.drop i))
theorem far_start (L : List UInt8) : Far L 0 0 [] := by
  show words L = [] ++ glue [] (words L)
  rw [glue_nil (words_ne _)]
  rfl
theorem far_blank {v : ByteArray} {i at_ : Nat} {out : List ByteArray} (h : Far v.data.toList i at_ out) (hi : i < v.data.toList.length) (hb : v.data.toList[i] = 32) : Far v.data.toList (i + 1) (i + 1) (out ++ [v.extract at_ i]) := by
  unfold Far at h ⊢
  rw [h, List.drop_eq_getElem_cons hi, hb]
  rw [show words (32 :: v.data.toList.drop (i + 1)) = [] :: words (v.data.toList.drop (i + 1)) by simp [words]]
  rw [Nat.sub_self, List.take_zero, glue_nil (words_ne _), List.map_append, List.append_assoc]
  congr 1
  simp only [glue, List.append_nil, List.map_cons, List.map_nil, List.singleton_append]
  congr 1
  rw [ByteArray.data_extract]
  simp [Array.toList_extract, List.extract]
theorem far_other {v : ByteArray} {i at_ : Nat} {out : List ByteArray} (h : Far v.data.toList i at_ out) (hi : i < v.data.toList.length) (ha : at_ ≤ i) (hb : v.data.toList[i] ≠ 32) : Far v.data.toList (i + 1) at_ out := by
  unfold Far at h ⊢
  rw [h, List.drop_eq_getElem_cons hi]
  rw [show words (v.data.toList[i] :: v.data.toList.drop (i + 1)) = glue [v.data.toList[i]] (words (v.data.toList.drop (i + 1))) by rw [words, if_neg hb]]
  rw [glue_glue]
  congr 2
  rw [show i + 1 - at_ = (i - at_) + 1 by omega, List.take_succ_eq_append_getElem (by rw [List.length_drop]; omega), List.getElem_drop]
  congr 3
  omega
theorem far_end {v : ByteArray} {at_ : Nat} {out : List ByteArray} (h : Far v.data.toList v.data.toList.length at_ out) : (out ++ [v.extract at_ v.size]).map (·.data.toList) = words v.data.toList := by
  unfold Far at h
  rw [h, List.drop_of_length_le (Nat.le_refl _), List.map_append]
  congr 1
  simp only [words, glue, List.append_nil, List.map_cons, List.map_nil]
  congr 1
  rw [ByteArray.data_extract]
  simp [Array.toList_extract, List.extract]
theorem flat_app (l : List ByteArray) (x : ByteArray) : (l ++ [x]).flatMap encB = l.flatMap encB ++ [.string x] := by
  rw [List.flatMap_append]; rfl
theorem one_B (l : List ByteArray) : ∀ u ∈ l.flatMap encB, u.oneCell' = true := by
  intro u hu
  obtain ⟨d, _, hd⟩ := List.mem_flatMap.1 hu
  simp [encB] at hd
  rw [hd]; rfl

set_option maxRecDepth 100000 in
set_option maxHeartbeats 4000000 in
theorem words_any (v : ByteArray) (w : World) (hs : v.size ≤ lim) :
    Calls Tryd.prog 28 #[.string v] w fun e w' => ∃ (a : Option Addr) (c : Nat) (l : List ByteArray), e = .returned (.slice a l.length c) ∧ BsAt w' (.slice a l.length c) l ∧ l.map (·.data.toList) = words v.data.toList ∧ Below w.heap.size w w' := by
  unfold lim at hs
  go_enter Tryd.func28, Tryd.ntmps28
  go_wp2_with fail
  go_loopg [3, 4, 8] v.size (fun n o t i wr => ∃ (k a : Nat) (out : List ByteArray), n = v.size - k ∧ k ≤ v.size ∧ a ≤ k ∧ out.length ≤ k ∧ t = .int .i64 (a : Int) ∧ i = .int .i64 (k : Int) ∧ Far v.data.toList k a out ∧ wr.ownsRow w.heap.size 9 1 o out.length (out.flatMap encB) ∧ Below w.heap.size w wr)
  case atStart => exact ⟨0, 0, [], rfl, Nat.zero_le _, Nat.le_refl _, Nat.le_refl _, rfl, rfl, far_start _, World.ownsRow_nil _ _ _ _, Below.refl _ _⟩
  case round =>
    obtain ⟨k, a, out, hn, hk, hak, hol, rfl, rfl, hF, hO, hB⟩ := hrel
    have GK := hid hn
    have HO := hid hO
    have HB := hid hB
    have HF := hid hF
    rename World => wo
    obtain ⟨va, vc, rfl⟩ := own_form hO
    clear hn hO hB hF
    by_cases hlt : k < v.size
    · have hlt' : k < v.data.toList.length := by rw [← Lib.size_eq]; exact hlt
      have hg : v.data.toList[k] = v[k] := by rw [Array.getElem_toList]; rfl
      have h8 : ((v[k].toNat : Int) == 32) = (v.data.toList[k] == 32) := by
        rw [hg, Bool.eq_iff_iff]
        simp only [beq_iff_eq]
        constructor
        · intro h
          apply UInt8.toNat_inj.1
          have : v[k].toNat = 32 := by omega
          rw [this]; rfl
        · intro h; rw [h]; rfl
      cases hq : (v.data.toList[k] == 32)
      · have HF2 := hid (far_other HF.out hlt' hak (by simpa using hq))
        rw [hq] at h8
        clear hq hg
        go_wp2_with fail
        go_roundg (v.size - (k + 1))
        case measure => have := GK.out; omega
        case rel => exact ⟨k + 1, a, out, rfl, by omega, by omega, by omega, rfl, by go_num, HF2.out, HO.out, HB.out⟩
      · have HF2 := hid (far_blank HF.out hlt' (by simpa using hq))
        rw [hq] at h8
        clear hq hg
        go_wp2_with (at_builtin; refine wpList_app rfl (.tmp 15) (.tmp 20) 56 rfl w.heap.size 9 _ 1 16 Tryd.underlying56 Tryd.infoS rfl (by decide) (.slice va out.length vc) out.length (out.flatMap encB) rfl (HO.out.alloc _) _ 1 [.string (v.extract a k)] rfl (.inr ⟨_, 1, rfl, World.news_of_block (heap_alloc_new _ _)⟩) rfl (by simp [Value.oneCell']) (by unfold maxLen; omega) (by omega) (HB.out.alloc HB.out.size _).size ?_; intro v3 w3 hv3 hg3)
        have HB3 : Hid (Below w.heap.size w w3) := (HB.out.alloc HB.out.size _).grown hg3 (HB.out.alloc HB.out.size _).size (fun j hj => (HO.out.lt j hj).1)
        have HO3 : Hid (w3.ownsRow w.heap.size 9 1 v3 (out ++ [v.extract a k]).length ((out ++ [v.extract a k]).flatMap encB)) := by
          show World.ownsRow _ _ _ _ _ _ _
          rw [List.length_append, flat_app]
          exact hv3
        clear hv3 hg3
        go_roundg (v.size - (k + 1))
        case measure => have := GK.out; omega
        case rel => exact ⟨k + 1, k + 1, out ++ [v.extract a k], rfl, by omega, by omega, by simp; omega, by go_num, by go_num, HF2.out, HO3.out, HB3.out⟩
    · have hkv : k = v.size := by omega
      subst hkv
      have HF2 := hid (far_end (v := v) (at_ := a) (out := out) (by rw [← Lib.size_eq]; exact HF.out))
      go_wp2_with (at_builtin; refine wpList_app rfl (.tmp 25) (.tmp 29) 56 rfl w.heap.size 9 _ 1 16 Tryd.underlying56 Tryd.infoS rfl (by decide) (.slice va out.length vc) out.length (out.flatMap encB) rfl (HO.out.alloc _) _ 1 [.string (v.extract a v.size)] rfl (.inr ⟨_, 1, rfl, World.news_of_block (heap_alloc_new _ _)⟩) rfl (by simp [Value.oneCell']) (by unfold maxLen; omega) (by omega) (HB.out.alloc HB.out.size _).size ?_; intro v3 w3 hv3 hg3)
      have HB3 : Hid (Below w.heap.size w w3) := (HB.out.alloc HB.out.size _).grown hg3 (HB.out.alloc HB.out.size _).size (fun j hj => (HO.out.lt j hj).1)
      have HO3 : Hid (w3.ownsRow w.heap.size 9 1 v3 (out ++ [v.extract a v.size]).length ((out ++ [v.extract a v.size]).flatMap encB)) := by
        show World.ownsRow _ _ _ _ _ _ _
        rw [List.length_append, flat_app]
        exact hv3
      clear hv3 hg3
      have HD := BsAt.own HO3.out
      obtain ⟨ra, rc, rfl⟩ := Sl.form HD
      go_ret
      exact ⟨ra, rc, out ++ [v.extract a v.size], rfl, HD, HF2.out, HB3.out⟩
end Go.Proofs.YtnigckmaklbiaabDoor
