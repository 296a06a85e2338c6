/-
  What is printed is read: declarations that were read come back from what they are printed as, by the plain answer of the SheetSpec text. No program is named here; no condition.
-/
import Derived.Test.YtanedepdhbdcgaaSheetFew
namespace Go.Proofs.Ytanedepdhbdcgaa
open Go

theorem at_byte {S : List UInt8} {k : Nat} {c : UInt8} {Z : List UInt8} (h : S.drop k = c :: Z) : S[k]? = some c := by
  have := congrArg (fun l => l[0]?) h
  simpa [List.getElem?_drop] using this
theorem at_add {S : List UInt8} {k : Nat} {u Z : List UInt8} (h : S.drop k = u ++ Z) : S.drop (k + u.length) = Z := by
  rw [← List.drop_drop, h, List.drop_left]
theorem at_one {S : List UInt8} {k : Nat} {c : UInt8} {Z : List UInt8} (h : S.drop k = c :: Z) : S.drop (k + 1) = Z := at_add (u := [c]) h
theorem at_fits {S : List UInt8} {k : Nat} {c : UInt8} {Z : List UInt8} (h : S.drop k = c :: Z) (p : UInt8 → Bool) : fitsAt S k p = p c := by
  unfold fitsAt; rw [at_byte h]
theorem at_tok {S : List UInt8} {k : Nat} {t Z : List UInt8} (h : S.drop k = t ++ Z) : has S k t = true := by
  unfold has; rw [h, List.isPrefixOf_iff_prefix]; exact List.prefix_append _ _
theorem at_end {S : List UInt8} {k : Nat} (h : S.drop k = []) : S.length ≤ k := List.drop_eq_nil_iff.1 h
theorem at_lt {S : List UInt8} {k : Nat} {c : UInt8} {Z : List UInt8} (h : S.drop k = c :: Z) : k < S.length := (List.getElem?_eq_some_iff.1 (at_byte h)).1

theorem sub_while {S : List UInt8} {k : Nat} (p : UInt8 → Bool) : sub S k (whileEnd S k p) = (S.drop k).takeWhile p := by
  unfold sub whileEnd
  rw [Nat.add_sub_cancel_left]
  exact (List.prefix_iff_eq_take.1 (List.takeWhile_prefix p)).symm
/-- What stands there does not go on with such a byte. -/
def Stops (p : UInt8 → Bool) (Z : List UInt8) : Prop := Z = [] ∨ ∃ c Z', Z = c :: Z' ∧ p c = false
theorem at_while {S : List UInt8} {k : Nat} {u Z : List UInt8} {p : UInt8 → Bool} (h : S.drop k = u ++ Z) (hu : ∀ c ∈ u, p c = true) (hz : Stops p Z) : whileEnd S k p = k + u.length ∧ sub S k (whileEnd S k p) = u := by
  have e : (S.drop k).takeWhile p = u := by
    rw [h, List.takeWhile_append_of_pos hu]
    rcases hz with rfl | ⟨c, Z', rfl, hc⟩
    · simp
    · rw [List.takeWhile_cons, if_neg (by rw [hc]; decide), List.append_nil]
  refine ⟨?_, by rw [sub_while, e]⟩
  unfold whileEnd
  rw [e]

def NameOK (n : List UInt8) : Prop := ∃ c t, n = c :: t ∧ letterB c = true ∧ (∀ x ∈ t, nameB x = true) ∧ n.length ≤ 20
def AllW (u : List UInt8) : Prop := u ≠ [] ∧ ∀ c ∈ u, wordB c = true
def joinW : List (List UInt8) → List UInt8
  | [] => []
  | [u] => u
  | u :: v :: ws => u ++ 32 :: joinW (v :: ws)
def ValOK (v : List UInt8) : Prop := ∃ ws : List (List UInt8), ws ≠ [] ∧ (∀ u ∈ ws, AllW u) ∧ v = joinW ws ∧ v.length ≤ 60
def DclOK (d : Dcl) : Prop := NameOK d.name ∧ ValOK d.val

theorem joinW_snoc : ∀ (ws : List (List UInt8)) (u : List UInt8), ws ≠ [] → joinW (ws ++ [u]) = joinW ws ++ [32] ++ u
  | [], _, h => absurd rfl h
  | [v], u, _ => by simp [joinW]
  | v :: x :: ws, u, _ => by
    have := joinW_snoc (x :: ws) u (by simp)
    simp only [List.cons_append, joinW] at this ⊢
    rw [this]
    simp
theorem joinW_len : ∀ (ws : List (List UInt8)), (∀ u ∈ ws, AllW u) → ws.length ≤ (joinW ws).length
  | [], _ => by simp [joinW]
  | [v], h => by
    have := List.length_pos_iff.2 (h v (by simp)).1
    simp [joinW]; omega
  | v :: x :: ws, h => by
    have := joinW_len (x :: ws) (fun u hu => h u (List.mem_cons_of_mem _ hu))
    simp [joinW] at this ⊢
    omega

theorem sname_ok {S : List UInt8} {k k' : Nat} {n : List UInt8} (h : sname S k = .ok (n, k')) : NameOK n := by
  unfold sname nameTo at h
  split at h
  · cases h
  rename_i e he
  split at he
  · rename_i hf
    injection he with he
    split at h
    · cases h
    rename_i h20
    injection h with h
    injection h with h1 h2
    have hk : k < S.length := by
      by_cases hk : k < S.length
      · exact hk
      · rw [fitsAt_ge _ (by omega)] at hf; cases hf
    have hd := List.drop_eq_getElem_cons hk
    have e1 : sub S k e = S[k] :: (S.drop (k + 1)).takeWhile nameB := by
      rw [← sub_while, ← he]
      unfold sub
      rw [hd]
      have : k + 1 ≤ whileEnd S (k + 1) nameB := by unfold whileEnd; omega
      rw [show whileEnd S (k + 1) nameB - k = (whileEnd S (k + 1) nameB - (k + 1)) + 1 by omega, List.take_succ_cons]
    refine ⟨S[k], (S.drop (k + 1)).takeWhile nameB, by rw [← h1, e1], ?_, fun x hx => (List.all_eq_true.1 List.all_takeWhile) x hx, by rw [← h1]; omega⟩
    rw [fitsAt_lt _ hk] at hf
    exact hf
  · cases he
theorem word_ok {ahead S : List UInt8} {k k' : Nat} {v : List UInt8} (h : word ahead S k = .ok (v, k')) : ∃ u, v = ahead ++ u ∧ AllW u ∧ v.length ≤ 60 := by
  have hl := (word_grows h).1
  simp only [word, chars] at h
  split at h
  · cases h
  rename_i hne
  split at h
  · cases h
  rw [bnd_ok] at h
  obtain ⟨_, m1, _, h2⟩ := h
  injection h2 with h2
  injection h2 with h2 _
  exact ⟨_, h2.symm, ⟨hne, fun c hc => by rw [sub_while] at hc; exact (List.all_eq_true.1 List.all_takeWhile) c hc⟩, hl⟩
theorem valueTo_ok {S : List UInt8} : ∀ (f : Nat) (v : List UInt8) (k m : Nat) (v' : List UInt8), ValOK v → valueTo f v S k = .ok (v', m) → ValOK v'
  | 0, _, _, _, _, _, h => by cases h
  | f + 1, v, k, m, v', hv, h => by
    unfold valueTo fits at h
    split at h
    · rw [bnd_ok] at h
      obtain ⟨a, m1, h1, h2⟩ := h
      obtain ⟨u, hu, au, hl⟩ := word_ok h1
      obtain ⟨ws, w0, w1, w2, w3⟩ := hv
      refine valueTo_ok f a m1 m v' ⟨ws ++ [u], by simp, ?_, ?_, hl⟩ h2
      · intro x hx
        rcases List.mem_append.1 hx with hx | hx
        · exact w1 x hx
        · rw [List.mem_singleton.1 hx]; exact au
      · rw [joinW_snoc ws u w0, hu, w2]
    · injection h with h
      injection h with h _
      rw [← h]; exact hv
theorem decl_ok {S : List UInt8} {k k' : Nat} {d : Dcl} (h : decl S k = .ok (d, k')) : DclOK d := by
  unfold decl at h
  rw [bnd_ok] at h
  obtain ⟨n, k1, h1, h⟩ := h
  rw [bnd_ok] at h
  obtain ⟨_, k2, _, h⟩ := h
  rw [bnd_ok] at h
  obtain ⟨_, k3, _, h⟩ := h
  rw [bnd_ok] at h
  obtain ⟨_, k4, _, h⟩ := h
  rw [bnd_ok] at h
  obtain ⟨v, k5, h5, h⟩ := h
  have hn := sname_ok h1
  have hv : ValOK v := by
    unfold value at h5
    rw [bnd_ok] at h5
    obtain ⟨a, m1, e1, e2⟩ := h5
    obtain ⟨u, hu, au, hl⟩ := word_ok e1
    refine valueTo_ok 62 a m1 k5 v ⟨[u], by simp, by simpa using au, by simpa [joinW] using hu, hl⟩ e2
  unfold opt at h
  split at h
  · rw [bnd_ok] at h
    obtain ⟨_, k6, _, h⟩ := h
    rw [bnd_ok] at h
    obtain ⟨_, k7, _, h⟩ := h
    injection h with h
    injection h with h _
    rw [← h]; exact ⟨hn, hv⟩
  · injection h with h
    injection h with h _
    rw [← h]; exact ⟨hn, hv⟩
theorem declsTo_ok {S : List UInt8} : ∀ (f : Nat) (l : List Dcl) (k m : Nat) (l' : List Dcl), l.length ≤ 20 → (∀ d ∈ l, DclOK d) → declsTo f l S k = .ok (l', m) → l'.length ≤ 20 ∧ ∀ d ∈ l', DclOK d
  | 0, _, _, _, _, _, _, h => by cases h
  | f + 1, l, k, m, l', h20, hl, h => by
    have here : ∀ {k m : Nat}, ret l S k = .ok (l', m) → l'.length ≤ 20 ∧ ∀ d ∈ l', DclOK d := by
      intro k m h
      injection h with h; injection h with h _; rw [← h]; exact ⟨h20, hl⟩
    unfold declsTo ended at h
    split at h
    · exact here h
    unfold look at h
    split at h
    · exact here h
    rw [bnd_ok] at h
    obtain ⟨_, k1, h0, h⟩ := h
    rw [bnd_ok] at h
    obtain ⟨d, k2, hd, h⟩ := h
    have lt20 : l.length < 20 := by
      by_cases hq : 20 ≤ l.length
      · rw [if_pos hq] at h0
        unfold fits at h0
        split at h0
        · cases h0
        · rename_i hf
          injection h0 with h0
          injection h0 with _ h0
          subst h0
          exact absurd (decl_letter' hd) hf
      · omega
    have hl2 : (l ++ [d]).length ≤ 20 ∧ ∀ x ∈ l ++ [d], DclOK x := by
      refine ⟨by simp; omega, fun x hx => ?_⟩
      rcases List.mem_append.1 hx with hx | hx
      · exact hl x hx
      · rw [List.mem_singleton.1 hx]; exact decl_ok hd
    unfold opt at h
    split at h
    · rw [bnd_ok] at h
      obtain ⟨_, k3, _, h⟩ := h
      exact declsTo_ok f _ _ _ _ hl2.1 hl2.2 h
    · injection h with h; injection h with h _; rw [← h]; exact hl2
theorem declsParse_ok {S : List UInt8} {l : List Dcl} (h : declsParse S = .ok l) : l.length ≤ 20 ∧ ∀ d ∈ l, DclOK d := by
  unfold declsParse at h
  split at h
  · cases h
  unfold declsAll at h
  split at h
  · cases h
  rename_i l' m e
  injection h with h
  subst h
  unfold onlyDecls at e
  rw [bnd_ok] at e
  obtain ⟨l1, m1, h1, h2⟩ := e
  unfold ended at h2
  split at h2
  · injection h2 with h2; injection h2 with h2 _
    subst h2
    unfold decls at h1
    rw [bnd_ok] at h1
    obtain ⟨_, m2, _, h1⟩ := h1
    exact declsTo_ok 22 [] _ _ _ (by simp) (by simp) h1
  · cases h2
end Go.Proofs.Ytanedepdhbdcgaa
