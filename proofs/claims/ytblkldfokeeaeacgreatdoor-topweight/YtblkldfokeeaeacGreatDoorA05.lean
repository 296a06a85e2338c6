/- Texts that the statement's proof stands on: SheetFew, SheetTurn, SheetTurn2, MSpec, PSpec. -/
import Derived.Test.YtblkldfokeeaeacGreatDoorA04
import Derived.Lib.Split
import Derived.Lib.SlicesS
import Derived.Lib.SplitLaws
namespace Go.Proofs.YtblkldfokeeaeacGreatDoor.Sh
open Go
theorem declsTo_len {S : List UInt8} : ∀ (f : Nat) (l : List Dcl) (k m : Nat) (l' : List Dcl), declsTo f l S k = .ok (l', m) → l'.length ≤ l.length + f
  | 0, _, _, _, _, h => by cases h
  | f + 1, l, k, m, l', h => by
    have here : ∀ {k m : Nat}, ret l S k = .ok (l', m) → l'.length ≤ l.length + (f + 1) := by
      intro k m h
      injection h with h; injection h with h _; rw [← h]; omega
    unfold declsTo ended at h
    split at h
    · exact here h
    unfold look at h
    split at h
    · exact here h
    rw [bnd_ok] at h
    obtain ⟨_, k1, _, h⟩ := h
    rw [bnd_ok] at h
    obtain ⟨d, k2, _, h⟩ := h
    unfold opt at h
    split at h
    · rw [bnd_ok] at h
      obtain ⟨_, k3, _, h⟩ := h
      have := declsTo_len f _ _ _ _ h
      simp at this
      omega
    · injection h with h; injection h with h _; rw [← h]; simp
theorem testsTo_len {S : List UInt8} : ∀ (f : Nat) (l : List Tst) (k m : Nat) (l' : List Tst), testsTo f l S k = .ok (l', m) → l'.length ≤ l.length + f
  | 0, _, _, _, _, h => by cases h
  | f + 1, l, k, m, l', h => by
    unfold testsTo at h
    rw [bnd_ok] at h
    obtain ⟨t, k1, _, h⟩ := h
    split at h
    · injection h with h; injection h with h _; rw [← h]; omega
    split at h
    · cases h
    have := testsTo_len f _ _ _ _ h
    simp at this
    omega
theorem part_few {S : List UInt8} {j k m : Nat} {p : Prt} (h : part j S k = .ok (p, m)) : p.tests.length ≤ 100 := by
  unfold part at h
  rw [bnd_ok] at h
  obtain ⟨l, k1, h1, h⟩ := h
  rw [bnd_ok] at h
  obtain ⟨l2, k2, h2, h⟩ := h
  injection h with h; injection h with h _
  have a := partHead_len h1
  have b := testsTo_len _ _ _ _ _ h2
  rw [← h]
  simp only
  omega
theorem selectorTo_few {S : List UInt8} : ∀ (f j : Nat) (l : List Prt) (k m : Nat) (l' : List Prt), (∀ t ∈ l, t.tests.length ≤ 100) → selectorTo f j l S k = .ok (l', m) → l'.length ≤ l.length + f ∧ ∀ t ∈ l', t.tests.length ≤ 100
  | 0, _, _, _, _, _, _, h => by cases h
  | f + 1, j, l, k, m, l', hl, h => by
    unfold selectorTo at h
    rw [bnd_ok] at h
    obtain ⟨_, k1, _, h⟩ := h
    rw [bnd_ok] at h
    obtain ⟨p, k2, hp, h⟩ := h
    rw [bnd_ok] at h
    obtain ⟨q, k3, _, h⟩ := h
    have hl2 : ∀ t ∈ l ++ [p], t.tests.length ≤ 100 := by
      intro t ht
      rcases List.mem_append.1 ht with ht | ht
      · exact hl t ht
      · rw [List.mem_singleton.1 ht]; exact part_few hp
    split at h
    · have := selectorTo_few f _ _ _ _ _ hl2 h
      refine ⟨?_, this.2⟩
      have := this.1
      simp at this
      omega
    · injection h with h; injection h with h _
      rw [← h]
      exact ⟨by simp, hl2⟩
theorem selectorsTo_few {S : List UInt8} : ∀ (f : Nat) (l : List (List Prt)) (k m : Nat) (l' : List (List Prt)), (∀ q ∈ l, q.length ≤ 100 ∧ ∀ t ∈ q, t.tests.length ≤ 100) → selectorsTo f l S k = .ok (l', m) → l'.length ≤ l.length + f ∧ ∀ q ∈ l', q.length ≤ 100 ∧ ∀ t ∈ q, t.tests.length ≤ 100
  | 0, _, _, _, _, _, h => by cases h
  | f + 1, l, k, m, l', hl, h => by
    unfold selectorsTo at h
    rw [bnd_ok] at h
    obtain ⟨_, k1, _, h⟩ := h
    rw [bnd_ok] at h
    obtain ⟨p, k2, hp, h⟩ := h
    have pf := selectorTo_few 8 0 [] _ _ _ (by simp) hp
    have hl2 : ∀ q ∈ l ++ [p], q.length ≤ 100 ∧ ∀ t ∈ q, t.tests.length ≤ 100 := by
      intro t ht
      rcases List.mem_append.1 ht with ht | ht
      · exact hl t ht
      · rw [List.mem_singleton.1 ht]; exact ⟨by have := pf.1; simp at this; omega, pf.2⟩
    unfold opt at h
    split at h
    · rw [bnd_ok] at h
      obtain ⟨_, k3, _, h⟩ := h
      have := selectorsTo_few f _ _ _ _ hl2 h
      refine ⟨?_, this.2⟩
      have := this.1
      simp at this
      omega
    · injection h with h; injection h with h _
      rw [← h]
      exact ⟨by simp, hl2⟩
theorem rule_few {n : Nat} {S : List UInt8} {k m : Nat} {p : List (List Prt) × List Dcl} (h : rule n S k = .ok (p, m)) : p.1.length ≤ 100 ∧ p.2.length ≤ 100 ∧ ∀ q ∈ p.1, q.length ≤ 100 ∧ ∀ t ∈ q, t.tests.length ≤ 100 := by
  unfold rule at h
  rw [bnd_ok] at h
  obtain ⟨_, k1, _, h⟩ := h
  rw [bnd_ok] at h
  obtain ⟨l, k2, hs, h⟩ := h
  rw [bnd_ok] at h
  obtain ⟨_, k3, _, h⟩ := h
  rw [bnd_ok] at h
  obtain ⟨d, k4, hd, h⟩ := h
  rw [bnd_ok] at h
  obtain ⟨_, k5, _, h⟩ := h
  injection h with h; injection h with h _
  have a := selectorsTo_few 10 [] _ _ _ (by simp) hs
  unfold decls at hd
  rw [bnd_ok] at hd
  obtain ⟨_, k6, _, hd⟩ := hd
  have b := declsTo_len _ _ _ _ _ hd
  rw [← h]
  refine ⟨?_, ?_, a.2⟩
  · have := a.1; simp at this; simp only; omega
  · simp at b; simp only; omega
theorem sheet_few {S : List UInt8} {A : List Rl} (h : sheetParse S = .ok A) : A.length ≤ 60 ∧ Chain S 0 A ∧ ∀ r ∈ A, r.sels.length ≤ 100 ∧ r.decls.length ≤ 100 ∧ ∀ q ∈ r.sels, q.length ≤ 100 ∧ ∀ t ∈ q, t.tests.length ≤ 100 := by
  have := (Ps.iff (sheetParse_le h)).1 h
  obtain ⟨M, h1, h2, h3⟩ := this.chain
  simp only [List.nil_append] at h1
  subst h1
  refine ⟨h3 (by simp), h2, fun r hr => ?_⟩
  obtain ⟨_, _, _, n, hn⟩ := h2.mem r hr
  exact rule_few hn
end Go.Proofs.YtblkldfokeeaeacGreatDoor.Sh
namespace Go.Proofs.YtblkldfokeeaeacGreatDoor.Sh
open Go
theorem at_byte {S : List UInt8} {k : Nat} {c : UInt8} {Z : List UInt8} (h : S.drop k = c :: Z) : S[k]? = some c := by
  have := congrArg (fun l => l[0]?) h
  simpa [List.getElem?_drop] using this
theorem at_add {S : List UInt8} {k : Nat} {u Z : List UInt8} (h : S.drop k = u ++ Z) : S.drop (k + u.length) = Z := by
  rw [← List.drop_drop, h, List.drop_left]
theorem at_one {S : List UInt8} {k : Nat} {c : UInt8} {Z : List UInt8} (h : S.drop k = c :: Z) : S.drop (k + 1) = Z := at_add (u := [c]) h
theorem at_fits {S : List UInt8} {k : Nat} {c : UInt8} {Z : List UInt8} (h : S.drop k = c :: Z) (p : UInt8 → Bool) : fitsAt S k p = p c := by
  unfold fitsAt; rw [at_byte h]
theorem at_tok {S : List UInt8} {k : Nat} {t Z : List UInt8} (h : S.drop k = t ++ Z) : has S k t = true := by
  unfold has; rw [h, List.isPrefixOf_iff_prefix]; exact List.prefix_append _ _
theorem at_end {S : List UInt8} {k : Nat} (h : S.drop k = []) : S.length ≤ k := List.drop_eq_nil_iff.1 h
theorem at_lt {S : List UInt8} {k : Nat} {c : UInt8} {Z : List UInt8} (h : S.drop k = c :: Z) : k < S.length := (List.getElem?_eq_some_iff.1 (at_byte h)).1
theorem sub_while {S : List UInt8} {k : Nat} (p : UInt8 → Bool) : sub S k (whileEnd S k p) = (S.drop k).takeWhile p := by
  unfold sub whileEnd
  rw [Nat.add_sub_cancel_left]
  exact (List.prefix_iff_eq_take.1 (List.takeWhile_prefix p)).symm
def Stops (p : UInt8 → Bool) (Z : List UInt8) : Prop := Z = [] ∨ ∃ c Z', Z = c :: Z' ∧ p c = false
theorem at_while {S : List UInt8} {k : Nat} {u Z : List UInt8} {p : UInt8 → Bool} (h : S.drop k = u ++ Z) (hu : ∀ c ∈ u, p c = true) (hz : Stops p Z) : whileEnd S k p = k + u.length ∧ sub S k (whileEnd S k p) = u := by
  have e : (S.drop k).takeWhile p = u := by
    rw [h, List.takeWhile_append_of_pos hu]
    rcases hz with rfl | ⟨c, Z', rfl, hc⟩
    · simp
    · rw [List.takeWhile_cons, if_neg (by rw [hc]; decide), List.append_nil]
  refine ⟨?_, by rw [sub_while, e]⟩
  unfold whileEnd
  rw [e]
def NameOK (n : List UInt8) : Prop := ∃ c t, n = c :: t ∧ letterB c = true ∧ (∀ x ∈ t, nameB x = true) ∧ n.length ≤ 20
def AllW (u : List UInt8) : Prop := u ≠ [] ∧ ∀ c ∈ u, wordB c = true
def joinW : List (List UInt8) → List UInt8
  | [] => []
  | [u] => u
  | u :: v :: ws => u ++ 32 :: joinW (v :: ws)
def ValOK (v : List UInt8) : Prop := ∃ ws : List (List UInt8), ws ≠ [] ∧ (∀ u ∈ ws, AllW u) ∧ v = joinW ws ∧ v.length ≤ 60
def DclOK (d : Dcl) : Prop := NameOK d.name ∧ ValOK d.val
theorem joinW_snoc : ∀ (ws : List (List UInt8)) (u : List UInt8), ws ≠ [] → joinW (ws ++ [u]) = joinW ws ++ [32] ++ u
  | [], _, h => absurd rfl h
  | [v], u, _ => by simp [joinW]
  | v :: x :: ws, u, _ => by
    have := joinW_snoc (x :: ws) u (by simp)
    simp only [List.cons_append, joinW] at this ⊢
    rw [this]
    simp
theorem joinW_len : ∀ (ws : List (List UInt8)), (∀ u ∈ ws, AllW u) → ws.length ≤ (joinW ws).length
  | [], _ => by simp [joinW]
  | [v], h => by
    have := List.length_pos_iff.2 (h v (by simp)).1
    simp [joinW]; omega
  | v :: x :: ws, h => by
    have := joinW_len (x :: ws) (fun u hu => h u (List.mem_cons_of_mem _ hu))
    simp [joinW] at this ⊢
    omega
theorem sname_ok {S : List UInt8} {k k' : Nat} {n : List UInt8} (h : sname S k = .ok (n, k')) : NameOK n := by
  unfold sname nameTo at h
  split at h
  · cases h
  rename_i e he
  split at he
  · rename_i hf
    injection he with he
    split at h
    · cases h
    rename_i h20
    injection h with h
    injection h with h1 h2
    have hk : k < S.length := by
      by_cases hk : k < S.length
      · exact hk
      · rw [fitsAt_ge _ (by omega)] at hf; cases hf
    have hd := List.drop_eq_getElem_cons hk
    have e1 : sub S k e = S[k] :: (S.drop (k + 1)).takeWhile nameB := by
      rw [← sub_while, ← he]
      unfold sub
      rw [hd]
      have : k + 1 ≤ whileEnd S (k + 1) nameB := by unfold whileEnd; omega
      rw [show whileEnd S (k + 1) nameB - k = (whileEnd S (k + 1) nameB - (k + 1)) + 1 by omega, List.take_succ_cons]
    refine ⟨S[k], (S.drop (k + 1)).takeWhile nameB, by rw [← h1, e1], ?_, fun x hx => (List.all_eq_true.1 List.all_takeWhile) x hx, by rw [← h1]; omega⟩
    rw [fitsAt_lt _ hk] at hf
    exact hf
  · cases he
theorem word_ok {ahead S : List UInt8} {k k' : Nat} {v : List UInt8} (h : word ahead S k = .ok (v, k')) : ∃ u, v = ahead ++ u ∧ AllW u ∧ v.length ≤ 60 := by
  have hl := (word_grows h).1
  simp only [word, chars] at h
  split at h
  · cases h
  rename_i hne
  split at h
  · cases h
  rw [bnd_ok] at h
  obtain ⟨_, m1, _, h2⟩ := h
  injection h2 with h2
  injection h2 with h2 _
  exact ⟨_, h2.symm, ⟨hne, fun c hc => by rw [sub_while] at hc; exact (List.all_eq_true.1 List.all_takeWhile) c hc⟩, hl⟩
theorem valueTo_ok {S : List UInt8} : ∀ (f : Nat) (v : List UInt8) (k m : Nat) (v' : List UInt8), ValOK v → valueTo f v S k = .ok (v', m) → ValOK v'
  | 0, _, _, _, _, _, h => by cases h
  | f + 1, v, k, m, v', hv, h => by
    unfold valueTo fits at h
    split at h
    · rw [bnd_ok] at h
      obtain ⟨a, m1, h1, h2⟩ := h
      obtain ⟨u, hu, au, hl⟩ := word_ok h1
      obtain ⟨ws, w0, w1, w2, w3⟩ := hv
      refine valueTo_ok f a m1 m v' ⟨ws ++ [u], by simp, ?_, ?_, hl⟩ h2
      · intro x hx
        rcases List.mem_append.1 hx with hx | hx
        · exact w1 x hx
        · rw [List.mem_singleton.1 hx]; exact au
      · rw [joinW_snoc ws u w0, hu, w2]
    · injection h with h
      injection h with h _
      rw [← h]; exact hv
theorem decl_ok {S : List UInt8} {k k' : Nat} {d : Dcl} (h : decl S k = .ok (d, k')) : DclOK d := by
  unfold decl at h
  rw [bnd_ok] at h
  obtain ⟨n, k1, h1, h⟩ := h
  rw [bnd_ok] at h
  obtain ⟨_, k2, _, h⟩ := h
  rw [bnd_ok] at h
  obtain ⟨_, k3, _, h⟩ := h
  rw [bnd_ok] at h
  obtain ⟨_, k4, _, h⟩ := h
  rw [bnd_ok] at h
  obtain ⟨v, k5, h5, h⟩ := h
  have hn := sname_ok h1
  have hv : ValOK v := by
    unfold value at h5
    rw [bnd_ok] at h5
    obtain ⟨a, m1, e1, e2⟩ := h5
    obtain ⟨u, hu, au, hl⟩ := word_ok e1
    refine valueTo_ok 62 a m1 k5 v ⟨[u], by simp, by simpa using au, by simpa [joinW] using hu, hl⟩ e2
  unfold opt at h
  split at h
  · rw [bnd_ok] at h
    obtain ⟨_, k6, _, h⟩ := h
    rw [bnd_ok] at h
    obtain ⟨_, k7, _, h⟩ := h
    injection h with h
    injection h with h _
    rw [← h]; exact ⟨hn, hv⟩
  · injection h with h
    injection h with h _
    rw [← h]; exact ⟨hn, hv⟩
theorem declsTo_ok {S : List UInt8} : ∀ (f : Nat) (l : List Dcl) (k m : Nat) (l' : List Dcl), l.length ≤ 20 → (∀ d ∈ l, DclOK d) → declsTo f l S k = .ok (l', m) → l'.length ≤ 20 ∧ ∀ d ∈ l', DclOK d
  | 0, _, _, _, _, _, _, h => by cases h
  | f + 1, l, k, m, l', h20, hl, h => by
    have here : ∀ {k m : Nat}, ret l S k = .ok (l', m) → l'.length ≤ 20 ∧ ∀ d ∈ l', DclOK d := by
      intro k m h
      injection h with h; injection h with h _; rw [← h]; exact ⟨h20, hl⟩
    unfold declsTo ended at h
    split at h
    · exact here h
    unfold look at h
    split at h
    · exact here h
    rw [bnd_ok] at h
    obtain ⟨_, k1, h0, h⟩ := h
    rw [bnd_ok] at h
    obtain ⟨d, k2, hd, h⟩ := h
    have lt20 : l.length < 20 := by
      by_cases hq : 20 ≤ l.length
      · rw [if_pos hq] at h0
        unfold fits at h0
        split at h0
        · cases h0
        · rename_i hf
          injection h0 with h0
          injection h0 with _ h0
          subst h0
          exact absurd (decl_letter' hd) hf
      · omega
    have hl2 : (l ++ [d]).length ≤ 20 ∧ ∀ x ∈ l ++ [d], DclOK x := by
      refine ⟨by simp; omega, fun x hx => ?_⟩
      rcases List.mem_append.1 hx with hx | hx
      · exact hl x hx
      · rw [List.mem_singleton.1 hx]; exact decl_ok hd
    unfold opt at h
    split at h
    · rw [bnd_ok] at h
      obtain ⟨_, k3, _, h⟩ := h
      exact declsTo_ok f _ _ _ _ hl2.1 hl2.2 h
    · injection h with h; injection h with h _; rw [← h]; exact hl2
theorem declsParse_ok {S : List UInt8} {l : List Dcl} (h : declsParse S = .ok l) : l.length ≤ 20 ∧ ∀ d ∈ l, DclOK d := by
  unfold declsParse at h
  split at h
  · cases h
  unfold declsAll at h
  split at h
  · cases h
  rename_i l' m e
  injection h with h
  subst h
  unfold onlyDecls at e
  rw [bnd_ok] at e
  obtain ⟨l1, m1, h1, h2⟩ := e
  unfold ended at h2
  split at h2
  · injection h2 with h2; injection h2 with h2 _
    subst h2
    unfold decls at h1
    rw [bnd_ok] at h1
    obtain ⟨_, m2, _, h1⟩ := h1
    exact declsTo_ok 22 [] _ _ _ (by simp) (by simp) h1
  · cases h2
end Go.Proofs.YtblkldfokeeaeacGreatDoor.Sh
namespace Go.Proofs.YtblkldfokeeaeacGreatDoor.Sh
open Go
theorem word_byte {c : UInt8} (h : wordB c = true) : c ≠ 32 ∧ c ≠ 10 ∧ c ≠ 47 ∧ c ≠ 33 ∧ c ≠ 59 := by
  refine ⟨?_, ?_, ?_, ?_, ?_⟩ <;> (rintro rfl; exact absurd h (by decide))
theorem letter_byte {c : UInt8} (h : letterB c = true) : c ≠ 32 ∧ c ≠ 10 ∧ c ≠ 47 ∧ c ≠ 125 := by
  refine ⟨?_, ?_, ?_, ?_⟩ <;> (rintro rfl; exact absurd h (by decide))
theorem gaps_none {S : List UInt8} {k : Nat} {c : UInt8} {Z : List UInt8} (h : S.drop k = c :: Z) (h1 : c ≠ 32) (h2 : c ≠ 10) (h3 : c ≠ 47) : gaps S k = .ok (false, k) :=
  gaps_iff.2 ⟨gp_stop_at (at_byte h) h1 h2 h3, by simp⟩
theorem gaps_at_end {S : List UInt8} {k : Nat} (h : S.drop k = []) : gaps S k = .ok (false, k) := gaps_iff.2 ⟨gp_end (at_end h), by simp⟩
theorem gaps_one {S : List UInt8} {k : Nat} {c : UInt8} {Z : List UInt8} (hS : S.length ≤ 4000) (h : S.drop k = 32 :: c :: Z) (h1 : c ≠ 32) (h2 : c ≠ 10) (h3 : c ≠ 47) : gaps S k = .ok (true, k + 1) :=
  gaps_iff.2 ⟨by rw [gp_blank hS (.inl (one_tok.2 (at_byte h))), gp_stop_at (at_byte (at_one h)) h1 h2 h3], by simp⟩
def Behind (Z : List UInt8) : Prop := Z = [] ∨ (∃ Y, Z = 59 :: Y) ∨ ∃ Y, Z = 32 :: 33 :: Y
def skip (Z : List UInt8) : Nat := match Z with | 32 :: _ => 1 | _ => 0
theorem behind_stops {Z : List UInt8} (h : Behind Z) : Stops wordB Z := by
  rcases h with rfl | ⟨Y, rfl⟩ | ⟨Y, rfl⟩
  · exact .inl rfl
  · exact .inr ⟨_, _, rfl, by decide⟩
  · exact .inr ⟨_, _, rfl, by decide⟩
theorem behind_gaps {S : List UInt8} {k : Nat} {Z : List UInt8} (hS : S.length ≤ 4000) (h : S.drop k = Z) (hz : Behind Z) : ∃ g, gaps S k = .ok (g, k + skip Z) ∧ S.drop (k + skip Z) = Z.drop (skip Z) ∧ fitsAt S (k + skip Z) wordB = false := by
  rcases hz with rfl | ⟨Y, rfl⟩ | ⟨Y, rfl⟩
  · exact ⟨false, gaps_at_end h, h, fitsAt_ge _ (at_end h)⟩
  · exact ⟨false, gaps_none h (by decide) (by decide) (by decide), h, by rw [show k + skip (59 :: Y) = k from rfl, at_fits h]; decide⟩
  · refine ⟨true, gaps_one hS h (by decide) (by decide) (by decide), at_one h, ?_⟩
    rw [show k + skip (32 :: 33 :: Y) = k + 1 from rfl, at_fits (at_one h)]; decide
theorem word_read {S : List UInt8} {k : Nat} {ahead u Z : List UInt8} {g : Bool} {m : Nat} (h : S.drop k = u ++ Z) (hu : AllW u) (hz : Stops wordB Z) (hl : ahead.length + u.length ≤ 60) (hg : gaps S (k + u.length) = .ok (g, m)) : word ahead S k = .ok (ahead ++ u, m) := by
  obtain ⟨w1, w2⟩ := at_while h hu.2 hz
  simp only [word, chars]
  rw [w2, if_neg hu.1, if_neg (by omega), w1]
  simp only [bnd, hg, ret]
theorem joinW_cons {u : List UInt8} {ws : List (List UInt8)} (h : ws ≠ []) : joinW (u :: ws) = u ++ 32 :: joinW ws := by
  cases ws with
  | nil => exact absurd rfl h
  | cons v ws => rfl
theorem joinW_head {ws : List (List UInt8)} (h : ws ≠ []) (ha : ∀ u ∈ ws, AllW u) : ∃ c t, joinW ws = c :: t ∧ wordB c = true := by
  match ws, h with
  | u :: ws, _ =>
    obtain ⟨hu, hw⟩ := ha u (by simp)
    obtain ⟨c, t, rfl⟩ : ∃ c t, u = c :: t := by
      cases u with
      | nil => exact absurd rfl hu
      | cons c t => exact ⟨c, t, rfl⟩
    refine ⟨c, ?_, ?_, hw c (by simp)⟩
    · exact t ++ (match ws with | [] => [] | v :: ws => 32 :: joinW (v :: ws))
    · cases ws with
      | nil => simp [joinW]
      | cons v ws => simp [joinW]
theorem words_read {S : List UInt8} (hS : S.length ≤ 4000) : ∀ (ws : List (List UInt8)) (ahead Z : List UInt8) (k f : Nat), ws ≠ [] → (∀ u ∈ ws, AllW u) → Behind Z → S.drop k = joinW ws ++ Z → ahead.length + (joinW ws).length ≤ 60 → ws.length ≤ f →
    bnd (word ahead) (valueTo f) S k = .ok (ahead ++ joinW ws, k + (joinW ws).length + skip Z)
  | [], _, _, _, _, h, _, _, _, _, _ => absurd rfl h
  | [u], ahead, Z, k, f, _, ha, hz, hd, hl, hf => by
    simp only [joinW] at hd hl ⊢
    obtain ⟨g, g1, g2, g3⟩ := behind_gaps hS (at_add hd) hz
    rw [bnd_ok]
    refine ⟨_, _, word_read hd (ha u (by simp)) (behind_stops hz) hl g1, ?_⟩
    obtain ⟨f', rfl⟩ : ∃ f', f = f' + 1 := ⟨f - 1, by simp at hf; omega⟩
    unfold valueTo fits
    rw [if_neg (by rw [g3]; decide)]
    rfl
  | u :: v :: ws, ahead, Z, k, f, _, ha, hz, hd, hl, hf => by
    have e := joinW_cons (u := u) (ws := v :: ws) (by simp)
    rw [e] at hd hl ⊢
    obtain ⟨c, t, hc, wc⟩ := joinW_head (ws := v :: ws) (by simp) (fun x hx => ha x (List.mem_cons_of_mem _ hx))
    have wb := word_byte wc
    have hd1 : S.drop k = u ++ (32 :: (joinW (v :: ws) ++ Z)) := by rw [hd]; simp
    have hd2 := at_add hd1
    have hd3 : S.drop (k + u.length) = 32 :: c :: (t ++ Z) := by rw [hd2, hc]; simp
    have hd4 := at_one hd2
    have g1 := gaps_one hS hd3 wb.1 wb.2.1 wb.2.2.1
    obtain ⟨f', rfl⟩ : ∃ f', f = f' + 1 := ⟨f - 1, by simp at hf; omega⟩
    simp only [List.length_append, List.length_cons] at hl
    rw [bnd_ok]
    refine ⟨_, _, word_read hd1 (ha u (by simp)) (.inr ⟨_, _, rfl, by decide⟩) (by omega) g1, ?_⟩
    have ih := words_read hS (v :: ws) (ahead ++ u ++ [32]) Z (k + u.length + 1) f' (by simp) (fun x hx => ha x (List.mem_cons_of_mem _ hx)) hz hd4 (by simp; omega) (by simp at hf ⊢; omega)
    unfold valueTo fits
    rw [at_fits (by rw [hd4, hc]; rfl), if_pos wc, ih]
    simp only [List.append_assoc, List.cons_append, List.nil_append, List.length_append, List.length_cons]
    congr 2
    omega
theorem value_read {S : List UInt8} (hS : S.length ≤ 4000) {v Z : List UInt8} {k : Nat} (hv : ValOK v) (hz : Behind Z) (hd : S.drop k = v ++ Z) : value S k = .ok (v, k + v.length + skip Z) := by
  obtain ⟨ws, w0, w1, rfl, w3⟩ := hv
  have := joinW_len ws w1
  have := words_read hS ws [] Z k 62 w0 w1 hz hd (by simpa using w3) (by omega)
  simpa [value] using this
theorem sname_read {S : List UInt8} {n Z : List UInt8} {k : Nat} (hn : NameOK n) (hz : Stops nameB Z) (hd : S.drop k = n ++ Z) : sname S k = .ok (n, k + n.length) := by
  obtain ⟨c, t, rfl, hc, ht, h20⟩ := hn
  have hd1 : S.drop k = c :: (t ++ Z) := hd
  obtain ⟨w1, w2⟩ := at_while (at_one hd1) ht hz
  have hall : ∀ x ∈ c :: t, nameB x = true := by
    intro x hx
    rcases List.mem_cons.1 hx with rfl | hx
    · unfold nameB; rw [hc]; rfl
    · exact ht x hx
  obtain ⟨w3, w4⟩ := at_while (p := nameB) hd hall hz
  unfold sname nameTo
  rw [at_fits hd1, if_pos hc, w1]
  simp only
  have e : k + 1 + t.length = k + (c :: t).length := by simp; omega
  rw [e, ← w3, w4, if_neg (by omega), w3]
theorem decl_read {S : List UInt8} (hS : S.length ≤ 4000) {d : Dcl} {X : List UInt8} {k : Nat} (hd : DclOK d) (hx : X = [] ∨ ∃ Y, X = 59 :: Y) (h : S.drop k = printOne d ++ X) : decl S k = .ok (d, k + (printOne d).length) := by
  obtain ⟨n, v, st⟩ := d
  obtain ⟨hn, hv⟩ := hd
  simp only at hn hv
  obtain ⟨c, t, hc, wc⟩ : ∃ c t, v = c :: t ∧ wordB c = true := by
    obtain ⟨ws, w0, w1, rfl, _⟩ := hv
    exact joinW_head w0 w1
  have wb := word_byte wc
  -- behind the value
  obtain ⟨Z, hz, hZ⟩ : ∃ Z, printOne ⟨n, v, st⟩ ++ X = n ++ (58 :: 32 :: (v ++ Z)) ∧ Z = (if st then [32, 33] ++ importantL else []) ++ X := ⟨_, by simp [printOne], rfl⟩
  rw [hz] at h
  have bz : Behind Z := by
    rw [hZ]
    cases st with
    | true => exact .inr (.inr ⟨_, rfl⟩)
    | false =>
      rcases hx with rfl | ⟨Y, rfl⟩
      · exact .inl rfl
      · exact .inr (.inl ⟨_, rfl⟩)
  have s1 := sname_read hn (.inr ⟨_, _, rfl, by decide⟩) h
  have h1 := at_add h
  have s2 := gaps_none h1 (by decide) (by decide) (by decide)
  have s3 : tok [58] S (k + n.length) = .ok ((), k + n.length + 1) := tok_iff.2 ⟨at_byte h1, rfl⟩
  have h2 := at_one h1
  have h2' : S.drop (k + n.length + 1) = 32 :: c :: (t ++ Z) := by rw [h2, hc]; rfl
  have s4 := gaps_one hS h2' wb.1 wb.2.1 wb.2.2.1
  have h3 := at_one h2
  have s5 := value_read hS hv bz h3
  have h4 := at_add h3
  unfold decl
  simp only [bnd, s1, s2, s3, s4, s5]
  cases st with
  | false =>
    have e0 : skip Z = 0 := by
      rw [hZ]
      rcases hx with rfl | ⟨Y, rfl⟩ <;> rfl
    have hno : has S (k + n.length + 1 + 1 + v.length) [33] = false := by
      rcases hx with rfl | ⟨Y, rfl⟩
      · exact has_nil_false (at_end (by rw [h4, hZ]; rfl)) (by simp)
      · exact no_tok (c := 59) (at_byte (Z := Y) (by rw [h4, hZ]; rfl)) (by decide)
    rw [e0, Nat.add_zero]
    unfold opt
    rw [if_neg (by rw [hno]; decide)]
    simp [ret, printOne]
    omega
  | true =>
    have hZ' : Z = 32 :: 33 :: (importantL ++ X) := by rw [hZ]; simp
    have e0 : skip Z = 1 := by rw [hZ']; rfl
    rw [hZ'] at h4
    have h5 := at_one h4
    have h6 := at_one h5
    have h7 := at_add h6
    have t1 : has S (k + n.length + 1 + 1 + v.length + 1) [33] = true := one_tok.2 (at_byte h5)
    have t2 : tok importantL S (k + n.length + 1 + 1 + v.length + 1 + 1) = .ok ((), k + n.length + 1 + 1 + v.length + 1 + 1 + importantL.length) := by
      unfold tok opt
      rw [if_pos (at_tok h6)]
      rfl
    have t3 : gaps S (k + n.length + 1 + 1 + v.length + 1 + 1 + importantL.length) = .ok (false, k + n.length + 1 + 1 + v.length + 1 + 1 + importantL.length) := by
      rcases hx with rfl | ⟨Y, rfl⟩
      · exact gaps_at_end h7
      · exact gaps_none h7 (by decide) (by decide) (by decide)
    rw [e0]
    unfold opt
    rw [if_pos t1]
    simp only [bnd, t2, t3, ret, List.length_cons, List.length_nil, Nat.zero_add]
    simp [printOne, importantL]
    omega
theorem printL_cons {d : Dcl} {l : List Dcl} (h : l ≠ []) : printL (d :: l) = printOne d ++ 59 :: 32 :: printL l := by
  cases l with
  | nil => exact absurd rfl h
  | cons e l => simp [printL]
theorem printOne_head {d : Dcl} (h : DclOK d) : ∃ c t, printOne d = c :: t ∧ letterB c = true := by
  obtain ⟨⟨c, t, hn, hc, _⟩, _⟩ := h
  exact ⟨c, t ++ [58, 32] ++ d.val ++ (if d.strong then [32, 33] ++ importantL else []), by unfold printOne; rw [hn]; simp, hc⟩
theorem printL_head {l : List Dcl} (h : l ≠ []) (hd : ∀ d ∈ l, DclOK d) : ∃ c t, printL l = c :: t ∧ letterB c = true := by
  match l, h with
  | d :: l, _ =>
    obtain ⟨c, t, e, hc⟩ := printOne_head (hd d (by simp))
    cases l with
    | nil => exact ⟨c, t, by simpa [printL] using e, hc⟩
    | cons x l => exact ⟨c, t ++ [59, 32] ++ printL (x :: l), by simp [printL, e], hc⟩
theorem declsTo_read {S : List UInt8} (hS : S.length ≤ 4000) : ∀ (l : List Dcl) (acc : List Dcl) (k f : Nat), (∀ d ∈ l, DclOK d) → acc.length + l.length ≤ 20 → l.length < f → S.drop k = printL l → declsTo f acc S k = .ok (acc ++ l, k + (printL l).length)
  | [], acc, k, f, _, _, hf, hd => by
    obtain ⟨f', rfl⟩ : ∃ f', f = f' + 1 := ⟨f - 1, by omega⟩
    unfold declsTo ended
    rw [if_pos (at_end hd)]
    simp [ret, printL]
  | d :: l, acc, k, f, hok, h20, hf, hd => by
    obtain ⟨f', rfl⟩ : ∃ f', f = f' + 1 := ⟨f - 1, by omega⟩
    have hdk := hok d (by simp)
    simp only [List.length_cons] at h20 hf
    obtain ⟨c, t, hc, lc⟩ := printL_head (l := d :: l) (by simp) hok
    have lb := letter_byte lc
    have hb : S.drop k = c :: t := by rw [hd, hc]
    unfold declsTo ended look
    have a1 := at_lt hb
    rw [if_neg (by omega), if_neg (by rw [no_tok (at_byte hb) lb.2.2.2]; decide), if_neg (by omega)]
    have r1 : ∀ (g : Unit → Pr (List Dcl)), bnd (ret ()) g S k = g () S k := fun _ => rfl
    rw [r1]
    cases l with
    | nil =>
      have hd' : S.drop k = printOne d ++ [] := by rw [hd]; simp [printL]
      have e := decl_read hS hdk (.inl rfl) hd'
      have hno : has S (k + (printOne d).length) [59] = false := has_nil_false (at_end (at_add hd')) (by simp)
      simp only [bnd, e, opt]
      rw [if_neg (by rw [hno]; decide)]
      simp [ret, printL]
    | cons x l =>
      have e0 := printL_cons (d := d) (l := x :: l) (by simp)
      rw [e0] at hd
      have e := decl_read hS hdk (.inr ⟨_, rfl⟩) hd
      have h1 := at_add hd
      have h2 := at_one h1
      obtain ⟨c', t', hc', lc'⟩ := printL_head (l := x :: l) (by simp) (fun y hy => hok y (List.mem_cons_of_mem _ hy))
      have lb' := letter_byte lc'
      have g1 := gaps_one hS (by rw [h2, hc']) lb'.1 lb'.2.1 lb'.2.2.1
      have h3 := at_one h2
      have ih := declsTo_read hS (x :: l) (acc ++ [d]) (k + (printOne d).length + 1 + 1) f' (fun y hy => hok y (List.mem_cons_of_mem _ hy)) (by simp at h20 ⊢; omega) (by omega) h3
      simp only [bnd, e, opt]
      rw [if_pos (one_tok.2 (at_byte h1))]
      simp only [List.length_cons, List.length_nil, Nat.zero_add, g1, ih]
      rw [e0]
      simp only [List.append_assoc, List.cons_append, List.nil_append, List.length_append, List.length_cons]
      congr 2
      omega
theorem decls_turn {s : List UInt8} {l : List Dcl} (h : declsParse s = .ok l) : declsParse (printL l) = .ok l ∧ (printL l).length ≤ 4000 ∧ l.length ≤ 20 ∧ ∀ d ∈ l, d.name.length ≤ 20 ∧ d.val.length ≤ 60 := by
  obtain ⟨h20, hok⟩ := declsParse_ok h
  have hb : ∀ d ∈ l, d.name.length ≤ 20 ∧ d.val.length ≤ 60 := fun d hd => by
    obtain ⟨⟨c, t, e, _, _, h1⟩, ⟨ws, _, _, _, h2⟩⟩ := hok d hd
    exact ⟨h1, h2⟩
  have hlen : ∀ (l : List Dcl), (∀ d ∈ l, d.name.length ≤ 20 ∧ d.val.length ≤ 60) → (printL l).length ≤ l.length * 95 := by
    intro l
    induction l with
    | nil => intro _; simp [printL]
    | cons d l ih =>
      intro hl
      have h1 := ih (fun x hx => hl x (List.mem_cons_of_mem _ hx))
      have h2 := hl d (by simp)
      have h3 : (printOne d).length ≤ 93 := by
        unfold printOne
        split <;> simp [importantL] <;> omega
      rw [List.length_cons, Nat.add_mul]
      cases l with
      | nil => simp [printL]; omega
      | cons x l => rw [printL_cons (by simp)]; simp only [List.length_append, List.length_cons] at h1 ⊢; omega
  have hl4 : (printL l).length ≤ 4000 := by
    have := hlen l hb
    have : l.length * 95 ≤ 20 * 95 := Nat.mul_le_mul_right _ h20
    omega
  refine ⟨?_, hl4, h20, hb⟩
  unfold declsParse
  rw [if_neg (by omega)]
  have g0 : ∃ g, gaps (printL l) 0 = .ok (g, 0) := by
    cases l with
    | nil => exact ⟨false, gaps_at_end (by simp [printL])⟩
    | cons d l =>
      obtain ⟨c, t, hc, lc⟩ := printL_head (l := d :: l) (by simp) hok
      have lb := letter_byte lc
      exact ⟨false, gaps_none (c := c) (Z := t) (by rw [List.drop_zero, hc]) lb.1 lb.2.1 lb.2.2.1⟩
  obtain ⟨g, g0⟩ := g0
  have e := declsTo_read hl4 l [] 0 22 hok (by simpa using h20) (by omega) (by simp)
  unfold declsAll onlyDecls decls
  simp only [bnd, g0, e, ended]
  rw [if_pos (by omega)]
  simp [ret]
end Go.Proofs.YtblkldfokeeaeacGreatDoor.Sh
namespace Go.Proofs.YtblkldfokeeaeacGreatDoor
structure At where
  name : ByteArray
  val : ByteArray
  fr : Int
  to : Int
structure Nd where
  name : ByteArray
  parent : Int
  attrs : List At
  ne : Int
  fr : Int
  to : Int
structure Ts where
  kind : Int
  name : ByteArray
  val : ByteArray
structure Pt where
  join : Int
  tests : List Ts
def nd0 : Nd := ⟨⟨#[]⟩, 0, [], 0, 0, 0⟩
def pt0 : Pt := ⟨0, []⟩
def ndAt (l : List Nd) (k : Nat) : Nd := l.getD k nd0
def ptAt (s : List Pt) (k : Nat) : Pt := s.getD k pt0
def par (l : List Nd) (k : Nat) : Int := (ndAt l k).parent
def getA (name : ByteArray) : List At → Option ByteArray
  | [] => none
  | a :: l => if a.name.toList == name.toList then some a.val else getA name l
def aheadTo (l : List Nd) (p : Int) : Nat → Int
  | 0 => -1
  | k + 1 => if par l k = p then k else aheadTo l p k
def ahead (l : List Nd) (k : Nat) : Int := aheadTo l (par l k) k
def clsN : ByteArray := ⟨#[99, 108, 97, 115, 115]⟩
def idN : ByteArray := ⟨#[105, 100]⟩
def blank : ByteArray := ⟨#[32]⟩
def clsB (val name : ByteArray) : Bool := !name.toList.isEmpty && Lib.containsS (Lib.splitB blank 0 (Lib.countB val blank) val) name
def clsOf (l : List At) (name : ByteArray) : Bool := match getA clsN l with
  | none => false
  | some v => clsB v name
def attrB (l : List At) (name val : ByteArray) : Bool := match getA name l with
  | none => false
  | some v => v.toList == val.toList
def testB (l : List Nd) (k : Nat) (t : Ts) : Bool :=
  if t.kind = 1 then (ndAt l k).name.toList == t.name.toList
  else if t.kind = 2 then clsOf (ndAt l k).attrs t.name
  else if t.kind = 3 then attrB (ndAt l k).attrs idN t.name
  else if t.kind = 4 then (getA t.name (ndAt l k).attrs).isSome
  else if t.kind = 5 then attrB (ndAt l k).attrs t.name t.val
  else if t.kind = 6 then decide (ahead l k < 0)
  else false
def partB (l : List Nd) (k : Nat) (p : Pt) : Bool := p.tests.all (testB l k)
def aboves (l : List Nd) (k : Nat) : List Nat :=
  if _h : 0 ≤ par l k ∧ par l k < k then (par l k).toNat :: aboves l (par l k).toNat else []
termination_by k
decreasing_by omega
def single (l : List Nd) (k : Nat) (j : Int) : Int := if j = 2 then par l k else if j = 3 then ahead l k else -1
def ups (l : List Nd) (k : Nat) (j : Int) : List Nat :=
  if j = 1 then aboves l k else if 0 ≤ single l k j ∧ single l k j < l.length then [(single l k j).toNat] else []
def rest (l : List Nd) (s : List Pt) : Nat → Nat → Bool
  | 0, _ => true
  | i + 1, x => (ups l x (ptAt s (i + 1)).join).any fun y => partB l y (ptAt s i) && rest l s i y
def meansB (l : List Nd) (k : Nat) (s : List Pt) : Bool := partB l k (ptAt s (s.length - 1)) && rest l s (s.length - 1) k
def inB (l : List Nd) (k : Int) : Bool := decide (0 ≤ k) && decide (k < l.length)
def matchB (l : List Nd) (k : Int) (s : List Pt) : Bool := inB l k && decide (0 < s.length) && meansB l k.toNat s
theorem ndAt_eq {l : List Nd} {k : Nat} (h : k < l.length) : ndAt l k = l[k] := by simp [ndAt, List.getD, h]
theorem ptAt_eq {s : List Pt} {k : Nat} (h : k < s.length) : ptAt s k = s[k] := by simp [ptAt, List.getD, h]
theorem aheadTo_bd (l : List Nd) (p : Int) : ∀ k, -1 ≤ aheadTo l p k ∧ aheadTo l p k < k
  | 0 => by simp [aheadTo]
  | k + 1 => by
    have := aheadTo_bd l p k
    unfold aheadTo
    split <;> omega
theorem ahead_bd (l : List Nd) (k : Nat) : -1 ≤ ahead l k ∧ ahead l k < k := aheadTo_bd l _ k
theorem aboves_pos {l : List Nd} {k : Nat} (h0 : 0 ≤ par l k) (h1 : par l k < k) : aboves l k = (par l k).toNat :: aboves l (par l k).toNat := by
  rw [aboves, dif_pos ⟨h0, h1⟩]
theorem aboves_neg {l : List Nd} {k : Nat} (h : ¬ (0 ≤ par l k ∧ par l k < k)) : aboves l k = [] := by
  rw [aboves, dif_neg h]
theorem aboves_lt {l : List Nd} : ∀ {k x : Nat}, x ∈ aboves l k → x < k := by
  intro k
  induction k using Nat.strongRecOn with
  | _ k ih =>
    intro x hx
    rw [aboves] at hx
    split at hx
    · rename_i h
      rcases List.mem_cons.1 hx with rfl | hx
      · omega
      · have := ih (par l k).toNat (by omega) hx
        omega
    · cases hx
theorem ups_lt {l : List Nd} {k x : Nat} {j : Int} (hk : k < l.length) (h : x ∈ ups l k j) : x < l.length := by
  unfold ups at h
  split at h
  · have := aboves_lt h; omega
  · split at h
    · simp at h; omega
    · cases h
def k0 (k : Int) : Bool := k == 3
def k1 (k : Int) : Bool := k == 2 || k == 4 || k == 5 || k == 6
def k2 (k : Int) : Bool := k == 1
def cntT (f : Int → Bool) (l : List Ts) : Nat := l.countP fun t => f t.kind
def cnt (f : Int → Bool) (s : List Pt) : Nat := cntT f (s.flatMap (·.tests))
theorem cntT_snoc (f : Int → Bool) (l : List Ts) (t : Ts) : cntT f (l ++ [t]) = cntT f l + if f t.kind then 1 else 0 := by
  unfold cntT; rw [List.countP_append]; simp [List.countP_cons]
theorem cnt_snoc (f : Int → Bool) (s : List Pt) (p : Pt) : cnt f (s ++ [p]) = cnt f s + cntT f p.tests := by
  simp [cnt, cntT, List.flatMap_append, List.countP_append]
structure Wt where
  a : Int
  b : Int
  c : Int
def wts (s : List Pt) : Wt := ⟨cnt k0 s, cnt k1 s, cnt k2 s⟩
def cmp3 (x y : Wt) : Int :=
  if x.a < y.a then -1 else if y.a < x.a then 1 else if x.b < y.b then -1 else if y.b < x.b then 1 else if x.c < y.c then -1 else if y.c < x.c then 1 else 0
def w00 : Wt := ⟨0, 0, 0⟩
def bestTo (l : List Nd) (k : Int) : List (List Pt) → Wt × Bool → Wt × Bool
  | [], acc => acc
  | s :: r, acc => bestTo l k r (if matchB l k s then (if 0 < cmp3 (wts s) acc.1 then wts s else acc.1, true) else acc)
end Go.Proofs.YtblkldfokeeaeacGreatDoor
namespace Go.Proofs.YtblkldfokeeaeacGreatDoor
structure Dc where
  name : ByteArray
  val : ByteArray
  strong : Bool
def edgeN : ByteArray := ⟨#[101, 100, 103, 101]⟩
def sd0 : ByteArray := ⟨#[101, 100, 103, 101, 45, 116, 111, 112]⟩
def sd1 : ByteArray := ⟨#[101, 100, 103, 101, 45, 114, 105, 103, 104, 116]⟩
def sd2 : ByteArray := ⟨#[101, 100, 103, 101, 45, 98, 111, 116, 116, 111, 109]⟩
def sd3 : ByteArray := ⟨#[101, 100, 103, 101, 45, 108, 101, 102, 116]⟩
def isE (d : Dc) : Bool := d.name.toList == edgeN.toList
def cutB (v : ByteArray) : List ByteArray := Lib.splitB blank 0 (min 5 (v.size + 1) - 1) v
def v0 (l : List ByteArray) : ByteArray := l.getD 0 ⟨#[]⟩
def v1 (l : List ByteArray) : ByteArray := l.getD 1 (v0 l)
def v2 (l : List ByteArray) : ByteArray := l.getD 2 (v0 l)
def v3 (l : List ByteArray) : ByteArray := l.getD 3 (v1 l)
def fourB (st : Bool) (l : List ByteArray) : List Dc := [⟨sd0, v0 l, st⟩, ⟨sd1, v1 l, st⟩, ⟨sd2, v2 l, st⟩, ⟨sd3, v3 l, st⟩]
def expB (d : Dc) : Option (List Dc) := if isE d then (if 4 < (cutB d.val).length then none else some (fourB d.strong (cutB d.val))) else some [d]
def allB : List Dc → Option (List Dc)
  | [] => some []
  | d :: l => (expB d).bind fun x => (allB l).map (x ++ ·)
theorem allB_snoc : ∀ (l : List Dc) (d : Dc), allB (l ++ [d]) = (allB l).bind fun a => (expB d).map (a ++ ·)
  | [], d => by
    show (expB d).bind (fun x => (allB []).map (x ++ ·)) = _
    simp only [allB, Option.map_some, Option.bind_some]
    cases expB d <;> simp
  | c :: l, d => by
    show (expB c).bind (fun x => (allB (l ++ [d])).map (x ++ ·)) = ((expB c).bind fun x => (allB l).map (x ++ ·)).bind _
    rw [allB_snoc l d]
    cases expB c <;> cases allB l <;> cases expB d <;> simp
theorem allB_stop : ∀ (a b : List Dc) (d : Dc) , allB a ≠ none → expB d = none → allB (a ++ d :: b) = none
  | [], b, d, _, h => by show (expB d).bind _ = none; rw [h]; rfl
  | c :: a, b, d, h0, h => by
    show (expB c).bind (fun x => (allB (a ++ d :: b)).map (x ++ ·)) = none
    rw [allB_stop a b d (fun e => h0 (by show (expB c).bind (fun x => (allB a).map (x ++ ·)) = none; rw [e]; cases expB c <;> rfl)) h]
    cases expB c <;> rfl
theorem allB_next {l a : List Dc} {k : Nat} (hk : k < l.length) (h : allB (l.take k) = some a) : allB (l.take (k + 1)) = (expB l[k]).map (a ++ ·) := by
  rw [List.take_succ_eq_append_getElem hk, allB_snoc, h]; rfl
theorem allB_none {l a : List Dc} {k : Nat} (hk : k < l.length) (h : allB (l.take k) = some a) (hx : expB l[k] = none) : allB l = none := by
  have e : l = l.take k ++ l[k] :: l.drop (k + 1) := by rw [← List.drop_eq_getElem_cons hk, List.take_append_drop]
  rw [e]
  exact allB_stop _ _ _ (by rw [h]; simp) hx
theorem expB_len {d : Dc} {x : List Dc} (h : expB d = some x) : x.length ≤ 4 := by
  unfold expB at h
  split at h
  · split at h
    · cases h
    · injection h with h; rw [← h]; simp [fourB]
  · injection h with h; rw [← h]; simp
theorem allB_len : ∀ {l a : List Dc}, allB l = some a → a.length ≤ 4 * l.length
  | [], a, h => by injection h with h; rw [← h]; simp
  | d :: l, a, h => by
    change (expB d).bind (fun x => (allB l).map (x ++ ·)) = some a at h
    cases hx : expB d with
    | none => rw [hx] at h; cases h
    | some x =>
      cases hy : allB l with
      | none => rw [hx, hy] at h; cases h
      | some y =>
        rw [hx, hy] at h
        injection h with h
        have h1 := expB_len hx
        have h2 := allB_len hy
        rw [← h, List.length_append, List.length_cons]
        omega
theorem expB_plain {d : Dc} {x : List Dc} (h : expB d = some x) : ∀ y ∈ x, isE y = false ∧ y.strong = d.strong := by
  unfold expB at h
  split at h
  · split at h
    · cases h
    · injection h with h
      rw [← h]
      intro y hy
      simp [fourB] at hy
      rcases hy with rfl | rfl | rfl | rfl
      · exact ⟨show (sd0.toList == edgeN.toList) = false by decide +kernel, rfl⟩
      · exact ⟨show (sd1.toList == edgeN.toList) = false by decide +kernel, rfl⟩
      · exact ⟨show (sd2.toList == edgeN.toList) = false by decide +kernel, rfl⟩
      · exact ⟨show (sd3.toList == edgeN.toList) = false by decide +kernel, rfl⟩
  · rename_i hq
    injection h with h
    rw [← h]
    intro y hy
    simp at hy
    rw [hy]
    exact ⟨by simpa using hq, rfl⟩
theorem allB_plain : ∀ {l a : List Dc}, allB l = some a → ∀ y ∈ a, isE y = false
  | [], a, h => by injection h with h; rw [← h]; simp
  | d :: l, a, h => by
    change (expB d).bind (fun x => (allB l).map (x ++ ·)) = some a at h
    cases hx : expB d with
    | none => rw [hx] at h; cases h
    | some x =>
      cases hy : allB l with
      | none => rw [hx, hy] at h; cases h
      | some y =>
        rw [hx, hy] at h
        injection h with h
        rw [← h]
        intro z hz
        rcases List.mem_append.1 hz with hz | hz
        · exact (expB_plain hx z hz).1
        · exact allB_plain hy z hz
theorem plain_allB : ∀ {a : List Dc}, (∀ y ∈ a, isE y = false) → allB a = some a
  | [], _ => rfl
  | d :: l, h => by
    have hd := h d (List.mem_cons_self ..)
    show (expB d).bind (fun x => (allB l).map (x ++ ·)) = _
    rw [plain_allB (fun y hy => h y (List.mem_cons_of_mem _ hy))]
    unfold expB
    rw [hd]
    rfl
theorem allB_twice {l a : List Dc} (h : allB l = some a) : allB a = some a := plain_allB (allB_plain h)
theorem allB_each {l a : List Dc} (h : allB l = some a) {k : Nat} (hk : k < l.length) : ∃ x, expB l[k] = some x := by
  cases hx : expB l[k] with
  | some x => exact ⟨x, rfl⟩
  | none =>
    exfalso
    have e : l = l.take k ++ l[k] :: l.drop (k + 1) := by rw [← List.drop_eq_getElem_cons hk, List.take_append_drop]
    cases ht : allB (l.take k) with
    | some b => rw [allB_none hk ht hx] at h; cases h
    | none =>
      have : ∀ (a b : List Dc), allB a = none → allB (a ++ b) = none := fun a b => by
        induction a with
        | nil => intro h; cases h
        | cons c a ih =>
          intro h
          change (expB c).bind (fun x => (allB a).map (x ++ ·)) = none at h
          show (expB c).bind (fun x => (allB (a ++ b)).map (x ++ ·)) = none
          cases hc : expB c with
          | none => rfl
          | some x =>
            rw [hc] at h
            cases ha : allB a with
            | none => rw [ih ha]; rfl
            | some y => rw [ha] at h; cases h
      rw [e, this _ _ ht] at h
      cases h
def glue (pre : List UInt8) : List (List UInt8) → List (List UInt8)
  | [] => [pre]
  | p :: ps => (pre ++ p) :: ps
def words : List UInt8 → List (List UInt8)
  | [] => [[]]
  | b :: l => if b = 32 then [] :: words l else glue [b] (words l)
theorem words_ne : ∀ l : List UInt8, words l ≠ []
  | [] => by simp [words]
  | b :: l => by
    unfold words
    split
    · simp
    · cases words l <;> simp [glue]
theorem glue_nil {l : List (List UInt8)} (h : l ≠ []) : glue [] l = l := by cases l with
  | nil => exact absurd rfl h
  | cons p ps => rfl
theorem glue_glue (a b : List UInt8) (l : List (List UInt8)) : glue a (glue b l) = glue (a ++ b) l := by cases l <;> simp [glue]
theorem glue_len {a : List UInt8} {l : List (List UInt8)} (h : l ≠ []) : (glue a l).length = l.length := by cases l with
  | nil => exact absurd rfl h
  | cons p ps => rfl
theorem words_app : ∀ (a b : List UInt8), words (a ++ 32 :: b) = words a ++ words b
  | [], b => by simp [words]
  | c :: a, b => by
    have ih := words_app a b
    rw [List.cons_append]
    by_cases hc : c = 32
    · simp [words, hc, ih]
    · simp only [words, if_neg hc, ih]
      cases h : words a with
      | nil => exact absurd h (words_ne a)
      | cons p ps => rfl
theorem words_one : ∀ {a : List UInt8}, (∀ b ∈ a, b ≠ 32) → words a = [a]
  | [], _ => rfl
  | b :: l, h => by
    have hb := h b (List.mem_cons_self ..)
    unfold words
    rw [if_neg hb, words_one (fun x hx => h x (List.mem_cons_of_mem _ hx))]
    rfl
theorem words_le : ∀ l : List UInt8, (words l).length ≤ l.length + 1
  | [] => by simp [words]
  | b :: l => by
    have ih := words_le l
    unfold words
    split
    · simp; omega
    · rw [glue_len (words_ne l)]; simp; omega
def cutW : Nat → List UInt8 → List (List UInt8)
  | 0, s => [s]
  | _ + 1, [] => [[]]
  | k + 1, b :: l => if b = 32 then [] :: cutW k l else glue [b] (cutW (k + 1) l)
theorem cutW_ne : ∀ (k : Nat) (l : List UInt8), cutW k l ≠ []
  | 0, l => by simp [cutW]
  | k + 1, [] => by simp [cutW]
  | k + 1, b :: l => by
    unfold cutW
    split
    · simp
    · cases cutW (k + 1) l <;> simp [glue]
theorem split_cut : ∀ (s : List UInt8) (k : Nat), Lib.splitK [32] 0 k s = cutW k s
  | s, 0 => by unfold cutW; rfl
  | [], k + 1 => rfl
  | b :: l, k + 1 => by
    have ih := split_cut l
    unfold cutW
    split
    · rename_i e
      subst e
      have e0 : Lib.index (32 :: l) [32] = 0 := by simp [Lib.index]
      rw [← ih]
      simp [Lib.splitK, e0]
    · rename_i hne
      rw [← ih]
      have e1 : Lib.index (b :: l) [32] = if Lib.index l [32] == -1 then -1 else Lib.index l [32] + 1 := by
        have : (32 == b) = false := by simp; exact fun h => hne h.symm
        simp [Lib.index, List.isPrefixOf, this]
      have hge := Lib.index_ge l [32]
      simp only [Lib.splitK, e1]
      cases hq : (Lib.index l [32] == -1)
      · have hq' : Lib.index l [32] ≠ -1 := by simpa using hq
        have e2 : (Lib.index l [32] + 1 == -1) = false := by simp; omega
        have e3 : (Lib.index l [32] + 1).toNat = (Lib.index l [32]).toNat + 1 := by omega
        simp [e2, e3, glue]
      · simp [glue]
theorem words_single : ∀ {s : List UInt8}, (words s).length ≤ 1 → words s = [s]
  | [], _ => rfl
  | b :: l, h => by
    unfold words at h ⊢
    split at h
    · have := words_ne l
      cases hw : words l with
      | nil => exact absurd hw this
      | cons p ps => rw [hw] at h; simp at h
    · rename_i hne
      rw [if_neg hne]
      rw [glue_len (words_ne l)] at h
      rw [words_single h]
      rfl
theorem cutW_words : ∀ (s : List UInt8) (k : Nat), (cutW k s).length = min (k + 1) (words s).length ∧ ((words s).length ≤ k + 1 → cutW k s = words s)
  | s, 0 => by
    have := List.length_pos_iff.2 (words_ne s)
    unfold cutW
    refine ⟨by simp; omega, fun h => (words_single (by omega)).symm⟩
  | [], k + 1 => by simp [cutW, words]
  | b :: l, k + 1 => by
    unfold cutW words
    split
    · obtain ⟨h1, h2⟩ := cutW_words l k
      refine ⟨by simp only [List.length_cons, h1]; omega, fun h => ?_⟩
      rw [h2 (by simp at h; omega)]
    · obtain ⟨h1, h2⟩ := cutW_words l (k + 1)
      rw [glue_len (words_ne l), glue_len (cutW_ne _ l)]
      exact ⟨h1, fun h => by rw [h2 h]⟩
theorem cut_data (v : ByteArray) : (cutB v).map (·.data.toList) = cutW (min 5 (v.size + 1) - 1) v.data.toList := by
  unfold cutB
  rw [Lib.splitB_data, ← split_cut]
  rfl
theorem cut_many (v : ByteArray) : 4 < (cutB v).length ↔ 4 < (words v.data.toList).length := by
  have h1 := congrArg List.length (cut_data v)
  rw [List.length_map, (cutW_words _ _).1] at h1
  have h2 := words_le v.data.toList
  rw [← Lib.size_eq] at h2
  omega
theorem cut_few (v : ByteArray) (h : ¬ 4 < (words v.data.toList).length) : (cutB v).map (·.data.toList) = words v.data.toList := by
  rw [cut_data]
  refine (cutW_words _ _).2 ?_
  have h2 := words_le v.data.toList
  rw [← Lib.size_eq] at h2
  omega
theorem cut_pos (v : ByteArray) : 0 < (cutB v).length := by
  have h1 := congrArg List.length (cut_data v)
  rw [List.length_map] at h1
  have := List.length_pos_iff.2 (cutW_ne (min 5 (v.size + 1) - 1) v.data.toList)
  omega
theorem cut_le (v : ByteArray) : (cutB v).length ≤ 5 := by
  have h1 := congrArg List.length (cut_data v)
  rw [List.length_map, (cutW_words _ _).1] at h1
  omega
theorem data_inj : ∀ {a b : List ByteArray}, a.map (·.data.toList) = b.map (·.data.toList) → a = b
  | [], [], _ => rfl
  | [], _ :: _, h => by cases h
  | _ :: _, [], h => by cases h
  | x :: a, y :: b, h => by
    injection h with h1 h2
    rw [ByteArray.ext (Array.toList_inj.1 h1), data_inj h2]
theorem cut_eq {v : ByteArray} {l : List ByteArray} (h : l.map (·.data.toList) = words v.data.toList) : (4 < l.length ↔ 4 < (cutB v).length) ∧ (¬ 4 < l.length → cutB v = l) := by
  have hl := congrArg List.length h
  rw [List.length_map] at hl
  refine ⟨by rw [cut_many, hl], fun h4 => data_inj ?_⟩
  rw [h, cut_few v (by omega)]
def cN : ByteArray := ⟨#[99, 111, 108, 111, 114]⟩
def fN : ByteArray := ⟨#[102, 111, 110, 116]⟩
def zN : ByteArray := ⟨#[115, 105, 122, 101]⟩
end Go.Proofs.YtblkldfokeeaeacGreatDoor
