/-
  Words in sheets and in own styles: what is read of them; pages by their trees. No program's function is named here.
-/
import Derived.Test.YtblkldfokeeaeacGreatDoorA32
namespace Go.Proofs.YtblkldfokeeaeacGreatDoor
open Go.RowKit Go.Maps

/-! ### words -/
def wch (c : UInt8) : Bool := Sh.letterB c || (decide (48 ≤ c.toNat) && decide (c.toNat ≤ 57))
structure Wd (a : Bs) : Prop where
  ne : a ≠ []
  ch : ∀ c ∈ a, wch c = true
  len : a.length ≤ 20
theorem wch_word {c : UInt8} (h : wch c = true) : Sh.wordB c = true := by
  unfold wch at h
  unfold Sh.wordB
  rw [h]; rfl
theorem wch_value {c : UInt8} (h : wch c = true) : Sh.valueB c = true ∧ c ≠ 60 ∧ c ≠ 32 := by
  unfold wch Sh.letterB at h
  have h2 : (97 ≤ c.toNat ∧ c.toNat ≤ 122) ∨ (48 ≤ c.toNat ∧ c.toNat ≤ 57) := by simpa using h
  refine ⟨?_, ?_, ?_⟩
  · unfold Sh.valueB Sh.plainB
    simp
    omega
  · rintro rfl; revert h2; decide
  · rintro rfl; revert h2; decide
variable {a : Bs}
theorem Wd.allW (h : Wd a) : Sh.AllW a := ⟨h.ne, fun c hc => wch_word (h.ch c hc)⟩
theorem Wd.head (h : Wd a) : ∃ c t, a = c :: t ∧ wch c = true := by
  cases a with
  | nil => exact absurd rfl h.ne
  | cons c t => exact ⟨c, t, rfl, h.ch c (List.mem_cons_self ..)⟩
theorem Wd.l60 (h : Wd a) : a.length ≤ 60 := Nat.le_trans h.len (by decide)

/-! ### a declaration -/
section
variable {S Z nm : Bs} {k : Nat}
theorem val_at {g : Bool} {m : Nat} (h : S.drop k = a ++ Z) (ha : Sh.AllW a) (hl : a.length ≤ 60) (hz : Sh.Stops Sh.wordB Z) (hg : Sh.gaps S (k + a.length) = .ok (g, m)) (hf : Sh.fitsAt S m Sh.wordB = false) : Sh.value S k = .ok (a, m) := by
  unfold Sh.value
  refine Sh.bnd_ok.2 ⟨a, m, ?_, ?_⟩
  · exact Sh.word_read (ahead := []) h ha hz (by simpa using hl) hg
  · show Sh.valueTo (61 + 1) a S m = _
    unfold Sh.valueTo Sh.fits
    rw [if_neg (by rw [hf]; decide)]
    rfl
theorem decl_at {g : Bool} {m m' : Nat} {d : Sh.Dcl} (h : S.drop k = nm ++ 58 :: (a ++ Z)) (hn : Sh.NameOK nm) (ha : Wd a) (hz : Sh.Stops Sh.wordB Z) (hg : Sh.gaps S (k + nm.length + 1 + a.length) = .ok (g, m)) (hf : Sh.fitsAt S m Sh.wordB = false)
    (ht : Sh.opt [33] (Sh.bnd (Sh.tok Sh.importantL) fun _ => Sh.bnd Sh.gaps fun _ => Sh.ret ⟨nm, a, true⟩) (Sh.ret ⟨nm, a, false⟩) S m = .ok (d, m')) : Sh.decl S k = .ok (d, m') := by
  have h1 := Sh.at_add h
  have h2 := Sh.at_one h1
  obtain ⟨c, t, e, hc⟩ := ha.head
  have hb := Sh.word_byte (wch_word hc)
  unfold Sh.decl
  refine Sh.bnd_ok.2 ⟨nm, _, Sh.sname_read hn (.inr ⟨58, _, rfl, by decide⟩) h, ?_⟩
  refine Sh.bnd_ok.2 ⟨_, _, Sh.gaps_none h1 (by decide) (by decide) (by decide), ?_⟩
  refine Sh.bnd_ok.2 ⟨(), _, Sh.tok_iff.2 ⟨Sh.at_byte h1, rfl⟩, ?_⟩
  refine Sh.bnd_ok.2 ⟨_, _, Sh.gaps_none (c := c) (Z := t ++ Z) (by rw [h2, e]; rfl) hb.1 hb.2.1 hb.2.2.1, ?_⟩
  exact Sh.bnd_ok.2 ⟨_, m, val_at h2 ha.allW ha.l60 hz hg hf, ht⟩
/-- Behind it a sign that is none of a word, of a gap, of strength. -/
theorem decl_end {c : UInt8} {Y : Bs} (h : S.drop k = nm ++ 58 :: (a ++ c :: Y)) (hn : Sh.NameOK nm) (ha : Wd a) (hc : Sh.wordB c = false) (h1 : c ≠ 32) (h2 : c ≠ 10) (h3 : c ≠ 47) (h4 : c ≠ 33) : Sh.decl S k = .ok (⟨nm, a, false⟩, k + nm.length + 1 + a.length) := by
  have e : S.drop (k + nm.length + 1 + a.length) = c :: Y := Sh.at_add (Sh.at_one (Sh.at_add h))
  refine decl_at h hn ha (.inr ⟨c, Y, rfl, hc⟩) (Sh.gaps_none e h1 h2 h3) (by rw [Sh.at_fits e]; exact hc) ?_
  unfold Sh.opt
  rw [if_neg (by rw [Sh.no_tok (Sh.at_byte e) h4]; decide)]
  rfl
theorem decl_nil (h : S.drop k = nm ++ 58 :: a) (hn : Sh.NameOK nm) (ha : Wd a) : Sh.decl S k = .ok (⟨nm, a, false⟩, k + nm.length + 1 + a.length) := by
  have h' : S.drop k = nm ++ 58 :: (a ++ []) := by rw [List.append_nil]; exact h
  have e : S.drop (k + nm.length + 1 + a.length) = [] := Sh.at_add (Sh.at_one (Sh.at_add h'))
  have hl := Sh.at_end e
  refine decl_at h' hn ha (.inl rfl) (Sh.gaps_at_end e) (by unfold Sh.fitsAt; rw [List.getElem?_eq_none hl]) ?_
  unfold Sh.opt
  rw [if_neg (by rw [Sh.has_nil_false hl (by simp)]; decide)]
  rfl
theorem tail_imp {Y : Bs} {m m' : Nat} {g : Bool} (h : S.drop m = 33 :: (Sh.importantL ++ Y)) (hg : Sh.gaps S (m + 10) = .ok (g, m')) :
    Sh.opt [33] (Sh.bnd (Sh.tok Sh.importantL) fun _ => Sh.bnd Sh.gaps fun _ => Sh.ret (⟨nm, a, true⟩ : Sh.Dcl)) (Sh.ret ⟨nm, a, false⟩) S m = .ok (⟨nm, a, true⟩, m') := by
  unfold Sh.opt
  rw [if_pos (Sh.at_tok (t := [33]) h)]
  refine Sh.bnd_ok.2 ⟨(), m + 10, ?_, Sh.bnd_ok.2 ⟨g, m', hg, rfl⟩⟩
  have hx := Sh.at_tok (t := Sh.importantL) (Sh.at_one h)
  show (if Sh.has S (m + 1) Sh.importantL then Sh.ret () S (m + 1 + Sh.importantL.length) else Sh.bad 2 S (m + 1)) = _
  rw [if_pos hx]
  rfl
theorem decl_imp {c : UInt8} {Y : Bs} (hS : S.length ≤ 4000) (h : S.drop k = nm ++ 58 :: (a ++ 32 :: 33 :: (Sh.importantL ++ c :: Y))) (hn : Sh.NameOK nm) (ha : Wd a) (h1 : c ≠ 32) (h2 : c ≠ 10) (h3 : c ≠ 47) : Sh.decl S k = .ok (⟨nm, a, true⟩, k + nm.length + 1 + a.length + 11) := by
  have e : S.drop (k + nm.length + 1 + a.length) = 32 :: 33 :: (Sh.importantL ++ c :: Y) := Sh.at_add (Sh.at_one (Sh.at_add h))
  have e1 := Sh.at_one e
  have e2 : S.drop (k + nm.length + 1 + a.length + 1 + 10) = c :: Y := Sh.at_add (u := Sh.importantL) (Sh.at_one e1)
  refine decl_at h hn ha (.inr ⟨32, _, rfl, by decide⟩) (Sh.gaps_one hS e (by decide) (by decide) (by decide)) (by rw [Sh.at_fits e1]; decide) ?_
  exact tail_imp e1 (Sh.gaps_none e2 h1 h2 h3)
theorem decl_imp0 (h : S.drop k = nm ++ 58 :: (a ++ 33 :: Sh.importantL)) (hn : Sh.NameOK nm) (ha : Wd a) : Sh.decl S k = .ok (⟨nm, a, true⟩, k + nm.length + 1 + a.length + 10) := by
  have e : S.drop (k + nm.length + 1 + a.length) = 33 :: (Sh.importantL ++ []) := by rw [List.append_nil]; exact Sh.at_add (Sh.at_one (Sh.at_add h))
  have e2 : S.drop (k + nm.length + 1 + a.length + 10) = [] := Sh.at_add (u := Sh.importantL) (Sh.at_one e)
  refine decl_at h hn ha (.inr ⟨33, _, rfl, by decide⟩) (Sh.gaps_none e (by decide) (by decide) (by decide)) (by rw [Sh.at_fits e]; decide) ?_
  exact tail_imp e (Sh.gaps_at_end e2)

/-! ### declarations -/
theorem declsTo_step {c : UInt8} {Y : Bs} {f m m2 : Nat} {acc : List Sh.Dcl} {d : Sh.Dcl} {g : Bool} {r : List Sh.Dcl × Nat} (h : S.drop k = c :: Y) (hc : Sh.letterB c = true) (ha : acc.length < 20) (hd : Sh.decl S k = .ok (d, m)) (hm : S[m]? = some 59) (hg : Sh.gaps S (m + 1) = .ok (g, m2)) (hn : Sh.declsTo f (acc ++ [d]) S m2 = .ok r) : Sh.declsTo (f + 1) acc S k = .ok r := by
  obtain ⟨l, m3⟩ := r
  unfold Sh.declsTo Sh.ended Sh.look
  rw [if_neg (Nat.not_le.2 (Sh.at_lt h)), if_neg (by rw [Sh.no_tok (Sh.at_byte h) (Sh.letter_byte hc).2.2.2]; decide), if_neg (by omega)]
  refine Sh.bnd_ok.2 ⟨(), k, rfl, Sh.bnd_ok.2 ⟨d, m, hd, ?_⟩⟩
  unfold Sh.opt
  rw [if_pos (Sh.one_tok.2 hm)]
  exact Sh.bnd_ok.2 ⟨g, m2, hg, hn⟩
theorem declsTo_last {c : UInt8} {Y : Bs} {f m : Nat} {acc : List Sh.Dcl} {d : Sh.Dcl} (h : S.drop k = c :: Y) (hc : Sh.letterB c = true) (ha : acc.length < 20) (hd : Sh.decl S k = .ok (d, m)) (hm : Sh.has S m [59] = false) : Sh.declsTo (f + 1) acc S k = .ok (acc ++ [d], m) := by
  unfold Sh.declsTo Sh.ended Sh.look
  rw [if_neg (Nat.not_le.2 (Sh.at_lt h)), if_neg (by rw [Sh.no_tok (Sh.at_byte h) (Sh.letter_byte hc).2.2.2]; decide), if_neg (by omega)]
  refine Sh.bnd_ok.2 ⟨(), k, rfl, Sh.bnd_ok.2 ⟨d, m, hd, ?_⟩⟩
  unfold Sh.opt
  rw [if_neg (by rw [hm]; decide)]
  rfl
theorem decls_of {c : UInt8} {Y : Bs} {m : Nat} {D : List Sh.Dcl} (h : S.drop k = c :: Y) (hc : Sh.letterB c = true) (hd : Sh.declsTo 22 [] S k = .ok (D, m)) : Sh.decls S k = .ok (D, m) := by
  have hb := Sh.letter_byte hc
  exact Sh.bnd_ok.2 ⟨false, k, Sh.gaps_none h hb.1 hb.2.1 hb.2.2.1, hd⟩
theorem declsParse_of {m : Nat} {D : List Sh.Dcl} (hS : S.length ≤ 4000) (hd : Sh.decls S 0 = .ok (D, m)) (hm : S.length ≤ m) : Sh.declsParse S = .ok D := by
  unfold Sh.declsParse Sh.declsAll Sh.onlyDecls
  rw [if_neg (by omega)]
  have : Sh.bnd Sh.decls (fun l => Sh.ended (Sh.ret l) (Sh.bad 2)) S 0 = .ok (D, m) := Sh.bnd_ok.2 ⟨D, m, hd, by unfold Sh.ended; rw [if_pos hm]; rfl⟩
  rw [this]
theorem has_end {m : Nat} (h : S.length ≤ m) : Sh.has S m [59] = false := Sh.has_nil_false h (by simp)
/-- An own style of one declaration. -/
theorem own_one {c : UInt8} {Y : Bs} {d : Sh.Dcl} (hS : S.length ≤ 4000) (h : S = c :: Y) (hc : Sh.letterB c = true) (hd : Sh.decl S 0 = .ok (d, S.length)) : Sh.declsParse S = .ok [d] :=
  declsParse_of hS (decls_of (k := 0) h hc (declsTo_last (k := 0) h hc (by decide) hd (has_end (Nat.le_refl _)))) (Nat.le_refl _)
end

/-! ### a rule alone -/
theorem rule_one {sel body : Bs} {ss : List (List Sh.Prt)} {d : Sh.Dcl} {c : UInt8} {Y : Bs} (hp : ∀ Z, Sh.hasPart (sel ++ 123 :: Z) 0 = true) (hs : ∀ Z, Sh.selectors (sel ++ 123 :: Z) 0 = .ok (ss, sel.length)) (hb : body = c :: Y) (hc : Sh.letterB c = true)
    (hd : Sh.decl (sel ++ 123 :: (body ++ [125])) (sel.length + 1) = .ok (d, sel.length + 1 + body.length)) : Sh.rule 0 (sel ++ 123 :: (body ++ [125])) 0 = .ok ((ss, [d]), (sel ++ 123 :: (body ++ [125])).length) := by
  have h1 : (sel ++ 123 :: (body ++ [125])).drop sel.length = 123 :: (body ++ [125]) := by simp
  have h2 : (sel ++ 123 :: (body ++ [125])).drop (sel.length + 1) = body ++ [125] := Sh.at_one h1
  have h3 : (sel ++ 123 :: (body ++ [125])).drop (sel.length + 1 + body.length) = [125] := Sh.at_add h2
  have hl : (sel ++ 123 :: (body ++ [125])).length = sel.length + 1 + body.length + 1 := by simp; omega
  have h4 : (sel ++ 123 :: (body ++ [125])).drop (sel.length + 1) = c :: (Y ++ [125]) := by rw [h2, hb]; rfl
  rw [hl]
  unfold Sh.rule
  refine Sh.bnd_ok.2 ⟨(), 0, Sh.ahead_iff.2 ⟨hp _, by decide, rfl⟩, ?_⟩
  refine Sh.bnd_ok.2 ⟨ss, sel.length, hs _, ?_⟩
  refine Sh.bnd_ok.2 ⟨(), sel.length + 1, Sh.tok_iff.2 ⟨Sh.at_byte h1, rfl⟩, ?_⟩
  refine Sh.bnd_ok.2 ⟨[d], sel.length + 1 + body.length, decls_of h4 hc (declsTo_last h4 hc (by decide) hd (Sh.no_tok (Sh.at_byte h3) (by decide))), ?_⟩
  exact Sh.bnd_ok.2 ⟨(), _, Sh.tok_iff.2 ⟨Sh.at_byte h3, rfl⟩, rfl⟩

/-! ### rules, one behind the other -/
abbrev RuT := Bs × (List (List Sh.Prt) × List Sh.Dcl)
def RuOk (x : RuT) : Prop := Sh.rule 0 x.1 0 = .ok (x.2, x.1.length)
def ruTx (l : List RuT) : Bs := l.flatMap (·.1)
def ruAt (md : Bs) : Nat → List RuT → List Sh.Rl
  | _, [] => []
  | k, x :: l => ⟨md, x.2.1, x.2.2, k, k + x.1.length⟩ :: ruAt md (k + x.1.length) l
theorem RuOk.move {x : RuT} (h : RuOk x) {S Z : Bs} {k n : Nat} (hs : S.drop k = x.1 ++ Z) (hn : n < 60) : Sh.rule n S k = .ok (x.2, k + x.1.length) ∧ ∃ c, S[k]? = some c ∧ c ≠ 32 ∧ c ≠ 10 ∧ c ≠ 47 ∧ c ≠ 64 ∧ c ≠ 125 := by
  have h' : Sh.rule 0 x.1 0 = .ok (x.2, x.1.length) := h
  obtain ⟨d, hd, _, _⟩ := Sh.rule_iff.1 h'
  rw [hd] at h'
  have hg : ∀ i, i ≤ d → S[k + i]? = x.1[0 + i]? := fun i hi => by
    have : (S.drop k)[i]? = (x.1 ++ Z)[i]? := by rw [hs]
    rw [List.getElem?_drop] at this
    rw [this, Nat.zero_add, List.getElem?_append_left (by omega)]
  have hr := Sh.rule_move h' hg hn
  rw [hd]
  rw [show k + (0 + d + 1) = k + d + 1 by omega]
  exact ⟨hr, Sh.rule_byte hr⟩
theorem ps_rules {S : Bs} : ∀ (l : List RuT) (k : Nat) (L A : List Sh.Rl) (Z : Bs), (∀ x ∈ l, RuOk x) → S.drop k = ruTx l ++ Z → L.length + l.length ≤ 60 → Sh.Ps S (k + (ruTx l).length) none (L ++ ruAt [] k l) A → Sh.Ps S k none L A
  | [], k, L, A, Z, _, _, _, hp => by simpa [ruTx, ruAt] using hp
  | x :: l, k, L, A, Z, hr, hs, h60, hp => by
    have hs' : S.drop k = x.1 ++ (ruTx l ++ Z) := by rw [hs]; simp [ruTx]
    obtain ⟨h1, c, hc, c1, c2, c3, c4, c5⟩ := (hr x (List.mem_cons_self ..)).move (n := L.length) hs' (by simp at h60; omega)
    refine .rule0 (Sh.gp_stop_at hc c1 c2 c3) (List.getElem?_eq_some_iff.1 hc).1 (Sh.no_tok hc c4) h1 ?_
    refine ps_rules l _ _ A Z (fun y hy => hr y (List.mem_cons_of_mem _ hy)) (Sh.at_add hs') (by simp at h60 ⊢; omega) ?_
    have e : k + (ruTx (x :: l)).length = k + x.1.length + (ruTx l).length := by simp [ruTx]; omega
    rw [e] at hp
    simpa [ruAt] using hp
theorem sheet_rules {l : List RuT} (hr : ∀ x ∈ l, RuOk x) (hl : (ruTx l).length ≤ 4000) (h60 : l.length ≤ 60) : Sh.sheetParse (ruTx l) = .ok (ruAt [] 0 l) := by
  rw [Sh.Ps.iff hl]
  refine ps_rules l 0 [] _ [] hr (by simp) (by simpa using h60) ?_
  rw [Nat.zero_add, List.nil_append]
  exact .fin (k1 := (ruTx l).length) (Sh.gp_end (Nat.le_refl _)) (Nat.le_refl _)
end Go.Proofs.YtblkldfokeeaeacGreatDoor
