/-
  What is printed is read: the plain answer of the SheetSpec text at a printed text. No program is named here; no condition.
-/
import Derived.Test.YtanedepdhbdcgaaSheetTurn
namespace Go.Proofs.Ytanedepdhbdcgaa
open Go

theorem word_byte {c : UInt8} (h : wordB c = true) : c ≠ 32 ∧ c ≠ 10 ∧ c ≠ 47 ∧ c ≠ 33 ∧ c ≠ 59 := by
  refine ⟨?_, ?_, ?_, ?_, ?_⟩ <;> (rintro rfl; exact absurd h (by decide))
theorem letter_byte {c : UInt8} (h : letterB c = true) : c ≠ 32 ∧ c ≠ 10 ∧ c ≠ 47 ∧ c ≠ 125 := by
  refine ⟨?_, ?_, ?_, ?_⟩ <;> (rintro rfl; exact absurd h (by decide))

theorem gaps_none {S : List UInt8} {k : Nat} {c : UInt8} {Z : List UInt8} (h : S.drop k = c :: Z) (h1 : c ≠ 32) (h2 : c ≠ 10) (h3 : c ≠ 47) : gaps S k = .ok (false, k) :=
  gaps_iff.2 ⟨gp_stop_at (at_byte h) h1 h2 h3, by simp⟩
theorem gaps_at_end {S : List UInt8} {k : Nat} (h : S.drop k = []) : gaps S k = .ok (false, k) := gaps_iff.2 ⟨gp_end (at_end h), by simp⟩
theorem gaps_one {S : List UInt8} {k : Nat} {c : UInt8} {Z : List UInt8} (hS : S.length ≤ 4000) (h : S.drop k = 32 :: c :: Z) (h1 : c ≠ 32) (h2 : c ≠ 10) (h3 : c ≠ 47) : gaps S k = .ok (true, k + 1) :=
  gaps_iff.2 ⟨by rw [gp_blank hS (.inl (one_tok.2 (at_byte h))), gp_stop_at (at_byte (at_one h)) h1 h2 h3], by simp⟩

/-- What may stand behind a value: nothing, a semicolon, or a blank and an exclamation mark. -/
def Behind (Z : List UInt8) : Prop := Z = [] ∨ (∃ Y, Z = 59 :: Y) ∨ ∃ Y, Z = 32 :: 33 :: Y
def skip (Z : List UInt8) : Nat := match Z with | 32 :: _ => 1 | _ => 0

theorem behind_stops {Z : List UInt8} (h : Behind Z) : Stops wordB Z := by
  rcases h with rfl | ⟨Y, rfl⟩ | ⟨Y, rfl⟩
  · exact .inl rfl
  · exact .inr ⟨_, _, rfl, by decide⟩
  · exact .inr ⟨_, _, rfl, by decide⟩
theorem behind_gaps {S : List UInt8} {k : Nat} {Z : List UInt8} (hS : S.length ≤ 4000) (h : S.drop k = Z) (hz : Behind Z) : ∃ g, gaps S k = .ok (g, k + skip Z) ∧ S.drop (k + skip Z) = Z.drop (skip Z) ∧ fitsAt S (k + skip Z) wordB = false := by
  rcases hz with rfl | ⟨Y, rfl⟩ | ⟨Y, rfl⟩
  · exact ⟨false, gaps_at_end h, h, fitsAt_ge _ (at_end h)⟩
  · exact ⟨false, gaps_none h (by decide) (by decide) (by decide), h, by rw [show k + skip (59 :: Y) = k from rfl, at_fits h]; decide⟩
  · refine ⟨true, gaps_one hS h (by decide) (by decide) (by decide), at_one h, ?_⟩
    rw [show k + skip (32 :: 33 :: Y) = k + 1 from rfl, at_fits (at_one h)]; decide

theorem word_read {S : List UInt8} {k : Nat} {ahead u Z : List UInt8} {g : Bool} {m : Nat} (h : S.drop k = u ++ Z) (hu : AllW u) (hz : Stops wordB Z) (hl : ahead.length + u.length ≤ 60) (hg : gaps S (k + u.length) = .ok (g, m)) : word ahead S k = .ok (ahead ++ u, m) := by
  obtain ⟨w1, w2⟩ := at_while h hu.2 hz
  simp only [word, chars]
  rw [w2, if_neg hu.1, if_neg (by omega), w1]
  simp only [bnd, hg, ret]

theorem joinW_cons {u : List UInt8} {ws : List (List UInt8)} (h : ws ≠ []) : joinW (u :: ws) = u ++ 32 :: joinW ws := by
  cases ws with
  | nil => exact absurd rfl h
  | cons v ws => rfl
theorem joinW_head {ws : List (List UInt8)} (h : ws ≠ []) (ha : ∀ u ∈ ws, AllW u) : ∃ c t, joinW ws = c :: t ∧ wordB c = true := by
  match ws, h with
  | u :: ws, _ =>
    obtain ⟨hu, hw⟩ := ha u (by simp)
    obtain ⟨c, t, rfl⟩ : ∃ c t, u = c :: t := by
      cases u with
      | nil => exact absurd rfl hu
      | cons c t => exact ⟨c, t, rfl⟩
    refine ⟨c, ?_, ?_, hw c (by simp)⟩
    · exact t ++ (match ws with | [] => [] | v :: ws => 32 :: joinW (v :: ws))
    · cases ws with
      | nil => simp [joinW]
      | cons v ws => simp [joinW]

/-- One word and what is behind it. -/
theorem words_read {S : List UInt8} (hS : S.length ≤ 4000) : ∀ (ws : List (List UInt8)) (ahead Z : List UInt8) (k f : Nat), ws ≠ [] → (∀ u ∈ ws, AllW u) → Behind Z → S.drop k = joinW ws ++ Z → ahead.length + (joinW ws).length ≤ 60 → ws.length ≤ f →
    bnd (word ahead) (valueTo f) S k = .ok (ahead ++ joinW ws, k + (joinW ws).length + skip Z)
  | [], _, _, _, _, h, _, _, _, _, _ => absurd rfl h
  | [u], ahead, Z, k, f, _, ha, hz, hd, hl, hf => by
    simp only [joinW] at hd hl ⊢
    obtain ⟨g, g1, g2, g3⟩ := behind_gaps hS (at_add hd) hz
    rw [bnd_ok]
    refine ⟨_, _, word_read hd (ha u (by simp)) (behind_stops hz) hl g1, ?_⟩
    obtain ⟨f', rfl⟩ : ∃ f', f = f' + 1 := ⟨f - 1, by simp at hf; omega⟩
    unfold valueTo fits
    rw [if_neg (by rw [g3]; decide)]
    rfl
  | u :: v :: ws, ahead, Z, k, f, _, ha, hz, hd, hl, hf => by
    have e := joinW_cons (u := u) (ws := v :: ws) (by simp)
    rw [e] at hd hl ⊢
    obtain ⟨c, t, hc, wc⟩ := joinW_head (ws := v :: ws) (by simp) (fun x hx => ha x (List.mem_cons_of_mem _ hx))
    have wb := word_byte wc
    have hd1 : S.drop k = u ++ (32 :: (joinW (v :: ws) ++ Z)) := by rw [hd]; simp
    have hd2 := at_add hd1
    have hd3 : S.drop (k + u.length) = 32 :: c :: (t ++ Z) := by rw [hd2, hc]; simp
    have hd4 := at_one hd2
    have g1 := gaps_one hS hd3 wb.1 wb.2.1 wb.2.2.1
    obtain ⟨f', rfl⟩ : ∃ f', f = f' + 1 := ⟨f - 1, by simp at hf; omega⟩
    simp only [List.length_append, List.length_cons] at hl
    rw [bnd_ok]
    refine ⟨_, _, word_read hd1 (ha u (by simp)) (.inr ⟨_, _, rfl, by decide⟩) (by omega) g1, ?_⟩
    have ih := words_read hS (v :: ws) (ahead ++ u ++ [32]) Z (k + u.length + 1) f' (by simp) (fun x hx => ha x (List.mem_cons_of_mem _ hx)) hz hd4 (by simp; omega) (by simp at hf ⊢; omega)
    unfold valueTo fits
    rw [at_fits (by rw [hd4, hc]; rfl), if_pos wc, ih]
    simp only [List.append_assoc, List.cons_append, List.nil_append, List.length_append, List.length_cons]
    congr 2
    omega

theorem value_read {S : List UInt8} (hS : S.length ≤ 4000) {v Z : List UInt8} {k : Nat} (hv : ValOK v) (hz : Behind Z) (hd : S.drop k = v ++ Z) : value S k = .ok (v, k + v.length + skip Z) := by
  obtain ⟨ws, w0, w1, rfl, w3⟩ := hv
  have := joinW_len ws w1
  have := words_read hS ws [] Z k 62 w0 w1 hz hd (by simpa using w3) (by omega)
  simpa [value] using this

theorem sname_read {S : List UInt8} {n Z : List UInt8} {k : Nat} (hn : NameOK n) (hz : Stops nameB Z) (hd : S.drop k = n ++ Z) : sname S k = .ok (n, k + n.length) := by
  obtain ⟨c, t, rfl, hc, ht, h20⟩ := hn
  have hd1 : S.drop k = c :: (t ++ Z) := hd
  obtain ⟨w1, w2⟩ := at_while (at_one hd1) ht hz
  have hall : ∀ x ∈ c :: t, nameB x = true := by
    intro x hx
    rcases List.mem_cons.1 hx with rfl | hx
    · unfold nameB; rw [hc]; rfl
    · exact ht x hx
  obtain ⟨w3, w4⟩ := at_while (p := nameB) hd hall hz
  unfold sname nameTo
  rw [at_fits hd1, if_pos hc, w1]
  simp only
  have e : k + 1 + t.length = k + (c :: t).length := by simp; omega
  rw [e, ← w3, w4, if_neg (by omega), w3]

/-- One declaration, printed. -/
theorem decl_read {S : List UInt8} (hS : S.length ≤ 4000) {d : Dcl} {X : List UInt8} {k : Nat} (hd : DclOK d) (hx : X = [] ∨ ∃ Y, X = 59 :: Y) (h : S.drop k = printOne d ++ X) : decl S k = .ok (d, k + (printOne d).length) := by
  obtain ⟨n, v, st⟩ := d
  obtain ⟨hn, hv⟩ := hd
  simp only at hn hv
  obtain ⟨c, t, hc, wc⟩ : ∃ c t, v = c :: t ∧ wordB c = true := by
    obtain ⟨ws, w0, w1, rfl, _⟩ := hv
    exact joinW_head w0 w1
  have wb := word_byte wc
  -- behind the value
  obtain ⟨Z, hz, hZ⟩ : ∃ Z, printOne ⟨n, v, st⟩ ++ X = n ++ (58 :: 32 :: (v ++ Z)) ∧ Z = (if st then [32, 33] ++ importantL else []) ++ X := ⟨_, by simp [printOne], rfl⟩
  rw [hz] at h
  have bz : Behind Z := by
    rw [hZ]
    cases st with
    | true => exact .inr (.inr ⟨_, rfl⟩)
    | false =>
      rcases hx with rfl | ⟨Y, rfl⟩
      · exact .inl rfl
      · exact .inr (.inl ⟨_, rfl⟩)
  have s1 := sname_read hn (.inr ⟨_, _, rfl, by decide⟩) h
  have h1 := at_add h
  have s2 := gaps_none h1 (by decide) (by decide) (by decide)
  have s3 : tok [58] S (k + n.length) = .ok ((), k + n.length + 1) := tok_iff.2 ⟨at_byte h1, rfl⟩
  have h2 := at_one h1
  have h2' : S.drop (k + n.length + 1) = 32 :: c :: (t ++ Z) := by rw [h2, hc]; rfl
  have s4 := gaps_one hS h2' wb.1 wb.2.1 wb.2.2.1
  have h3 := at_one h2
  have s5 := value_read hS hv bz h3
  have h4 := at_add h3
  unfold decl
  simp only [bnd, s1, s2, s3, s4, s5]
  cases st with
  | false =>
    have e0 : skip Z = 0 := by
      rw [hZ]
      rcases hx with rfl | ⟨Y, rfl⟩ <;> rfl
    have hno : has S (k + n.length + 1 + 1 + v.length) [33] = false := by
      rcases hx with rfl | ⟨Y, rfl⟩
      · exact has_nil_false (at_end (by rw [h4, hZ]; rfl)) (by simp)
      · exact no_tok (c := 59) (at_byte (Z := Y) (by rw [h4, hZ]; rfl)) (by decide)
    rw [e0, Nat.add_zero]
    unfold opt
    rw [if_neg (by rw [hno]; decide)]
    simp [ret, printOne]
    omega
  | true =>
    have hZ' : Z = 32 :: 33 :: (importantL ++ X) := by rw [hZ]; simp
    have e0 : skip Z = 1 := by rw [hZ']; rfl
    rw [hZ'] at h4
    have h5 := at_one h4
    have h6 := at_one h5
    have h7 := at_add h6
    have t1 : has S (k + n.length + 1 + 1 + v.length + 1) [33] = true := one_tok.2 (at_byte h5)
    have t2 : tok importantL S (k + n.length + 1 + 1 + v.length + 1 + 1) = .ok ((), k + n.length + 1 + 1 + v.length + 1 + 1 + importantL.length) := by
      unfold tok opt
      rw [if_pos (at_tok h6)]
      rfl
    have t3 : gaps S (k + n.length + 1 + 1 + v.length + 1 + 1 + importantL.length) = .ok (false, k + n.length + 1 + 1 + v.length + 1 + 1 + importantL.length) := by
      rcases hx with rfl | ⟨Y, rfl⟩
      · exact gaps_at_end h7
      · exact gaps_none h7 (by decide) (by decide) (by decide)
    rw [e0]
    unfold opt
    rw [if_pos t1]
    simp only [bnd, t2, t3, ret, List.length_cons, List.length_nil, Nat.zero_add]
    simp [printOne, importantL]
    omega

theorem printL_cons {d : Dcl} {l : List Dcl} (h : l ≠ []) : printL (d :: l) = printOne d ++ 59 :: 32 :: printL l := by
  cases l with
  | nil => exact absurd rfl h
  | cons e l => simp [printL]
theorem printOne_head {d : Dcl} (h : DclOK d) : ∃ c t, printOne d = c :: t ∧ letterB c = true := by
  obtain ⟨⟨c, t, hn, hc, _⟩, _⟩ := h
  exact ⟨c, t ++ [58, 32] ++ d.val ++ (if d.strong then [32, 33] ++ importantL else []), by unfold printOne; rw [hn]; simp, hc⟩
theorem printL_head {l : List Dcl} (h : l ≠ []) (hd : ∀ d ∈ l, DclOK d) : ∃ c t, printL l = c :: t ∧ letterB c = true := by
  match l, h with
  | d :: l, _ =>
    obtain ⟨c, t, e, hc⟩ := printOne_head (hd d (by simp))
    cases l with
    | nil => exact ⟨c, t, by simpa [printL] using e, hc⟩
    | cons x l => exact ⟨c, t ++ [59, 32] ++ printL (x :: l), by simp [printL, e], hc⟩

theorem declsTo_read {S : List UInt8} (hS : S.length ≤ 4000) : ∀ (l : List Dcl) (acc : List Dcl) (k f : Nat), (∀ d ∈ l, DclOK d) → acc.length + l.length ≤ 20 → l.length < f → S.drop k = printL l → declsTo f acc S k = .ok (acc ++ l, k + (printL l).length)
  | [], acc, k, f, _, _, hf, hd => by
    obtain ⟨f', rfl⟩ : ∃ f', f = f' + 1 := ⟨f - 1, by omega⟩
    unfold declsTo ended
    rw [if_pos (at_end hd)]
    simp [ret, printL]
  | d :: l, acc, k, f, hok, h20, hf, hd => by
    obtain ⟨f', rfl⟩ : ∃ f', f = f' + 1 := ⟨f - 1, by omega⟩
    have hdk := hok d (by simp)
    simp only [List.length_cons] at h20 hf
    obtain ⟨c, t, hc, lc⟩ := printL_head (l := d :: l) (by simp) hok
    have lb := letter_byte lc
    have hb : S.drop k = c :: t := by rw [hd, hc]
    unfold declsTo ended look
    have a1 := at_lt hb
    rw [if_neg (by omega), if_neg (by rw [no_tok (at_byte hb) lb.2.2.2]; decide), if_neg (by omega)]
    have r1 : ∀ (g : Unit → Pr (List Dcl)), bnd (ret ()) g S k = g () S k := fun _ => rfl
    rw [r1]
    cases l with
    | nil =>
      have hd' : S.drop k = printOne d ++ [] := by rw [hd]; simp [printL]
      have e := decl_read hS hdk (.inl rfl) hd'
      have hno : has S (k + (printOne d).length) [59] = false := has_nil_false (at_end (at_add hd')) (by simp)
      simp only [bnd, e, opt]
      rw [if_neg (by rw [hno]; decide)]
      simp [ret, printL]
    | cons x l =>
      have e0 := printL_cons (d := d) (l := x :: l) (by simp)
      rw [e0] at hd
      have e := decl_read hS hdk (.inr ⟨_, rfl⟩) hd
      have h1 := at_add hd
      have h2 := at_one h1
      obtain ⟨c', t', hc', lc'⟩ := printL_head (l := x :: l) (by simp) (fun y hy => hok y (List.mem_cons_of_mem _ hy))
      have lb' := letter_byte lc'
      have g1 := gaps_one hS (by rw [h2, hc']) lb'.1 lb'.2.1 lb'.2.2.1
      have h3 := at_one h2
      have ih := declsTo_read hS (x :: l) (acc ++ [d]) (k + (printOne d).length + 1 + 1) f' (fun y hy => hok y (List.mem_cons_of_mem _ hy)) (by simp at h20 ⊢; omega) (by omega) h3
      simp only [bnd, e, opt]
      rw [if_pos (one_tok.2 (at_byte h1))]
      simp only [List.length_cons, List.length_nil, Nat.zero_add, g1, ih]
      rw [e0]
      simp only [List.append_assoc, List.cons_append, List.nil_append, List.length_append, List.length_cons]
      congr 2
      omega

/-- Declarations that were read come back from what they are printed as. -/
theorem decls_turn {s : List UInt8} {l : List Dcl} (h : declsParse s = .ok l) : declsParse (printL l) = .ok l ∧ (printL l).length ≤ 4000 ∧ l.length ≤ 20 ∧ ∀ d ∈ l, d.name.length ≤ 20 ∧ d.val.length ≤ 60 := by
  obtain ⟨h20, hok⟩ := declsParse_ok h
  have hb : ∀ d ∈ l, d.name.length ≤ 20 ∧ d.val.length ≤ 60 := fun d hd => by
    obtain ⟨⟨c, t, e, _, _, h1⟩, ⟨ws, _, _, _, h2⟩⟩ := hok d hd
    exact ⟨h1, h2⟩
  have hlen : ∀ (l : List Dcl), (∀ d ∈ l, d.name.length ≤ 20 ∧ d.val.length ≤ 60) → (printL l).length ≤ l.length * 95 := by
    intro l
    induction l with
    | nil => intro _; simp [printL]
    | cons d l ih =>
      intro hl
      have h1 := ih (fun x hx => hl x (List.mem_cons_of_mem _ hx))
      have h2 := hl d (by simp)
      have h3 : (printOne d).length ≤ 93 := by
        unfold printOne
        split <;> simp [importantL] <;> omega
      rw [List.length_cons, Nat.add_mul]
      cases l with
      | nil => simp [printL]; omega
      | cons x l => rw [printL_cons (by simp)]; simp only [List.length_append, List.length_cons] at h1 ⊢; omega
  have hl4 : (printL l).length ≤ 4000 := by
    have := hlen l hb
    have : l.length * 95 ≤ 20 * 95 := Nat.mul_le_mul_right _ h20
    omega
  refine ⟨?_, hl4, h20, hb⟩
  unfold declsParse
  rw [if_neg (by omega)]
  have g0 : ∃ g, gaps (printL l) 0 = .ok (g, 0) := by
    cases l with
    | nil => exact ⟨false, gaps_at_end (by simp [printL])⟩
    | cons d l =>
      obtain ⟨c, t, hc, lc⟩ := printL_head (l := d :: l) (by simp) hok
      have lb := letter_byte lc
      exact ⟨false, gaps_none (c := c) (Z := t) (by rw [List.drop_zero, hc]) lb.1 lb.2.1 lb.2.2.1⟩
  obtain ⟨g, g0⟩ := g0
  have e := declsTo_read hl4 l [] 0 22 hok (by simpa using h20) (by omega) (by simp)
  unfold declsAll onlyDecls decls
  simp only [bnd, g0, e, ended]
  rw [if_pos (by omega)]
  simp [ret]
end Go.Proofs.Ytanedepdhbdcgaa
