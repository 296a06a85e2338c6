/- Texts that the statement's proof stands on: SheetTurn2, MSpec, PSpec, CSpec, CSpec2, CSpec3. -/
import Derived.Test.YtblkldfokeeaeacGreatDoorB04
import Derived.Lib.Split
import Derived.Lib.SlicesS
import Derived.Lib.SplitLaws
namespace Go.Proofs.YtblkldfokeeaeacGreatDoor.Sh
open Go
theorem word_byte {c : UInt8} (h : wordB c = true) : c ≠ 32 ∧ c ≠ 10 ∧ c ≠ 47 ∧ c ≠ 33 ∧ c ≠ 59 := by
  refine ⟨?_, ?_, ?_, ?_, ?_⟩ <;> (rintro rfl; exact absurd h (by decide))
theorem letter_byte {c : UInt8} (h : letterB c = true) : c ≠ 32 ∧ c ≠ 10 ∧ c ≠ 47 ∧ c ≠ 125 := by
  refine ⟨?_, ?_, ?_, ?_⟩ <;> (rintro rfl; exact absurd h (by decide))
theorem gaps_none {S : List UInt8} {k : Nat} {c : UInt8} {Z : List UInt8} (h : S.drop k = c :: Z) (h1 : c ≠ 32) (h2 : c ≠ 10) (h3 : c ≠ 47) : gaps S k = .ok (false, k) :=
  gaps_iff.2 ⟨gp_stop_at (at_byte h) h1 h2 h3, by simp⟩
theorem gaps_at_end {S : List UInt8} {k : Nat} (h : S.drop k = []) : gaps S k = .ok (false, k) := gaps_iff.2 ⟨gp_end (at_end h), by simp⟩
theorem gaps_one {S : List UInt8} {k : Nat} {c : UInt8} {Z : List UInt8} (hS : S.length ≤ 4000) (h : S.drop k = 32 :: c :: Z) (h1 : c ≠ 32) (h2 : c ≠ 10) (h3 : c ≠ 47) : gaps S k = .ok (true, k + 1) :=
  gaps_iff.2 ⟨by rw [gp_blank hS (.inl (one_tok.2 (at_byte h))), gp_stop_at (at_byte (at_one h)) h1 h2 h3], by simp⟩
def Behind (Z : List UInt8) : Prop := Z = [] ∨ (∃ Y, Z = 59 :: Y) ∨ ∃ Y, Z = 32 :: 33 :: Y
def skip (Z : List UInt8) : Nat := match Z with | 32 :: _ => 1 | _ => 0
theorem behind_stops {Z : List UInt8} (h : Behind Z) : Stops wordB Z := by
  rcases h with rfl | ⟨Y, rfl⟩ | ⟨Y, rfl⟩
  · exact .inl rfl
  · exact .inr ⟨_, _, rfl, by decide⟩
  · exact .inr ⟨_, _, rfl, by decide⟩
theorem behind_gaps {S : List UInt8} {k : Nat} {Z : List UInt8} (hS : S.length ≤ 4000) (h : S.drop k = Z) (hz : Behind Z) : ∃ g, gaps S k = .ok (g, k + skip Z) ∧ S.drop (k + skip Z) = Z.drop (skip Z) ∧ fitsAt S (k + skip Z) wordB = false := by
  rcases hz with rfl | ⟨Y, rfl⟩ | ⟨Y, rfl⟩
  · exact ⟨false, gaps_at_end h, h, fitsAt_ge _ (at_end h)⟩
  · exact ⟨false, gaps_none h (by decide) (by decide) (by decide), h, by rw [show k + skip (59 :: Y) = k from rfl, at_fits h]; decide⟩
  · refine ⟨true, gaps_one hS h (by decide) (by decide) (by decide), at_one h, ?_⟩
    rw [show k + skip (32 :: 33 :: Y) = k + 1 from rfl, at_fits (at_one h)]; decide
theorem word_read {S : List UInt8} {k : Nat} {ahead u Z : List UInt8} {g : Bool} {m : Nat} (h : S.drop k = u ++ Z) (hu : AllW u) (hz : Stops wordB Z) (hl : ahead.length + u.length ≤ 60) (hg : gaps S (k + u.length) = .ok (g, m)) : word ahead S k = .ok (ahead ++ u, m) := by
  obtain ⟨w1, w2⟩ := at_while h hu.2 hz
  simp only [word, chars]
  rw [w2, if_neg hu.1, if_neg (by omega), w1]
  simp only [bnd, hg, ret]
theorem joinW_cons {u : List UInt8} {ws : List (List UInt8)} (h : ws ≠ []) : joinW (u :: ws) = u ++ 32 :: joinW ws := by
  cases ws with
  | nil => exact absurd rfl h
  | cons v ws => rfl
theorem joinW_head {ws : List (List UInt8)} (h : ws ≠ []) (ha : ∀ u ∈ ws, AllW u) : ∃ c t, joinW ws = c :: t ∧ wordB c = true := by
  match ws, h with
  | u :: ws, _ =>
    obtain ⟨hu, hw⟩ := ha u (by simp)
    obtain ⟨c, t, rfl⟩ : ∃ c t, u = c :: t := by
      cases u with
      | nil => exact absurd rfl hu
      | cons c t => exact ⟨c, t, rfl⟩
    refine ⟨c, ?_, ?_, hw c (by simp)⟩
    · exact t ++ (match ws with | [] => [] | v :: ws => 32 :: joinW (v :: ws))
    · cases ws with
      | nil => simp [joinW]
      | cons v ws => simp [joinW]
theorem words_read {S : List UInt8} (hS : S.length ≤ 4000) : ∀ (ws : List (List UInt8)) (ahead Z : List UInt8) (k f : Nat), ws ≠ [] → (∀ u ∈ ws, AllW u) → Behind Z → S.drop k = joinW ws ++ Z → ahead.length + (joinW ws).length ≤ 60 → ws.length ≤ f →
    bnd (word ahead) (valueTo f) S k = .ok (ahead ++ joinW ws, k + (joinW ws).length + skip Z)
  | [], _, _, _, _, h, _, _, _, _, _ => absurd rfl h
  | [u], ahead, Z, k, f, _, ha, hz, hd, hl, hf => by
    simp only [joinW] at hd hl ⊢
    obtain ⟨g, g1, g2, g3⟩ := behind_gaps hS (at_add hd) hz
    rw [bnd_ok]
    refine ⟨_, _, word_read hd (ha u (by simp)) (behind_stops hz) hl g1, ?_⟩
    obtain ⟨f', rfl⟩ : ∃ f', f = f' + 1 := ⟨f - 1, by simp at hf; omega⟩
    unfold valueTo fits
    rw [if_neg (by rw [g3]; decide)]
    rfl
  | u :: v :: ws, ahead, Z, k, f, _, ha, hz, hd, hl, hf => by
    have e := joinW_cons (u := u) (ws := v :: ws) (by simp)
    rw [e] at hd hl ⊢
    obtain ⟨c, t, hc, wc⟩ := joinW_head (ws := v :: ws) (by simp) (fun x hx => ha x (List.mem_cons_of_mem _ hx))
    have wb := word_byte wc
    have hd1 : S.drop k = u ++ (32 :: (joinW (v :: ws) ++ Z)) := by rw [hd]; simp
    have hd2 := at_add hd1
    have hd3 : S.drop (k + u.length) = 32 :: c :: (t ++ Z) := by rw [hd2, hc]; simp
    have hd4 := at_one hd2
    have g1 := gaps_one hS hd3 wb.1 wb.2.1 wb.2.2.1
    obtain ⟨f', rfl⟩ : ∃ f', f = f' + 1 := ⟨f - 1, by simp at hf; omega⟩
    simp only [List.length_append, List.length_cons] at hl
    rw [bnd_ok]
    refine ⟨_, _, word_read hd1 (ha u (by simp)) (.inr ⟨_, _, rfl, by decide⟩) (by omega) g1, ?_⟩
    have ih := words_read hS (v :: ws) (ahead ++ u ++ [32]) Z (k + u.length + 1) f' (by simp) (fun x hx => ha x (List.mem_cons_of_mem _ hx)) hz hd4 (by simp; omega) (by simp at hf ⊢; omega)
    unfold valueTo fits
    rw [at_fits (by rw [hd4, hc]; rfl), if_pos wc, ih]
    simp only [List.append_assoc, List.cons_append, List.nil_append, List.length_append, List.length_cons]
    congr 2
    omega
theorem value_read {S : List UInt8} (hS : S.length ≤ 4000) {v Z : List UInt8} {k : Nat} (hv : ValOK v) (hz : Behind Z) (hd : S.drop k = v ++ Z) : value S k = .ok (v, k + v.length + skip Z) := by
  obtain ⟨ws, w0, w1, rfl, w3⟩ := hv
  have := joinW_len ws w1
  have := words_read hS ws [] Z k 62 w0 w1 hz hd (by simpa using w3) (by omega)
  simpa [value] using this
theorem sname_read {S : List UInt8} {n Z : List UInt8} {k : Nat} (hn : NameOK n) (hz : Stops nameB Z) (hd : S.drop k = n ++ Z) : sname S k = .ok (n, k + n.length) := by
  obtain ⟨c, t, rfl, hc, ht, h20⟩ := hn
  have hd1 : S.drop k = c :: (t ++ Z) := hd
  obtain ⟨w1, w2⟩ := at_while (at_one hd1) ht hz
  have hall : ∀ x ∈ c :: t, nameB x = true := by
    intro x hx
    rcases List.mem_cons.1 hx with rfl | hx
    · unfold nameB; rw [hc]; rfl
    · exact ht x hx
  obtain ⟨w3, w4⟩ := at_while (p := nameB) hd hall hz
  unfold sname nameTo
  rw [at_fits hd1, if_pos hc, w1]
  simp only
  have e : k + 1 + t.length = k + (c :: t).length := by simp; omega
  rw [e, ← w3, w4, if_neg (by omega), w3]
theorem decl_read {S : List UInt8} (hS : S.length ≤ 4000) {d : Dcl} {X : List UInt8} {k : Nat} (hd : DclOK d) (hx : X = [] ∨ ∃ Y, X = 59 :: Y) (h : S.drop k = printOne d ++ X) : decl S k = .ok (d, k + (printOne d).length) := by
  obtain ⟨n, v, st⟩ := d
  obtain ⟨hn, hv⟩ := hd
  simp only at hn hv
  obtain ⟨c, t, hc, wc⟩ : ∃ c t, v = c :: t ∧ wordB c = true := by
    obtain ⟨ws, w0, w1, rfl, _⟩ := hv
    exact joinW_head w0 w1
  have wb := word_byte wc
  -- behind the value
  obtain ⟨Z, hz, hZ⟩ : ∃ Z, printOne ⟨n, v, st⟩ ++ X = n ++ (58 :: 32 :: (v ++ Z)) ∧ Z = (if st then [32, 33] ++ importantL else []) ++ X := ⟨_, by simp [printOne], rfl⟩
  rw [hz] at h
  have bz : Behind Z := by
    rw [hZ]
    cases st with
    | true => exact .inr (.inr ⟨_, rfl⟩)
    | false =>
      rcases hx with rfl | ⟨Y, rfl⟩
      · exact .inl rfl
      · exact .inr (.inl ⟨_, rfl⟩)
  have s1 := sname_read hn (.inr ⟨_, _, rfl, by decide⟩) h
  have h1 := at_add h
  have s2 := gaps_none h1 (by decide) (by decide) (by decide)
  have s3 : tok [58] S (k + n.length) = .ok ((), k + n.length + 1) := tok_iff.2 ⟨at_byte h1, rfl⟩
  have h2 := at_one h1
  have h2' : S.drop (k + n.length + 1) = 32 :: c :: (t ++ Z) := by rw [h2, hc]; rfl
  have s4 := gaps_one hS h2' wb.1 wb.2.1 wb.2.2.1
  have h3 := at_one h2
  have s5 := value_read hS hv bz h3
  have h4 := at_add h3
  unfold decl
  simp only [bnd, s1, s2, s3, s4, s5]
  cases st with
  | false =>
    have e0 : skip Z = 0 := by
      rw [hZ]
      rcases hx with rfl | ⟨Y, rfl⟩ <;> rfl
    have hno : has S (k + n.length + 1 + 1 + v.length) [33] = false := by
      rcases hx with rfl | ⟨Y, rfl⟩
      · exact has_nil_false (at_end (by rw [h4, hZ]; rfl)) (by simp)
      · exact no_tok (c := 59) (at_byte (Z := Y) (by rw [h4, hZ]; rfl)) (by decide)
    rw [e0, Nat.add_zero]
    unfold opt
    rw [if_neg (by rw [hno]; decide)]
    simp [ret, printOne]
    omega
  | true =>
    have hZ' : Z = 32 :: 33 :: (importantL ++ X) := by rw [hZ]; simp
    have e0 : skip Z = 1 := by rw [hZ']; rfl
    rw [hZ'] at h4
    have h5 := at_one h4
    have h6 := at_one h5
    have h7 := at_add h6
    have t1 : has S (k + n.length + 1 + 1 + v.length + 1) [33] = true := one_tok.2 (at_byte h5)
    have t2 : tok importantL S (k + n.length + 1 + 1 + v.length + 1 + 1) = .ok ((), k + n.length + 1 + 1 + v.length + 1 + 1 + importantL.length) := by
      unfold tok opt
      rw [if_pos (at_tok h6)]
      rfl
    have t3 : gaps S (k + n.length + 1 + 1 + v.length + 1 + 1 + importantL.length) = .ok (false, k + n.length + 1 + 1 + v.length + 1 + 1 + importantL.length) := by
      rcases hx with rfl | ⟨Y, rfl⟩
      · exact gaps_at_end h7
      · exact gaps_none h7 (by decide) (by decide) (by decide)
    rw [e0]
    unfold opt
    rw [if_pos t1]
    simp only [bnd, t2, t3, ret, List.length_cons, List.length_nil, Nat.zero_add]
    simp [printOne, importantL]
    omega
theorem printL_cons {d : Dcl} {l : List Dcl} (h : l ≠ []) : printL (d :: l) = printOne d ++ 59 :: 32 :: printL l := by
  cases l with
  | nil => exact absurd rfl h
  | cons e l => simp [printL]
theorem printOne_head {d : Dcl} (h : DclOK d) : ∃ c t, printOne d = c :: t ∧ letterB c = true := by
  obtain ⟨⟨c, t, hn, hc, _⟩, _⟩ := h
  exact ⟨c, t ++ [58, 32] ++ d.val ++ (if d.strong then [32, 33] ++ importantL else []), by unfold printOne; rw [hn]; simp, hc⟩
theorem printL_head {l : List Dcl} (h : l ≠ []) (hd : ∀ d ∈ l, DclOK d) : ∃ c t, printL l = c :: t ∧ letterB c = true := by
  match l, h with
  | d :: l, _ =>
    obtain ⟨c, t, e, hc⟩ := printOne_head (hd d (by simp))
    cases l with
    | nil => exact ⟨c, t, by simpa [printL] using e, hc⟩
    | cons x l => exact ⟨c, t ++ [59, 32] ++ printL (x :: l), by simp [printL, e], hc⟩
theorem declsTo_read {S : List UInt8} (hS : S.length ≤ 4000) : ∀ (l : List Dcl) (acc : List Dcl) (k f : Nat), (∀ d ∈ l, DclOK d) → acc.length + l.length ≤ 20 → l.length < f → S.drop k = printL l → declsTo f acc S k = .ok (acc ++ l, k + (printL l).length)
  | [], acc, k, f, _, _, hf, hd => by
    obtain ⟨f', rfl⟩ : ∃ f', f = f' + 1 := ⟨f - 1, by omega⟩
    unfold declsTo ended
    rw [if_pos (at_end hd)]
    simp [ret, printL]
  | d :: l, acc, k, f, hok, h20, hf, hd => by
    obtain ⟨f', rfl⟩ : ∃ f', f = f' + 1 := ⟨f - 1, by omega⟩
    have hdk := hok d (by simp)
    simp only [List.length_cons] at h20 hf
    obtain ⟨c, t, hc, lc⟩ := printL_head (l := d :: l) (by simp) hok
    have lb := letter_byte lc
    have hb : S.drop k = c :: t := by rw [hd, hc]
    unfold declsTo ended look
    have a1 := at_lt hb
    rw [if_neg (by omega), if_neg (by rw [no_tok (at_byte hb) lb.2.2.2]; decide), if_neg (by omega)]
    have r1 : ∀ (g : Unit → Pr (List Dcl)), bnd (ret ()) g S k = g () S k := fun _ => rfl
    rw [r1]
    cases l with
    | nil =>
      have hd' : S.drop k = printOne d ++ [] := by rw [hd]; simp [printL]
      have e := decl_read hS hdk (.inl rfl) hd'
      have hno : has S (k + (printOne d).length) [59] = false := has_nil_false (at_end (at_add hd')) (by simp)
      simp only [bnd, e, opt]
      rw [if_neg (by rw [hno]; decide)]
      simp [ret, printL]
    | cons x l =>
      have e0 := printL_cons (d := d) (l := x :: l) (by simp)
      rw [e0] at hd
      have e := decl_read hS hdk (.inr ⟨_, rfl⟩) hd
      have h1 := at_add hd
      have h2 := at_one h1
      obtain ⟨c', t', hc', lc'⟩ := printL_head (l := x :: l) (by simp) (fun y hy => hok y (List.mem_cons_of_mem _ hy))
      have lb' := letter_byte lc'
      have g1 := gaps_one hS (by rw [h2, hc']) lb'.1 lb'.2.1 lb'.2.2.1
      have h3 := at_one h2
      have ih := declsTo_read hS (x :: l) (acc ++ [d]) (k + (printOne d).length + 1 + 1) f' (fun y hy => hok y (List.mem_cons_of_mem _ hy)) (by simp at h20 ⊢; omega) (by omega) h3
      simp only [bnd, e, opt]
      rw [if_pos (one_tok.2 (at_byte h1))]
      simp only [List.length_cons, List.length_nil, Nat.zero_add, g1, ih]
      rw [e0]
      simp only [List.append_assoc, List.cons_append, List.nil_append, List.length_append, List.length_cons]
      congr 2
      omega
end Go.Proofs.YtblkldfokeeaeacGreatDoor.Sh
namespace Go.Proofs.YtblkldfokeeaeacGreatDoor
structure At where
  name : ByteArray
  val : ByteArray
  fr : Int
  to : Int
structure Nd where
  name : ByteArray
  parent : Int
  attrs : List At
  ne : Int
  fr : Int
  to : Int
structure Ts where
  kind : Int
  name : ByteArray
  val : ByteArray
structure Pt where
  join : Int
  tests : List Ts
def nd0 : Nd := ⟨⟨#[]⟩, 0, [], 0, 0, 0⟩
def pt0 : Pt := ⟨0, []⟩
def ndAt (l : List Nd) (k : Nat) : Nd := l.getD k nd0
def ptAt (s : List Pt) (k : Nat) : Pt := s.getD k pt0
def par (l : List Nd) (k : Nat) : Int := (ndAt l k).parent
def getA (name : ByteArray) : List At → Option ByteArray
  | [] => none
  | a :: l => if a.name.toList == name.toList then some a.val else getA name l
def aheadTo (l : List Nd) (p : Int) : Nat → Int
  | 0 => -1
  | k + 1 => if par l k = p then k else aheadTo l p k
def ahead (l : List Nd) (k : Nat) : Int := aheadTo l (par l k) k
def clsN : ByteArray := ⟨#[99, 108, 97, 115, 115]⟩
def idN : ByteArray := ⟨#[105, 100]⟩
def blank : ByteArray := ⟨#[32]⟩
def clsB (val name : ByteArray) : Bool := !name.toList.isEmpty && Lib.containsS (Lib.splitB blank 0 (Lib.countB val blank) val) name
def clsOf (l : List At) (name : ByteArray) : Bool := match getA clsN l with
  | none => false
  | some v => clsB v name
def attrB (l : List At) (name val : ByteArray) : Bool := match getA name l with
  | none => false
  | some v => v.toList == val.toList
def testB (l : List Nd) (k : Nat) (t : Ts) : Bool :=
  if t.kind = 1 then (ndAt l k).name.toList == t.name.toList
  else if t.kind = 2 then clsOf (ndAt l k).attrs t.name
  else if t.kind = 3 then attrB (ndAt l k).attrs idN t.name
  else if t.kind = 4 then (getA t.name (ndAt l k).attrs).isSome
  else if t.kind = 5 then attrB (ndAt l k).attrs t.name t.val
  else if t.kind = 6 then decide (ahead l k < 0)
  else false
def partB (l : List Nd) (k : Nat) (p : Pt) : Bool := p.tests.all (testB l k)
def aboves (l : List Nd) (k : Nat) : List Nat :=
  if _h : 0 ≤ par l k ∧ par l k < k then (par l k).toNat :: aboves l (par l k).toNat else []
termination_by k
decreasing_by omega
def single (l : List Nd) (k : Nat) (j : Int) : Int := if j = 2 then par l k else if j = 3 then ahead l k else -1
def ups (l : List Nd) (k : Nat) (j : Int) : List Nat :=
  if j = 1 then aboves l k else if 0 ≤ single l k j ∧ single l k j < l.length then [(single l k j).toNat] else []
def rest (l : List Nd) (s : List Pt) : Nat → Nat → Bool
  | 0, _ => true
  | i + 1, x => (ups l x (ptAt s (i + 1)).join).any fun y => partB l y (ptAt s i) && rest l s i y
def meansB (l : List Nd) (k : Nat) (s : List Pt) : Bool := partB l k (ptAt s (s.length - 1)) && rest l s (s.length - 1) k
def inB (l : List Nd) (k : Int) : Bool := decide (0 ≤ k) && decide (k < l.length)
def matchB (l : List Nd) (k : Int) (s : List Pt) : Bool := inB l k && decide (0 < s.length) && meansB l k.toNat s
theorem ndAt_eq {l : List Nd} {k : Nat} (h : k < l.length) : ndAt l k = l[k] := by simp [ndAt, List.getD, h]
theorem ptAt_eq {s : List Pt} {k : Nat} (h : k < s.length) : ptAt s k = s[k] := by simp [ptAt, List.getD, h]
theorem aheadTo_bd (l : List Nd) (p : Int) : ∀ k, -1 ≤ aheadTo l p k ∧ aheadTo l p k < k
  | 0 => by simp [aheadTo]
  | k + 1 => by
    have := aheadTo_bd l p k
    unfold aheadTo
    split <;> omega
theorem ahead_bd (l : List Nd) (k : Nat) : -1 ≤ ahead l k ∧ ahead l k < k := aheadTo_bd l _ k
theorem aboves_pos {l : List Nd} {k : Nat} (h0 : 0 ≤ par l k) (h1 : par l k < k) : aboves l k = (par l k).toNat :: aboves l (par l k).toNat := by
  rw [aboves, dif_pos ⟨h0, h1⟩]
theorem aboves_neg {l : List Nd} {k : Nat} (h : ¬ (0 ≤ par l k ∧ par l k < k)) : aboves l k = [] := by
  rw [aboves, dif_neg h]
theorem aboves_lt {l : List Nd} : ∀ {k x : Nat}, x ∈ aboves l k → x < k := by
  intro k
  induction k using Nat.strongRecOn with
  | _ k ih =>
    intro x hx
    rw [aboves] at hx
    split at hx
    · rename_i h
      rcases List.mem_cons.1 hx with rfl | hx
      · omega
      · have := ih (par l k).toNat (by omega) hx
        omega
    · cases hx
theorem ups_lt {l : List Nd} {k x : Nat} {j : Int} (hk : k < l.length) (h : x ∈ ups l k j) : x < l.length := by
  unfold ups at h
  split at h
  · have := aboves_lt h; omega
  · split at h
    · simp at h; omega
    · cases h
def k0 (k : Int) : Bool := k == 3
def k1 (k : Int) : Bool := k == 2 || k == 4 || k == 5 || k == 6
def k2 (k : Int) : Bool := k == 1
def cntT (f : Int → Bool) (l : List Ts) : Nat := l.countP fun t => f t.kind
def cnt (f : Int → Bool) (s : List Pt) : Nat := cntT f (s.flatMap (·.tests))
theorem cntT_snoc (f : Int → Bool) (l : List Ts) (t : Ts) : cntT f (l ++ [t]) = cntT f l + if f t.kind then 1 else 0 := by
  unfold cntT; rw [List.countP_append]; simp [List.countP_cons]
theorem cnt_snoc (f : Int → Bool) (s : List Pt) (p : Pt) : cnt f (s ++ [p]) = cnt f s + cntT f p.tests := by
  simp [cnt, cntT, List.flatMap_append, List.countP_append]
structure Wt where
  a : Int
  b : Int
  c : Int
def wts (s : List Pt) : Wt := ⟨cnt k0 s, cnt k1 s, cnt k2 s⟩
def cmp3 (x y : Wt) : Int :=
  if x.a < y.a then -1 else if y.a < x.a then 1 else if x.b < y.b then -1 else if y.b < x.b then 1 else if x.c < y.c then -1 else if y.c < x.c then 1 else 0
def w00 : Wt := ⟨0, 0, 0⟩
def bestTo (l : List Nd) (k : Int) : List (List Pt) → Wt × Bool → Wt × Bool
  | [], acc => acc
  | s :: r, acc => bestTo l k r (if matchB l k s then (if 0 < cmp3 (wts s) acc.1 then wts s else acc.1, true) else acc)
end Go.Proofs.YtblkldfokeeaeacGreatDoor
namespace Go.Proofs.YtblkldfokeeaeacGreatDoor
structure Dc where
  name : ByteArray
  val : ByteArray
  strong : Bool
def edgeN : ByteArray := ⟨#[101, 100, 103, 101]⟩
def sd0 : ByteArray := ⟨#[101, 100, 103, 101, 45, 116, 111, 112]⟩
def sd1 : ByteArray := ⟨#[101, 100, 103, 101, 45, 114, 105, 103, 104, 116]⟩
def sd2 : ByteArray := ⟨#[101, 100, 103, 101, 45, 98, 111, 116, 116, 111, 109]⟩
def sd3 : ByteArray := ⟨#[101, 100, 103, 101, 45, 108, 101, 102, 116]⟩
def isE (d : Dc) : Bool := d.name.toList == edgeN.toList
def cutB (v : ByteArray) : List ByteArray := Lib.splitB blank 0 (min 5 (v.size + 1) - 1) v
def v0 (l : List ByteArray) : ByteArray := l.getD 0 ⟨#[]⟩
def v1 (l : List ByteArray) : ByteArray := l.getD 1 (v0 l)
def v2 (l : List ByteArray) : ByteArray := l.getD 2 (v0 l)
def v3 (l : List ByteArray) : ByteArray := l.getD 3 (v1 l)
def fourB (st : Bool) (l : List ByteArray) : List Dc := [⟨sd0, v0 l, st⟩, ⟨sd1, v1 l, st⟩, ⟨sd2, v2 l, st⟩, ⟨sd3, v3 l, st⟩]
def expB (d : Dc) : Option (List Dc) := if isE d then (if 4 < (cutB d.val).length then none else some (fourB d.strong (cutB d.val))) else some [d]
def allB : List Dc → Option (List Dc)
  | [] => some []
  | d :: l => (expB d).bind fun x => (allB l).map (x ++ ·)
theorem allB_snoc : ∀ (l : List Dc) (d : Dc), allB (l ++ [d]) = (allB l).bind fun a => (expB d).map (a ++ ·)
  | [], d => by
    show (expB d).bind (fun x => (allB []).map (x ++ ·)) = _
    simp only [allB, Option.map_some, Option.bind_some]
    cases expB d <;> simp
  | c :: l, d => by
    show (expB c).bind (fun x => (allB (l ++ [d])).map (x ++ ·)) = ((expB c).bind fun x => (allB l).map (x ++ ·)).bind _
    rw [allB_snoc l d]
    cases expB c <;> cases allB l <;> cases expB d <;> simp
theorem allB_stop : ∀ (a b : List Dc) (d : Dc) , allB a ≠ none → expB d = none → allB (a ++ d :: b) = none
  | [], b, d, _, h => by show (expB d).bind _ = none; rw [h]; rfl
  | c :: a, b, d, h0, h => by
    show (expB c).bind (fun x => (allB (a ++ d :: b)).map (x ++ ·)) = none
    rw [allB_stop a b d (fun e => h0 (by show (expB c).bind (fun x => (allB a).map (x ++ ·)) = none; rw [e]; cases expB c <;> rfl)) h]
    cases expB c <;> rfl
theorem allB_next {l a : List Dc} {k : Nat} (hk : k < l.length) (h : allB (l.take k) = some a) : allB (l.take (k + 1)) = (expB l[k]).map (a ++ ·) := by
  rw [List.take_succ_eq_append_getElem hk, allB_snoc, h]; rfl
theorem allB_none {l a : List Dc} {k : Nat} (hk : k < l.length) (h : allB (l.take k) = some a) (hx : expB l[k] = none) : allB l = none := by
  have e : l = l.take k ++ l[k] :: l.drop (k + 1) := by rw [← List.drop_eq_getElem_cons hk, List.take_append_drop]
  rw [e]
  exact allB_stop _ _ _ (by rw [h]; simp) hx
theorem expB_len {d : Dc} {x : List Dc} (h : expB d = some x) : x.length ≤ 4 := by
  unfold expB at h
  split at h
  · split at h
    · cases h
    · injection h with h; rw [← h]; simp [fourB]
  · injection h with h; rw [← h]; simp
theorem allB_len : ∀ {l a : List Dc}, allB l = some a → a.length ≤ 4 * l.length
  | [], a, h => by injection h with h; rw [← h]; simp
  | d :: l, a, h => by
    change (expB d).bind (fun x => (allB l).map (x ++ ·)) = some a at h
    cases hx : expB d with
    | none => rw [hx] at h; cases h
    | some x =>
      cases hy : allB l with
      | none => rw [hx, hy] at h; cases h
      | some y =>
        rw [hx, hy] at h
        injection h with h
        have h1 := expB_len hx
        have h2 := allB_len hy
        rw [← h, List.length_append, List.length_cons]
        omega
theorem expB_plain {d : Dc} {x : List Dc} (h : expB d = some x) : ∀ y ∈ x, isE y = false ∧ y.strong = d.strong := by
  unfold expB at h
  split at h
  · split at h
    · cases h
    · injection h with h
      rw [← h]
      intro y hy
      simp [fourB] at hy
      rcases hy with rfl | rfl | rfl | rfl
      · exact ⟨show (sd0.toList == edgeN.toList) = false by decide +kernel, rfl⟩
      · exact ⟨show (sd1.toList == edgeN.toList) = false by decide +kernel, rfl⟩
      · exact ⟨show (sd2.toList == edgeN.toList) = false by decide +kernel, rfl⟩
      · exact ⟨show (sd3.toList == edgeN.toList) = false by decide +kernel, rfl⟩
  · rename_i hq
    injection h with h
    rw [← h]
    intro y hy
    simp at hy
    rw [hy]
    exact ⟨by simpa using hq, rfl⟩
theorem allB_plain : ∀ {l a : List Dc}, allB l = some a → ∀ y ∈ a, isE y = false
  | [], a, h => by injection h with h; rw [← h]; simp
  | d :: l, a, h => by
    change (expB d).bind (fun x => (allB l).map (x ++ ·)) = some a at h
    cases hx : expB d with
    | none => rw [hx] at h; cases h
    | some x =>
      cases hy : allB l with
      | none => rw [hx, hy] at h; cases h
      | some y =>
        rw [hx, hy] at h
        injection h with h
        rw [← h]
        intro z hz
        rcases List.mem_append.1 hz with hz | hz
        · exact (expB_plain hx z hz).1
        · exact allB_plain hy z hz
theorem plain_allB : ∀ {a : List Dc}, (∀ y ∈ a, isE y = false) → allB a = some a
  | [], _ => rfl
  | d :: l, h => by
    have hd := h d (List.mem_cons_self ..)
    show (expB d).bind (fun x => (allB l).map (x ++ ·)) = _
    rw [plain_allB (fun y hy => h y (List.mem_cons_of_mem _ hy))]
    unfold expB
    rw [hd]
    rfl
def glue (pre : List UInt8) : List (List UInt8) → List (List UInt8)
  | [] => [pre]
  | p :: ps => (pre ++ p) :: ps
def words : List UInt8 → List (List UInt8)
  | [] => [[]]
  | b :: l => if b = 32 then [] :: words l else glue [b] (words l)
theorem words_ne : ∀ l : List UInt8, words l ≠ []
  | [] => by simp [words]
  | b :: l => by
    unfold words
    split
    · simp
    · cases words l <;> simp [glue]
theorem glue_nil {l : List (List UInt8)} (h : l ≠ []) : glue [] l = l := by cases l with
  | nil => exact absurd rfl h
  | cons p ps => rfl
theorem glue_glue (a b : List UInt8) (l : List (List UInt8)) : glue a (glue b l) = glue (a ++ b) l := by cases l <;> simp [glue]
theorem glue_len {a : List UInt8} {l : List (List UInt8)} (h : l ≠ []) : (glue a l).length = l.length := by cases l with
  | nil => exact absurd rfl h
  | cons p ps => rfl
theorem words_app : ∀ (a b : List UInt8), words (a ++ 32 :: b) = words a ++ words b
  | [], b => by simp [words]
  | c :: a, b => by
    have ih := words_app a b
    rw [List.cons_append]
    by_cases hc : c = 32
    · simp [words, hc, ih]
    · simp only [words, if_neg hc, ih]
      cases h : words a with
      | nil => exact absurd h (words_ne a)
      | cons p ps => rfl
theorem words_one : ∀ {a : List UInt8}, (∀ b ∈ a, b ≠ 32) → words a = [a]
  | [], _ => rfl
  | b :: l, h => by
    have hb := h b (List.mem_cons_self ..)
    unfold words
    rw [if_neg hb, words_one (fun x hx => h x (List.mem_cons_of_mem _ hx))]
    rfl
theorem words_le : ∀ l : List UInt8, (words l).length ≤ l.length + 1
  | [] => by simp [words]
  | b :: l => by
    have ih := words_le l
    unfold words
    split
    · simp; omega
    · rw [glue_len (words_ne l)]; simp; omega
def cutW : Nat → List UInt8 → List (List UInt8)
  | 0, s => [s]
  | _ + 1, [] => [[]]
  | k + 1, b :: l => if b = 32 then [] :: cutW k l else glue [b] (cutW (k + 1) l)
theorem cutW_ne : ∀ (k : Nat) (l : List UInt8), cutW k l ≠ []
  | 0, l => by simp [cutW]
  | k + 1, [] => by simp [cutW]
  | k + 1, b :: l => by
    unfold cutW
    split
    · simp
    · cases cutW (k + 1) l <;> simp [glue]
theorem split_cut : ∀ (s : List UInt8) (k : Nat), Lib.splitK [32] 0 k s = cutW k s
  | s, 0 => by unfold cutW; rfl
  | [], k + 1 => rfl
  | b :: l, k + 1 => by
    have ih := split_cut l
    unfold cutW
    split
    · rename_i e
      subst e
      have e0 : Lib.index (32 :: l) [32] = 0 := by simp [Lib.index]
      rw [← ih]
      simp [Lib.splitK, e0]
    · rename_i hne
      rw [← ih]
      have e1 : Lib.index (b :: l) [32] = if Lib.index l [32] == -1 then -1 else Lib.index l [32] + 1 := by
        have : (32 == b) = false := by simp; exact fun h => hne h.symm
        simp [Lib.index, List.isPrefixOf, this]
      have hge := Lib.index_ge l [32]
      simp only [Lib.splitK, e1]
      cases hq : (Lib.index l [32] == -1)
      · have hq' : Lib.index l [32] ≠ -1 := by simpa using hq
        have e2 : (Lib.index l [32] + 1 == -1) = false := by simp; omega
        have e3 : (Lib.index l [32] + 1).toNat = (Lib.index l [32]).toNat + 1 := by omega
        simp [e2, e3, glue]
      · simp [glue]
theorem words_single : ∀ {s : List UInt8}, (words s).length ≤ 1 → words s = [s]
  | [], _ => rfl
  | b :: l, h => by
    unfold words at h ⊢
    split at h
    · have := words_ne l
      cases hw : words l with
      | nil => exact absurd hw this
      | cons p ps => rw [hw] at h; simp at h
    · rename_i hne
      rw [if_neg hne]
      rw [glue_len (words_ne l)] at h
      rw [words_single h]
      rfl
theorem cutW_words : ∀ (s : List UInt8) (k : Nat), (cutW k s).length = min (k + 1) (words s).length ∧ ((words s).length ≤ k + 1 → cutW k s = words s)
  | s, 0 => by
    have := List.length_pos_iff.2 (words_ne s)
    unfold cutW
    refine ⟨by simp; omega, fun h => (words_single (by omega)).symm⟩
  | [], k + 1 => by simp [cutW, words]
  | b :: l, k + 1 => by
    unfold cutW words
    split
    · obtain ⟨h1, h2⟩ := cutW_words l k
      refine ⟨by simp only [List.length_cons, h1]; omega, fun h => ?_⟩
      rw [h2 (by simp at h; omega)]
    · obtain ⟨h1, h2⟩ := cutW_words l (k + 1)
      rw [glue_len (words_ne l), glue_len (cutW_ne _ l)]
      exact ⟨h1, fun h => by rw [h2 h]⟩
theorem cut_data (v : ByteArray) : (cutB v).map (·.data.toList) = cutW (min 5 (v.size + 1) - 1) v.data.toList := by
  unfold cutB
  rw [Lib.splitB_data, ← split_cut]
  rfl
theorem cut_many (v : ByteArray) : 4 < (cutB v).length ↔ 4 < (words v.data.toList).length := by
  have h1 := congrArg List.length (cut_data v)
  rw [List.length_map, (cutW_words _ _).1] at h1
  have h2 := words_le v.data.toList
  rw [← Lib.size_eq] at h2
  omega
theorem cut_few (v : ByteArray) (h : ¬ 4 < (words v.data.toList).length) : (cutB v).map (·.data.toList) = words v.data.toList := by
  rw [cut_data]
  refine (cutW_words _ _).2 ?_
  have h2 := words_le v.data.toList
  rw [← Lib.size_eq] at h2
  omega
theorem cut_pos (v : ByteArray) : 0 < (cutB v).length := by
  have h1 := congrArg List.length (cut_data v)
  rw [List.length_map] at h1
  have := List.length_pos_iff.2 (cutW_ne (min 5 (v.size + 1) - 1) v.data.toList)
  omega
theorem cut_le (v : ByteArray) : (cutB v).length ≤ 5 := by
  have h1 := congrArg List.length (cut_data v)
  rw [List.length_map, (cutW_words _ _).1] at h1
  omega
theorem data_inj : ∀ {a b : List ByteArray}, a.map (·.data.toList) = b.map (·.data.toList) → a = b
  | [], [], _ => rfl
  | [], _ :: _, h => by cases h
  | _ :: _, [], h => by cases h
  | x :: a, y :: b, h => by
    injection h with h1 h2
    rw [ByteArray.ext (Array.toList_inj.1 h1), data_inj h2]
theorem cut_eq {v : ByteArray} {l : List ByteArray} (h : l.map (·.data.toList) = words v.data.toList) : (4 < l.length ↔ 4 < (cutB v).length) ∧ (¬ 4 < l.length → cutB v = l) := by
  have hl := congrArg List.length h
  rw [List.length_map] at hl
  refine ⟨by rw [cut_many, hl], fun h4 => data_inj ?_⟩
  rw [h, cut_few v (by omega)]
def cN : ByteArray := ⟨#[99, 111, 108, 111, 114]⟩
def zN : ByteArray := ⟨#[115, 105, 122, 101]⟩
end Go.Proofs.YtblkldfokeeaeacGreatDoor
namespace Go.Proofs.YtblkldfokeeaeacGreatDoor
structure Cl where
  d : Dc
  own : Bool
  w : Wt
def lessW (x y : Wt) : Bool := decide (x.a < y.a ∨ (x.a = y.a ∧ (x.b < y.b ∨ (x.b = y.b ∧ x.c < y.c))))
theorem lessW_cmp (x y : Wt) : lessW x y = decide (cmp3 x y < 0) := by
  unfold lessW cmp3
  repeat' split
  all_goals simp <;> omega
def beats (b a : Cl) : Bool := if a.d.strong == b.d.strong then (if a.own == b.own then !lessW b.w a.w else b.own) else b.d.strong
theorem beats_refl (a : Cl) : beats a a = true := by
  simp [beats, lessW]
theorem beats_trans {a b c : Cl} (h : beats b a = true) (k : beats c b = true) : beats c a = true := by
  obtain ⟨⟨_, _, s1⟩, o1, ⟨x1, y1, z1⟩⟩ := a
  obtain ⟨⟨_, _, s2⟩, o2, ⟨x2, y2, z2⟩⟩ := b
  obtain ⟨⟨_, _, s3⟩, o3, ⟨x3, y3, z3⟩⟩ := c
  unfold beats lessW at *
  simp only at h k ⊢
  cases s1 <;> cases s2 <;> cases s3 <;> cases o1 <;> cases o2 <;> cases o3 <;> simp_all <;> omega
theorem beats_total {a b : Cl} (h : beats b a = false) : beats a b = true := by
  obtain ⟨⟨_, _, s1⟩, o1, ⟨x1, y1, z1⟩⟩ := a
  obtain ⟨⟨_, _, s2⟩, o2, ⟨x2, y2, z2⟩⟩ := b
  unfold beats lessW at *
  simp only at h ⊢
  cases s1 <;> cases s2 <;> cases o1 <;> cases o2 <;> simp_all <;> omega
def merge : Option Cl → Option Cl → Option Cl
  | none, b => b
  | some a, none => some a
  | some a, some b => if beats b a then some b else some a
theorem merge_none (a : Option Cl) : merge a none = a := by cases a <;> rfl
theorem merge_assoc (a b c : Option Cl) : merge (merge a b) c = merge a (merge b c) := by
  cases a with
  | none => rfl
  | some a =>
    cases b with
    | none => rfl
    | some b =>
      cases c with
      | none => rw [merge_none, merge_none]
      | some c =>
        simp only [merge]
        by_cases h1 : beats b a = true <;> by_cases h2 : beats c b = true
        · have := beats_trans h1 h2
          simp [h1, h2, this]
        · simp [h1, h2]
        · by_cases h3 : beats c a = true <;> simp [h1, h2, h3]
        · have h2' : beats c b = false := by simpa using h2
          have h1' : beats b a = false := by simpa using h1
          have h3 : ¬ beats c a = true := fun h => by
            have h4 := beats_total h1'
            have h5 := beats_trans h4 h
            rw [h2'] at h5
            cases h5
          simp [h1, h2, h3]
def nm (d : Dc) : List UInt8 := d.name.data.toList
def one (n : List UInt8) (c : Cl) : Option Cl := if nm c.d = n then some c else none
def win (n : List UInt8) : List Cl → Option Cl
  | [] => none
  | c :: cs => merge (one n c) (win n cs)
theorem win_append (n : List UInt8) : ∀ a b : List Cl, win n (a ++ b) = merge (win n a) (win n b)
  | [], b => rfl
  | c :: a, b => by
    show merge (one n c) (win n (a ++ b)) = merge (merge (one n c) (win n a)) (win n b)
    rw [win_append n a b, merge_assoc]
theorem win_name {n : List UInt8} : ∀ {cs : List Cl} {c : Cl}, win n cs = some c → c ∈ cs ∧ nm c.d = n
  | [], c, h => by cases h
  | x :: cs, c, h => by
    unfold win one at h
    by_cases hx : nm x.d = n
    · rw [if_pos hx] at h
      cases hw : win n cs with
      | none => rw [hw] at h; injection h with h; subst h; exact ⟨List.mem_cons_self .., hx⟩
      | some y =>
        rw [hw] at h
        simp only [merge] at h
        obtain ⟨h1, h2⟩ := win_name hw
        split at h
        · injection h with h; subst h; exact ⟨List.mem_cons_of_mem _ h1, h2⟩
        · injection h with h; subst h; exact ⟨List.mem_cons_self .., hx⟩
    · rw [if_neg hx] at h
      obtain ⟨h1, h2⟩ := win_name (show win n cs = some c from h)
      exact ⟨List.mem_cons_of_mem _ h1, h2⟩
theorem win_beats {n : List UInt8} : ∀ {cs : List Cl} {x : Cl}, x ∈ cs → nm x.d = n → ∃ c, win n cs = some c ∧ beats c x = true
  | [], x, h, _ => by cases h
  | y :: cs, x, h, hn => by
    show ∃ c, merge (one n y) (win n cs) = some c ∧ _
    rcases List.mem_cons.1 h with rfl | h
    · unfold one
      rw [if_pos hn]
      cases hw : win n cs with
      | none => exact ⟨x, rfl, beats_refl x⟩
      | some z =>
        simp only [merge]
        split
        · rename_i hb; exact ⟨z, rfl, hb⟩
        · exact ⟨x, rfl, beats_refl x⟩
    · obtain ⟨c, hc, hb⟩ := win_beats h hn
      rw [hc]
      unfold one
      split
      · simp only [merge]
        split
        · exact ⟨c, rfl, hb⟩
        · rename_i hq
          exact ⟨y, rfl, beats_trans hb (beats_total (by simpa using hq))⟩
      · exact ⟨c, rfl, hb⟩
def lookF (cs : List Cl) (n : List UInt8) : Option Dc := (win n cs).map (·.d)
def IsLook (L : List Dc) (f : List UInt8 → Option Dc) : Prop := L.Pairwise (fun x y => nm x < nm y) ∧ ∀ n x, f n = some x ↔ x ∈ L ∧ nm x = n
theorem look_unique : ∀ {L M : List Dc}, L.Pairwise (fun x y => nm x < nm y) → M.Pairwise (fun x y => nm x < nm y) → (∀ x, x ∈ L ↔ x ∈ M) → L = M
  | [], [], _, _, _ => rfl
  | [], y :: M, _, _, h => absurd ((h y).2 (List.mem_cons_self ..)) (by simp)
  | x :: L, [], _, _, h => absurd ((h x).1 (List.mem_cons_self ..)) (by simp)
  | x :: L, y :: M, hL, hM, h => by
    obtain ⟨l1, l2⟩ := List.pairwise_cons.1 hL
    obtain ⟨m1, m2⟩ := List.pairwise_cons.1 hM
    have hxy : x = y := by
      rcases List.mem_cons.1 ((h x).1 (List.mem_cons_self ..)) with e | hx
      · exact e
      · rcases List.mem_cons.1 ((h y).2 (List.mem_cons_self ..)) with e | hy
        · exact e.symm
        · exact absurd (List.lt_trans (l1 y hy) (m1 x hx)) (List.lt_irrefl _)
    subst hxy
    rw [look_unique l2 m2 fun z => ?_]
    constructor
    · intro hz
      rcases List.mem_cons.1 ((h z).1 (List.mem_cons_of_mem _ hz)) with e | e
      · subst e; exact absurd (l1 z hz) (List.lt_irrefl _)
      · exact e
    · intro hz
      rcases List.mem_cons.1 ((h z).2 (List.mem_cons_of_mem _ hz)) with e | e
      · subst e; exact absurd (m1 z hz) (List.lt_irrefl _)
      · exact e
theorem IsLook.same {L M : List Dc} {f g : List UInt8 → Option Dc} (h : IsLook L f) (k : IsLook M g) (e : ∀ n, f n = g n) : L = M := by
  refine look_unique h.1 k.1 fun x => ?_
  have h1 := h.2 (nm x) x
  have k1 := k.2 (nm x) x
  rw [e] at h1
  constructor
  · intro hx; exact (k1.1 (h1.2 ⟨hx, rfl⟩)).1
  · intro hx; exact (h1.1 (k1.2 ⟨hx, rfl⟩)).1
end Go.Proofs.YtblkldfokeeaeacGreatDoor
namespace Go.Proofs.YtblkldfokeeaeacGreatDoor
structure Ru where
  media : ByteArray
  sels : List (List Pt)
  decls : List Dc
  rf : Int
  rt : Int
def bestB (l : List Nd) (k : Int) (ss : List (List Pt)) : Wt × Bool := bestTo l k ss (w00, false)
def counts (md : ByteArray) (media : List ByteArray) : Bool := md.toList.isEmpty || media.any fun m => m.toList == md.toList
def asC (own : Bool) (w : Wt) (ds : List Dc) : List Cl := ds.map fun d => ⟨d, own, w⟩
def ruleC (l : List Nd) (k : Int) (media : List ByteArray) (r : Ru) : Option (List Cl) :=
  if counts r.media media && (bestB l k r.sels).2 then (allB r.decls).map (asC false (bestB l k r.sels).1) else some []
def rulesC (l : List Nd) (k : Int) (media : List ByteArray) : List Ru → Option (List Cl)
  | [] => some []
  | r :: rs => (ruleC l k media r).bind fun x => (rulesC l k media rs).map (x ++ ·)
theorem rulesC_append (l : List Nd) (k : Int) (media : List ByteArray) : ∀ a b : List Ru, rulesC l k media (a ++ b) = (rulesC l k media a).bind fun x => (rulesC l k media b).map (x ++ ·)
  | [], b => by
    show rulesC l k media b = (some []).bind _
    simp
  | r :: a, b => by
    show (ruleC l k media r).bind (fun x => (rulesC l k media (a ++ b)).map (x ++ ·)) = ((ruleC l k media r).bind fun x => (rulesC l k media a).map (x ++ ·)).bind _
    rw [rulesC_append l k media a b]
    cases ruleC l k media r <;> cases rulesC l k media a <;> cases rulesC l k media b <;> simp
def styleN : ByteArray := ⟨#[115, 116, 121, 108, 101]⟩
section
variable (sty : ByteArray → Except Int (List Dc))
def ownC (x : Nd) : Except Int (List Cl) := match sty ((getA styleN x.attrs).getD ⟨#[]⟩) with
  | .error e => .error e
  | .ok d => match allB d with
    | none => .error 5
    | some a => .ok (asC true w00 a)
def claimsB (l : List Nd) (k : Int) (rules : List Ru) (media : List ByteArray) : Except Int (List Cl) :=
  if inB l k then match rulesC l k media rules with
    | none => .error 5
    | some a => match ownC sty (ndAt l k.toNat) with
      | .error e => .error e
      | .ok b => .ok (a ++ b)
  else .error 6
def Alike : Except Int (List Cl) → Except Int (List Cl) → Prop
  | .error a, .error b => a = b
  | .ok a, .ok b => ∀ n, lookF a n = lookF b n
  | _, _ => False
theorem Alike.refl (x : Except Int (List Cl)) : Alike x x := by
  cases x with
  | error a => exact rfl
  | ok a => exact fun _ => rfl
end
def mergeD : Option Dc → Option Dc → Option Dc
  | none, b => b
  | some a, none => some a
  | some a, some b => if (if a.strong == b.strong then true else b.strong) then some b else some a
def pick (n : List UInt8) : List Dc → Option Dc
  | [] => none
  | d :: l => mergeD (if nm d = n then some d else none) (pick n l)
theorem win_asC (n : List UInt8) (own : Bool) (w : Wt) : ∀ D : List Dc, win n (asC own w D) = (pick n D).map fun d => ⟨d, own, w⟩
  | [] => rfl
  | d :: D => by
    show merge (one n ⟨d, own, w⟩) (win n (asC own w D)) = _
    rw [win_asC n own w D]
    show merge (one n ⟨d, own, w⟩) _ = (mergeD (if nm d = n then some d else none) (pick n D)).map _
    unfold one
    have hl : lessW w w = false := by simp [lessW]
    split
    · cases pick n D with
      | none => rfl
      | some e =>
        simp only [Option.map_some, merge, mergeD, beats, hl, beq_self_eq_true, if_true, Bool.not_false]
        cases (d.strong == e.strong) <;> cases e.strong <;> rfl
    · cases pick n D <;> rfl
end Go.Proofs.YtblkldfokeeaeacGreatDoor
namespace Go.Proofs.YtblkldfokeeaeacGreatDoor
theorem win_snoc (n : List UInt8) (cs : List Cl) (c : Cl) : win n (cs ++ [c]) = merge (win n cs) (one n c) := by
  rw [win_append]
  show merge _ (merge (one n c) none) = _
  rw [merge_none]
theorem win_put (cs : List Cl) (c : Cl) : win (nm c.d) (cs ++ [c]) = match win (nm c.d) cs with
    | none => some c
    | some a => if beats c a then some c else some a := by
  rw [win_snoc]
  unfold one
  rw [if_pos rfl]
  cases win (nm c.d) cs <;> rfl
theorem win_other {n : List UInt8} (cs : List Cl) {c : Cl} (h : nm c.d ≠ n) : win n (cs ++ [c]) = win n cs := by
  rw [win_snoc]
  unfold one
  rw [if_neg h, merge_none]
theorem look_of_keys {f : List UInt8 → Option Dc} (hf : ∀ n x, f n = some x → nm x = n) : ∀ {ks : List (List UInt8)}, ks.Pairwise (· < ·) → (∀ n, (f n).isSome = true ↔ n ∈ ks) → IsLook (ks.filterMap f) f := by
  intro ks hp hk
  refine ⟨?_, fun n x => ?_⟩
  · rw [List.pairwise_filterMap]
    refine hp.imp ?_
    intro a b hab x hx y hy
    rw [hf _ _ hx, hf _ _ hy]
    exact hab
  · constructor
    · intro h
      exact ⟨List.mem_filterMap.2 ⟨n, (hk n).1 (by rw [h]; rfl), h⟩, hf _ _ h⟩
    · rintro ⟨h, rfl⟩
      obtain ⟨m, _, hm⟩ := List.mem_filterMap.1 h
      rw [hf _ _ hm]
      exact hm
theorem lookF_name (cs : List Cl) (n : List UInt8) (x : Dc) (h : lookF cs n = some x) : nm x = n := by
  unfold lookF at h
  cases hw : win n cs with
  | none => rw [hw] at h; cases h
  | some c =>
    rw [hw] at h
    injection h with h
    rw [← h]
    exact (win_name hw).2
section
variable (sty : ByteArray → Except Int (List Dc)) (inh : ByteArray → Bool) (ini : ByteArray → ByteArray)
def valueB (l : List Nd) (rules : List Ru) (media : List ByteArray) (name : ByteArray) (k : Nat) : Except Int ByteArray :=
  match claimsB sty l k rules media with
  | .error e => .error e
  | .ok cs => match lookF cs name.data.toList with
    | some d => .ok d.val
    | none => if _h : inh name = true ∧ 0 ≤ par l k ∧ par l k < k then valueB l rules media name (par l k).toNat else .ok (ini name)
termination_by k
decreasing_by omega
theorem value_there {l : List Nd} {rules : List Ru} {media : List ByteArray} {name : ByteArray} {k : Nat} {cs : List Cl} {d : Dc} (h : claimsB sty l k rules media = .ok cs) (hd : lookF cs name.data.toList = some d) : valueB sty inh ini l rules media name k = .ok d.val := by
  rw [valueB, h]
  simp only [hd]
theorem value_up {l : List Nd} {rules : List Ru} {media : List ByteArray} {name : ByteArray} {k : Nat} {cs : List Cl} (h : claimsB sty l k rules media = .ok cs) (hd : lookF cs name.data.toList = none) (hi : inh name = true) (h0 : 0 ≤ par l k) (h1 : par l k < k) :
    valueB sty inh ini l rules media name k = valueB sty inh ini l rules media name (par l k).toNat := by
  rw [valueB, h]
  simp only [hd]
  rw [dif_pos ⟨hi, h0, h1⟩]
theorem value_end {l : List Nd} {rules : List Ru} {media : List ByteArray} {name : ByteArray} {k : Nat} {cs : List Cl} (h : claimsB sty l k rules media = .ok cs) (hd : lookF cs name.data.toList = none) (hn : ¬ (inh name = true ∧ 0 ≤ par l k ∧ par l k < k)) :
    valueB sty inh ini l rules media name k = .ok (ini name) := by
  rw [valueB, h]
  simp only [hd]
  rw [dif_neg hn]
end
end Go.Proofs.YtblkldfokeeaeacGreatDoor
