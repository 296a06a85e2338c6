/- Texts that the statement's proof stands on: CFold, Sim, PrintP, Fold, Rest, FSpec, FRead. -/
import Derived.Test.YtblkldfokeeaeacGreatDoorB05
import Derived.Test.YtblkldfokeeaeacGreatDoorB02
import Derived.Test.YtblkldfokeeaeacGreatDoorB04
namespace Go.Proofs.YtblkldfokeeaeacGreatDoor
theorem win_no {n : List UInt8} : ∀ {cs : List Cl}, (∀ c ∈ cs, nm c.d ≠ n) → win n cs = none
  | [], _ => rfl
  | c :: cs, h => by
    show merge (one n c) (win n cs) = none
    rw [win_no (fun x hx => h x (List.mem_cons_of_mem _ hx))]
    unfold one
    rw [if_neg (h c (List.mem_cons_self ..))]
    rfl
theorem pick_look {f : List UInt8 → Option Dc} {L : List Dc} (h : IsLook L f) (n : List UInt8) : pick n L = f n := by
  obtain ⟨hp, hm⟩ := h
  have key : ∀ {L : List Dc}, L.Pairwise (fun x y => nm x < nm y) → ∀ x, pick n L = some x ↔ x ∈ L ∧ nm x = n := by
    intro L
    induction L with
    | nil => intro _ x; simp [pick]
    | cons d L ih =>
      intro hp x
      obtain ⟨h1, h2⟩ := List.pairwise_cons.1 hp
      have ih := ih h2
      show mergeD (if nm d = n then some d else none) (pick n L) = some x ↔ _
      by_cases hd : nm d = n
      · rw [if_pos hd]
        have hno : pick n L = none := by
          cases hq : pick n L with
          | none => rfl
          | some y =>
            obtain ⟨hy1, hy2⟩ := (ih y).1 hq
            have := h1 y hy1
            rw [hd, hy2] at this
            exact absurd this (List.lt_irrefl _)
        rw [hno]
        constructor
        · intro e
          injection e with e
          subst e
          exact ⟨List.mem_cons_self .., hd⟩
        · rintro ⟨hx, hn⟩
          rcases List.mem_cons.1 hx with rfl | hx
          · rfl
          · have := (ih x).2 ⟨hx, hn⟩
            rw [hno] at this
            cases this
      · rw [if_neg hd]
        show pick n L = some x ↔ _
        rw [ih x]
        constructor
        · rintro ⟨hx, hn⟩; exact ⟨List.mem_cons_of_mem _ hx, hn⟩
        · rintro ⟨hx, hn⟩
          rcases List.mem_cons.1 hx with rfl | hx
          · exact absurd hn hd
          · exact ⟨hx, hn⟩
  cases hf : f n with
  | some x => exact (key hp x).2 ((hm n x).1 hf)
  | none =>
    cases hq : pick n L with
    | none => rfl
    | some x =>
      have := (hm n x).2 ((key hp x).1 hq)
      rw [hf] at this
      cases this
abbrev Fc := List Cl × Bool
def allCl (R : List Fc) : List Cl := R.flatMap (·.1)
def stayCl (R : List Fc) : List Cl := (R.filter (·.2)).flatMap (·.1)
def goCl (R : List Fc) : List Cl := (R.filter (fun x => !x.2)).flatMap (·.1)
def Apart (R : List Fc) : Prop := ∀ x ∈ stayCl R, ∀ y ∈ goCl R, nm x.d ≠ nm y.d
theorem win_stay {n : List UInt8} : ∀ {R : List Fc}, (∀ y ∈ goCl R, nm y.d ≠ n) → win n (allCl R) = win n (stayCl R)
  | [], _ => rfl
  | (c, b) :: R, h => by
    cases b
    · have h1 : ∀ y ∈ c, nm y.d ≠ n := fun y hy => h y (by unfold goCl; simp; exact .inl hy)
      have h2 : ∀ y ∈ goCl R, nm y.d ≠ n := fun y hy => h y (by unfold goCl at hy ⊢; simp at hy ⊢; exact .inr hy)
      show win n (c ++ allCl R) = win n (stayCl R)
      rw [win_append, win_no h1, win_stay h2]; rfl
    · have h2 : ∀ y ∈ goCl R, nm y.d ≠ n := fun y hy => h y hy
      show win n (c ++ allCl R) = win n (c ++ stayCl R)
      rw [win_append, win_append, win_stay h2]
theorem win_go {n : List UInt8} : ∀ {R : List Fc}, (∀ y ∈ stayCl R, nm y.d ≠ n) → win n (allCl R) = win n (goCl R)
  | [], _ => rfl
  | (c, b) :: R, h => by
    cases b
    · have h2 : ∀ y ∈ stayCl R, nm y.d ≠ n := fun y hy => h y hy
      show win n (c ++ allCl R) = win n (c ++ goCl R)
      rw [win_append, win_append, win_go h2]
    · have h1 : ∀ y ∈ c, nm y.d ≠ n := fun y hy => h y (by unfold stayCl; simp; exact .inl hy)
      have h2 : ∀ y ∈ stayCl R, nm y.d ≠ n := fun y hy => h y (by unfold stayCl at hy ⊢; simp at hy ⊢; exact .inr hy)
      show win n (c ++ allCl R) = win n (goCl R)
      rw [win_append, win_no h1, win_go h2]; rfl
theorem same_look {R : List Fc} {O L : List Dc} (ha : Apart R) (hL : IsLook L (lookF (goCl R ++ asC true w00 O))) (n : List UInt8) : lookF (allCl R ++ asC true w00 O) n = lookF (stayCl R ++ asC true w00 L) n := by
  have hpl : win n (asC true w00 L) = (lookF (goCl R ++ asC true w00 O) n).map fun d => ⟨d, true, w00⟩ := by rw [win_asC, pick_look hL]
  have hpo : win n (asC true w00 O) = (pick n O).map fun d => ⟨d, true, w00⟩ := win_asC n true w00 O
  by_cases hs : ∃ x ∈ stayCl R, nm x.d = n
  · obtain ⟨x, hx, hn⟩ := hs
    have hg : ∀ y ∈ goCl R, nm y.d ≠ n := fun y hy e => ha x hx y hy (by rw [hn, e])
    have e1 : win n (asC true w00 L) = win n (asC true w00 O) := by
      rw [hpl]
      unfold lookF
      rw [win_append, win_no hg, hpo]
      cases pick n O <;> rfl
    unfold lookF
    rw [win_append, win_append, win_stay hg, e1]
  · have hs' : ∀ y ∈ stayCl R, nm y.d ≠ n := fun y hy e => hs ⟨y, hy, e⟩
    have e2 : lookF (stayCl R ++ asC true w00 L) n = (win n (asC true w00 L)).map (·.d) := by
      unfold lookF; rw [win_append, win_no hs']; rfl
    rw [e2, hpl]
    have e3 : lookF (allCl R ++ asC true w00 O) n = lookF (goCl R ++ asC true w00 O) n := by
      unfold lookF; rw [win_append, win_append, win_go hs']
    rw [e3]
    cases lookF (goCl R ++ asC true w00 O) n <;> rfl
theorem own_enough {R : List Fc} {O L X : List Dc} (hL : IsLook L (lookF (goCl R ++ asC true w00 O))) (hX : IsLook X (lookF (allCl R ++ asC true w00 O))) {d : Dc} (hd : d ∈ X) (hs : ∀ y ∈ stayCl R, nm y.d ≠ nm d) : d ∈ L := by
  have h1 := (hX.2 (nm d) d).2 ⟨hd, rfl⟩
  have e3 : lookF (allCl R ++ asC true w00 O) (nm d) = lookF (goCl R ++ asC true w00 O) (nm d) := by
    unfold lookF; rw [win_append, win_append, win_go hs]
  rw [e3] at h1
  exact ((hL.2 (nm d) d).1 h1).1
theorem own_again {L M : List Dc} {f : List UInt8 → Option Dc} (hL : IsLook L f) (hM : IsLook M (lookF ([] ++ asC true w00 L))) : M = L := by
  refine hM.same hL fun n => ?_
  unfold lookF
  rw [List.nil_append, win_asC, pick_look hL]
  cases f n <;> rfl
end Go.Proofs.YtblkldfokeeaeacGreatDoor
namespace Go.Proofs.YtblkldfokeeaeacGreatDoor
structure Sim (l m : List Nd) : Prop where
  len : l.length = m.length
  nme : ∀ k, (ndAt l k).name = (ndAt m k).name
  par : ∀ k, par l k = par m k
  get : ∀ (k : Nat) (n : ByteArray), n.toList ≠ styleN.toList → getA n (ndAt l k).attrs = getA n (ndAt m k).attrs
def TsOk (t : Ts) : Prop := (t.kind = 4 ∨ t.kind = 5) → t.name.toList ≠ styleN.toList
def SelOk (s : List Pt) : Prop := ∀ p ∈ s, ∀ t ∈ p.tests, TsOk t
section
variable {l m : List Nd} (H : Sim l m)
include H
theorem Sim.aheadTo (p : Int) : ∀ k, aheadTo l p k = aheadTo m p k
  | 0 => rfl
  | k + 1 => by
    show (if YtblkldfokeeaeacGreatDoor.par l k = p then (k : Int) else YtblkldfokeeaeacGreatDoor.aheadTo l p k) = if YtblkldfokeeaeacGreatDoor.par m k = p then (k : Int) else YtblkldfokeeaeacGreatDoor.aheadTo m p k
    rw [H.par k, Sim.aheadTo p k]
theorem Sim.ahead (k : Nat) : ahead l k = ahead m k := by
  unfold YtblkldfokeeaeacGreatDoor.ahead; rw [H.par k, H.aheadTo]
theorem Sim.testB (k : Nat) {t : Ts} (ht : TsOk t) : testB l k t = testB m k t := by
  have hc := H.get k clsN (by decide +kernel)
  have hi := H.get k idN (by decide +kernel)
  unfold YtblkldfokeeaeacGreatDoor.testB clsOf attrB
  rw [H.nme k, hc, hi, H.ahead k]
  by_cases h4 : t.kind = 4 ∨ t.kind = 5
  · rw [H.get k t.name (ht h4)]
  · have h4' : ¬ t.kind = 4 := fun e => h4 (.inl e)
    have h5' : ¬ t.kind = 5 := fun e => h4 (.inr e)
    simp only [if_neg h4', if_neg h5']
theorem Sim.partB (k : Nat) {p : Pt} (hp : ∀ t ∈ p.tests, TsOk t) : partB l k p = partB m k p := by
  unfold YtblkldfokeeaeacGreatDoor.partB
  generalize p.tests = ts at *
  induction ts with
  | nil => rfl
  | cons t ts ih =>
    simp only [List.all_cons]
    rw [H.testB k (hp t (List.mem_cons_self ..)), ih (fun x hx => hp x (List.mem_cons_of_mem _ hx))]
theorem Sim.aboves : ∀ k, aboves l k = aboves m k := by
  intro k
  induction k using Nat.strongRecOn with
  | _ k ih =>
    by_cases h : 0 ≤ YtblkldfokeeaeacGreatDoor.par l k ∧ YtblkldfokeeaeacGreatDoor.par l k < k
    · have h' : 0 ≤ YtblkldfokeeaeacGreatDoor.par m k ∧ YtblkldfokeeaeacGreatDoor.par m k < k := by rw [← H.par k]; exact h
      rw [aboves_pos h.1 h.2, aboves_pos h'.1 h'.2, ← H.par k, ih (YtblkldfokeeaeacGreatDoor.par l k).toNat (by omega)]
    · have h' : ¬ (0 ≤ YtblkldfokeeaeacGreatDoor.par m k ∧ YtblkldfokeeaeacGreatDoor.par m k < k) := by rw [← H.par k]; exact h
      rw [aboves_neg h, aboves_neg h']
theorem Sim.ups (k : Nat) (j : Int) : ups l k j = ups m k j := by
  unfold YtblkldfokeeaeacGreatDoor.ups single
  rw [H.aboves k, H.par k, H.ahead k, H.len]
theorem Sim.rest {s : List Pt} (hs : SelOk s) : ∀ (i x : Nat), rest l s i x = rest m s i x
  | 0, _ => rfl
  | i + 1, x => by
    show (YtblkldfokeeaeacGreatDoor.ups l x (ptAt s (i + 1)).join).any (fun y => YtblkldfokeeaeacGreatDoor.partB l y (ptAt s i) && YtblkldfokeeaeacGreatDoor.rest l s i y) = (YtblkldfokeeaeacGreatDoor.ups m x (ptAt s (i + 1)).join).any fun y => YtblkldfokeeaeacGreatDoor.partB m y (ptAt s i) && YtblkldfokeeaeacGreatDoor.rest m s i y
    rw [H.ups]
    congr 1
    funext y
    have hp : ∀ t ∈ (ptAt s i).tests, TsOk t := by
      by_cases hi : i < s.length
      · rw [ptAt_eq hi]; exact hs _ (List.getElem_mem hi)
      · have : ptAt s i = pt0 := by simp [ptAt, List.getD, hi]
        rw [this]; intro t ht; cases ht
    rw [H.partB y hp, Sim.rest hs i y]
theorem Sim.matchB (k : Int) {s : List Pt} (hs : SelOk s) : matchB l k s = matchB m k s := by
  unfold YtblkldfokeeaeacGreatDoor.matchB inB meansB
  have hp : ∀ t ∈ (ptAt s (s.length - 1)).tests, TsOk t := by
    by_cases hi : s.length - 1 < s.length
    · rw [ptAt_eq hi]; exact hs _ (List.getElem_mem hi)
    · have : ptAt s (s.length - 1) = pt0 := by simp [ptAt, List.getD, hi]
      rw [this]; intro t ht; cases ht
  rw [H.len, H.partB _ hp, H.rest hs]
theorem Sim.bestTo (k : Int) : ∀ (ss : List (List Pt)) (acc : Wt × Bool), (∀ s ∈ ss, SelOk s) → bestTo l k ss acc = bestTo m k ss acc
  | [], _, _ => rfl
  | s :: ss, acc, h => by
    unfold YtblkldfokeeaeacGreatDoor.bestTo
    rw [H.matchB k (h s (List.mem_cons_self ..)), Sim.bestTo k ss _ (fun x hx => h x (List.mem_cons_of_mem _ hx))]
theorem Sim.ruleC (k : Int) (media : List ByteArray) {r : Ru} (h : ∀ s ∈ r.sels, SelOk s) : ruleC l k media r = ruleC m k media r := by
  unfold YtblkldfokeeaeacGreatDoor.ruleC bestB
  rw [H.bestTo k r.sels _ h]
end
end Go.Proofs.YtblkldfokeeaeacGreatDoor
namespace Go.Proofs.YtblkldfokeeaeacGreatDoor.Sh
theorem read_print {l : List Dcl} (h20 : l.length ≤ 20) (hok : ∀ d ∈ l, DclOK d) : declsParse (printL l) = .ok l ∧ (printL l).length ≤ 1900 := by
  have hb : ∀ d ∈ l, d.name.length ≤ 20 ∧ d.val.length ≤ 60 := fun d hd => by
    obtain ⟨⟨c, t, e, _, _, h1⟩, ⟨ws, _, _, _, h2⟩⟩ := hok d hd
    exact ⟨h1, h2⟩
  have hlen : ∀ (l : List Dcl), (∀ d ∈ l, d.name.length ≤ 20 ∧ d.val.length ≤ 60) → (printL l).length ≤ l.length * 95 := by
    intro l
    induction l with
    | nil => intro _; simp [printL]
    | cons d l ih =>
      intro hl
      have h1 := ih (fun x hx => hl x (List.mem_cons_of_mem _ hx))
      have h2 := hl d (by simp)
      have h3 : (printOne d).length ≤ 93 := by
        unfold printOne
        split <;> simp [importantL] <;> omega
      rw [List.length_cons, Nat.add_mul]
      cases l with
      | nil => simp [printL]; omega
      | cons x l => rw [printL_cons (by simp)]; simp only [List.length_append, List.length_cons] at h1 ⊢; omega
  have hl4 : (printL l).length ≤ 1900 := by
    have := hlen l hb
    have : l.length * 95 ≤ 20 * 95 := Nat.mul_le_mul_right _ h20
    omega
  refine ⟨?_, hl4⟩
  unfold declsParse
  rw [if_neg (by omega)]
  have g0 : ∃ g, gaps (printL l) 0 = .ok (g, 0) := by
    cases l with
    | nil => exact ⟨false, gaps_at_end (by simp [printL])⟩
    | cons d l =>
      obtain ⟨c, t, hc, lc⟩ := printL_head (l := d :: l) (by simp) hok
      have lb := letter_byte lc
      exact ⟨false, gaps_none (c := c) (Z := t) (by rw [List.drop_zero, hc]) lb.1 lb.2.1 lb.2.2.1⟩
  obtain ⟨g, g0⟩ := g0
  have e := declsTo_read (S := printL l) (by omega) l [] 0 22 hok (by simpa using h20) (by omega) (by simp)
  unfold declsAll onlyDecls decls
  simp only [bnd, g0, e, ended]
  rw [if_pos (by omega)]
  simp [ret]
theorem word_val {c : UInt8} (h : wordB c = true) : valueB c = true := by
  simp [wordB, letterB] at h
  simp [valueB, plainB]
  omega
theorem name_val {c : UInt8} (h : nameB c = true) : valueB c = true := by
  simp [nameB, letterB] at h
  simp [valueB, plainB]
  omega
theorem letter_val {c : UInt8} (h : letterB c = true) : valueB c = true := by
  simp [letterB] at h
  simp [valueB, plainB]
  omega
theorem joinW_bytes : ∀ {ws : List Bs}, (∀ u ∈ ws, AllW u) → ∀ c ∈ joinW ws, c = 32 ∨ wordB c = true
  | [], _, c, hc => by cases hc
  | [u], h, c, hc => .inr ((h u (List.mem_cons_self ..)).2 c hc)
  | u :: v :: ws, h, c, hc => by
    rcases List.mem_append.1 (show c ∈ u ++ 32 :: joinW (v :: ws) from hc) with hc | hc
    · exact .inr ((h u (List.mem_cons_self ..)).2 c hc)
    · rcases List.mem_cons.1 hc with rfl | hc
      · exact .inl rfl
      · exact joinW_bytes (fun x hx => h x (List.mem_cons_of_mem _ hx)) c hc
theorem dcl_bytes {d : Dcl} (h : DclOK d) : ∀ c ∈ printOne d, valueB c = true := by
  obtain ⟨⟨a, t, hn, ha, ht, _⟩, ⟨ws, _, hw, hv, _⟩⟩ := h
  have h1 : ∀ c ∈ d.name, valueB c = true := fun c hc => by
    rw [hn] at hc
    rcases List.mem_cons.1 hc with rfl | hc
    · exact letter_val ha
    · exact name_val (ht c hc)
  have h2 : ∀ c ∈ d.val, valueB c = true := fun c hc => by
    rw [hv] at hc
    rcases joinW_bytes hw c hc with rfl | hc
    · decide
    · exact word_val hc
  intro c hc
  unfold printOne at hc
  simp only [List.mem_append] at hc
  rcases hc with ((hc | hc) | hc) | hc
  · exact h1 c hc
  · rcases List.mem_cons.1 hc with rfl | hc
    · decide
    · rw [List.mem_singleton.1 hc]; decide
  · exact h2 c hc
  · split at hc
    · have : ∀ x ∈ ([32, 33] ++ importantL : List UInt8), valueB x = true := by decide
      exact this c hc
    · cases hc
theorem print_bytes : ∀ {l : List Dcl}, (∀ d ∈ l, DclOK d) → ∀ c ∈ printL l, valueB c = true
  | [], _, c, hc => by cases hc
  | [d], h, c, hc => dcl_bytes (h d (List.mem_cons_self ..)) c hc
  | d :: e :: l, h, c, hc => by
    rcases List.mem_append.1 (show c ∈ printOne d ++ [59, 32] ++ printL (e :: l) from hc) with hc | hc
    · rcases List.mem_append.1 hc with hc | hc
      · exact dcl_bytes (h d (List.mem_cons_self ..)) c hc
      · have : ∀ x ∈ ([59, 32] : List UInt8), valueB x = true := by decide
        exact this c hc
    · exact print_bytes (fun x hx => h x (List.mem_cons_of_mem _ hx)) c hc
def toL (d : Dc) : Dcl := ⟨d.name.data.toList, d.val.data.toList, d.strong⟩
def ofL (d : Dcl) : Dc := ⟨⟨⟨d.name⟩⟩, ⟨⟨d.val⟩⟩, d.strong⟩
theorem toL_ofL (d : Dcl) : toL (ofL d) = d := rfl
theorem ofL_toL (d : Dc) : ofL (toL d) = d := rfl
theorem words_joinW : ∀ {ws : List Bs}, ws ≠ [] → (∀ u ∈ ws, AllW u) → words (joinW ws) = ws
  | [], h, _ => absurd rfl h
  | [u], _, h => by
    refine words_one fun b hb e => ?_
    have := (h u (List.mem_cons_self ..)).2 b hb
    rw [e] at this
    exact absurd this (by decide)
  | u :: v :: ws, _, h => by
    show words (u ++ 32 :: joinW (v :: ws)) = _
    rw [words_app, words_joinW (ws := v :: ws) (by simp) (fun x hx => h x (List.mem_cons_of_mem _ hx))]
    rw [words_one (a := u) (fun b hb e => by
      have := (h u (List.mem_cons_self ..)).2 b hb
      rw [e] at this
      exact absurd this (by decide))]
    rfl
theorem joinW_part : ∀ {ws : List Bs} {u : Bs}, u ∈ ws → u.length ≤ (joinW ws).length
  | [], _, h => by cases h
  | [v], u, h => by rw [List.mem_singleton.1 h]; exact Nat.le_refl _
  | v :: x :: ws, u, h => by
    show u.length ≤ (v ++ 32 :: joinW (x :: ws)).length
    rcases List.mem_cons.1 h with rfl | h
    · simp
    · have := joinW_part (ws := x :: ws) h
      simp at this ⊢
      omega
theorem exp_ok {d : Dc} {X : List Dc} (h : DclOK (toL d)) (hx : expB d = some X) : ∀ y ∈ X, DclOK (toL y) := by
  unfold expB at hx
  split at hx
  · split at hx
    · cases hx
    · rename_i h4
      injection hx with hx
      subst hx
      obtain ⟨_, ⟨ws, hne, hw, hv, hl⟩⟩ := h
      have hv' : d.val.data.toList = joinW ws := hv
      have hwd : ws = words d.val.data.toList := by rw [hv', words_joinW hne hw]
      have hcd : (cutB d.val).map (·.data.toList) = ws := by
        rw [hwd]
        exact cut_few d.val (fun hc => h4 ((cut_many d.val).2 hc))
      have hmem : ∀ u ∈ cutB d.val, ValOK u.data.toList := fun u hu => by
        have hu' : u.data.toList ∈ ws := by rw [← hcd]; exact List.mem_map.2 ⟨u, hu, rfl⟩
        refine ⟨[u.data.toList], by simp, fun x hx => by rw [List.mem_singleton.1 hx]; exact hw _ hu', rfl, ?_⟩
        have := joinW_part hu'
        have h60 : d.val.data.toList.length ≤ 60 := hl
        rw [hv'] at h60
        omega
      have hpos := cut_pos d.val
      have g0 : ValOK (v0 (cutB d.val)).data.toList := by
        have : v0 (cutB d.val) = (cutB d.val)[0] := by simp [v0, List.getD, hpos]
        rw [this]; exact hmem _ (List.getElem_mem hpos)
      have gD : ∀ (j : Nat) (e : ByteArray), ValOK e.data.toList → ValOK ((cutB d.val).getD j e).data.toList := fun j e he => by
        by_cases hj : j < (cutB d.val).length
        · have : (cutB d.val).getD j e = (cutB d.val)[j] := by simp [List.getD, hj]
          rw [this]; exact hmem _ (List.getElem_mem hj)
        · have : (cutB d.val).getD j e = e := by simp [List.getD, hj]
          rw [this]; exact he
      have g1 : ValOK (v1 (cutB d.val)).data.toList := gD 1 _ g0
      have g2 : ValOK (v2 (cutB d.val)).data.toList := gD 2 _ g0
      have g3 : ValOK (v3 (cutB d.val)).data.toList := gD 3 _ g1
      intro y hy
      simp [fourB] at hy
      rcases hy with rfl | rfl | rfl | rfl
      · exact ⟨⟨101, [100, 103, 101, 45, 116, 111, 112], rfl, by decide, by decide, show sd0.data.toList.length ≤ 20 by decide⟩, g0⟩
      · exact ⟨⟨101, [100, 103, 101, 45, 114, 105, 103, 104, 116], rfl, by decide, by decide, show sd1.data.toList.length ≤ 20 by decide⟩, g1⟩
      · exact ⟨⟨101, [100, 103, 101, 45, 98, 111, 116, 116, 111, 109], rfl, by decide, by decide, show sd2.data.toList.length ≤ 20 by decide⟩, g2⟩
      · exact ⟨⟨101, [100, 103, 101, 45, 108, 101, 102, 116], rfl, by decide, by decide, show sd3.data.toList.length ≤ 20 by decide⟩, g3⟩
  · injection hx with hx
    subst hx
    intro y hy
    rw [List.mem_singleton.1 hy]; exact h
theorem all_ok : ∀ {l X : List Dc}, (∀ d ∈ l, DclOK (toL d)) → allB l = some X → ∀ y ∈ X, DclOK (toL y)
  | [], X, _, h => by injection h with h; rw [← h]; simp
  | d :: l, X, hs, h => by
    change (expB d).bind (fun x => (allB l).map (x ++ ·)) = some X at h
    cases hx : expB d with
    | none => rw [hx] at h; cases h
    | some x =>
      cases hy : allB l with
      | none => rw [hx, hy] at h; cases h
      | some y =>
        rw [hx, hy] at h
        injection h with h
        rw [← h]
        intro z hz
        rcases List.mem_append.1 hz with hz | hz
        · exact exp_ok (hs d (List.mem_cons_self ..)) hx z hz
        · exact all_ok (fun e he => hs e (List.mem_cons_of_mem _ he)) hy z hz
end Go.Proofs.YtblkldfokeeaeacGreatDoor.Sh
namespace Go.Proofs.YtblkldfokeeaeacGreatDoor.Sh
def newIn (A : Nat → List Rl) (F : Nat → List Bool) (j : Nat) (s : Bs) : Bs := goneTo s 0 ((A j).zip (F j))
theorem tag_blank : (32 : UInt8) ∉ lastTag styleL := by decide
theorem fits_tree {v : Nat → Bs} {A : Nat → List Rl} {F : Nat → List Bool} : ∀ (t : Tr) (p : Int) (i d : Nat), Ok d t → (∀ x ∈ inn i t, sheetParse x.2 = .ok (A x.1)) →
      (∀ x ∈ (views p i t).zipIdx i, v x.2 = [] ∨ x.1.ats.any isSty = true ∨ x.1.ats.length < 8) → Fits v (newIn A F) i t
  | .nil, _, _, _, _, _, _ => trivial
  | .txt _ r, p, i, d, ho, hi, hv => fits_tree r p i d ho.2 hi hv
  | .note _ r, p, i, d, ho, hi, hv => fits_tree r p i d ho.2 hi hv
  | .sty l s r, p, i, d, ho, hi, hv => by
    refine ⟨hv (⟨styleL, p, l⟩, i) (List.mem_cons_self ..), ?_, fits_tree r p (i + 1) d ho.2.2.2 (fun x hx => hi x (List.mem_cons_of_mem _ hx)) (fun x hx => hv x (List.mem_cons_of_mem _ hx))⟩
    exact gone_first (hi (i, s) (List.mem_cons_self ..)) tag_blank (by decide) ho.2.2.1 (F i)
  | .el n l t r, p, i, d, ho, hi, hv => by
    have hz : (views p i (.el n l t r)).zipIdx i = (⟨n, p, l⟩, i) :: ((views i (i + 1) t).zipIdx (i + 1) ++ (views p (i + 1 + count t) r).zipIdx (i + 1 + count t)) := by
      show (_, i) :: ((views i (i + 1) t ++ views p (i + 1 + count t) r).zipIdx (i + 1)) = _
      rw [List.zipIdx_append, views_len]
    rw [hz] at hv
    exact ⟨hv (⟨n, p, l⟩, i) (List.mem_cons_self ..),
      fits_tree t i (i + 1) (d + 1) ho.2.2.2.2.1 (fun x hx => hi x (List.mem_append_left _ hx)) (fun x hx => hv x (List.mem_cons_of_mem _ (List.mem_append_left _ hx))),
      fits_tree r p (i + 1 + count t) d ho.2.2.2.2.2 (fun x hx => hi x (List.mem_append_right _ hx)) (fun x hx => hv x (List.mem_cons_of_mem _ (List.mem_append_right _ hx)))⟩
theorem fold_tree {v : Nat → Bs} {A : Nat → List Rl} {F : Nat → List Bool} {t : Tr} (ho : Ok 1 t) (hc : count t ≤ 120) (hi : ∀ x ∈ inn 0 t, sheetParse x.2 = .ok (A x.1)) (hF : ∀ x ∈ inn 0 t, (F x.1).length = (A x.1).length)
    (hv : ∀ i, ∀ b ∈ v i, valueB b = true) (h8 : ∀ x ∈ (views (-1) 0 t).zipIdx 0, v x.2 = [] ∨ x.1.ats.any isSty = true ∨ x.1.ats.length < 8) (hl : (text (edit v (newIn A F) 0 t)).length ≤ 6000) :
    parse (text (edit v (newIn A F) 0 t)) = .ok (nodes 0 (-1) 0 (edit v (newIn A F) 0 t)) ∧ Ok 1 (edit v (newIn A F) 0 t) ∧
    (nodes 0 (-1) 0 (edit v (newIn A F) 0 t)).map vw = ((views (-1) 0 t).zipIdx 0).map (reAts v) ∧
    ∀ x ∈ inn 0 t, ∃ M, sheetParse (newIn A F x.1 x.2) = .ok M ∧ M.map bare = ((((A x.1).zip (F x.1)).filter (·.2)).map (·.1)).map bare := by
  have hok := edit_ok (g := newIn A F) hv t 0 1 ho (fits_tree t (-1) 0 1 ho hi h8)
  refine ⟨tree_parse hok (by rw [edit_count]; exact hc) hl, hok, by rw [nodes_views, views_edit], fun x hx => ?_⟩
  obtain ⟨M, h1, h2, _⟩ := sheet_gone (hi x hx) (F x.1) (hF x hx)
  exact ⟨M, h1, h2⟩
section
variable {α : Type} (md : α → Prop) (mt : α → α → Prop)
inductive StR (R : List α) : α → Prop
  | base {r : α} (h : r ∈ R) (hm : md r) : StR R r
  | step {r q : α} (h : r ∈ R) (hq : StR R q) (hm : mt r q) : StR R r
variable {md mt}
theorem StR.mem {R : List α} {r : α} (h : StR md mt R r) : r ∈ R := by cases h <;> assumption
theorem StR.again {R R' : List α} (h : ∀ r ∈ R, StR md mt R r → r ∈ R') {r : α} (hr : StR md mt R r) : StR md mt R' r := by
  induction hr with
  | base hm hd => exact .base (h _ hm (.base hm hd)) hd
  | step hm hq hmt ih => exact .step (h _ hm (.step hm hq hmt)) ih hmt
theorem StR.none {R : List α} (h : ∀ r ∈ R, ¬ md r) {r : α} (hr : StR md mt R r) : False := by
  induction hr with
  | base hm hd => exact h _ hm hd
  | step _ _ _ ih => exact ih
theorem StR.map {β : Type} {md' : β → Prop} {mt' : β → β → Prop} {R : List α} (f : α → β) (hmd : ∀ r ∈ R, md r → md' (f r)) (hmt : ∀ r ∈ R, ∀ q ∈ R, mt r q → mt' (f r) (f q)) {r : α} (hr : StR md mt R r) : StR md' mt' (R.map f) (f r) := by
  induction hr with
  | base hm hd => exact .base (List.mem_map.2 ⟨_, hm, rfl⟩) (hmd _ hm hd)
  | step hm hq hmt' ih => exact .step (List.mem_map.2 ⟨_, hm, rfl⟩) ih (hmt _ hm _ hq.mem hmt')
theorem StR.apart {R : List α} {r q : α} (hr : r ∈ R) (hg : ¬ StR md mt R r) (hq : StR md mt R q) : ¬ mt r q := fun h => hg (.step hr hq h)
end
end Go.Proofs.YtblkldfokeeaeacGreatDoor.Sh
namespace Go.Proofs.YtblkldfokeeaeacGreatDoor.Sh
end Go.Proofs.YtblkldfokeeaeacGreatDoor.Sh
namespace Go.Proofs.YtblkldfokeeaeacGreatDoor
abbrev Bs := List UInt8
def bsL (l : Bs) : ByteArray := ⟨l.toArray⟩
def ofA (a : Sh.Atr) : At := ⟨bsL a.name, bsL a.val, a.from_, a.to_⟩
def ofN (n : Sh.Nd) : Nd := ⟨bsL n.name, n.parent, n.attrs.map ofA, n.nameEnd, n.inFrom, n.inTo⟩
def ofT (t : Sh.Tst) : Ts := ⟨t.kind, bsL t.name, bsL t.val⟩
def ofP (p : Sh.Prt) : Pt := ⟨p.join, p.tests.map ofT⟩
def ofR (r : Sh.Rl) : Ru := ⟨bsL r.media, r.sels.map (·.map ofP), r.decls.map Sh.ofL, r.from_, r.to_⟩
def styF (s : ByteArray) : Except Int (List Dc) := match Sh.declsParse s.data.toList with
  | .error x => .error x.1
  | .ok L => .ok (L.map Sh.ofL)
def shift (o : Nat) (r : Sh.Rl) : Sh.Rl := { r with from_ := r.from_ + o, to_ := r.to_ + o }
def sheetsB (S : Bs) : List Sh.Nd → Except (Nat × Nat) (List Sh.Rl)
  | [] => .ok []
  | n :: L => if n.name = Sh.styleL then match Sh.sheetParse (Sh.sub S n.inFrom n.inTo) with
      | .error x => .error (x.1, n.inFrom + x.2)
      | .ok R => match sheetsB S L with
        | .error x => .error x
        | .ok Q => .ok (R.map (shift n.inFrom) ++ Q)
    else sheetsB S L
def wrongR : List Sh.Rl → Option Nat
  | [] => none
  | r :: R => if (allB (r.decls.map Sh.ofL)).isNone then some r.from_ else wrongR R
def ownA (n : Sh.Nd) : Option Sh.Atr := n.attrs.find? fun a => a.name == Sh.styleL
def ownV (n : Sh.Nd) : Bs := match ownA n with
  | none => []
  | some a => a.val
def ownF (n : Sh.Nd) : Nat := match ownA n with
  | none => 0
  | some a => a.from_
def declsErr (s : Bs) : Option Nat := match Sh.declsParse s with
  | .error x => some x.1
  | .ok D => if (allB (D.map Sh.ofL)).isNone then some 5 else none
def wrongO : List Sh.Nd → Option (Nat × Nat)
  | [] => none
  | n :: L => match declsErr (ownV n) with
    | some e => some (e, ownF n)
    | none => wrongO L
def readB (S : Bs) : Except (Nat × Nat) (List Sh.Nd × List Sh.Rl) := match Sh.parse S with
  | .error x => .error x
  | .ok L => match sheetsB S L with
    | .error x => .error x
    | .ok R => if 60 < R.length then .error (5, 0) else match wrongR R with
      | some k => .error (5, k)
      | none => match wrongO L with
        | some x => .error x
        | none => .ok (L, R)
def namesB (r : Ru) : List Bs := ((allB r.decls).getD []).map nm
def meansR (l : List Nd) (k : Nat) (r : Ru) : Bool := (bestB l k r.sels).2
def meetB (l : List Nd) (r q : Ru) : Bool := ((List.range l.length).any fun k => meansR l k r && meansR l k q) && (namesB r).any fun n => (namesB q).contains n
def Stay (l : List Nd) (rules : List Ru) (r : Ru) : Prop := Sh.StR (fun r : Ru => r.media.toList.isEmpty = false) (fun r q => meetB l r q = true) rules r
open Classical in
noncomputable def stayB (l : List Nd) (rules : List Ru) (r : Ru) : Bool := decide (Stay l rules r)
noncomputable def goesB (l : List Nd) (rules : List Ru) : List Ru := rules.filter fun r => !stayB l rules r
def insN (n : Bs) : List Bs → List Bs
  | [] => [n]
  | m :: l => if n < m then n :: m :: l else if n = m then m :: l else m :: insN n l
def keysOf : List Cl → List Bs
  | [] => []
  | c :: cs => insN (nm c.d) (keysOf cs)
def lookOf (cs : List Cl) : List Dc := (keysOf cs).filterMap (lookF cs)
theorem insN_mem {n : Bs} : ∀ {l : List Bs} {x : Bs}, x ∈ insN n l ↔ x = n ∨ x ∈ l
  | [], x => by simp [insN]
  | m :: l, x => by
    unfold insN
    split
    · simp
    · split
      · rename_i h; subst h; simp
      · simp only [List.mem_cons, insN_mem (l := l)]
        constructor
        · rintro (h | h | h)
          · exact .inr (.inl h)
          · exact .inl h
          · exact .inr (.inr h)
        · rintro (h | h | h)
          · exact .inr (.inl h)
          · exact .inl h
          · exact .inr (.inr h)
theorem insN_sorted {n : Bs} : ∀ {l : List Bs}, l.Pairwise (· < ·) → (insN n l).Pairwise (· < ·)
  | [], _ => List.pairwise_singleton _ _
  | m :: l, h => by
    obtain ⟨h1, h2⟩ := List.pairwise_cons.1 h
    unfold insN
    split
    · rename_i hl
      refine List.pairwise_cons.2 ⟨fun x hx => ?_, h⟩
      rcases List.mem_cons.1 hx with rfl | hx
      · exact hl
      · exact List.lt_trans hl (h1 x hx)
    · split
      · exact h
      · rename_i hn he
        refine List.pairwise_cons.2 ⟨fun x hx => ?_, insN_sorted h2⟩
        rcases insN_mem.1 hx with rfl | hx
        · rcases Decidable.em (m < x) with h3 | h3
          · exact h3
          · exact absurd (List.le_antisymm (show x ≤ m from h3) (show m ≤ x from hn)) (fun e => he e)
        · exact h1 x hx
theorem keysOf_sorted : ∀ cs : List Cl, (keysOf cs).Pairwise (· < ·)
  | [] => List.Pairwise.nil
  | _ :: cs => insN_sorted (keysOf_sorted cs)
theorem keysOf_mem : ∀ {cs : List Cl} {n : Bs}, n ∈ keysOf cs ↔ ∃ c ∈ cs, nm c.d = n
  | [], n => by simp [keysOf]
  | c :: cs, n => by
    show n ∈ insN (nm c.d) (keysOf cs) ↔ _
    rw [insN_mem, keysOf_mem (cs := cs)]
    simp only [List.mem_cons, exists_eq_or_imp]
    constructor
    · rintro (h | h)
      · exact .inl h.symm
      · exact .inr h
    · rintro (h | h)
      · exact .inl h.symm
      · exact .inr h
theorem lookF_some {cs : List Cl} {n : Bs} : (lookF cs n).isSome = true ↔ ∃ c ∈ cs, nm c.d = n := by
  unfold lookF
  constructor
  · intro h
    cases hw : win n cs with
    | none => rw [hw] at h; cases h
    | some c => exact ⟨c, win_name hw⟩
  · rintro ⟨c, hc, hn⟩
    obtain ⟨d, hd, _⟩ := win_beats hc hn
    rw [hd]; rfl
theorem lookOf_is (cs : List Cl) : IsLook (lookOf cs) (lookF cs) :=
  look_of_keys (fun n x h => lookF_name cs n x h) (keysOf_sorted cs) (fun n => by rw [lookF_some, keysOf_mem])
theorem look_eq {cs : List Cl} {L : List Dc} (h : IsLook L (lookF cs)) : L = lookOf cs := h.same (lookOf_is cs) (fun _ => rfl)
def okCl : Except Int (List Cl) → List Cl
  | .ok cs => cs
  | .error _ => []
noncomputable def lookAt (l : List Nd) (rules : List Ru) (k : Nat) : List Dc := lookOf (okCl (claimsB styF l k (goesB l rules) []))
def printD (L : List Dc) : Bs := Sh.printL (L.map Sh.toL)
noncomputable def newV (l : List Nd) (rules : List Ru) (k : Nat) : Bs := printD (lookAt l rules k)
def tooMany (n : Sh.Nd) (L : List Dc) : Bool := decide (20 < L.length) || (decide (0 < L.length) && !n.attrs.any (fun a => a.name == Sh.styleL) && decide (8 ≤ n.attrs.length))
def rulesAt (S : Bs) (n : Sh.Nd) : List Sh.Rl := if n.name = Sh.styleL then match Sh.sheetParse (Sh.sub S n.inFrom n.inTo) with
    | .error _ => []
    | .ok R => R
  else []
noncomputable def flagsAt (S : Bs) (l : List Nd) (rules : List Ru) (n : Sh.Nd) : List Bool := (rulesAt S n).map fun r => stayB l rules (ofR (shift n.inFrom r))
noncomputable def goneEd (S : Bs) (l : List Nd) (rules : List Ru) (n : Sh.Nd) : List Sh.Ed := Sh.edR n.inFrom ((rulesAt S n).zip (flagsAt S l rules n))
noncomputable def edsB (S : Bs) (L : List Sh.Nd) (R : List Sh.Rl) : List Sh.Ed :=
  Sh.eds (newV (L.map ofN) (R.map ofR)) (fun j => match L[j]? with | none => [] | some n => goneEd S (L.map ofN) (R.map ofR) n) L 0
noncomputable def manyAt (L : List Sh.Nd) (R : List Sh.Rl) : Option Nat := (L.zipIdx.find? fun x => tooMany x.1 (lookAt (L.map ofN) (R.map ofR) x.2)).map (·.1.nameEnd)
noncomputable def foldB (S : Bs) : Except (Nat × Nat) Bs := match readB S with
  | .error x => .error x
  | .ok (L, R) => match manyAt L R with
    | some e => .error (5, e)
    | none => if 6000 < (Sh.app S 0 (edsB S L R) S.length).length then .error (4, 0) else .ok (Sh.app S 0 (edsB S L R) S.length)
end Go.Proofs.YtblkldfokeeaeacGreatDoor
namespace Go.Proofs.YtblkldfokeeaeacGreatDoor
def rulesOf (s : Bs) : List Sh.Rl := match Sh.sheetParse s with
  | .error _ => []
  | .ok R => R
theorem rulesAt_sty {S : Bs} {n : Sh.Nd} (h : n.name = Sh.styleL) : rulesAt S n = rulesOf (Sh.sub S n.inFrom n.inTo) := by
  unfold rulesAt rulesOf
  rw [if_pos h]
  all_goals (cases Sh.sheetParse (Sh.sub S n.inFrom n.inTo) <;> rfl)
theorem rulesAt_not {S : Bs} {n : Sh.Nd} (h : n.name ≠ Sh.styleL) : rulesAt S n = [] := if_neg h
theorem rulesOf_ok {s : Bs} {R : List Sh.Rl} (h : Sh.sheetParse s = .ok R) : rulesOf s = R := by unfold rulesOf; rw [h]
def flatR (S : Bs) (L : List Sh.Nd) : List Sh.Rl := L.flatMap fun n => (rulesAt S n).map (shift n.inFrom)
theorem sheets_iff {S : Bs} : ∀ {L : List Sh.Nd} {R : List Sh.Rl}, sheetsB S L = .ok R ↔ R = flatR S L ∧ ∀ n ∈ L, n.name = Sh.styleL → Sh.sheetParse (Sh.sub S n.inFrom n.inTo) = .ok (rulesAt S n)
  | [], R => by
    constructor
    · intro h; injection h with h; exact ⟨h.symm, by simp⟩
    · rintro ⟨h, _⟩; rw [h]; rfl
  | n :: L, R => by
    unfold sheetsB
    by_cases hn : n.name = Sh.styleL
    · rw [if_pos hn]
      cases hs : Sh.sheetParse (Sh.sub S n.inFrom n.inTo) with
      | error x =>
        constructor
        · intro h; cases h
        · rintro ⟨_, h⟩
          have := h n (List.mem_cons_self ..) hn
          rw [hs] at this; cases this
      | ok A =>
        have hA : rulesAt S n = A := by rw [rulesAt_sty hn, rulesOf_ok hs]
        simp only
        cases hq : sheetsB S L with
        | error x =>
          constructor
          · intro h; cases h
          · rintro ⟨_, h⟩
            have := (sheets_iff (S := S) (L := L) (R := flatR S L)).2 ⟨rfl, fun m hm => h m (List.mem_cons_of_mem _ hm)⟩
            rw [hq] at this; cases this
        | ok Q =>
          obtain ⟨h1, h2⟩ := (sheets_iff (S := S) (L := L) (R := Q)).1 hq
          constructor
          · intro h
            injection h with h
            refine ⟨?_, fun m hm hs' => ?_⟩
            · rw [← h, h1]; unfold flatR; rw [List.flatMap_cons, hA]
            · rcases List.mem_cons.1 hm with rfl | hm
              · rw [hs, hA]
              · exact h2 m hm hs'
          · rintro ⟨h, _⟩
            rw [h, h1]; unfold flatR; rw [List.flatMap_cons, hA]
    · rw [if_neg hn]
      have e : flatR S (n :: L) = flatR S L := by unfold flatR; rw [List.flatMap_cons, rulesAt_not hn]; rfl
      rw [e, sheets_iff (S := S) (L := L)]
      constructor
      · rintro ⟨h1, h2⟩
        refine ⟨h1, fun m hm hs' => ?_⟩
        rcases List.mem_cons.1 hm with rfl | hm
        · exact absurd hs' hn
        · exact h2 m hm hs'
      · rintro ⟨h1, h2⟩
        exact ⟨h1, fun m hm => h2 m (List.mem_cons_of_mem _ hm)⟩
theorem wrongR_none : ∀ {R : List Sh.Rl}, wrongR R = none ↔ ∀ r ∈ R, ∃ a, allB (r.decls.map Sh.ofL) = some a
  | [] => by simp [wrongR]
  | r :: R => by
    unfold wrongR
    cases ha : allB (r.decls.map Sh.ofL) with
    | none =>
      constructor
      · intro h; cases h
      · intro h; obtain ⟨a, h⟩ := h r (List.mem_cons_self ..); rw [ha] at h; cases h
    | some a =>
      simp only [Option.isNone_some, Bool.false_eq_true, if_false]
      rw [wrongR_none (R := R)]
      constructor
      · intro h q hq
        rcases List.mem_cons.1 hq with rfl | hq
        · exact ⟨a, ha⟩
        · exact h q hq
      · intro h q hq; exact h q (List.mem_cons_of_mem _ hq)
theorem wrongO_none : ∀ {L : List Sh.Nd}, wrongO L = none ↔ ∀ n ∈ L, declsErr (ownV n) = none
  | [] => by simp [wrongO]
  | n :: L => by
    unfold wrongO
    cases hd : declsErr (ownV n) with
    | some e =>
      constructor
      · intro h; cases h
      · intro h; have := h n (List.mem_cons_self ..); rw [hd] at this; cases this
    | none =>
      simp only
      rw [wrongO_none (L := L)]
      constructor
      · intro h q hq
        rcases List.mem_cons.1 hq with rfl | hq
        · exact hd
        · exact h q hq
      · intro h q hq; exact h q (List.mem_cons_of_mem _ hq)
theorem declsErr_none {s : Bs} : declsErr s = none ↔ ∃ D a, Sh.declsParse s = .ok D ∧ allB (D.map Sh.ofL) = some a := by
  unfold declsErr
  cases hp : Sh.declsParse s with
  | error x =>
    constructor
    · intro h; cases h
    · rintro ⟨D, a, h, _⟩; cases h
  | ok D =>
    simp only
    cases ha : allB (D.map Sh.ofL) with
    | none =>
      constructor
      · intro h; cases h
      · rintro ⟨D', a, h, h'⟩; injection h with h; subst h; rw [ha] at h'; cases h'
    | some a => simp only [Option.isNone_some, Bool.false_eq_true, if_false, true_iff]; exact ⟨D, a, rfl, ha⟩
structure Rd (S : Bs) (L : List Sh.Nd) (R : List Sh.Rl) : Prop where
  page : Sh.parse S = .ok L
  flat : R = flatR S L
  sheet : ∀ n ∈ L, n.name = Sh.styleL → Sh.sheetParse (Sh.sub S n.inFrom n.inTo) = .ok (rulesAt S n)
  few : R.length ≤ 60
  rule : ∀ r ∈ R, ∃ a, allB (r.decls.map Sh.ofL) = some a
  own : ∀ n ∈ L, ∃ D a, Sh.declsParse (ownV n) = .ok D ∧ allB (D.map Sh.ofL) = some a
theorem read_iff {S : Bs} {L : List Sh.Nd} {R : List Sh.Rl} : readB S = .ok (L, R) ↔ Rd S L R := by
  unfold readB
  constructor
  · intro h
    cases hp : Sh.parse S with
    | error x => rw [hp] at h; cases h
    | ok L0 =>
      rw [hp] at h
      simp only at h
      cases hs : sheetsB S L0 with
      | error x => rw [hs] at h; cases h
      | ok R0 =>
        rw [hs] at h
        simp only at h
        split at h
        · cases h
        · rename_i h60
          cases hw : wrongR R0 with
          | some k => rw [hw] at h; cases h
          | none =>
            rw [hw] at h
            simp only at h
            cases ho : wrongO L0 with
            | some x => rw [ho] at h; cases h
            | none =>
              rw [ho] at h
              injection h with h
              injection h with h1 h2
              subst h1 h2
              obtain ⟨f1, f2⟩ := sheets_iff.1 hs
              exact ⟨hp, f1, f2, by omega, wrongR_none.1 hw, fun n hn => declsErr_none.1 (wrongO_none.1 ho n hn)⟩
  · intro h
    rw [h.page]
    simp only
    rw [sheets_iff.2 ⟨h.flat, h.sheet⟩]
    simp only
    rw [if_neg (by have := h.few; omega), wrongR_none.2 h.rule]
    simp only
    rw [wrongO_none.2 fun n hn => declsErr_none.2 (h.own n hn)]
theorem rule_dcl {n : Nat} {S : Bs} {k m : Nat} {p : List (List Sh.Prt) × List Sh.Dcl} (h : Sh.rule n S k = .ok (p, m)) : p.2.length ≤ 20 ∧ ∀ d ∈ p.2, Sh.DclOK d := by
  unfold Sh.rule Sh.bnd at h
  cases e1 : Sh.aheadOfPart n 60 S k with
  | error x => rw [e1] at h; cases h
  | ok q1 =>
    rw [e1] at h; obtain ⟨u1, k1⟩ := q1; simp only at h
    cases e2 : Sh.selectors S k1 with
    | error x => rw [e2] at h; cases h
    | ok q2 =>
      rw [e2] at h; obtain ⟨l, k2⟩ := q2; simp only at h
      cases e3 : Sh.tok [123] S k2 with
      | error x => rw [e3] at h; cases h
      | ok q3 =>
        rw [e3] at h; obtain ⟨u3, k3⟩ := q3; simp only at h
        cases e4 : Sh.decls S k3 with
        | error x => rw [e4] at h; cases h
        | ok q4 =>
          rw [e4] at h; obtain ⟨d, k4⟩ := q4; simp only at h
          cases e5 : Sh.tok [125] S k4 with
          | error x => rw [e5] at h; cases h
          | ok q5 =>
            rw [e5] at h; obtain ⟨u5, k5⟩ := q5
            have hp : p = (l, d) := by
              have : (.ok ((l, d), k5) : Sh.Res _) = .ok (p, m) := h
              injection this with this
              injection this with this _
              exact this.symm
            subst hp
            unfold Sh.decls Sh.bnd at e4
            cases e6 : Sh.gaps S k3 with
            | error x => rw [e6] at e4; cases e4
            | ok q6 =>
              rw [e6] at e4; obtain ⟨g, k6⟩ := q6
              exact Sh.declsTo_ok 22 [] k6 k4 d (by simp) (by simp) e4
def TstOk (t : Sh.Tst) : Prop := (t.kind = 4 ∨ t.kind = 5) → t.name ≠ Sh.styleL
theorem opt_cases {α : Type} {t : Bs} {f g : Sh.Pr α} {S : Bs} {k : Nat} {r : α × Nat} (h : Sh.opt t f g S k = .ok r) : f S (k + t.length) = .ok r ∨ g S k = .ok r := by
  unfold Sh.opt at h
  split at h
  · exact .inl h
  · exact .inr h
theorem bnd_cases {α β : Type} {f : Sh.Pr α} {g : α → Sh.Pr β} {S : Bs} {k : Nat} {r : β × Nat} (h : Sh.bnd f g S k = .ok r) : ∃ a k1, f S k = .ok (a, k1) ∧ g a S k1 = .ok r := by
  unfold Sh.bnd at h
  split at h
  · cases h
  · rename_i a k1 e; exact ⟨a, k1, e, h⟩
theorem ret_cases {α : Type} {a b : α} {S : Bs} {k m : Nat} (h : Sh.ret a S k = .ok (b, m)) : a = b := by
  unfold Sh.ret at h
  injection h with h
  injection h
theorem test_ok {S : Bs} {k m : Nat} {t : Sh.Tst} (h : Sh.test S k = .ok (t, m)) : TstOk t := by
  unfold Sh.test at h
  rcases opt_cases h with h | h
  · obtain ⟨n, k1, _, h⟩ := bnd_cases h
    rw [← ret_cases h]; intro hk; simp at hk
  rcases opt_cases h with h | h
  · obtain ⟨n, k1, _, h⟩ := bnd_cases h
    rw [← ret_cases h]; intro hk; simp at hk
  rcases opt_cases h with h | h
  · rw [← ret_cases h]; intro hk; simp at hk
  rcases opt_cases h with h | h
  · unfold Sh.attrTest at h
    obtain ⟨n, k1, _, h⟩ := bnd_cases h
    split at h
    · simp [Sh.bad] at h
    · rename_i hn
      obtain ⟨q, k2, h1, h⟩ := bnd_cases h
      obtain ⟨_, k3, _, h⟩ := bnd_cases h
      rw [← ret_cases h]
      rcases opt_cases h1 with h1 | h1
      · obtain ⟨v, k4, _, h1⟩ := bnd_cases h1
        rw [← ret_cases h1]; exact fun _ => hn
      · rw [← ret_cases h1]; exact fun _ => hn
  · rw [← ret_cases h]; intro hk; simp at hk
theorem testsTo_ok {S : Bs} : ∀ (f : Nat) (l : List Sh.Tst) (k m : Nat) (l' : List Sh.Tst), (∀ t ∈ l, TstOk t) → Sh.testsTo f l S k = .ok (l', m) → ∀ t ∈ l', TstOk t
  | 0, l, k, m, l', _, h => by simp [Sh.testsTo, Sh.bad] at h
  | f + 1, l, k, m, l', hl, h => by
    unfold Sh.testsTo at h
    obtain ⟨t, k1, h1, h⟩ := bnd_cases h
    split at h
    · rw [← ret_cases h]; exact hl
    · split at h
      · simp [Sh.bad] at h
      · refine testsTo_ok f _ k1 m l' (fun x hx => ?_) h
        rcases List.mem_append.1 hx with hx | hx
        · exact hl x hx
        · rw [List.mem_singleton.1 hx]; exact test_ok h1
theorem part_ok {S : Bs} {j k m : Nat} {p : Sh.Prt} (h : Sh.part j S k = .ok (p, m)) : ∀ t ∈ p.tests, TstOk t := by
  unfold Sh.part at h
  obtain ⟨l, k1, h1, h⟩ := bnd_cases h
  obtain ⟨l2, k2, h2, h⟩ := bnd_cases h
  rw [← ret_cases h]
  refine testsTo_ok 8 l k1 k2 l2 (fun t ht => ?_) h2
  unfold Sh.partHead at h1
  rcases opt_cases h1 with h1 | h1
  · rw [← ret_cases h1] at ht; cases ht
  · unfold Sh.fits at h1
    split at h1
    · obtain ⟨n, k3, _, h1⟩ := bnd_cases h1
      rw [← ret_cases h1] at ht
      rw [List.mem_singleton.1 ht]; intro hk; simp at hk
    · rw [← ret_cases h1] at ht; cases ht
def PrtsOk (l : List Sh.Prt) : Prop := ∀ p ∈ l, ∀ t ∈ p.tests, TstOk t
theorem selectorTo_ok {S : Bs} : ∀ (f j : Nat) (l : List Sh.Prt) (k m : Nat) (l' : List Sh.Prt), PrtsOk l → Sh.selectorTo f j l S k = .ok (l', m) → PrtsOk l'
  | 0, j, l, k, m, l', _, h => by simp [Sh.selectorTo, Sh.bad] at h
  | f + 1, j, l, k, m, l', hl, h => by
    unfold Sh.selectorTo at h
    obtain ⟨_, k1, _, h⟩ := bnd_cases h
    obtain ⟨p, k2, h2, h⟩ := bnd_cases h
    obtain ⟨q, k3, _, h⟩ := bnd_cases h
    have hn : PrtsOk (l ++ [p]) := fun x hx => by
      rcases List.mem_append.1 hx with hx | hx
      · exact hl x hx
      · rw [List.mem_singleton.1 hx]; exact part_ok h2
    split at h
    · exact selectorTo_ok f _ _ k3 m l' hn h
    · rw [← ret_cases h]; exact hn
theorem selectorsTo_ok {S : Bs} : ∀ (f : Nat) (l : List (List Sh.Prt)) (k m : Nat) (l' : List (List Sh.Prt)), (∀ s ∈ l, PrtsOk s) → Sh.selectorsTo f l S k = .ok (l', m) → ∀ s ∈ l', PrtsOk s
  | 0, l, k, m, l', _, h => by simp [Sh.selectorsTo, Sh.bad] at h
  | f + 1, l, k, m, l', hl, h => by
    unfold Sh.selectorsTo at h
    obtain ⟨_, k1, _, h⟩ := bnd_cases h
    obtain ⟨p, k2, h2, h⟩ := bnd_cases h
    have hn : ∀ s ∈ l ++ [p], PrtsOk s := fun x hx => by
      rcases List.mem_append.1 hx with hx | hx
      · exact hl x hx
      · rw [List.mem_singleton.1 hx]; exact selectorTo_ok 8 0 [] k1 k2 p (fun _ h => by cases h) h2
    rcases opt_cases h with h | h
    · obtain ⟨_, k3, _, h⟩ := bnd_cases h
      exact selectorsTo_ok f _ k3 m l' hn h
    · rw [← ret_cases h]; exact hn
theorem rule_sel {n : Nat} {S : Bs} {k m : Nat} {p : List (List Sh.Prt) × List Sh.Dcl} (h : Sh.rule n S k = .ok (p, m)) : ∀ s ∈ p.1, PrtsOk s := by
  unfold Sh.rule at h
  obtain ⟨_, k1, _, h⟩ := bnd_cases h
  obtain ⟨l, k2, h2, h⟩ := bnd_cases h
  obtain ⟨_, k3, _, h⟩ := bnd_cases h
  obtain ⟨d, k4, _, h⟩ := bnd_cases h
  obtain ⟨_, k5, _, h⟩ := bnd_cases h
  rw [← ret_cases h]
  exact selectorsTo_ok 10 [] k1 k2 l (fun _ h => by cases h) h2
structure RlOk (r : Sh.Rl) : Prop where
  few : r.decls.length ≤ 20
  dcl : ∀ d ∈ r.decls, Sh.DclOK d
  sel : ∀ s ∈ r.sels, PrtsOk s
theorem sheet_ok {s : Bs} {A : List Sh.Rl} (h : Sh.sheetParse s = .ok A) : ∀ r ∈ A, RlOk r := fun r hr => by
  obtain ⟨_, _, _, n, hn⟩ := (Sh.sheet_few h).2.1.mem r hr
  have h1 := rule_dcl hn
  exact ⟨h1.1, h1.2, rule_sel hn⟩
theorem Rd.rlOk {S : Bs} {L : List Sh.Nd} {R : List Sh.Rl} (h : Rd S L R) : ∀ r ∈ R, RlOk r := fun r hr => by
  rw [h.flat] at hr
  obtain ⟨n, hn, hr⟩ := List.mem_flatMap.1 hr
  obtain ⟨q, hq, rfl⟩ := List.mem_map.1 hr
  by_cases hs : n.name = Sh.styleL
  · have := sheet_ok (h.sheet n hn hs) q hq
    exact ⟨this.few, this.dcl, this.sel⟩
  · rw [rulesAt_not hs] at hq; cases hq
end Go.Proofs.YtblkldfokeeaeacGreatDoor
