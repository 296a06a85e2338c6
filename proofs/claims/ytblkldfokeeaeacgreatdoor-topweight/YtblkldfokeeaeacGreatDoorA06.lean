/- Texts that the statement's proof stands on: CSpec, CSpec2, CSpec3, CFold, Sim, PrintP. -/
import Derived.Test.YtblkldfokeeaeacGreatDoorA05
import Derived.Test.YtblkldfokeeaeacGreatDoorA03
namespace Go.Proofs.YtblkldfokeeaeacGreatDoor
structure Cl where
  d : Dc
  own : Bool
  w : Wt
def lessW (x y : Wt) : Bool := decide (x.a < y.a ∨ (x.a = y.a ∧ (x.b < y.b ∨ (x.b = y.b ∧ x.c < y.c))))
theorem lessW_cmp (x y : Wt) : lessW x y = decide (cmp3 x y < 0) := by
  unfold lessW cmp3
  repeat' split
  all_goals simp <;> omega
def beats (b a : Cl) : Bool := if a.d.strong == b.d.strong then (if a.own == b.own then !lessW b.w a.w else b.own) else b.d.strong
theorem beats_refl (a : Cl) : beats a a = true := by
  simp [beats, lessW]
theorem beats_trans {a b c : Cl} (h : beats b a = true) (k : beats c b = true) : beats c a = true := by
  obtain ⟨⟨_, _, s1⟩, o1, ⟨x1, y1, z1⟩⟩ := a
  obtain ⟨⟨_, _, s2⟩, o2, ⟨x2, y2, z2⟩⟩ := b
  obtain ⟨⟨_, _, s3⟩, o3, ⟨x3, y3, z3⟩⟩ := c
  unfold beats lessW at *
  simp only at h k ⊢
  cases s1 <;> cases s2 <;> cases s3 <;> cases o1 <;> cases o2 <;> cases o3 <;> simp_all <;> omega
theorem beats_total {a b : Cl} (h : beats b a = false) : beats a b = true := by
  obtain ⟨⟨_, _, s1⟩, o1, ⟨x1, y1, z1⟩⟩ := a
  obtain ⟨⟨_, _, s2⟩, o2, ⟨x2, y2, z2⟩⟩ := b
  unfold beats lessW at *
  simp only at h ⊢
  cases s1 <;> cases s2 <;> cases o1 <;> cases o2 <;> simp_all <;> omega
def merge : Option Cl → Option Cl → Option Cl
  | none, b => b
  | some a, none => some a
  | some a, some b => if beats b a then some b else some a
theorem merge_none (a : Option Cl) : merge a none = a := by cases a <;> rfl
theorem merge_assoc (a b c : Option Cl) : merge (merge a b) c = merge a (merge b c) := by
  cases a with
  | none => rfl
  | some a =>
    cases b with
    | none => rfl
    | some b =>
      cases c with
      | none => rw [merge_none, merge_none]
      | some c =>
        simp only [merge]
        by_cases h1 : beats b a = true <;> by_cases h2 : beats c b = true
        · have := beats_trans h1 h2
          simp [h1, h2, this]
        · simp [h1, h2]
        · by_cases h3 : beats c a = true <;> simp [h1, h2, h3]
        · have h2' : beats c b = false := by simpa using h2
          have h1' : beats b a = false := by simpa using h1
          have h3 : ¬ beats c a = true := fun h => by
            have h4 := beats_total h1'
            have h5 := beats_trans h4 h
            rw [h2'] at h5
            cases h5
          simp [h1, h2, h3]
theorem merge_self (a : Option Cl) : merge a a = a := by
  cases a with
  | none => rfl
  | some a => simp [merge]
theorem merge_twice (a b : Option Cl) : merge (merge a b) b = merge a b := by rw [merge_assoc, merge_self]
def nm (d : Dc) : List UInt8 := d.name.data.toList
def one (n : List UInt8) (c : Cl) : Option Cl := if nm c.d = n then some c else none
def win (n : List UInt8) : List Cl → Option Cl
  | [] => none
  | c :: cs => merge (one n c) (win n cs)
theorem win_append (n : List UInt8) : ∀ a b : List Cl, win n (a ++ b) = merge (win n a) (win n b)
  | [], b => rfl
  | c :: a, b => by
    show merge (one n c) (win n (a ++ b)) = merge (merge (one n c) (win n a)) (win n b)
    rw [win_append n a b, merge_assoc]
theorem win_name {n : List UInt8} : ∀ {cs : List Cl} {c : Cl}, win n cs = some c → c ∈ cs ∧ nm c.d = n
  | [], c, h => by cases h
  | x :: cs, c, h => by
    unfold win one at h
    by_cases hx : nm x.d = n
    · rw [if_pos hx] at h
      cases hw : win n cs with
      | none => rw [hw] at h; injection h with h; subst h; exact ⟨List.mem_cons_self .., hx⟩
      | some y =>
        rw [hw] at h
        simp only [merge] at h
        obtain ⟨h1, h2⟩ := win_name hw
        split at h
        · injection h with h; subst h; exact ⟨List.mem_cons_of_mem _ h1, h2⟩
        · injection h with h; subst h; exact ⟨List.mem_cons_self .., hx⟩
    · rw [if_neg hx] at h
      obtain ⟨h1, h2⟩ := win_name (show win n cs = some c from h)
      exact ⟨List.mem_cons_of_mem _ h1, h2⟩
theorem win_beats {n : List UInt8} : ∀ {cs : List Cl} {x : Cl}, x ∈ cs → nm x.d = n → ∃ c, win n cs = some c ∧ beats c x = true
  | [], x, h, _ => by cases h
  | y :: cs, x, h, hn => by
    show ∃ c, merge (one n y) (win n cs) = some c ∧ _
    rcases List.mem_cons.1 h with rfl | h
    · unfold one
      rw [if_pos hn]
      cases hw : win n cs with
      | none => exact ⟨x, rfl, beats_refl x⟩
      | some z =>
        simp only [merge]
        split
        · rename_i hb; exact ⟨z, rfl, hb⟩
        · exact ⟨x, rfl, beats_refl x⟩
    · obtain ⟨c, hc, hb⟩ := win_beats h hn
      rw [hc]
      unfold one
      split
      · simp only [merge]
        split
        · exact ⟨c, rfl, hb⟩
        · rename_i hq
          exact ⟨y, rfl, beats_trans hb (beats_total (by simpa using hq))⟩
      · exact ⟨c, rfl, hb⟩
theorem beats_strong {c x : Cl} (h : beats c x = true) (hx : x.d.strong = true) : c.d.strong = true := by
  unfold beats at h
  split at h
  · rename_i e
    have : x.d.strong = c.d.strong := by simpa using e
    rw [← this]; exact hx
  · exact h
def lookF (cs : List Cl) (n : List UInt8) : Option Dc := (win n cs).map (·.d)
def IsLook (L : List Dc) (f : List UInt8 → Option Dc) : Prop := L.Pairwise (fun x y => nm x < nm y) ∧ ∀ n x, f n = some x ↔ x ∈ L ∧ nm x = n
theorem look_unique : ∀ {L M : List Dc}, L.Pairwise (fun x y => nm x < nm y) → M.Pairwise (fun x y => nm x < nm y) → (∀ x, x ∈ L ↔ x ∈ M) → L = M
  | [], [], _, _, _ => rfl
  | [], y :: M, _, _, h => absurd ((h y).2 (List.mem_cons_self ..)) (by simp)
  | x :: L, [], _, _, h => absurd ((h x).1 (List.mem_cons_self ..)) (by simp)
  | x :: L, y :: M, hL, hM, h => by
    obtain ⟨l1, l2⟩ := List.pairwise_cons.1 hL
    obtain ⟨m1, m2⟩ := List.pairwise_cons.1 hM
    have hxy : x = y := by
      rcases List.mem_cons.1 ((h x).1 (List.mem_cons_self ..)) with e | hx
      · exact e
      · rcases List.mem_cons.1 ((h y).2 (List.mem_cons_self ..)) with e | hy
        · exact e.symm
        · exact absurd (List.lt_trans (l1 y hy) (m1 x hx)) (List.lt_irrefl _)
    subst hxy
    rw [look_unique l2 m2 fun z => ?_]
    constructor
    · intro hz
      rcases List.mem_cons.1 ((h z).1 (List.mem_cons_of_mem _ hz)) with e | e
      · subst e; exact absurd (l1 z hz) (List.lt_irrefl _)
      · exact e
    · intro hz
      rcases List.mem_cons.1 ((h z).2 (List.mem_cons_of_mem _ hz)) with e | e
      · subst e; exact absurd (m1 z hz) (List.lt_irrefl _)
      · exact e
theorem IsLook.same {L M : List Dc} {f g : List UInt8 → Option Dc} (h : IsLook L f) (k : IsLook M g) (e : ∀ n, f n = g n) : L = M := by
  refine look_unique h.1 k.1 fun x => ?_
  have h1 := h.2 (nm x) x
  have k1 := k.2 (nm x) x
  rw [e] at h1
  constructor
  · intro hx; exact (k1.1 (h1.2 ⟨hx, rfl⟩)).1
  · intro hx; exact (h1.1 (k1.2 ⟨hx, rfl⟩)).1
end Go.Proofs.YtblkldfokeeaeacGreatDoor
namespace Go.Proofs.YtblkldfokeeaeacGreatDoor
structure Ru where
  media : ByteArray
  sels : List (List Pt)
  decls : List Dc
  rf : Int
  rt : Int
def bestB (l : List Nd) (k : Int) (ss : List (List Pt)) : Wt × Bool := bestTo l k ss (w00, false)
def counts (md : ByteArray) (media : List ByteArray) : Bool := md.toList.isEmpty || media.any fun m => m.toList == md.toList
def asC (own : Bool) (w : Wt) (ds : List Dc) : List Cl := ds.map fun d => ⟨d, own, w⟩
def ruleC (l : List Nd) (k : Int) (media : List ByteArray) (r : Ru) : Option (List Cl) :=
  if counts r.media media && (bestB l k r.sels).2 then (allB r.decls).map (asC false (bestB l k r.sels).1) else some []
def rulesC (l : List Nd) (k : Int) (media : List ByteArray) : List Ru → Option (List Cl)
  | [] => some []
  | r :: rs => (ruleC l k media r).bind fun x => (rulesC l k media rs).map (x ++ ·)
theorem rulesC_append (l : List Nd) (k : Int) (media : List ByteArray) : ∀ a b : List Ru, rulesC l k media (a ++ b) = (rulesC l k media a).bind fun x => (rulesC l k media b).map (x ++ ·)
  | [], b => by
    show rulesC l k media b = (some []).bind _
    simp
  | r :: a, b => by
    show (ruleC l k media r).bind (fun x => (rulesC l k media (a ++ b)).map (x ++ ·)) = ((ruleC l k media r).bind fun x => (rulesC l k media a).map (x ++ ·)).bind _
    rw [rulesC_append l k media a b]
    cases ruleC l k media r <;> cases rulesC l k media a <;> cases rulesC l k media b <;> simp
def styleN : ByteArray := ⟨#[115, 116, 121, 108, 101]⟩
section
variable (sty : ByteArray → Except Int (List Dc))
def ownC (x : Nd) : Except Int (List Cl) := match sty ((getA styleN x.attrs).getD ⟨#[]⟩) with
  | .error e => .error e
  | .ok d => match allB d with
    | none => .error 5
    | some a => .ok (asC true w00 a)
def claimsB (l : List Nd) (k : Int) (rules : List Ru) (media : List ByteArray) : Except Int (List Cl) :=
  if inB l k then match rulesC l k media rules with
    | none => .error 5
    | some a => match ownC sty (ndAt l k.toNat) with
      | .error e => .error e
      | .ok b => .ok (a ++ b)
  else .error 6
def Alike : Except Int (List Cl) → Except Int (List Cl) → Prop
  | .error a, .error b => a = b
  | .ok a, .ok b => ∀ n, lookF a n = lookF b n
  | _, _ => False
theorem Alike.refl (x : Except Int (List Cl)) : Alike x x := by
  cases x with
  | error a => exact rfl
  | ok a => exact fun _ => rfl
def AlikeR : Option (List Cl) → Option (List Cl) → Prop
  | none, none => True
  | some a, some b => ∀ n, win n a = win n b
  | _, _ => False
theorem claims_alike {l : List Nd} {k : Int} {r1 r2 : List Ru} {m1 m2 : List ByteArray} (h : AlikeR (rulesC l k m1 r1) (rulesC l k m2 r2)) : Alike (claimsB sty l k r1 m1) (claimsB sty l k r2 m2) := by
  unfold claimsB
  split
  · cases h1 : rulesC l k m1 r1 with
    | none =>
      cases h2 : rulesC l k m2 r2 with
      | none => exact rfl
      | some b => rw [h1, h2] at h; exact h.elim
    | some a =>
      cases h2 : rulesC l k m2 r2 with
      | none => rw [h1, h2] at h; exact h.elim
      | some b =>
        rw [h1, h2] at h
        simp only
        cases ownC sty (ndAt l k.toNat) with
        | error e => exact rfl
        | ok c =>
          intro n
          unfold lookF
          rw [win_append, win_append, h n]
  · exact rfl
end
theorem rules_twice (l : List Nd) (k : Int) (media : List ByteArray) (A B : List Ru) (r : Ru) : AlikeR (rulesC l k media (A ++ r :: B)) (rulesC l k media ((A ++ [r]) ++ r :: B)) := by
  rw [rulesC_append, rulesC_append l k media (A ++ [r]), rulesC_append l k media A [r]]
  have e1 : rulesC l k media (r :: B) = (ruleC l k media r).bind fun x => (rulesC l k media B).map (x ++ ·) := rfl
  have e2 : rulesC l k media [r] = ruleC l k media r := by
    show (ruleC l k media r).bind (fun x => (some []).map (x ++ ·)) = _
    cases ruleC l k media r <;> simp
  rw [e1, e2]
  cases rulesC l k media A with
  | none => exact trivial
  | some a =>
    cases ruleC l k media r with
    | none => exact trivial
    | some x =>
      cases rulesC l k media B with
      | none => exact trivial
      | some b =>
        intro n
        simp only [win_append]
        rw [← merge_assoc (merge (win n a) (win n x)), merge_twice, merge_assoc]
theorem rules_drop {l : List Nd} {k : Int} {media : List ByteArray} (A B : List Ru) {r : Ru} (h : (bestB l k r.sels).2 = false) : rulesC l k media (A ++ r :: B) = rulesC l k media (A ++ B) := by
  rw [rulesC_append, rulesC_append]
  have e1 : rulesC l k media (r :: B) = (ruleC l k media r).bind fun x => (rulesC l k media B).map (x ++ ·) := rfl
  have e2 : ruleC l k media r = some [] := by unfold ruleC; rw [h]; simp
  rw [e1, e2]
  simp
theorem rules_media {l : List Nd} {k : Int} {media : List ByteArray} {more : ByteArray} : ∀ {rules : List Ru}, (∀ r ∈ rules, (r.media.toList == more.toList) = false) → rulesC l k (media ++ [more]) rules = rulesC l k media rules
  | [], _ => rfl
  | r :: rs, h => by
    show (ruleC l k (media ++ [more]) r).bind (fun x => (rulesC l k (media ++ [more]) rs).map (x ++ ·)) = (ruleC l k media r).bind fun x => (rulesC l k media rs).map (x ++ ·)
    rw [rules_media (fun q hq => h q (List.mem_cons_of_mem _ hq))]
    have hr := h r (List.mem_cons_self ..)
    have e : counts r.media (media ++ [more]) = counts r.media media := by
      unfold counts
      rw [List.any_append]
      have : (more.toList == r.media.toList) = false := by
        rw [Bool.eq_false_iff] at hr ⊢
        intro c
        exact hr (by rw [beq_iff_eq] at c ⊢; exact c.symm)
      simp [this]
    unfold ruleC
    rw [e]
theorem rules_mem {l : List Nd} {k : Int} {media : List ByteArray} : ∀ {rules : List Ru} {cs : List Cl} {r : Ru}, rulesC l k media rules = some cs → r ∈ rules → r.media.toList.isEmpty = true → (bestB l k r.sels).2 = true → ∃ D, allB r.decls = some D ∧ ∀ x ∈ D, ⟨x, false, (bestB l k r.sels).1⟩ ∈ cs
  | [], cs, r, _, hr, _, _ => by cases hr
  | q :: rs, cs, r, h, hr, hm, hb => by
    change (ruleC l k media q).bind (fun x => (rulesC l k media rs).map (x ++ ·)) = some cs at h
    cases hq : ruleC l k media q with
    | none => rw [hq] at h; cases h
    | some x =>
      cases hs : rulesC l k media rs with
      | none => rw [hq, hs] at h; cases h
      | some y =>
        rw [hq, hs] at h
        injection h with h
        rcases List.mem_cons.1 hr with rfl | hr
        · unfold ruleC counts at hq
          rw [hm, hb] at hq
          simp only [Bool.true_or, Bool.and_self, if_true] at hq
          cases hd : allB r.decls with
          | none => rw [hd] at hq; cases hq
          | some D =>
            rw [hd] at hq
            injection hq with hq
            refine ⟨D, rfl, fun z hz => ?_⟩
            rw [← h, ← hq]
            exact List.mem_append_left _ (List.mem_map.2 ⟨z, hz, rfl⟩)
        · obtain ⟨D, hD, hx⟩ := rules_mem hs hr hm hb
          exact ⟨D, hD, fun z hz => by rw [← h]; exact List.mem_append_right _ (hx z hz)⟩
theorem strong_wins {cs : List Cl} {L : List Dc} (hL : IsLook L (lookF cs)) {x : Cl} (hx : x ∈ cs) : ∃ y ∈ L, nm y = nm x.d ∧ (y.strong || !x.d.strong) = true := by
  obtain ⟨c, hc, hb⟩ := win_beats hx rfl
  have := (hL.2 (nm x.d) c.d).1 (by unfold lookF; rw [hc]; rfl)
  refine ⟨c.d, this.1, this.2, ?_⟩
  cases hs : x.d.strong
  · simp
  · rw [beats_strong hb hs]; rfl
def splitR (r : Ru) : List Ru := r.sels.map fun s => ⟨r.media, [s], r.decls, 0, 0⟩
def mergeD : Option Dc → Option Dc → Option Dc
  | none, b => b
  | some a, none => some a
  | some a, some b => if (if a.strong == b.strong then true else b.strong) then some b else some a
def pick (n : List UInt8) : List Dc → Option Dc
  | [] => none
  | d :: l => mergeD (if nm d = n then some d else none) (pick n l)
theorem win_asC (n : List UInt8) (own : Bool) (w : Wt) : ∀ D : List Dc, win n (asC own w D) = (pick n D).map fun d => ⟨d, own, w⟩
  | [] => rfl
  | d :: D => by
    show merge (one n ⟨d, own, w⟩) (win n (asC own w D)) = _
    rw [win_asC n own w D]
    show merge (one n ⟨d, own, w⟩) _ = (mergeD (if nm d = n then some d else none) (pick n D)).map _
    unfold one
    have hl : lessW w w = false := by simp [lessW]
    split
    · cases pick n D with
      | none => rfl
      | some e =>
        simp only [Option.map_some, merge, mergeD, beats, hl, beq_self_eq_true, if_true, Bool.not_false]
        cases (d.strong == e.strong) <;> cases e.strong <;> rfl
    · cases pick n D <;> rfl
theorem lessW_irr (x : Wt) : lessW x x = false := by simp [lessW]
def maxW (x y : Wt) : Wt := if lessW y x then x else y
theorem merge_asC (n : List UInt8) (D : List Dc) (x y : Wt) : merge (win n (asC false x D)) (win n (asC false y D)) = win n (asC false (maxW x y) D) := by
  rw [win_asC, win_asC, win_asC]
  cases pick n D with
  | none => rfl
  | some d =>
    simp only [Option.map_some, merge, beats, beq_self_eq_true, if_true, maxW]
    cases lessW y x <;> rfl
theorem cmp_max (x y : Wt) : (if 0 < cmp3 y x then y else x) = maxW x y := by
  obtain ⟨a, b, c⟩ := x
  obtain ⟨d, e, f⟩ := y
  unfold maxW lessW cmp3
  simp only
  repeat' split
  all_goals first | rfl | omega | (simp_all; omega) | (simp at *; (try congr 1) <;> omega)
theorem wts_max (s : List Pt) : maxW w00 (wts s) = wts s := by
  unfold maxW lessW w00 wts
  simp
  omega
def eachC (l : List Nd) (k : Int) (D : List Dc) : List (List Pt) → List Cl
  | [] => []
  | s :: ss => (if matchB l k s then asC false (wts s) D else []) ++ eachC l k D ss
theorem each_win (l : List Nd) (k : Int) (D : List Dc) (n : List UInt8) : ∀ (ss : List (List Pt)) (w : Wt) (b : Bool), (b = false → w = w00) →
    merge (if b then win n (asC false w D) else none) (win n (eachC l k D ss)) = (if (bestTo l k ss (w, b)).2 then win n (asC false (bestTo l k ss (w, b)).1 D) else none)
  | [], w, b, _ => by
    show merge _ none = _
    rw [merge_none]
    rfl
  | s :: ss, w, b, hb => by
    show merge _ (win n ((if matchB l k s then asC false (wts s) D else []) ++ eachC l k D ss)) = _
    rw [win_append, ← merge_assoc]
    unfold bestTo
    cases hm : matchB l k s
    · simp only [Bool.false_eq_true, if_false]
      have : merge (if b = true then win n (asC false w D) else none) (win n []) = (if b = true then win n (asC false w D) else none) := merge_none _
      rw [this]
      exact each_win l k D n ss w b hb
    · simp only [if_true]
      rw [cmp_max]
      rw [← each_win l k D n ss (maxW w (wts s)) true (fun h => by cases h)]
      congr 1
      cases b
      · rw [hb rfl, wts_max]
        rfl
      · simp only [if_true]
        exact merge_asC n D w (wts s)
theorem bestTo_one (l : List Nd) (k : Int) (s : List Pt) : bestB l k [s] = (if matchB l k s then (wts s, true) else (w00, false)) := by
  unfold bestB
  simp only [bestTo]
  split
  · rw [cmp_max, wts_max]
  · rfl
theorem bestTo_any (l : List Nd) (k : Int) : ∀ (ss : List (List Pt)) (acc : Wt × Bool), (bestTo l k ss acc).2 = (acc.2 || ss.any (matchB l k))
  | [], acc => by simp [bestTo]
  | s :: ss, acc => by
    unfold bestTo
    rw [bestTo_any l k ss]
    cases hm : matchB l k s <;> simp [hm]
theorem split_rule (l : List Nd) (k : Int) (media : List ByteArray) (r : Ru) : AlikeR (ruleC l k media r) (rulesC l k media (splitR r)) := by
  cases hc : counts r.media media
  · have e1 : ruleC l k media r = some [] := by unfold ruleC; rw [hc]; rfl
    have e2 : ∀ ss : List (List Pt), rulesC l k media (ss.map fun s => ⟨r.media, [s], r.decls, 0, 0⟩) = some [] := fun ss => by
      induction ss with
      | nil => rfl
      | cons s ss ih =>
        show (ruleC l k media ⟨r.media, [s], r.decls, 0, 0⟩).bind (fun x => (rulesC l k media (ss.map _)).map (x ++ ·)) = _
        rw [ih]
        unfold ruleC
        simp only [hc, Bool.false_and, Bool.false_eq_true, if_false]
        rfl
    rw [e1]
    unfold splitR
    rw [e2]
    exact fun _ => rfl
  · cases hd : allB r.decls with
    | none =>
      have e1 : ruleC l k media r = if r.sels.any (matchB l k) then none else some [] := by
        unfold ruleC bestB
        rw [hc, bestTo_any, hd]
        simp
      have e2 : ∀ ss : List (List Pt), rulesC l k media (ss.map fun s => ⟨r.media, [s], r.decls, 0, 0⟩) = if ss.any (matchB l k) then none else some [] := fun ss => by
        induction ss with
        | nil => rfl
        | cons s ss ih =>
          show (ruleC l k media ⟨r.media, [s], r.decls, 0, 0⟩).bind (fun x => (rulesC l k media (ss.map _)).map (x ++ ·)) = _
          rw [ih]
          unfold ruleC
          simp only [hc, bestTo_one, hd, Bool.true_and, List.any_cons]
          by_cases h1 : matchB l k s = true <;> by_cases h2 : ss.any (matchB l k) = true <;> simp [h1, h2]
      unfold splitR
      rw [e1, e2]
      cases r.sels.any (matchB l k)
      · exact fun _ => rfl
      · exact trivial
    | some D =>
      have e1 : ruleC l k media r = some (if (bestB l k r.sels).2 then asC false (bestB l k r.sels).1 D else []) := by
        unfold ruleC
        rw [hc, hd]
        cases (bestB l k r.sels).2 <;> rfl
      have e2 : ∀ ss : List (List Pt), rulesC l k media (ss.map fun s => ⟨r.media, [s], r.decls, 0, 0⟩) = some (eachC l k D ss) := fun ss => by
        induction ss with
        | nil => rfl
        | cons s ss ih =>
          show (ruleC l k media ⟨r.media, [s], r.decls, 0, 0⟩).bind (fun x => (rulesC l k media (ss.map _)).map (x ++ ·)) = _
          rw [ih]
          show _ = some ((if matchB l k s then asC false (wts s) D else []) ++ eachC l k D ss)
          unfold ruleC
          simp only [hc, bestTo_one, hd, Bool.true_and]
          cases matchB l k s <;> rfl
      unfold splitR
      rw [e1, e2]
      intro n
      have h := each_win l k D n r.sels w00 false (fun _ => rfl)
      have h0 : merge (if false = true then win n (asC false w00 D) else none) (win n (eachC l k D r.sels)) = win n (eachC l k D r.sels) := rfl
      rw [h0] at h
      rw [h]
      unfold bestB
      cases (bestTo l k r.sels (w00, false)).2 <;> rfl
theorem split_rules (l : List Nd) (k : Int) (media : List ByteArray) : ∀ rules : List Ru, AlikeR (rulesC l k media rules) (rulesC l k media (rules.flatMap splitR))
  | [] => fun _ => rfl
  | r :: rs => by
    have ih := split_rules l k media rs
    have h1 := split_rule l k media r
    rw [List.flatMap_cons, rulesC_append]
    show AlikeR ((ruleC l k media r).bind fun x => (rulesC l k media rs).map (x ++ ·)) _
    cases a1 : ruleC l k media r <;> cases a2 : rulesC l k media (splitR r) <;> cases b1 : rulesC l k media rs <;> cases b2 : rulesC l k media (rs.flatMap splitR) <;> rw [a1, a2] at h1 <;> rw [b1, b2] at ih <;> first | exact trivial | exact h1.elim | exact ih.elim | skip
    intro n
    rw [win_append, win_append, h1 n, ih n]
end Go.Proofs.YtblkldfokeeaeacGreatDoor
namespace Go.Proofs.YtblkldfokeeaeacGreatDoor
theorem win_snoc (n : List UInt8) (cs : List Cl) (c : Cl) : win n (cs ++ [c]) = merge (win n cs) (one n c) := by
  rw [win_append]
  show merge _ (merge (one n c) none) = _
  rw [merge_none]
theorem win_put (cs : List Cl) (c : Cl) : win (nm c.d) (cs ++ [c]) = match win (nm c.d) cs with
    | none => some c
    | some a => if beats c a then some c else some a := by
  rw [win_snoc]
  unfold one
  rw [if_pos rfl]
  cases win (nm c.d) cs <;> rfl
theorem win_other {n : List UInt8} (cs : List Cl) {c : Cl} (h : nm c.d ≠ n) : win n (cs ++ [c]) = win n cs := by
  rw [win_snoc]
  unfold one
  rw [if_neg h, merge_none]
theorem look_of_keys {f : List UInt8 → Option Dc} (hf : ∀ n x, f n = some x → nm x = n) : ∀ {ks : List (List UInt8)}, ks.Pairwise (· < ·) → (∀ n, (f n).isSome = true ↔ n ∈ ks) → IsLook (ks.filterMap f) f := by
  intro ks hp hk
  refine ⟨?_, fun n x => ?_⟩
  · rw [List.pairwise_filterMap]
    refine hp.imp ?_
    intro a b hab x hx y hy
    rw [hf _ _ hx, hf _ _ hy]
    exact hab
  · constructor
    · intro h
      exact ⟨List.mem_filterMap.2 ⟨n, (hk n).1 (by rw [h]; rfl), h⟩, hf _ _ h⟩
    · rintro ⟨h, rfl⟩
      obtain ⟨m, _, hm⟩ := List.mem_filterMap.1 h
      rw [hf _ _ hm]
      exact hm
theorem lookF_name (cs : List Cl) (n : List UInt8) (x : Dc) (h : lookF cs n = some x) : nm x = n := by
  unfold lookF at h
  cases hw : win n cs with
  | none => rw [hw] at h; cases h
  | some c =>
    rw [hw] at h
    injection h with h
    rw [← h]
    exact (win_name hw).2
section
variable (sty : ByteArray → Except Int (List Dc)) (inh : ByteArray → Bool) (ini : ByteArray → ByteArray)
def valueB (l : List Nd) (rules : List Ru) (media : List ByteArray) (name : ByteArray) (k : Nat) : Except Int ByteArray :=
  match claimsB sty l k rules media with
  | .error e => .error e
  | .ok cs => match lookF cs name.data.toList with
    | some d => .ok d.val
    | none => if _h : inh name = true ∧ 0 ≤ par l k ∧ par l k < k then valueB l rules media name (par l k).toNat else .ok (ini name)
termination_by k
decreasing_by omega
theorem value_err {l : List Nd} {rules : List Ru} {media : List ByteArray} {name : ByteArray} {k : Nat} {e : Int} (h : claimsB sty l k rules media = .error e) : valueB sty inh ini l rules media name k = .error e := by
  rw [valueB, h]
theorem value_there {l : List Nd} {rules : List Ru} {media : List ByteArray} {name : ByteArray} {k : Nat} {cs : List Cl} {d : Dc} (h : claimsB sty l k rules media = .ok cs) (hd : lookF cs name.data.toList = some d) : valueB sty inh ini l rules media name k = .ok d.val := by
  rw [valueB, h]
  simp only [hd]
theorem value_up {l : List Nd} {rules : List Ru} {media : List ByteArray} {name : ByteArray} {k : Nat} {cs : List Cl} (h : claimsB sty l k rules media = .ok cs) (hd : lookF cs name.data.toList = none) (hi : inh name = true) (h0 : 0 ≤ par l k) (h1 : par l k < k) :
    valueB sty inh ini l rules media name k = valueB sty inh ini l rules media name (par l k).toNat := by
  rw [valueB, h]
  simp only [hd]
  rw [dif_pos ⟨hi, h0, h1⟩]
theorem value_end {l : List Nd} {rules : List Ru} {media : List ByteArray} {name : ByteArray} {k : Nat} {cs : List Cl} (h : claimsB sty l k rules media = .ok cs) (hd : lookF cs name.data.toList = none) (hn : ¬ (inh name = true ∧ 0 ≤ par l k ∧ par l k < k)) :
    valueB sty inh ini l rules media name k = .ok (ini name) := by
  rw [valueB, h]
  simp only [hd]
  rw [dif_neg hn]
end
end Go.Proofs.YtblkldfokeeaeacGreatDoor
namespace Go.Proofs.YtblkldfokeeaeacGreatDoor
theorem win_no {n : List UInt8} : ∀ {cs : List Cl}, (∀ c ∈ cs, nm c.d ≠ n) → win n cs = none
  | [], _ => rfl
  | c :: cs, h => by
    show merge (one n c) (win n cs) = none
    rw [win_no (fun x hx => h x (List.mem_cons_of_mem _ hx))]
    unfold one
    rw [if_neg (h c (List.mem_cons_self ..))]
    rfl
theorem pick_look {f : List UInt8 → Option Dc} {L : List Dc} (h : IsLook L f) (n : List UInt8) : pick n L = f n := by
  obtain ⟨hp, hm⟩ := h
  have key : ∀ {L : List Dc}, L.Pairwise (fun x y => nm x < nm y) → ∀ x, pick n L = some x ↔ x ∈ L ∧ nm x = n := by
    intro L
    induction L with
    | nil => intro _ x; simp [pick]
    | cons d L ih =>
      intro hp x
      obtain ⟨h1, h2⟩ := List.pairwise_cons.1 hp
      have ih := ih h2
      show mergeD (if nm d = n then some d else none) (pick n L) = some x ↔ _
      by_cases hd : nm d = n
      · rw [if_pos hd]
        have hno : pick n L = none := by
          cases hq : pick n L with
          | none => rfl
          | some y =>
            obtain ⟨hy1, hy2⟩ := (ih y).1 hq
            have := h1 y hy1
            rw [hd, hy2] at this
            exact absurd this (List.lt_irrefl _)
        rw [hno]
        constructor
        · intro e
          injection e with e
          subst e
          exact ⟨List.mem_cons_self .., hd⟩
        · rintro ⟨hx, hn⟩
          rcases List.mem_cons.1 hx with rfl | hx
          · rfl
          · have := (ih x).2 ⟨hx, hn⟩
            rw [hno] at this
            cases this
      · rw [if_neg hd]
        show pick n L = some x ↔ _
        rw [ih x]
        constructor
        · rintro ⟨hx, hn⟩; exact ⟨List.mem_cons_of_mem _ hx, hn⟩
        · rintro ⟨hx, hn⟩
          rcases List.mem_cons.1 hx with rfl | hx
          · exact absurd hn hd
          · exact ⟨hx, hn⟩
  cases hf : f n with
  | some x => exact (key hp x).2 ((hm n x).1 hf)
  | none =>
    cases hq : pick n L with
    | none => rfl
    | some x =>
      have := (hm n x).2 ((key hp x).1 hq)
      rw [hf] at this
      cases this
abbrev Fc := List Cl × Bool
def allCl (R : List Fc) : List Cl := R.flatMap (·.1)
def stayCl (R : List Fc) : List Cl := (R.filter (·.2)).flatMap (·.1)
def goCl (R : List Fc) : List Cl := (R.filter (fun x => !x.2)).flatMap (·.1)
def Apart (R : List Fc) : Prop := ∀ x ∈ stayCl R, ∀ y ∈ goCl R, nm x.d ≠ nm y.d
theorem win_stay {n : List UInt8} : ∀ {R : List Fc}, (∀ y ∈ goCl R, nm y.d ≠ n) → win n (allCl R) = win n (stayCl R)
  | [], _ => rfl
  | (c, b) :: R, h => by
    cases b
    · have h1 : ∀ y ∈ c, nm y.d ≠ n := fun y hy => h y (by unfold goCl; simp; exact .inl hy)
      have h2 : ∀ y ∈ goCl R, nm y.d ≠ n := fun y hy => h y (by unfold goCl at hy ⊢; simp at hy ⊢; exact .inr hy)
      show win n (c ++ allCl R) = win n (stayCl R)
      rw [win_append, win_no h1, win_stay h2]; rfl
    · have h2 : ∀ y ∈ goCl R, nm y.d ≠ n := fun y hy => h y hy
      show win n (c ++ allCl R) = win n (c ++ stayCl R)
      rw [win_append, win_append, win_stay h2]
theorem win_go {n : List UInt8} : ∀ {R : List Fc}, (∀ y ∈ stayCl R, nm y.d ≠ n) → win n (allCl R) = win n (goCl R)
  | [], _ => rfl
  | (c, b) :: R, h => by
    cases b
    · have h2 : ∀ y ∈ stayCl R, nm y.d ≠ n := fun y hy => h y hy
      show win n (c ++ allCl R) = win n (c ++ goCl R)
      rw [win_append, win_append, win_go h2]
    · have h1 : ∀ y ∈ c, nm y.d ≠ n := fun y hy => h y (by unfold stayCl; simp; exact .inl hy)
      have h2 : ∀ y ∈ stayCl R, nm y.d ≠ n := fun y hy => h y (by unfold stayCl at hy ⊢; simp at hy ⊢; exact .inr hy)
      show win n (c ++ allCl R) = win n (goCl R)
      rw [win_append, win_no h1, win_go h2]; rfl
theorem same_look {R : List Fc} {O L : List Dc} (ha : Apart R) (hL : IsLook L (lookF (goCl R ++ asC true w00 O))) (n : List UInt8) : lookF (allCl R ++ asC true w00 O) n = lookF (stayCl R ++ asC true w00 L) n := by
  have hpl : win n (asC true w00 L) = (lookF (goCl R ++ asC true w00 O) n).map fun d => ⟨d, true, w00⟩ := by rw [win_asC, pick_look hL]
  have hpo : win n (asC true w00 O) = (pick n O).map fun d => ⟨d, true, w00⟩ := win_asC n true w00 O
  by_cases hs : ∃ x ∈ stayCl R, nm x.d = n
  · obtain ⟨x, hx, hn⟩ := hs
    have hg : ∀ y ∈ goCl R, nm y.d ≠ n := fun y hy e => ha x hx y hy (by rw [hn, e])
    have e1 : win n (asC true w00 L) = win n (asC true w00 O) := by
      rw [hpl]
      unfold lookF
      rw [win_append, win_no hg, hpo]
      cases pick n O <;> rfl
    unfold lookF
    rw [win_append, win_append, win_stay hg, e1]
  · have hs' : ∀ y ∈ stayCl R, nm y.d ≠ n := fun y hy e => hs ⟨y, hy, e⟩
    have e2 : lookF (stayCl R ++ asC true w00 L) n = (win n (asC true w00 L)).map (·.d) := by
      unfold lookF; rw [win_append, win_no hs']; rfl
    rw [e2, hpl]
    have e3 : lookF (allCl R ++ asC true w00 O) n = lookF (goCl R ++ asC true w00 O) n := by
      unfold lookF; rw [win_append, win_append, win_go hs']
    rw [e3]
    cases lookF (goCl R ++ asC true w00 O) n <;> rfl
theorem own_enough {R : List Fc} {O L X : List Dc} (hL : IsLook L (lookF (goCl R ++ asC true w00 O))) (hX : IsLook X (lookF (allCl R ++ asC true w00 O))) {d : Dc} (hd : d ∈ X) (hs : ∀ y ∈ stayCl R, nm y.d ≠ nm d) : d ∈ L := by
  have h1 := (hX.2 (nm d) d).2 ⟨hd, rfl⟩
  have e3 : lookF (allCl R ++ asC true w00 O) (nm d) = lookF (goCl R ++ asC true w00 O) (nm d) := by
    unfold lookF; rw [win_append, win_append, win_go hs]
  rw [e3] at h1
  exact ((hL.2 (nm d) d).1 h1).1
theorem own_again {L M : List Dc} {f : List UInt8 → Option Dc} (hL : IsLook L f) (hM : IsLook M (lookF ([] ++ asC true w00 L))) : M = L := by
  refine hM.same hL fun n => ?_
  unfold lookF
  rw [List.nil_append, win_asC, pick_look hL]
  cases f n <;> rfl
end Go.Proofs.YtblkldfokeeaeacGreatDoor
namespace Go.Proofs.YtblkldfokeeaeacGreatDoor
structure Sim (l m : List Nd) : Prop where
  len : l.length = m.length
  nme : ∀ k, (ndAt l k).name = (ndAt m k).name
  par : ∀ k, par l k = par m k
  get : ∀ (k : Nat) (n : ByteArray), n.toList ≠ styleN.toList → getA n (ndAt l k).attrs = getA n (ndAt m k).attrs
def TsOk (t : Ts) : Prop := (t.kind = 4 ∨ t.kind = 5) → t.name.toList ≠ styleN.toList
def SelOk (s : List Pt) : Prop := ∀ p ∈ s, ∀ t ∈ p.tests, TsOk t
section
variable {l m : List Nd} (H : Sim l m)
include H
theorem Sim.aheadTo (p : Int) : ∀ k, aheadTo l p k = aheadTo m p k
  | 0 => rfl
  | k + 1 => by
    show (if YtblkldfokeeaeacGreatDoor.par l k = p then (k : Int) else YtblkldfokeeaeacGreatDoor.aheadTo l p k) = if YtblkldfokeeaeacGreatDoor.par m k = p then (k : Int) else YtblkldfokeeaeacGreatDoor.aheadTo m p k
    rw [H.par k, Sim.aheadTo p k]
theorem Sim.ahead (k : Nat) : ahead l k = ahead m k := by
  unfold YtblkldfokeeaeacGreatDoor.ahead; rw [H.par k, H.aheadTo]
theorem Sim.testB (k : Nat) {t : Ts} (ht : TsOk t) : testB l k t = testB m k t := by
  have hc := H.get k clsN (by decide +kernel)
  have hi := H.get k idN (by decide +kernel)
  unfold YtblkldfokeeaeacGreatDoor.testB clsOf attrB
  rw [H.nme k, hc, hi, H.ahead k]
  by_cases h4 : t.kind = 4 ∨ t.kind = 5
  · rw [H.get k t.name (ht h4)]
  · have h4' : ¬ t.kind = 4 := fun e => h4 (.inl e)
    have h5' : ¬ t.kind = 5 := fun e => h4 (.inr e)
    simp only [if_neg h4', if_neg h5']
theorem Sim.partB (k : Nat) {p : Pt} (hp : ∀ t ∈ p.tests, TsOk t) : partB l k p = partB m k p := by
  unfold YtblkldfokeeaeacGreatDoor.partB
  generalize p.tests = ts at *
  induction ts with
  | nil => rfl
  | cons t ts ih =>
    simp only [List.all_cons]
    rw [H.testB k (hp t (List.mem_cons_self ..)), ih (fun x hx => hp x (List.mem_cons_of_mem _ hx))]
theorem Sim.aboves : ∀ k, aboves l k = aboves m k := by
  intro k
  induction k using Nat.strongRecOn with
  | _ k ih =>
    by_cases h : 0 ≤ YtblkldfokeeaeacGreatDoor.par l k ∧ YtblkldfokeeaeacGreatDoor.par l k < k
    · have h' : 0 ≤ YtblkldfokeeaeacGreatDoor.par m k ∧ YtblkldfokeeaeacGreatDoor.par m k < k := by rw [← H.par k]; exact h
      rw [aboves_pos h.1 h.2, aboves_pos h'.1 h'.2, ← H.par k, ih (YtblkldfokeeaeacGreatDoor.par l k).toNat (by omega)]
    · have h' : ¬ (0 ≤ YtblkldfokeeaeacGreatDoor.par m k ∧ YtblkldfokeeaeacGreatDoor.par m k < k) := by rw [← H.par k]; exact h
      rw [aboves_neg h, aboves_neg h']
theorem Sim.ups (k : Nat) (j : Int) : ups l k j = ups m k j := by
  unfold YtblkldfokeeaeacGreatDoor.ups single
  rw [H.aboves k, H.par k, H.ahead k, H.len]
theorem Sim.rest {s : List Pt} (hs : SelOk s) : ∀ (i x : Nat), rest l s i x = rest m s i x
  | 0, _ => rfl
  | i + 1, x => by
    show (YtblkldfokeeaeacGreatDoor.ups l x (ptAt s (i + 1)).join).any (fun y => YtblkldfokeeaeacGreatDoor.partB l y (ptAt s i) && YtblkldfokeeaeacGreatDoor.rest l s i y) = (YtblkldfokeeaeacGreatDoor.ups m x (ptAt s (i + 1)).join).any fun y => YtblkldfokeeaeacGreatDoor.partB m y (ptAt s i) && YtblkldfokeeaeacGreatDoor.rest m s i y
    rw [H.ups]
    congr 1
    funext y
    have hp : ∀ t ∈ (ptAt s i).tests, TsOk t := by
      by_cases hi : i < s.length
      · rw [ptAt_eq hi]; exact hs _ (List.getElem_mem hi)
      · have : ptAt s i = pt0 := by simp [ptAt, List.getD, hi]
        rw [this]; intro t ht; cases ht
    rw [H.partB y hp, Sim.rest hs i y]
theorem Sim.matchB (k : Int) {s : List Pt} (hs : SelOk s) : matchB l k s = matchB m k s := by
  unfold YtblkldfokeeaeacGreatDoor.matchB inB meansB
  have hp : ∀ t ∈ (ptAt s (s.length - 1)).tests, TsOk t := by
    by_cases hi : s.length - 1 < s.length
    · rw [ptAt_eq hi]; exact hs _ (List.getElem_mem hi)
    · have : ptAt s (s.length - 1) = pt0 := by simp [ptAt, List.getD, hi]
      rw [this]; intro t ht; cases ht
  rw [H.len, H.partB _ hp, H.rest hs]
theorem Sim.bestTo (k : Int) : ∀ (ss : List (List Pt)) (acc : Wt × Bool), (∀ s ∈ ss, SelOk s) → bestTo l k ss acc = bestTo m k ss acc
  | [], _, _ => rfl
  | s :: ss, acc, h => by
    unfold YtblkldfokeeaeacGreatDoor.bestTo
    rw [H.matchB k (h s (List.mem_cons_self ..)), Sim.bestTo k ss _ (fun x hx => h x (List.mem_cons_of_mem _ hx))]
theorem Sim.ruleC (k : Int) (media : List ByteArray) {r : Ru} (h : ∀ s ∈ r.sels, SelOk s) : ruleC l k media r = ruleC m k media r := by
  unfold YtblkldfokeeaeacGreatDoor.ruleC bestB
  rw [H.bestTo k r.sels _ h]
theorem Sim.rulesC (k : Int) (media : List ByteArray) : ∀ {rs : List Ru}, (∀ r ∈ rs, ∀ s ∈ r.sels, SelOk s) → rulesC l k media rs = rulesC m k media rs
  | [], _ => rfl
  | r :: rs, h => by
    show (YtblkldfokeeaeacGreatDoor.ruleC l k media r).bind (fun x => (YtblkldfokeeaeacGreatDoor.rulesC l k media rs).map (x ++ ·)) = (YtblkldfokeeaeacGreatDoor.ruleC m k media r).bind fun x => (YtblkldfokeeaeacGreatDoor.rulesC m k media rs).map (x ++ ·)
    rw [H.ruleC k media (h r (List.mem_cons_self ..)), Sim.rulesC k media (fun q hq => h q (List.mem_cons_of_mem _ hq))]
end
theorem ruleC_bare (l : List Nd) (k : Int) (media : List ByteArray) (r : Ru) (a b : Int) : ruleC l k media { r with rf := a, rt := b } = ruleC l k media r := rfl
end Go.Proofs.YtblkldfokeeaeacGreatDoor
namespace Go.Proofs.YtblkldfokeeaeacGreatDoor.Sh
theorem read_print {l : List Dcl} (h20 : l.length ≤ 20) (hok : ∀ d ∈ l, DclOK d) : declsParse (printL l) = .ok l ∧ (printL l).length ≤ 1900 := by
  have hb : ∀ d ∈ l, d.name.length ≤ 20 ∧ d.val.length ≤ 60 := fun d hd => by
    obtain ⟨⟨c, t, e, _, _, h1⟩, ⟨ws, _, _, _, h2⟩⟩ := hok d hd
    exact ⟨h1, h2⟩
  have hlen : ∀ (l : List Dcl), (∀ d ∈ l, d.name.length ≤ 20 ∧ d.val.length ≤ 60) → (printL l).length ≤ l.length * 95 := by
    intro l
    induction l with
    | nil => intro _; simp [printL]
    | cons d l ih =>
      intro hl
      have h1 := ih (fun x hx => hl x (List.mem_cons_of_mem _ hx))
      have h2 := hl d (by simp)
      have h3 : (printOne d).length ≤ 93 := by
        unfold printOne
        split <;> simp [importantL] <;> omega
      rw [List.length_cons, Nat.add_mul]
      cases l with
      | nil => simp [printL]; omega
      | cons x l => rw [printL_cons (by simp)]; simp only [List.length_append, List.length_cons] at h1 ⊢; omega
  have hl4 : (printL l).length ≤ 1900 := by
    have := hlen l hb
    have : l.length * 95 ≤ 20 * 95 := Nat.mul_le_mul_right _ h20
    omega
  refine ⟨?_, hl4⟩
  unfold declsParse
  rw [if_neg (by omega)]
  have g0 : ∃ g, gaps (printL l) 0 = .ok (g, 0) := by
    cases l with
    | nil => exact ⟨false, gaps_at_end (by simp [printL])⟩
    | cons d l =>
      obtain ⟨c, t, hc, lc⟩ := printL_head (l := d :: l) (by simp) hok
      have lb := letter_byte lc
      exact ⟨false, gaps_none (c := c) (Z := t) (by rw [List.drop_zero, hc]) lb.1 lb.2.1 lb.2.2.1⟩
  obtain ⟨g, g0⟩ := g0
  have e := declsTo_read (S := printL l) (by omega) l [] 0 22 hok (by simpa using h20) (by omega) (by simp)
  unfold declsAll onlyDecls decls
  simp only [bnd, g0, e, ended]
  rw [if_pos (by omega)]
  simp [ret]
theorem word_val {c : UInt8} (h : wordB c = true) : valueB c = true := by
  simp [wordB, letterB] at h
  simp [valueB, plainB]
  omega
theorem name_val {c : UInt8} (h : nameB c = true) : valueB c = true := by
  simp [nameB, letterB] at h
  simp [valueB, plainB]
  omega
theorem letter_val {c : UInt8} (h : letterB c = true) : valueB c = true := by
  simp [letterB] at h
  simp [valueB, plainB]
  omega
theorem joinW_bytes : ∀ {ws : List Bs}, (∀ u ∈ ws, AllW u) → ∀ c ∈ joinW ws, c = 32 ∨ wordB c = true
  | [], _, c, hc => by cases hc
  | [u], h, c, hc => .inr ((h u (List.mem_cons_self ..)).2 c hc)
  | u :: v :: ws, h, c, hc => by
    rcases List.mem_append.1 (show c ∈ u ++ 32 :: joinW (v :: ws) from hc) with hc | hc
    · exact .inr ((h u (List.mem_cons_self ..)).2 c hc)
    · rcases List.mem_cons.1 hc with rfl | hc
      · exact .inl rfl
      · exact joinW_bytes (fun x hx => h x (List.mem_cons_of_mem _ hx)) c hc
theorem dcl_bytes {d : Dcl} (h : DclOK d) : ∀ c ∈ printOne d, valueB c = true := by
  obtain ⟨⟨a, t, hn, ha, ht, _⟩, ⟨ws, _, hw, hv, _⟩⟩ := h
  have h1 : ∀ c ∈ d.name, valueB c = true := fun c hc => by
    rw [hn] at hc
    rcases List.mem_cons.1 hc with rfl | hc
    · exact letter_val ha
    · exact name_val (ht c hc)
  have h2 : ∀ c ∈ d.val, valueB c = true := fun c hc => by
    rw [hv] at hc
    rcases joinW_bytes hw c hc with rfl | hc
    · decide
    · exact word_val hc
  intro c hc
  unfold printOne at hc
  simp only [List.mem_append] at hc
  rcases hc with ((hc | hc) | hc) | hc
  · exact h1 c hc
  · rcases List.mem_cons.1 hc with rfl | hc
    · decide
    · rw [List.mem_singleton.1 hc]; decide
  · exact h2 c hc
  · split at hc
    · have : ∀ x ∈ ([32, 33] ++ importantL : List UInt8), valueB x = true := by decide
      exact this c hc
    · cases hc
theorem print_bytes : ∀ {l : List Dcl}, (∀ d ∈ l, DclOK d) → ∀ c ∈ printL l, valueB c = true
  | [], _, c, hc => by cases hc
  | [d], h, c, hc => dcl_bytes (h d (List.mem_cons_self ..)) c hc
  | d :: e :: l, h, c, hc => by
    rcases List.mem_append.1 (show c ∈ printOne d ++ [59, 32] ++ printL (e :: l) from hc) with hc | hc
    · rcases List.mem_append.1 hc with hc | hc
      · exact dcl_bytes (h d (List.mem_cons_self ..)) c hc
      · have : ∀ x ∈ ([59, 32] : List UInt8), valueB x = true := by decide
        exact this c hc
    · exact print_bytes (fun x hx => h x (List.mem_cons_of_mem _ hx)) c hc
def toL (d : Dc) : Dcl := ⟨d.name.data.toList, d.val.data.toList, d.strong⟩
def ofL (d : Dcl) : Dc := ⟨⟨⟨d.name⟩⟩, ⟨⟨d.val⟩⟩, d.strong⟩
theorem toL_ofL (d : Dcl) : toL (ofL d) = d := rfl
theorem ofL_toL (d : Dc) : ofL (toL d) = d := rfl
theorem words_joinW : ∀ {ws : List Bs}, ws ≠ [] → (∀ u ∈ ws, AllW u) → words (joinW ws) = ws
  | [], h, _ => absurd rfl h
  | [u], _, h => by
    refine words_one fun b hb e => ?_
    have := (h u (List.mem_cons_self ..)).2 b hb
    rw [e] at this
    exact absurd this (by decide)
  | u :: v :: ws, _, h => by
    show words (u ++ 32 :: joinW (v :: ws)) = _
    rw [words_app, words_joinW (ws := v :: ws) (by simp) (fun x hx => h x (List.mem_cons_of_mem _ hx))]
    rw [words_one (a := u) (fun b hb e => by
      have := (h u (List.mem_cons_self ..)).2 b hb
      rw [e] at this
      exact absurd this (by decide))]
    rfl
theorem joinW_part : ∀ {ws : List Bs} {u : Bs}, u ∈ ws → u.length ≤ (joinW ws).length
  | [], _, h => by cases h
  | [v], u, h => by rw [List.mem_singleton.1 h]; exact Nat.le_refl _
  | v :: x :: ws, u, h => by
    show u.length ≤ (v ++ 32 :: joinW (x :: ws)).length
    rcases List.mem_cons.1 h with rfl | h
    · simp
    · have := joinW_part (ws := x :: ws) h
      simp at this ⊢
      omega
theorem exp_ok {d : Dc} {X : List Dc} (h : DclOK (toL d)) (hx : expB d = some X) : ∀ y ∈ X, DclOK (toL y) := by
  unfold expB at hx
  split at hx
  · split at hx
    · cases hx
    · rename_i h4
      injection hx with hx
      subst hx
      obtain ⟨_, ⟨ws, hne, hw, hv, hl⟩⟩ := h
      have hv' : d.val.data.toList = joinW ws := hv
      have hwd : ws = words d.val.data.toList := by rw [hv', words_joinW hne hw]
      have hcd : (cutB d.val).map (·.data.toList) = ws := by
        rw [hwd]
        exact cut_few d.val (fun hc => h4 ((cut_many d.val).2 hc))
      have hmem : ∀ u ∈ cutB d.val, ValOK u.data.toList := fun u hu => by
        have hu' : u.data.toList ∈ ws := by rw [← hcd]; exact List.mem_map.2 ⟨u, hu, rfl⟩
        refine ⟨[u.data.toList], by simp, fun x hx => by rw [List.mem_singleton.1 hx]; exact hw _ hu', rfl, ?_⟩
        have := joinW_part hu'
        have h60 : d.val.data.toList.length ≤ 60 := hl
        rw [hv'] at h60
        omega
      have hpos := cut_pos d.val
      have g0 : ValOK (v0 (cutB d.val)).data.toList := by
        have : v0 (cutB d.val) = (cutB d.val)[0] := by simp [v0, List.getD, hpos]
        rw [this]; exact hmem _ (List.getElem_mem hpos)
      have gD : ∀ (j : Nat) (e : ByteArray), ValOK e.data.toList → ValOK ((cutB d.val).getD j e).data.toList := fun j e he => by
        by_cases hj : j < (cutB d.val).length
        · have : (cutB d.val).getD j e = (cutB d.val)[j] := by simp [List.getD, hj]
          rw [this]; exact hmem _ (List.getElem_mem hj)
        · have : (cutB d.val).getD j e = e := by simp [List.getD, hj]
          rw [this]; exact he
      have g1 : ValOK (v1 (cutB d.val)).data.toList := gD 1 _ g0
      have g2 : ValOK (v2 (cutB d.val)).data.toList := gD 2 _ g0
      have g3 : ValOK (v3 (cutB d.val)).data.toList := gD 3 _ g1
      intro y hy
      simp [fourB] at hy
      rcases hy with rfl | rfl | rfl | rfl
      · exact ⟨⟨101, [100, 103, 101, 45, 116, 111, 112], rfl, by decide, by decide, show sd0.data.toList.length ≤ 20 by decide⟩, g0⟩
      · exact ⟨⟨101, [100, 103, 101, 45, 114, 105, 103, 104, 116], rfl, by decide, by decide, show sd1.data.toList.length ≤ 20 by decide⟩, g1⟩
      · exact ⟨⟨101, [100, 103, 101, 45, 98, 111, 116, 116, 111, 109], rfl, by decide, by decide, show sd2.data.toList.length ≤ 20 by decide⟩, g2⟩
      · exact ⟨⟨101, [100, 103, 101, 45, 108, 101, 102, 116], rfl, by decide, by decide, show sd3.data.toList.length ≤ 20 by decide⟩, g3⟩
  · injection hx with hx
    subst hx
    intro y hy
    rw [List.mem_singleton.1 hy]; exact h
theorem all_ok : ∀ {l X : List Dc}, (∀ d ∈ l, DclOK (toL d)) → allB l = some X → ∀ y ∈ X, DclOK (toL y)
  | [], X, _, h => by injection h with h; rw [← h]; simp
  | d :: l, X, hs, h => by
    change (expB d).bind (fun x => (allB l).map (x ++ ·)) = some X at h
    cases hx : expB d with
    | none => rw [hx] at h; cases h
    | some x =>
      cases hy : allB l with
      | none => rw [hx, hy] at h; cases h
      | some y =>
        rw [hx, hy] at h
        injection h with h
        rw [← h]
        intro z hz
        rcases List.mem_append.1 hz with hz | hz
        · exact exp_ok (hs d (List.mem_cons_self ..)) hx z hz
        · exact all_ok (fun e he => hs e (List.mem_cons_of_mem _ he)) hy z hz
end Go.Proofs.YtblkldfokeeaeacGreatDoor.Sh
