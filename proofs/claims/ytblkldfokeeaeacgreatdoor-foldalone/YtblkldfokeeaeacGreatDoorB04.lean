/- Texts that the statement's proof stands on: App, SheetSane, SheetFew, SheetTurn. -/
import Derived.Test.YtblkldfokeeaeacGreatDoorB03
import Derived.Test.YtblkldfokeeaeacGreatDoorB02
namespace Go.Proofs.YtblkldfokeeaeacGreatDoor.Sh
abbrev Ed := Nat × Nat × Bs
def app (S : Bs) : Nat → List Ed → Nat → Bs
  | k, [], m => sub S k m
  | k, e :: E, m => sub S k e.1 ++ e.2.2 ++ app S e.2.1 E m
def Within : Nat → List Ed → Nat → Prop
  | k, [], m => k ≤ m
  | k, e :: E, m => k ≤ e.1 ∧ e.1 ≤ e.2.1 ∧ Within e.2.1 E m
theorem Within.le : ∀ {E : List Ed} {k m : Nat}, Within k E m → k ≤ m
  | [], _, _, h => h
  | _ :: _, _, _, h => Nat.le_trans h.1 (Nat.le_trans h.2.1 h.2.2.le)
theorem Within.app : ∀ {E F : List Ed} {k m m' : Nat}, Within k E m → Within m F m' → Within k (E ++ F) m'
  | [], [], _, _, _, h, g => Nat.le_trans h g
  | [], _ :: _, _, _, _, h, g => ⟨Nat.le_trans h g.1, g.2⟩
  | _ :: _, _, _, _, _, h, g => ⟨h.1, h.2.1, h.2.2.app g⟩
theorem app_split {S : Bs} : ∀ {E F : List Ed} {k m m' : Nat}, Within k E m → Within m F m' → app S k (E ++ F) m' = app S k E m ++ app S m F m'
  | [], [], _, _, _, h, g => sub_join S h g
  | [], e :: F, k, m, m', h, g => by
    show sub S k e.1 ++ e.2.2 ++ app S e.2.1 F m' = sub S k m ++ (sub S m e.1 ++ e.2.2 ++ app S e.2.1 F m')
    rw [sub_join S h g.1]; simp
  | e :: E, F, k, m, m', h, g => by
    show sub S k e.1 ++ e.2.2 ++ app S e.2.1 (E ++ F) m' = sub S k e.1 ++ e.2.2 ++ app S e.2.1 E m ++ app S m F m'
    rw [app_split h.2.2 g]; simp
theorem sub_self (S : Bs) (k : Nat) : sub S k k = [] := by unfold sub; simp
def edA (v : Bs) (a : Atr) : List Ed := if a.name == styleL && !(a.val == v) then [(a.from_, a.to_, if v = [] then [] else at2 (styleL, v))] else []
def styEd (v : Bs) (ne : Nat) (as : List Atr) : List Ed := if as.any (fun a => a.name == styleL) then as.flatMap (edA v) else if v = [] then [] else [(ne, ne, at2 (styleL, v))]
theorem any_sty (k : Nat) (l : List At2) : (atrs k l).any (fun a => a.name == styleL) = l.any isSty := by
  have : (atrs k l).any (fun a => a.name == styleL) = ((atrs k l).map (·.name)).any (· == styleL) := by rw [List.any_map]; rfl
  rw [this, atrs_map, List.any_map]; rfl
theorem ats_app {S : Bs} (v : Bs) : ∀ (l : List At2) (k : Nat) (X : Bs), S.drop k = ats2 l ++ X → Within k ((atrs k l).flatMap (edA v)) (k + (ats2 l).length) ∧ app S k ((atrs k l).flatMap (edA v)) (k + (ats2 l).length) = ats2 (l.flatMap (one2 v))
  | [], k, X, _ => ⟨Nat.le_add_right .., by simp [atrs, app, ats2, sub_self]⟩
  | a :: l, k, X, h => by
    have h0 : S.drop k = at2 a ++ (ats2 l ++ X) := by rw [h]; simp [ats2]
    obtain ⟨w, e⟩ := ats_app v l (k + (at2 a).length) X (drop_on h0)
    have hlen : k + (ats2 (a :: l)).length = k + (at2 a).length + (ats2 l).length := by simp [ats2]; omega
    have one : Within k (edA v ⟨a.1, a.2, k, k + (at2 a).length⟩) (k + (at2 a).length) ∧ app S k (edA v ⟨a.1, a.2, k, k + (at2 a).length⟩) (k + (at2 a).length) = ats2 (one2 v a) := by
      unfold edA one2
      simp only
      have hq : (a.1 == styleL && !(a.2 == v)) = (isSty a && !(a.2 == v)) := rfl
      rw [hq]
      cases hc : (isSty a && !(a.2 == v))
      · simp only [Bool.false_eq_true, if_false]
        refine ⟨Nat.le_add_right .., ?_⟩
        show sub S k _ = _
        rw [sub_of h0]; simp [ats2]
      · simp only [if_true]
        refine ⟨⟨Nat.le_refl _, Nat.le_add_right .., Nat.le_refl _⟩, ?_⟩
        show sub S k k ++ _ ++ sub S _ _ = _
        rw [sub_self, sub_self]
        split <;> simp [ats2]
    show Within k (edA v _ ++ (atrs _ l).flatMap (edA v)) _ ∧ app S k (edA v _ ++ (atrs _ l).flatMap (edA v)) _ = _
    rw [hlen, app_split one.1 w, one.2, e]
    refine ⟨one.1.app w, ?_⟩
    simp [ats2]
theorem sty_app {S : Bs} (v : Bs) {l : List At2} {k : Nat} {X : Bs} (h : S.drop k = ats2 l ++ X) : Within k (styEd v k (atrs k l)) (k + (ats2 l).length) ∧ app S k (styEd v k (atrs k l)) (k + (ats2 l).length) = ats2 (editAts v l) := by
  unfold styEd editAts
  rw [any_sty]
  split
  · exact ats_app v l k X h
  · split
    · refine ⟨Nat.le_add_right .., ?_⟩
      show sub S k _ = _
      rw [sub_of h]
    · refine ⟨⟨Nat.le_refl _, Nat.le_refl _, Nat.le_add_right ..⟩, ?_⟩
      show sub S k k ++ _ ++ sub S k _ = _
      rw [sub_self, sub_of h]
      simp [ats2]
def ndEd (v : Nat → Bs) (hs : Nat → List Ed) (x : Nd × Nat) : List Ed := styEd (v x.2) x.1.nameEnd x.1.attrs ++ (if x.1.name = styleL then hs x.2 else [])
def eds (v : Nat → Bs) (hs : Nat → List Ed) (L : List Nd) (i : Nat) : List Ed := (L.zipIdx i).flatMap (ndEd v hs)
theorem eds_app (v : Nat → Bs) (hs : Nat → List Ed) (L M : List Nd) (i : Nat) : eds v hs (L ++ M) i = eds v hs L i ++ eds v hs M (i + L.length) := by
  unfold eds; rw [List.zipIdx_append, List.flatMap_append]
theorem plain_app {S : Bs} {k : Nat} {a X : Bs} (h : S.drop k = a ++ X) : Within k [] (k + a.length) ∧ app S k [] (k + a.length) = a := ⟨Nat.le_add_right .., sub_of h⟩
theorem first_app {S : Bs} {k : Nat} {n : Bs} {l : List At2} {X : Bs} (v : Bs) (h : S.drop k = first2 n l ++ X) :
    Within k (styEd v (k + 1 + n.length) (atrs (k + 1 + n.length) l)) (k + (first2 n l).length) ∧ app S k (styEd v (k + 1 + n.length) (atrs (k + 1 + n.length) l)) (k + (first2 n l).length) = first2 n (editAts v l) := by
  have h0 : S.drop k = ([60] ++ n) ++ (ats2 l ++ ([62] ++ X)) := by rw [h]; simp [first2]
  have h1 := drop_on h0
  have h2 := drop_on h1
  have hk : k + ([60] ++ n).length = k + 1 + n.length := by simp; omega
  rw [hk] at h1 h2
  have hl : k + (first2 n l).length = k + 1 + n.length + (ats2 l).length + [(62 : UInt8)].length := by simp [first2]; omega
  have p1 := plain_app h0
  rw [hk] at p1
  have p2 := sty_app v h1
  have p3 := plain_app h2
  have w := (p1.1.app p2.1).app p3.1
  have e := app_split (S := S) (p1.1.app p2.1) p3.1
  rw [app_split p1.1 p2.1, p1.2, p2.2, p3.2] at e
  rw [hl]
  simp only [List.nil_append, List.append_nil] at w e
  refine ⟨w, ?_⟩
  rw [e]
  simp [first2]
theorem text_edit {S : Bs} (v : Nat → Bs) (g : Nat → Bs → Bs) (hs : Nat → List Ed) : ∀ (t : Tr) (k : Nat) (p : Int) (i d : Nat) (Q : Bs), Ok d t → S.drop k = text t ++ Q →
      (∀ x ∈ (nodes k p i t).zipIdx i, x.1.name = styleL → Within x.1.inFrom (hs x.2) x.1.inTo ∧ app S x.1.inFrom (hs x.2) x.1.inTo = g x.2 (sub S x.1.inFrom x.1.inTo)) →
      Within k (eds v hs (nodes k p i t) i) (k + (text t).length) ∧ app S k (eds v hs (nodes k p i t) i) (k + (text t).length) = text (edit v g i t)
  | .nil, k, p, i, d, Q, _, h, _ => plain_app h
  | .txt b r, k, p, i, d, Q, ho, h, hh => by
    have h0 : S.drop k = [b] ++ (text r ++ Q) := h
    obtain ⟨w, e⟩ := text_edit v g hs r (k + 1) p i d Q ho.2 (drop_on h0) hh
    have p1 : Within k [] (k + 1) ∧ app S k [] (k + 1) = [b] := plain_app h0
    have hl : k + (text (.txt b r)).length = k + 1 + (text r).length := by simp [text]; omega
    rw [hl]
    have w2 := p1.1.app w
    have e2 := app_split (S := S) p1.1 w
    rw [p1.2] at e2
    exact ⟨w2, e2.trans (by rw [e]; rfl)⟩
  | .note c r, k, p, i, d, Q, ho, h, hh => by
    have h0 : S.drop k = ([60, 33, 45, 45] ++ c ++ [45, 45, 62]) ++ (text r ++ Q) := by rw [h]; simp [text]
    have hk : k + ([60, 33, 45, 45] ++ c ++ [45, 45, 62]).length = k + 7 + c.length := by simp; omega
    have h1 := drop_on h0
    rw [hk] at h1
    obtain ⟨w, e⟩ := text_edit v g hs r (k + 7 + c.length) p i d Q ho.2 h1 hh
    have p1 := plain_app h0
    rw [hk] at p1
    have hl : k + (text (.note c r)).length = k + 7 + c.length + (text r).length := by simp [text]; omega
    rw [hl]
    have w2 := p1.1.app w
    have e2 := app_split (S := S) p1.1 w
    rw [p1.2] at e2
    exact ⟨w2, e2.trans (by rw [e]; simp [edit, text])⟩
  | .sty l s r, k, p, i, d, Q, ho, h, hh => by
    have h0 : S.drop k = first2 styleL l ++ (s ++ (lastTag styleL ++ (text r ++ Q))) := by rw [h]; simp [text]
    have h1 := drop_on h0
    have h2 := drop_on h1
    have h3 := drop_on h2
    have h8 : (lastTag styleL).length = 8 := by decide
    have p1 := first_app (v i) h0
    have hx := hh (⟨styleL, p, atrs (k + 6) l, k + 6, k + (first2 styleL l).length, k + (first2 styleL l).length + s.length⟩, i) (List.mem_cons_self ..) rfl
    simp only at hx
    rw [sub_of h1] at hx
    have p3 := plain_app h2
    rw [h8] at p3 h3
    obtain ⟨w, e⟩ := text_edit v g hs r (k + (first2 styleL l).length + s.length + 8) p (i + 1) d Q ho.2.2.2 h3 (fun x hx' => hh x (List.mem_cons_of_mem _ hx'))
    have hE : eds v hs (nodes k p i (.sty l s r)) i = (styEd (v i) (k + 1 + styleL.length) (atrs (k + 1 + styleL.length) l) ++ hs i) ++ ([] ++ eds v hs (nodes (k + (first2 styleL l).length + s.length + 8) p (i + 1) r) (i + 1)) := by
      show (ndEd v hs (_, i)) ++ eds v hs (nodes _ p (i + 1) r) (i + 1) = _
      rw [List.nil_append]
      congr 1
    have hl : k + (text (.sty l s r)).length = k + (first2 styleL l).length + s.length + 8 + (text r).length := by simp [text, h8]; omega
    rw [hE, hl]
    refine ⟨(p1.1.app hx.1).app (p3.1.app w), ?_⟩
    rw [app_split (p1.1.app hx.1) (p3.1.app w), app_split p1.1 hx.1, app_split p3.1 w, p1.2, hx.2, p3.2, e]
    simp [edit, text]
  | .el n l t r, k, p, i, d, Q, ho, h, hh => by
    have h0 : S.drop k = first2 n l ++ (text t ++ (lastTag n ++ (text r ++ Q))) := by rw [h]; simp [text]
    have h1 := drop_on h0
    have h2 := drop_on h1
    have h3 := drop_on h2
    have p1 := first_app (v i) h0
    have hmem : ∀ x ∈ (nodes (k + (first2 n l).length) i (i + 1) t).zipIdx (i + 1) ++ (nodes (k + (first2 n l).length + (text t).length + (lastTag n).length) p (i + 1 + count t) r).zipIdx (i + 1 + count t), x ∈ (nodes k p i (.el n l t r)).zipIdx i := fun x hx => by
      show x ∈ (_, i) :: ((nodes (k + (first2 n l).length) i (i + 1) t ++ nodes (k + (first2 n l).length + (text t).length + (lastTag n).length) p (i + 1 + count t) r).zipIdx (i + 1))
      rw [List.zipIdx_append, nodes_len]
      exact List.mem_cons_of_mem _ hx
    obtain ⟨w1, e1⟩ := text_edit v g hs t (k + (first2 n l).length) i (i + 1) (d + 1) _ ho.2.2.2.2.1 h1 (fun x hx => hh x (hmem x (List.mem_append_left _ hx)))
    have p3 := plain_app h2
    obtain ⟨w, e⟩ := text_edit v g hs r (k + (first2 n l).length + (text t).length + (lastTag n).length) p (i + 1 + count t) d Q ho.2.2.2.2.2 h3 (fun x hx => hh x (hmem x (List.mem_append_right _ hx)))
    have hE : eds v hs (nodes k p i (.el n l t r)) i = (styEd (v i) (k + 1 + n.length) (atrs (k + 1 + n.length) l) ++ eds v hs (nodes (k + (first2 n l).length) i (i + 1) t) (i + 1)) ++ ([] ++ eds v hs (nodes (k + (first2 n l).length + (text t).length + (lastTag n).length) p (i + 1 + count t) r) (i + 1 + count t)) := by
      show (ndEd v hs (_, i)) ++ eds v hs (nodes _ _ _ t ++ nodes _ _ _ r) (i + 1) = _
      rw [eds_app, nodes_len]
      have hn : ¬ n = styleL := ho.2.2.1
      simp [ndEd, if_neg hn]
    have hl : k + (text (.el n l t r)).length = k + (first2 n l).length + (text t).length + (lastTag n).length + (text r).length := by simp [text]; omega
    rw [hE, hl]
    refine ⟨(p1.1.app w1).app (p3.1.app w), ?_⟩
    rw [app_split (p1.1.app w1) (p3.1.app w), app_split p1.1 w1, app_split p3.1 w, p1.2, e1, p3.2, e]
    simp [edit, text]
def edR (o : Nat) (M : List (Rl × Bool)) : List Ed := M.flatMap fun x => if x.2 then [] else [(o + x.1.from_, o + x.1.to_, [32])]
theorem sub_sub {S s : Bs} {o n : Nat} (hs : s = sub S o (o + n)) {a b : Nat} (hb : b ≤ n) : sub S (o + a) (o + b) = sub s a b := by
  rw [hs]
  unfold sub
  rw [Nat.add_sub_cancel_left, List.drop_take, List.drop_drop, List.take_take]
  congr 1
  omega
theorem gone_app {S s : Bs} {o : Nat} (hs : s = sub S o (o + s.length)) : ∀ {M : List Rl} {k : Nat} (fl : List Bool), Chain s k M → k ≤ s.length → Within (o + k) (edR o (M.zip fl)) (o + s.length) ∧ app S (o + k) (edR o (M.zip fl)) (o + s.length) = goneTo s k (M.zip fl)
  | [], k, fl, _, hk => by
    refine ⟨by simp [edR, Within]; omega, ?_⟩
    show sub S (o + k) (o + s.length) = s.drop k
    rw [sub_sub hs (Nat.le_refl _)]
    unfold sub
    rw [List.take_of_length_le (by simp)]
  | r :: M, k, [], _, hk => by
    refine ⟨by simp [edR, Within]; omega, ?_⟩
    show sub S (o + k) (o + s.length) = s.drop k
    rw [sub_sub hs (Nat.le_refl _)]
    unfold sub
    rw [List.take_of_length_le (by simp)]
  | r :: M, k, b :: fl, h, hk => by
    obtain ⟨h1, h2, h3, _, h5⟩ := h
    rw [List.zip_cons_cons]
    cases b
    · obtain ⟨w, e⟩ := gone_app hs fl h5 h3
      have hE : edR o ((r, false) :: M.zip fl) = (o + r.from_, o + r.to_, [32]) :: edR o (M.zip fl) := rfl
      rw [hE]
      refine ⟨⟨by simp; omega, by simp; omega, w⟩, ?_⟩
      show sub S (o + k) (o + r.from_) ++ [32] ++ app S (o + r.to_) _ _ = _
      rw [e, sub_sub hs (by omega)]
      rfl
    · have hE : edR o ((r, true) :: M.zip fl) = edR o (M.zip fl) := rfl
      rw [hE]
      exact gone_app hs fl (h5.weaken (by omega)) hk
end Go.Proofs.YtblkldfokeeaeacGreatDoor.Sh
namespace Go.Proofs.YtblkldfokeeaeacGreatDoor.Sh
open Go
def Fine {α : Type} (S : List UInt8) (k : Nat) : Res (α × Nat) → Prop
  | .error x => x.1 ≠ 0 ∧ x.2 ≤ S.length
  | .ok (_, m) => k ≤ m ∧ m ≤ S.length
def Sane {α : Type} (f : Pr α) : Prop := ∀ (S : List UInt8) (k : Nat), S.length ≤ 4000 → k ≤ S.length → Fine S k (f S k)
theorem sane_ret {α : Type} (a : α) : Sane (ret a) := fun _ _ _ hk => ⟨Nat.le_refl _, hk⟩
theorem sane_bad {α : Type} {e : Nat} (he : e ≠ 0) : Sane (bad (α := α) e) := fun _ _ _ hk => ⟨he, hk⟩
theorem sane_if {α : Type} {P : α → Prop} {β : Type} {f : Pr α} {g : α → Pr β} (hf : Sane f) (hP : ∀ S k a m, f S k = .ok (a, m) → P a) (hg : ∀ a, P a → Sane (g a)) : Sane (bnd f g) := by
  intro S k hS hk
  have h := hf S k hS hk
  unfold bnd
  cases e : f S k with
  | error x => rw [e] at h; exact h
  | ok q =>
    obtain ⟨a, m⟩ := q
    rw [e] at h
    have h2 := hg a (hP S k a m e) S m hS h.2
    show Fine S k (g a S m)
    cases e2 : g a S m with
    | error x => rw [e2] at h2; exact h2
    | ok q => rw [e2] at h2; exact ⟨Nat.le_trans h.1 h2.1, h2.2⟩
theorem sane_bnd {α β : Type} {f : Pr α} {g : α → Pr β} (hf : Sane f) (hg : ∀ a, Sane (g a)) : Sane (bnd f g) := sane_if (P := fun _ => True) hf (fun _ _ _ _ _ => trivial) (fun a _ => hg a)
theorem sane_opt {α : Type} {t : List UInt8} {f g : Pr α} (hf : Sane f) (hg : Sane g) : Sane (opt t f g) := by
  intro S k hS hk
  unfold opt
  split
  · rename_i hh
    have := has_le hh hk
    have h := hf S (k + t.length) hS this
    cases e : f S (k + t.length) with
    | error x => rw [e] at h; exact h
    | ok q => rw [e] at h; exact ⟨by have := h.1; omega, h.2⟩
  · exact hg S k hS hk
theorem sane_look {α : Type} {t : List UInt8} {f g : Pr α} (hf : Sane f) (hg : Sane g) : Sane (look t f g) := by
  intro S k hS hk
  unfold look
  split
  · exact hf S k hS hk
  · exact hg S k hS hk
theorem sane_fits {α : Type} {p : UInt8 → Bool} {f g : Pr α} (hf : Sane f) (hg : Sane g) : Sane (fits p f g) := by
  intro S k hS hk
  unfold fits
  split
  · exact hf S k hS hk
  · exact hg S k hS hk
theorem sane_ended {α : Type} {f g : Pr α} (hf : Sane f) (hg : Sane g) : Sane (ended f g) := by
  intro S k hS hk
  unfold ended
  split
  · exact hf S k hS hk
  · exact hg S k hS hk
theorem sane_ite {α : Type} {q : Prop} [Decidable q] {f g : Pr α} (hf : q → Sane f) (hg : ¬ q → Sane g) : Sane (if q then f else g) := by
  split
  · rename_i h; exact hf h
  · rename_i h; exact hg h
theorem sane_tok {t : List UInt8} : Sane (tok t) := sane_opt (sane_ret _) (sane_bad (by decide))
theorem gapsTo_fine {S : List UInt8} : ∀ (f k : Nat), S.length - k < f → k ≤ S.length → match gapsTo f S k with | .error x => x.1 ≠ 0 ∧ x.2 ≤ S.length | .ok m => k ≤ m ∧ m ≤ S.length
  | 0, _, h, _ => absurd h (Nat.not_lt_zero _)
  | f + 1, k, h, hk => by
    have more : ∀ k', k < k' → k' ≤ S.length → (match gapsTo f S k' with | .error x => x.1 ≠ 0 ∧ x.2 ≤ S.length | .ok m => k ≤ m ∧ m ≤ S.length) := by
      intro k' h1 h2
      have := gapsTo_fine f k' (by omega) h2
      cases e : gapsTo f S k' with
      | error x => rw [e] at this; exact this
      | ok m => rw [e] at this; exact ⟨by have := this.1; omega, this.2⟩
    rw [gapsTo]
    by_cases a1 : has S k [32] = true
    · rw [if_pos a1]
      have := (has_lt (x := 0) a1 (by simp)).2
      exact more (k + 1) (by omega) (by omega)
    rw [if_neg a1]
    by_cases a2 : has S k [10] = true
    · rw [if_pos a2]
      have := (has_lt (x := 0) a2 (by simp)).2
      exact more (k + 1) (by omega) (by omega)
    rw [if_neg a2]
    by_cases a3 : has S k [47, 42] = true
    · rw [if_pos a3]
      cases hp : pastAt S (k + 2) [42, 47] with
      | none => exact ⟨by simp, hk⟩
      | some e =>
        have p := (pastAt_iff (by simp)).1 hp
        have := (has_lt (x := 1) p.2.1 (by simp)).2
        exact more (e + 2) (by omega) (by omega)
    · rw [if_neg a3]
      exact ⟨Nat.le_refl _, hk⟩
theorem sane_gaps : Sane gaps := by
  intro S k hS hk
  have := gapsTo_fine 4001 k (by omega) hk
  unfold gaps
  cases e : gapsTo 4001 S k with
  | error x => rw [e] at this; exact this
  | ok m => rw [e] at this; exact this
theorem sane_sname : Sane sname := by
  intro S k hS hk
  unfold sname
  cases e : nameTo S k with
  | error x =>
    unfold nameTo at e
    split at e
    · cases e
    · injection e with e
      subst e
      exact ⟨by simp, hk⟩
  | ok m =>
    have := nameTo_le e
    simp only
    split
    · exact ⟨by simp, hk⟩
    · exact ⟨by omega, this.2⟩
theorem sane_word (ahead : List UInt8) : Sane (word ahead) := by
  intro S k hS hk
  have hw := whileEnd_le wordB hk
  simp only [word, chars]
  split
  · exact ⟨by simp, hk⟩
  split
  · exact ⟨by simp, hk⟩
  have h := sane_bnd sane_gaps (fun _ => sane_ret (ahead ++ sub S k (whileEnd S k wordB))) S (whileEnd S k wordB) hS hw.2
  generalize bnd gaps (fun _ => ret (ahead ++ sub S k (whileEnd S k wordB))) S (whileEnd S k wordB) = q at h ⊢
  cases q with
  | error x => exact h
  | ok q => exact ⟨Nat.le_trans hw.1 h.1, h.2⟩
theorem word_grows {ahead : List UInt8} {S : List UInt8} {k k' : Nat} {v : List UInt8} (h : word ahead S k = .ok (v, k')) : v.length ≤ 60 ∧ ahead.length < v.length := by
  simp only [word, chars] at h
  split at h
  · cases h
  rename_i hne
  split at h
  · cases h
  rename_i h60
  rw [bnd_ok] at h
  obtain ⟨_, m1, _, h2⟩ := h
  injection h2 with h2
  injection h2 with h2 _
  have : 0 < (sub S k (whileEnd S k wordB)).length := List.length_pos_iff.2 hne
  rw [← h2, List.length_append]
  omega
theorem sane_valueTo : ∀ (f : Nat) (v : List UInt8), v.length ≤ 60 → 60 < v.length + f → Sane (valueTo f v)
  | 0, v, h1, h2 => by omega
  | f + 1, v, h1, h2 => sane_fits (sane_if (P := fun u => u.length ≤ 60 ∧ v.length + 1 < u.length) (sane_word _) (fun S k a m e => by
      have := word_grows e
      simp at this
      exact this) (fun u hu => sane_valueTo f u hu.1 (by omega))) (sane_ret v)
theorem sane_value : Sane value := sane_if (P := fun u => u.length ≤ 60) (sane_word _) (fun S k a m e => (word_grows e).1) (fun u hu => sane_valueTo 62 u hu (by omega))
theorem sane_decl : Sane decl :=
  sane_bnd sane_sname fun _ => sane_bnd sane_gaps fun _ => sane_bnd sane_tok fun _ => sane_bnd sane_gaps fun _ => sane_bnd sane_value fun _ =>
    sane_opt (sane_bnd sane_tok fun _ => sane_bnd sane_gaps fun _ => sane_ret _) (sane_ret _)
theorem decl_letter' {S : List UInt8} {k k' : Nat} {d : Dcl} (h : decl S k = .ok (d, k')) : fitsAt S k letterB = true := by
  unfold decl at h
  rw [bnd_ok] at h
  obtain ⟨n, m, h1, _⟩ := h
  unfold sname nameTo at h1
  cases hf : fitsAt S k letterB with
  | true => rfl
  | false => rw [hf] at h1; cases h1
theorem sane_declsTo : ∀ (f : Nat) (l : List Dcl), f + l.length = 22 → l.length ≤ 20 → Sane (declsTo f l)
  | 0, l, h1, h2 => by omega
  | f + 1, l, h1, h2 => by
    refine sane_ended (sane_ret l) (sane_look (sane_ret l) ?_)
    by_cases h20 : 20 ≤ l.length
    · rw [if_pos h20]
      intro S k hS hk
      cases hf : fitsAt S k letterB with
      | true =>
        unfold bnd fits
        rw [if_pos hf]
        exact ⟨by simp, hk⟩
      | false =>
        have e : fits letterB (bad 5) (ret ()) S k = .ok ((), k) := by unfold fits; rw [if_neg (by rw [hf]; decide)]; rfl
        have hd := sane_decl S k hS hk
        cases ed : decl S k with
        | error x =>
          rw [ed] at hd
          simp only [bnd, e, ed]
          exact hd
        | ok q =>
          obtain ⟨d, m⟩ := q
          have := decl_letter' ed
          rw [hf] at this
          cases this
    · rw [if_neg h20]
      exact sane_bnd (sane_ret ()) fun _ => sane_bnd sane_decl fun d => sane_opt (sane_bnd sane_gaps fun _ => sane_declsTo f (l ++ [d]) (by simp; omega) (by simp; omega)) (sane_ret _)
theorem sane_decls : Sane decls := sane_bnd sane_gaps fun _ => sane_declsTo 22 [] (by simp) (by simp)
theorem sane_aheadOfPart (n most : Nat) : Sane (aheadOfPart n most) := by
  intro S k hS hk
  unfold aheadOfPart
  split
  · exact ⟨by simp, hk⟩
  split
  · exact ⟨by simp, hk⟩
  · exact ⟨Nat.le_refl _, hk⟩
theorem sane_attrTest : Sane attrTest := sane_bnd sane_sname fun _ => sane_ite (fun _ => sane_bad (by decide)) (fun _ => sane_bnd (sane_opt (sane_bnd sane_sname fun _ => sane_ret _) (sane_ret _)) fun _ => sane_bnd sane_tok fun _ => sane_ret _)
theorem sane_test : Sane test := sane_opt (sane_bnd sane_sname fun _ => sane_ret _) (sane_opt (sane_bnd sane_sname fun _ => sane_ret _) (sane_opt (sane_ret _) (sane_opt sane_attrTest (sane_ret _))))
theorem sane_testsTo : ∀ (f : Nat) (l : List Tst), 8 ≤ f + l.length → l.length ≤ 6 → Sane (testsTo f l)
  | 0, l, h1, h2 => by omega
  | f + 1, l, h1, h2 => sane_bnd sane_test fun t => sane_ite (fun _ => sane_ret l) (fun _ => sane_ite (fun _ => sane_bad (by decide)) (fun h => sane_testsTo f (l ++ [t]) (by simp; omega) (by simp; omega)))
theorem partHead_len {S : List UInt8} {k m : Nat} {l : List Tst} (h : partHead S k = .ok (l, m)) : l.length ≤ 1 := by
  unfold partHead opt at h
  split at h
  · injection h with h; injection h with h _; rw [← h]; simp
  unfold fits at h
  split at h
  · rw [bnd_ok] at h
    obtain ⟨n, m1, _, h2⟩ := h
    injection h2 with h2; injection h2 with h2 _; rw [← h2]; simp
  · injection h with h; injection h with h _; rw [← h]; simp
theorem sane_part (j : Nat) : Sane (part j) := sane_if (P := fun l => l.length ≤ 1) (sane_opt (sane_ret _) (sane_fits (sane_bnd sane_sname fun _ => sane_ret _) (sane_ret _))) (fun S k a m e => partHead_len e) (fun l hl => sane_bnd (sane_testsTo 8 l (by omega) (by omega)) fun _ => sane_ret _)
theorem sane_join : Sane join := sane_bnd sane_gaps fun _ => sane_opt (sane_bnd sane_gaps fun _ => sane_ret _) (sane_opt (sane_bnd sane_gaps fun _ => sane_ret _) (sane_ite (fun _ => sane_look (sane_ret _) (sane_look (sane_ret _) (sane_ended (sane_ret _) (sane_ret _)))) (fun _ => sane_ret _)))
theorem sane_selectorTo : ∀ (f j : Nat) (l : List Prt), f + l.length = 8 → l.length ≤ 6 → Sane (selectorTo f j l)
  | 0, _, l, h1, h2 => by omega
  | f + 1, j, l, h1, h2 => sane_if (P := fun _ => l.length < 6) (sane_aheadOfPart _ _) (fun S k a m e => (ahead_iff.1 e).2.1) fun _ h => sane_bnd (sane_part j) fun p => sane_bnd sane_join fun q => sane_ite (fun _ => sane_selectorTo f q.1 (l ++ [p]) (by simp; omega) (by simp; omega)) (fun _ => sane_ret _)
theorem sane_selectorsTo : ∀ (f : Nat) (l : List (List Prt)), f + l.length = 10 → l.length ≤ 8 → Sane (selectorsTo f l)
  | 0, l, h1, h2 => by omega
  | f + 1, l, h1, h2 => sane_if (P := fun _ => l.length < 8) (sane_aheadOfPart _ _) (fun S k a m e => (ahead_iff.1 e).2.1) fun _ h => sane_bnd (sane_selectorTo 8 0 [] (by simp) (by simp)) fun p => sane_opt (sane_bnd sane_gaps fun _ => sane_selectorsTo f (l ++ [p]) (by simp; omega) (by simp; omega)) (sane_ret _)
theorem sane_rule (n : Nat) : Sane (rule n) := sane_bnd (sane_aheadOfPart _ _) fun _ => sane_bnd (sane_selectorsTo 10 [] (by simp) (by simp)) fun _ => sane_bnd sane_tok fun _ => sane_bnd sane_decls fun _ => sane_bnd sane_tok fun _ => sane_ret _
theorem sane_mediaHead : Sane mediaHead := sane_bnd sane_gaps fun _ => sane_ite (fun _ => sane_bnd sane_sname fun _ => sane_bnd sane_gaps fun _ => sane_bnd sane_tok fun _ => sane_ret _) (fun _ => sane_bad (by decide))
theorem rulesTo_fault {S : List UInt8} (hS : S.length ≤ 4000) : ∀ (f k : Nat) (md : Option (List UInt8)) (L : List Rl) (x : Nat × Nat), S.length - k < f → k ≤ S.length → rulesTo f S k md L = .error x → x.1 ≠ 0 ∧ x.2 ≤ S.length
  | 0, _, _, _, _, h, _, _ => absurd h (Nat.not_lt_zero _)
  | f + 1, k, md, L, x, h, hk, e => by
    rw [rulesTo] at e
    have hg := sane_gaps S k hS hk
    cases eg : gaps S k with
    | error y =>
      rw [eg] at e hg
      injection e with e
      subst e
      exact hg
    | ok q =>
      obtain ⟨g, k1⟩ := q
      rw [eg] at e hg
      have hg1 : k ≤ k1 := hg.1
      have hg2 : k1 ≤ S.length := hg.2
      have rl : ∀ (md' : Option (List UInt8)) (F : List (List Prt) × List Dcl → Nat → List Rl), (match rule L.length S k1 with | .error x => (.error x : Res (List Rl)) | .ok (p, k2) => rulesTo f S k2 md' (F p k2)) = .error x → x.1 ≠ 0 ∧ x.2 ≤ S.length := by
        intro md' F e
        have hr := sane_rule L.length S k1 hS hg2
        cases er : rule L.length S k1 with
        | error y =>
          rw [er] at e hr
          injection e with e
          subst e
          exact hr
        | ok q =>
          obtain ⟨p, k2⟩ := q
          rw [er] at e hr
          obtain ⟨d, hd, _, hb⟩ := rule_iff.1 er
          have := (List.getElem?_eq_some_iff.1 hb).1
          exact rulesTo_fault hS f k2 md' _ x (by omega) hr.2 e
      cases md with
      | none =>
        simp only at e
        split at e
        · cases e
        rename_i he
        split at e
        · rename_i hm
          have h6 : k1 + 6 ≤ S.length := has_le hm hg2
          have hh := sane_mediaHead S (k1 + 6) hS h6
          cases em : mediaHead S (k1 + 6) with
          | error y =>
            rw [em] at e hh
            injection e with e
            subst e
            exact hh
          | ok q =>
            obtain ⟨n, k2⟩ := q
            rw [em] at e hh
            have h1 : k1 + 6 ≤ k2 := hh.1
            exact rulesTo_fault hS f k2 _ _ x (by omega) hh.2 e
        · exact rl none _ e
      | some n =>
        simp only at e
        split at e
        · rename_i hc
          have := (has_lt (x := 0) hc (by simp)).2
          exact rulesTo_fault hS f (k1 + 1) _ _ x (by omega) (by omega) e
        · exact rl (some n) _ e
theorem sheet_fault {S : List UInt8} {x : Nat × Nat} (h : sheetParse S = .error x) : x.1 ≠ 0 ∧ x.2 ≤ S.length := by
  unfold sheetParse at h
  split at h
  · injection h with h
    subst h
    exact ⟨by decide, Nat.zero_le _⟩
  · exact rulesTo_fault (by omega) _ _ _ _ _ (by omega) (Nat.zero_le _) h
theorem decls_fault {S : List UInt8} {x : Nat × Nat} (h : declsParse S = .error x) : x.1 ≠ 0 := by
  unfold declsParse at h
  split at h
  · injection h with h
    subst h
    decide
  · unfold declsAll at h
    have := sane_bnd sane_decls (fun l => sane_ended (sane_ret l) (sane_bad (e := 2) (by decide))) S 0 (by omega) (Nat.zero_le _)
    cases e : onlyDecls S 0 with
    | error y =>
      have e' : bnd decls (fun l => ended (ret l) (bad 2)) S 0 = .error y := e
      rw [e'] at this
      rw [e] at h
      injection h with h
      subst h
      exact this.1
    | ok q =>
      rw [e] at h
      cases h
end Go.Proofs.YtblkldfokeeaeacGreatDoor.Sh
namespace Go.Proofs.YtblkldfokeeaeacGreatDoor.Sh
open Go
theorem declsTo_len {S : List UInt8} : ∀ (f : Nat) (l : List Dcl) (k m : Nat) (l' : List Dcl), declsTo f l S k = .ok (l', m) → l'.length ≤ l.length + f
  | 0, _, _, _, _, h => by cases h
  | f + 1, l, k, m, l', h => by
    have here : ∀ {k m : Nat}, ret l S k = .ok (l', m) → l'.length ≤ l.length + (f + 1) := by
      intro k m h
      injection h with h; injection h with h _; rw [← h]; omega
    unfold declsTo ended at h
    split at h
    · exact here h
    unfold look at h
    split at h
    · exact here h
    rw [bnd_ok] at h
    obtain ⟨_, k1, _, h⟩ := h
    rw [bnd_ok] at h
    obtain ⟨d, k2, _, h⟩ := h
    unfold opt at h
    split at h
    · rw [bnd_ok] at h
      obtain ⟨_, k3, _, h⟩ := h
      have := declsTo_len f _ _ _ _ h
      simp at this
      omega
    · injection h with h; injection h with h _; rw [← h]; simp
theorem testsTo_len {S : List UInt8} : ∀ (f : Nat) (l : List Tst) (k m : Nat) (l' : List Tst), testsTo f l S k = .ok (l', m) → l'.length ≤ l.length + f
  | 0, _, _, _, _, h => by cases h
  | f + 1, l, k, m, l', h => by
    unfold testsTo at h
    rw [bnd_ok] at h
    obtain ⟨t, k1, _, h⟩ := h
    split at h
    · injection h with h; injection h with h _; rw [← h]; omega
    split at h
    · cases h
    have := testsTo_len f _ _ _ _ h
    simp at this
    omega
theorem part_few {S : List UInt8} {j k m : Nat} {p : Prt} (h : part j S k = .ok (p, m)) : p.tests.length ≤ 100 := by
  unfold part at h
  rw [bnd_ok] at h
  obtain ⟨l, k1, h1, h⟩ := h
  rw [bnd_ok] at h
  obtain ⟨l2, k2, h2, h⟩ := h
  injection h with h; injection h with h _
  have a := partHead_len h1
  have b := testsTo_len _ _ _ _ _ h2
  rw [← h]
  simp only
  omega
theorem selectorTo_few {S : List UInt8} : ∀ (f j : Nat) (l : List Prt) (k m : Nat) (l' : List Prt), (∀ t ∈ l, t.tests.length ≤ 100) → selectorTo f j l S k = .ok (l', m) → l'.length ≤ l.length + f ∧ ∀ t ∈ l', t.tests.length ≤ 100
  | 0, _, _, _, _, _, _, h => by cases h
  | f + 1, j, l, k, m, l', hl, h => by
    unfold selectorTo at h
    rw [bnd_ok] at h
    obtain ⟨_, k1, _, h⟩ := h
    rw [bnd_ok] at h
    obtain ⟨p, k2, hp, h⟩ := h
    rw [bnd_ok] at h
    obtain ⟨q, k3, _, h⟩ := h
    have hl2 : ∀ t ∈ l ++ [p], t.tests.length ≤ 100 := by
      intro t ht
      rcases List.mem_append.1 ht with ht | ht
      · exact hl t ht
      · rw [List.mem_singleton.1 ht]; exact part_few hp
    split at h
    · have := selectorTo_few f _ _ _ _ _ hl2 h
      refine ⟨?_, this.2⟩
      have := this.1
      simp at this
      omega
    · injection h with h; injection h with h _
      rw [← h]
      exact ⟨by simp, hl2⟩
theorem selectorsTo_few {S : List UInt8} : ∀ (f : Nat) (l : List (List Prt)) (k m : Nat) (l' : List (List Prt)), (∀ q ∈ l, q.length ≤ 100 ∧ ∀ t ∈ q, t.tests.length ≤ 100) → selectorsTo f l S k = .ok (l', m) → l'.length ≤ l.length + f ∧ ∀ q ∈ l', q.length ≤ 100 ∧ ∀ t ∈ q, t.tests.length ≤ 100
  | 0, _, _, _, _, _, h => by cases h
  | f + 1, l, k, m, l', hl, h => by
    unfold selectorsTo at h
    rw [bnd_ok] at h
    obtain ⟨_, k1, _, h⟩ := h
    rw [bnd_ok] at h
    obtain ⟨p, k2, hp, h⟩ := h
    have pf := selectorTo_few 8 0 [] _ _ _ (by simp) hp
    have hl2 : ∀ q ∈ l ++ [p], q.length ≤ 100 ∧ ∀ t ∈ q, t.tests.length ≤ 100 := by
      intro t ht
      rcases List.mem_append.1 ht with ht | ht
      · exact hl t ht
      · rw [List.mem_singleton.1 ht]; exact ⟨by have := pf.1; simp at this; omega, pf.2⟩
    unfold opt at h
    split at h
    · rw [bnd_ok] at h
      obtain ⟨_, k3, _, h⟩ := h
      have := selectorsTo_few f _ _ _ _ hl2 h
      refine ⟨?_, this.2⟩
      have := this.1
      simp at this
      omega
    · injection h with h; injection h with h _
      rw [← h]
      exact ⟨by simp, hl2⟩
theorem rule_few {n : Nat} {S : List UInt8} {k m : Nat} {p : List (List Prt) × List Dcl} (h : rule n S k = .ok (p, m)) : p.1.length ≤ 100 ∧ p.2.length ≤ 100 ∧ ∀ q ∈ p.1, q.length ≤ 100 ∧ ∀ t ∈ q, t.tests.length ≤ 100 := by
  unfold rule at h
  rw [bnd_ok] at h
  obtain ⟨_, k1, _, h⟩ := h
  rw [bnd_ok] at h
  obtain ⟨l, k2, hs, h⟩ := h
  rw [bnd_ok] at h
  obtain ⟨_, k3, _, h⟩ := h
  rw [bnd_ok] at h
  obtain ⟨d, k4, hd, h⟩ := h
  rw [bnd_ok] at h
  obtain ⟨_, k5, _, h⟩ := h
  injection h with h; injection h with h _
  have a := selectorsTo_few 10 [] _ _ _ (by simp) hs
  unfold decls at hd
  rw [bnd_ok] at hd
  obtain ⟨_, k6, _, hd⟩ := hd
  have b := declsTo_len _ _ _ _ _ hd
  rw [← h]
  refine ⟨?_, ?_, a.2⟩
  · have := a.1; simp at this; simp only; omega
  · simp at b; simp only; omega
theorem sheet_few {S : List UInt8} {A : List Rl} (h : sheetParse S = .ok A) : A.length ≤ 60 ∧ Chain S 0 A ∧ ∀ r ∈ A, r.sels.length ≤ 100 ∧ r.decls.length ≤ 100 ∧ ∀ q ∈ r.sels, q.length ≤ 100 ∧ ∀ t ∈ q, t.tests.length ≤ 100 := by
  have := (Ps.iff (sheetParse_le h)).1 h
  obtain ⟨M, h1, h2, h3⟩ := this.chain
  simp only [List.nil_append] at h1
  subst h1
  refine ⟨h3 (by simp), h2, fun r hr => ?_⟩
  obtain ⟨_, _, _, n, hn⟩ := h2.mem r hr
  exact rule_few hn
end Go.Proofs.YtblkldfokeeaeacGreatDoor.Sh
namespace Go.Proofs.YtblkldfokeeaeacGreatDoor.Sh
open Go
theorem at_byte {S : List UInt8} {k : Nat} {c : UInt8} {Z : List UInt8} (h : S.drop k = c :: Z) : S[k]? = some c := by
  have := congrArg (fun l => l[0]?) h
  simpa [List.getElem?_drop] using this
theorem at_add {S : List UInt8} {k : Nat} {u Z : List UInt8} (h : S.drop k = u ++ Z) : S.drop (k + u.length) = Z := by
  rw [← List.drop_drop, h, List.drop_left]
theorem at_one {S : List UInt8} {k : Nat} {c : UInt8} {Z : List UInt8} (h : S.drop k = c :: Z) : S.drop (k + 1) = Z := at_add (u := [c]) h
theorem at_fits {S : List UInt8} {k : Nat} {c : UInt8} {Z : List UInt8} (h : S.drop k = c :: Z) (p : UInt8 → Bool) : fitsAt S k p = p c := by
  unfold fitsAt; rw [at_byte h]
theorem at_tok {S : List UInt8} {k : Nat} {t Z : List UInt8} (h : S.drop k = t ++ Z) : has S k t = true := by
  unfold has; rw [h, List.isPrefixOf_iff_prefix]; exact List.prefix_append _ _
theorem at_end {S : List UInt8} {k : Nat} (h : S.drop k = []) : S.length ≤ k := List.drop_eq_nil_iff.1 h
theorem at_lt {S : List UInt8} {k : Nat} {c : UInt8} {Z : List UInt8} (h : S.drop k = c :: Z) : k < S.length := (List.getElem?_eq_some_iff.1 (at_byte h)).1
theorem sub_while {S : List UInt8} {k : Nat} (p : UInt8 → Bool) : sub S k (whileEnd S k p) = (S.drop k).takeWhile p := by
  unfold sub whileEnd
  rw [Nat.add_sub_cancel_left]
  exact (List.prefix_iff_eq_take.1 (List.takeWhile_prefix p)).symm
def Stops (p : UInt8 → Bool) (Z : List UInt8) : Prop := Z = [] ∨ ∃ c Z', Z = c :: Z' ∧ p c = false
theorem at_while {S : List UInt8} {k : Nat} {u Z : List UInt8} {p : UInt8 → Bool} (h : S.drop k = u ++ Z) (hu : ∀ c ∈ u, p c = true) (hz : Stops p Z) : whileEnd S k p = k + u.length ∧ sub S k (whileEnd S k p) = u := by
  have e : (S.drop k).takeWhile p = u := by
    rw [h, List.takeWhile_append_of_pos hu]
    rcases hz with rfl | ⟨c, Z', rfl, hc⟩
    · simp
    · rw [List.takeWhile_cons, if_neg (by rw [hc]; decide), List.append_nil]
  refine ⟨?_, by rw [sub_while, e]⟩
  unfold whileEnd
  rw [e]
def NameOK (n : List UInt8) : Prop := ∃ c t, n = c :: t ∧ letterB c = true ∧ (∀ x ∈ t, nameB x = true) ∧ n.length ≤ 20
def AllW (u : List UInt8) : Prop := u ≠ [] ∧ ∀ c ∈ u, wordB c = true
def joinW : List (List UInt8) → List UInt8
  | [] => []
  | [u] => u
  | u :: v :: ws => u ++ 32 :: joinW (v :: ws)
def ValOK (v : List UInt8) : Prop := ∃ ws : List (List UInt8), ws ≠ [] ∧ (∀ u ∈ ws, AllW u) ∧ v = joinW ws ∧ v.length ≤ 60
def DclOK (d : Dcl) : Prop := NameOK d.name ∧ ValOK d.val
theorem joinW_snoc : ∀ (ws : List (List UInt8)) (u : List UInt8), ws ≠ [] → joinW (ws ++ [u]) = joinW ws ++ [32] ++ u
  | [], _, h => absurd rfl h
  | [v], u, _ => by simp [joinW]
  | v :: x :: ws, u, _ => by
    have := joinW_snoc (x :: ws) u (by simp)
    simp only [List.cons_append, joinW] at this ⊢
    rw [this]
    simp
theorem joinW_len : ∀ (ws : List (List UInt8)), (∀ u ∈ ws, AllW u) → ws.length ≤ (joinW ws).length
  | [], _ => by simp [joinW]
  | [v], h => by
    have := List.length_pos_iff.2 (h v (by simp)).1
    simp [joinW]; omega
  | v :: x :: ws, h => by
    have := joinW_len (x :: ws) (fun u hu => h u (List.mem_cons_of_mem _ hu))
    simp [joinW] at this ⊢
    omega
theorem sname_ok {S : List UInt8} {k k' : Nat} {n : List UInt8} (h : sname S k = .ok (n, k')) : NameOK n := by
  unfold sname nameTo at h
  split at h
  · cases h
  rename_i e he
  split at he
  · rename_i hf
    injection he with he
    split at h
    · cases h
    rename_i h20
    injection h with h
    injection h with h1 h2
    have hk : k < S.length := by
      by_cases hk : k < S.length
      · exact hk
      · rw [fitsAt_ge _ (by omega)] at hf; cases hf
    have hd := List.drop_eq_getElem_cons hk
    have e1 : sub S k e = S[k] :: (S.drop (k + 1)).takeWhile nameB := by
      rw [← sub_while, ← he]
      unfold sub
      rw [hd]
      have : k + 1 ≤ whileEnd S (k + 1) nameB := by unfold whileEnd; omega
      rw [show whileEnd S (k + 1) nameB - k = (whileEnd S (k + 1) nameB - (k + 1)) + 1 by omega, List.take_succ_cons]
    refine ⟨S[k], (S.drop (k + 1)).takeWhile nameB, by rw [← h1, e1], ?_, fun x hx => (List.all_eq_true.1 List.all_takeWhile) x hx, by rw [← h1]; omega⟩
    rw [fitsAt_lt _ hk] at hf
    exact hf
  · cases he
theorem word_ok {ahead S : List UInt8} {k k' : Nat} {v : List UInt8} (h : word ahead S k = .ok (v, k')) : ∃ u, v = ahead ++ u ∧ AllW u ∧ v.length ≤ 60 := by
  have hl := (word_grows h).1
  simp only [word, chars] at h
  split at h
  · cases h
  rename_i hne
  split at h
  · cases h
  rw [bnd_ok] at h
  obtain ⟨_, m1, _, h2⟩ := h
  injection h2 with h2
  injection h2 with h2 _
  exact ⟨_, h2.symm, ⟨hne, fun c hc => by rw [sub_while] at hc; exact (List.all_eq_true.1 List.all_takeWhile) c hc⟩, hl⟩
theorem valueTo_ok {S : List UInt8} : ∀ (f : Nat) (v : List UInt8) (k m : Nat) (v' : List UInt8), ValOK v → valueTo f v S k = .ok (v', m) → ValOK v'
  | 0, _, _, _, _, _, h => by cases h
  | f + 1, v, k, m, v', hv, h => by
    unfold valueTo fits at h
    split at h
    · rw [bnd_ok] at h
      obtain ⟨a, m1, h1, h2⟩ := h
      obtain ⟨u, hu, au, hl⟩ := word_ok h1
      obtain ⟨ws, w0, w1, w2, w3⟩ := hv
      refine valueTo_ok f a m1 m v' ⟨ws ++ [u], by simp, ?_, ?_, hl⟩ h2
      · intro x hx
        rcases List.mem_append.1 hx with hx | hx
        · exact w1 x hx
        · rw [List.mem_singleton.1 hx]; exact au
      · rw [joinW_snoc ws u w0, hu, w2]
    · injection h with h
      injection h with h _
      rw [← h]; exact hv
theorem decl_ok {S : List UInt8} {k k' : Nat} {d : Dcl} (h : decl S k = .ok (d, k')) : DclOK d := by
  unfold decl at h
  rw [bnd_ok] at h
  obtain ⟨n, k1, h1, h⟩ := h
  rw [bnd_ok] at h
  obtain ⟨_, k2, _, h⟩ := h
  rw [bnd_ok] at h
  obtain ⟨_, k3, _, h⟩ := h
  rw [bnd_ok] at h
  obtain ⟨_, k4, _, h⟩ := h
  rw [bnd_ok] at h
  obtain ⟨v, k5, h5, h⟩ := h
  have hn := sname_ok h1
  have hv : ValOK v := by
    unfold value at h5
    rw [bnd_ok] at h5
    obtain ⟨a, m1, e1, e2⟩ := h5
    obtain ⟨u, hu, au, hl⟩ := word_ok e1
    refine valueTo_ok 62 a m1 k5 v ⟨[u], by simp, by simpa using au, by simpa [joinW] using hu, hl⟩ e2
  unfold opt at h
  split at h
  · rw [bnd_ok] at h
    obtain ⟨_, k6, _, h⟩ := h
    rw [bnd_ok] at h
    obtain ⟨_, k7, _, h⟩ := h
    injection h with h
    injection h with h _
    rw [← h]; exact ⟨hn, hv⟩
  · injection h with h
    injection h with h _
    rw [← h]; exact ⟨hn, hv⟩
theorem declsTo_ok {S : List UInt8} : ∀ (f : Nat) (l : List Dcl) (k m : Nat) (l' : List Dcl), l.length ≤ 20 → (∀ d ∈ l, DclOK d) → declsTo f l S k = .ok (l', m) → l'.length ≤ 20 ∧ ∀ d ∈ l', DclOK d
  | 0, _, _, _, _, _, _, h => by cases h
  | f + 1, l, k, m, l', h20, hl, h => by
    have here : ∀ {k m : Nat}, ret l S k = .ok (l', m) → l'.length ≤ 20 ∧ ∀ d ∈ l', DclOK d := by
      intro k m h
      injection h with h; injection h with h _; rw [← h]; exact ⟨h20, hl⟩
    unfold declsTo ended at h
    split at h
    · exact here h
    unfold look at h
    split at h
    · exact here h
    rw [bnd_ok] at h
    obtain ⟨_, k1, h0, h⟩ := h
    rw [bnd_ok] at h
    obtain ⟨d, k2, hd, h⟩ := h
    have lt20 : l.length < 20 := by
      by_cases hq : 20 ≤ l.length
      · rw [if_pos hq] at h0
        unfold fits at h0
        split at h0
        · cases h0
        · rename_i hf
          injection h0 with h0
          injection h0 with _ h0
          subst h0
          exact absurd (decl_letter' hd) hf
      · omega
    have hl2 : (l ++ [d]).length ≤ 20 ∧ ∀ x ∈ l ++ [d], DclOK x := by
      refine ⟨by simp; omega, fun x hx => ?_⟩
      rcases List.mem_append.1 hx with hx | hx
      · exact hl x hx
      · rw [List.mem_singleton.1 hx]; exact decl_ok hd
    unfold opt at h
    split at h
    · rw [bnd_ok] at h
      obtain ⟨_, k3, _, h⟩ := h
      exact declsTo_ok f _ _ _ _ hl2.1 hl2.2 h
    · injection h with h; injection h with h _; rw [← h]; exact hl2
theorem declsParse_ok {S : List UInt8} {l : List Dcl} (h : declsParse S = .ok l) : l.length ≤ 20 ∧ ∀ d ∈ l, DclOK d := by
  unfold declsParse at h
  split at h
  · cases h
  unfold declsAll at h
  split at h
  · cases h
  rename_i l' m e
  injection h with h
  subst h
  unfold onlyDecls at e
  rw [bnd_ok] at e
  obtain ⟨l1, m1, h1, h2⟩ := e
  unfold ended at h2
  split at h2
  · injection h2 with h2; injection h2 with h2 _
    subst h2
    unfold decls at h1
    rw [bnd_ok] at h1
    obtain ⟨_, m2, _, h1⟩ := h1
    exact declsTo_ok 22 [] _ _ _ (by simp) (by simp) h1
  · cases h2
end Go.Proofs.YtblkldfokeeaeacGreatDoor.Sh
