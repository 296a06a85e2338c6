/-
  What join, selector and selectors of package sheet do: the plain answers of the SheetSpec text, in new memory, or their faults. Conditions: the text has at most 4000 bytes; the cell of internal/bytealg.MaxLen holds some int.
-/
import Derived.Test.YtanedepdhbdcgaaSheet5
namespace Go.Proofs.Ytanedepdhbdcgaa
open Go.RowKit

/-- A row whose cells hold slices: of each of l's, what the value beside it holds. -/
def NAt {α β : Type} (T : TypeId) (sz : Nat) (enc : α × β → List Value) (P : World → α → β → Prop) (w : World) (base : Nat) (v : Value) (l : List α) : Prop :=
  ∃ LV : List (α × β), LV.map (·.1) = l ∧ w.ownsRow base T sz v l.length (LV.flatMap enc) ∧ ∀ p ∈ LV, P w p.1 p.2

theorem NAt.keeps {α β : Type} {T : TypeId} {sz : Nat} {enc : α × β → List Value} {P : World → α → β → Prop} {w w' : World} {base : Nat} {v : Value} {l : List α} (h : NAt T sz enc P w base v l) {Ts : TypeId → Prop} (hk : Keeps Ts w w') (hT : Ts T) (hP : ∀ a x, P w a x → P w' a x) : NAt T sz enc P w' base v l := by
  obtain ⟨LV, h1, h2, h3⟩ := h
  exact ⟨LV, h1, own_keeps h2 hk hT, fun p hp => hP _ _ (h3 p hp)⟩
theorem NAt.lower {α β : Type} {T : TypeId} {sz : Nat} {enc : α × β → List Value} {P : World → α → β → Prop} {w : World} {base base' : Nat} {v : Value} {l : List α} (h : NAt T sz enc P w base v l) (hb : base' ≤ base) : NAt T sz enc P w base' v l := by
  obtain ⟨LV, h1, h2, h3⟩ := h
  exact ⟨LV, h1, own_lower h2 hb, h3⟩
theorem NAt.form {α β : Type} {T : TypeId} {sz : Nat} {enc : α × β → List Value} {P : World → α → β → Prop} {w : World} {base : Nat} {v : Value} {l : List α} (h : NAt T sz enc P w base v l) : ∃ a cap, v = .slice a l.length cap := by
  obtain ⟨LV, h1, h2, h3⟩ := h
  exact own_form h2
theorem NAt.nil {α β : Type} (T : TypeId) (sz : Nat) (enc : α × β → List Value) (P : World → α → β → Prop) (w : World) (base : Nat) : NAt T sz enc P w base (.slice none 0 0) [] :=
  ⟨[], rfl, World.ownsRow_nil _ _ _ _, by simp⟩
/-- One more behind them, once the row has grown. -/
theorem NAt.push {α β : Type} {T : TypeId} {sz : Nat} {enc : α × β → List Value} {P : World → α → β → Prop} {w w3 : World} {base g cap : Nat} {l : List α} {LV : List (α × β)} {a : α} {x : β} {o : Obj} {v : Value}
    (h1 : LV.map (·.1) = l) (h2 : w.ownsRow base T sz v l.length (LV.flatMap enc)) (h3 : ∀ p ∈ LV, P w p.1 p.2) (ha : P w a x) (hg : (w.alloc o).grownBy w3 v.ownBlock)
    (ho : w3.ownsRow base T sz (.slice (some ⟨g, 0, none⟩) (l.length + 1) cap) (l.length + 1) (LV.flatMap enc ++ enc (a, x)))
    (hP : ∀ a x, Keeps (· ≠ T) w w3 → P w a x → P w3 a x) : NAt T sz enc P w3 base (.slice (some ⟨g, 0, none⟩) (l.length + 1) cap) (l ++ [a]) := by
  have kk : Keeps (· ≠ T) w w3 := Keeps.grown h2 hg (by simp)
  refine ⟨LV ++ [(a, x)], by simp [h1], by simpa using ho, ?_⟩
  intro p hp
  rcases List.mem_append.1 hp with hp | hp
  · exact hP _ _ kk (h3 p hp)
  · rw [List.mem_singleton.1 hp]; exact hP _ _ kk ha

theorem TsAt.keeps {w w' : World} {v : Value} {l : List Tst} (h : TsAt w v l) {Ts : TypeId → Prop} (hk : Keeps Ts w w') (hT : Ts 104) : TsAt w' v l := own_keeps h hk hT
theorem DsAt.keeps {w w' : World} {v : Value} {l : List Dcl} (h : DsAt w v l) {Ts : TypeId → Prop} (hk : Keeps Ts w w') (hT : Ts 77) : DsAt w' v l := own_keeps h hk hT

def encP (p : Prt × Value) : List Value := [.int .i64 p.1.join, p.2]
def PsIn (w : World) (base : Nat) (v : Value) (l : List Prt) : Prop := NAt 102 2 encP (fun w a x => TsAt w x a.tests) w base v l
/-- The slice value v holds the selector l. -/
def PsAt (w : World) (v : Value) (l : List Prt) : Prop := PsIn w 0 v l
theorem PsIn.keeps {w w' : World} {base : Nat} {v : Value} {l : List Prt} (h : PsIn w base v l) {Ts : TypeId → Prop} (hk : Keeps Ts w w') (hT : Ts 102 ∧ Ts 104) : PsIn w' base v l := NAt.keeps h hk hT.1 (fun _ _ ha => ha.keeps hk hT.2)
theorem PsAt.keeps {w w' : World} {v : Value} {l : List Prt} (h : PsAt w v l) {Ts : TypeId → Prop} (hk : Keeps Ts w w') (hT : Ts 102 ∧ Ts 104) : PsAt w' v l := PsIn.keeps h hk hT

def encS (p : List Prt × Value) : List Value := [p.2]
def SsIn (w : World) (base : Nat) (v : Value) (l : List (List Prt)) : Prop := NAt 72 1 encS (fun w a x => PsAt w x a) w base v l
/-- The slice value v holds the selectors l. -/
def SsAt (w : World) (v : Value) (l : List (List Prt)) : Prop := SsIn w 0 v l
theorem SsIn.keeps {w w' : World} {base : Nat} {v : Value} {l : List (List Prt)} (h : SsIn w base v l) {Ts : TypeId → Prop} (hk : Keeps Ts w w') (hT : Ts 72 ∧ Ts 102 ∧ Ts 104) : SsIn w' base v l := NAt.keeps h hk hT.1 (fun _ _ ha => ha.keeps hk hT.2)
theorem SsAt.keeps {w w' : World} {v : Value} {l : List (List Prt)} (h : SsAt w v l) {Ts : TypeId → Prop} (hk : Keeps Ts w w') (hT : Ts 72 ∧ Ts 102 ∧ Ts 104) : SsAt w' v l := SsIn.keeps h hk hT

theorem rd_keeps {w w' : World} {b : Nat} {s : ByteArray} {k : Nat} {nv : Value} (hr : Rs w b s k nv) (h : Kp (· = b) w w') : Keeps (· ≠ 96) w w' := Keeps.reader hr h (by simp)

theorem Try.info102 : (Try.prog.info? 102).map (fun i => (i.zero, i.size, i.bytes)) = some (some (.agg #[.int .i64 0, .slice none 0 0]), 2, 32) := by kernel_rfl
theorem Try.info72 : (Try.prog.info? 72).map (fun i => (i.zero, i.size, i.bytes)) = some (some (.slice none 0 0), 1, 24) := by kernel_rfl

set_option maxHeartbeats 2000000 in
theorem join_any (b : Nat) (s : ByteArray) (k : Nat) (nv : Value) (w : World) (R : Ending → World → Prop) (hl : s.size ≤ 4000) (hk : k ≤ s.size) (hb0 : 0 < b) (hmx : Mx w) (hr : Rs w b s k nv)
    (H : Hid (Good b s k nv w (join s.data.toList k) (fun _ a v => v = .tuple #[.int .i64 a.1, .bool a.2]) R)) :
    Calls Try.prog 104 #[.pointer (some ⟨b, 0, none⟩)] w R := by
  have hlt := hr.lt
  have HS : Hid (s.size = s.data.toList.length) := Lib.size_eq s
  go_enter Try.func104, Try.ntmps104
  go_wp2_with fail
  refine gaps_any b s k nv _ _ hl hk hb0 hmx hr (hid ⟨?_, ?_⟩)
  rotate_left
  · intro x w1 e1 hbl
    exact ⟨rfl, H.out.2 x _ (by simp only [join, bnd, e1]) hbl⟩
  intro g k1 v w1 e1 hk1 hk2 hr1 kp1 hv
  subst hv
  have E1 : Hid (join s.data.toList k = opt [62] (bnd gaps fun _ => ret (2, true)) (opt [43] (bnd gaps fun _ => ret (3, true))
    (if g then look [44] (ret (0, false)) (look [123] (ret (0, false)) (ended (ret (0, false)) (ret (1, true)))) else ret (0, false))) s.data.toList k1) := by
    show join s.data.toList k = _
    simp only [join, bnd, e1]
  clear e1
  go_wp2_with fail
  cases t1 : has s.data.toList k1 [62] with
  | true =>
    have l1 := has_le t1 (by rw [← HS.out]; exact hk2)
    rw [← HS.out] at l1
    have l1' : k1 + 1 ≤ s.size := l1
    clear l1
    refine (take_yes b s ⟨#[62]⟩ k1 nv _ hk2 (by omega) (by show (1 : Nat) ≤ 6000; omega) hr1 t1).mono ?_
    rintro e w2 ⟨rfl, hr2, hkp2⟩
    have E2 : Hid (join s.data.toList k = bnd gaps (fun _ => ret (2, true)) s.data.toList (k1 + 1)) := by
      show join s.data.toList k = _
      rw [E1.out]; unfold opt; rw [if_pos t1]; rfl
    clear t1 E1
    have kp2 := kp1.trans hkp2
    clear hkp2
    go_wp2_with fail
    refine gaps_any b s (k1 + 1) nv _ _ hl l1' hb0 (hmx.kp kp2 hb0) hr2 (hid ⟨?_, ?_⟩)
    · intro g3 k3 v w3 e3 hk3 hk4 hr3 hkp3 hv
      subst hv
      have EX : Hid (join s.data.toList k = .ok ((2, true), k3)) := by
        show join s.data.toList k = _
        rw [E2.out]; simp only [bnd, e3, ret]
      clear e3 E2
      go_wp2_with fail
      exact H.out.1 (2, true) k3 _ _ EX.out (by omega) hk4 hr3 (kp2.trans hkp3) rfl
    · intro x w3 e3 hbl
      exact ⟨rfl, H.out.2 x _ (by rw [E2.out]; simp only [bnd, e3]) ((kp2.under hlt).trans hbl)⟩
  | false =>
  refine (take_no b s ⟨#[62]⟩ k1 nv _ hk2 hr1 t1).mono ?_
  rintro e w2 ⟨rfl, n2, rfl⟩
  have E2 : Hid (join s.data.toList k = opt [43] (bnd gaps fun _ => ret (3, true))
    (if g then look [44] (ret (0, false)) (look [123] (ret (0, false)) (ended (ret (0, false)) (ret (1, true)))) else ret (0, false)) s.data.toList k1) := by
    show join s.data.toList k = _
    rw [E1.out]; unfold opt; rw [if_neg (by rw [t1]; decide)]
  clear t1 E1
  have hr2 := hr1.drewN n2
  have kp2 := kp1.drewN n2
  generalize w1.drewN n2 = w2 at hr2 kp2 ⊢
  clear hr1 kp1
  go_wp2_with fail
  cases t1 : has s.data.toList k1 [43] with
  | true =>
    have l1 := has_le t1 (by rw [← HS.out]; exact hk2)
    rw [← HS.out] at l1
    have l1' : k1 + 1 ≤ s.size := l1
    clear l1
    refine (take_yes b s ⟨#[43]⟩ k1 nv _ hk2 (by omega) (by show (1 : Nat) ≤ 6000; omega) hr2 t1).mono ?_
    rintro e w3 ⟨rfl, hr3, hkp3⟩
    have E3 : Hid (join s.data.toList k = bnd gaps (fun _ => ret (3, true)) s.data.toList (k1 + 1)) := by
      show join s.data.toList k = _
      rw [E2.out]; unfold opt; rw [if_pos t1]; rfl
    clear t1 E2
    have kp3 := kp2.trans hkp3
    clear hkp3
    go_wp2_with fail
    refine gaps_any b s (k1 + 1) nv _ _ hl l1' hb0 (hmx.kp kp3 hb0) hr3 (hid ⟨?_, ?_⟩)
    · intro g3 k3 v w4 e3 hk3 hk4 hr4 hkp4 hv
      subst hv
      have EX : Hid (join s.data.toList k = .ok ((3, true), k3)) := by
        show join s.data.toList k = _
        rw [E3.out]; simp only [bnd, e3, ret]
      clear e3 E3
      go_wp2_with fail
      exact H.out.1 (3, true) k3 _ _ EX.out (by omega) hk4 hr4 (kp3.trans hkp4) rfl
    · intro x w4 e3 hbl
      exact ⟨rfl, H.out.2 x _ (by rw [E3.out]; simp only [bnd, e3]) ((kp3.under hlt).trans hbl)⟩
  | false =>
  refine (take_no b s ⟨#[43]⟩ k1 nv _ hk2 hr2 t1).mono ?_
  rintro e w3 ⟨rfl, n3, rfl⟩
  have E3 : Hid (join s.data.toList k = (if g then look [44] (ret (0, false)) (look [123] (ret (0, false)) (ended (ret (0, false)) (ret (1, true)))) else ret (0, false)) s.data.toList k1) := by
    show join s.data.toList k = _
    rw [E2.out]; unfold opt; rw [if_neg (by rw [t1]; decide)]
  clear t1 E2
  have hr3 := hr2.drewN n3
  have kp3 := kp2.drewN n3
  generalize w2.drewN n3 = w3 at hr3 kp3 ⊢
  clear hr2 kp2
  cases g with
  | false =>
    have EX : Hid (join s.data.toList k = .ok ((0, false), k1)) := by
      show join s.data.toList k = _
      rw [E3.out]; rfl
    go_wp2_with fail
    exact H.out.1 (0, false) k1 _ _ EX.out hk1 hk2 hr3 kp3 rfl
  | true =>
  have h0 := hr3.c0
  have h1 := hr3.c1
  go_wp2_with fail
  refine (has_any b s ⟨#[44]⟩ k1 _ hk2 h0 h1).mono ?_
  rintro e w4 ⟨rfl, n4, rfl⟩
  clear h0 h1
  have hr4 := hr3.drewN n4
  have kp4 := kp3.drewN n4
  generalize w3.drewN n4 = w4 at hr4 kp4 ⊢
  clear hr3 kp3
  cases t1 : has s.data.toList k1 [44] with
  | true =>
    have EX : Hid (join s.data.toList k = .ok ((0, false), k1)) := by
      show join s.data.toList k = _
      rw [E3.out]; show look [44] _ _ _ _ = _; unfold look; rw [if_pos t1]; rfl
    clear t1
    go_wp2_with fail
    exact H.out.1 (0, false) k1 _ _ EX.out hk1 hk2 hr4 kp4 rfl
  | false =>
  have T1 := hid t1
  clear t1
  have h0 := hr4.c0
  have h1 := hr4.c1
  go_wp2_with fail
  refine (has_any b s ⟨#[123]⟩ k1 _ hk2 h0 h1).mono ?_
  rintro e w5 ⟨rfl, n5, rfl⟩
  clear h0 h1
  have hr5 := hr4.drewN n5
  have kp5 := kp4.drewN n5
  generalize w4.drewN n5 = w5 at hr5 kp5 ⊢
  clear hr4 kp4
  cases t2 : has s.data.toList k1 [123] with
  | true =>
    have EX : Hid (join s.data.toList k = .ok ((0, false), k1)) := by
      have t1 := T1.out
      show join s.data.toList k = _
      rw [E3.out]; show look [44] _ _ _ _ = _; unfold look; rw [if_neg (by rw [t1]; decide), if_pos t2]; rfl
    clear t2
    go_wp2_with fail
    exact H.out.1 (0, false) k1 _ _ EX.out hk1 hk2 hr5 kp5 rfl
  | false =>
  have T2 := hid t2
  clear t2
  have h0 := hr5.c0
  have h1 := hr5.c1
  go_wp2_with fail
  by_cases hend : s.size ≤ k1
  · refine (ended_yes b s k1 _ hend h0 h1).mono ?_
    rintro e w6 ⟨rfl, n, rfl⟩
    have EX : Hid (join s.data.toList k = .ok ((0, false), k1)) := by
      have t1 := T1.out
      have t2 := T2.out
      show join s.data.toList k = _
      rw [E3.out]; show look [44] _ _ _ _ = _; unfold look ended; rw [if_neg (by rw [t1]; decide), if_neg (by rw [t2]; decide), if_pos (by rw [← HS.out]; exact hend)]; rfl
    go_wp2_with fail
    exact H.out.1 (0, false) k1 _ _ EX.out hk1 hk2 (hr5.drewN _) (kp5.drewN _) rfl
  · refine (ended_no b s k1 _ (by omega) h0 h1).mono ?_
    rintro e w6 ⟨rfl, n, rfl⟩
    have EX : Hid (join s.data.toList k = .ok ((1, true), k1)) := by
      have t1 := T1.out
      have t2 := T2.out
      show join s.data.toList k = _
      rw [E3.out]; show look [44] _ _ _ _ = _; unfold look ended; rw [if_neg (by rw [t1]; decide), if_neg (by rw [t2]; decide), if_neg (by rw [← HS.out]; exact hend)]; rfl
    go_wp2_with fail
    exact H.out.1 (1, true) k1 _ _ EX.out hk1 hk2 (hr5.drewN _) (kp5.drewN _) rfl

set_option maxHeartbeats 2000000 in
theorem selector_any (b : Nat) (s : ByteArray) (k : Nat) (nv : Value) (w : World) (R : Ending → World → Prop) (hl : s.size ≤ 4000) (hk : k ≤ s.size) (hb0 : 0 < b) (hmx : Mx w) (hr : Rs w b s k nv)
    (H : Hid (Good b s k nv w (selector s.data.toList k) (fun w' a v => PsAt w' v a) R)) :
    Calls Try.prog 94 #[.pointer (some ⟨b, 0, none⟩)] w R := by
  have hlt := hr.lt
  obtain ⟨i0, hi, hz0, hz1, hz2⟩ := info_parts' Try.info102
  have HI := hid hi
  have HZ : Hid (i0.zero = some (.agg #[.int .i64 0, .slice none 0 0]) ∧ i0.size = 2 ∧ i0.bytes = 32) := ⟨hz0, hz1, hz2⟩
  clear hi hz0 hz1 hz2
  go_enter Try.func94, Try.ntmps94
  go_wp2_with fail
  go_loopg [3, 4, 5] 8 (fun f x y z wr => ∃ (k' j : Nat) (l : List Prt) (more : Bool), y = .int .i64 j ∧ z = .bool more ∧ l.length ≤ 6 ∧ k ≤ k' ∧ k' ≤ s.size ∧ Rs wr b s k' nv ∧ Kp (· = b) w wr ∧ PsIn wr w.heap.size x l ∧ (more = true → f + l.length = 8 ∧ selectorTo f j l s.data.toList k' = selector s.data.toList k) ∧ (more = false → selector s.data.toList k = .ok (l, k')))
  case atStart => exact ⟨k, 0, [], true, rfl, rfl, by simp, Nat.le_refl _, hk, hr, Kp.refl _ _, NAt.nil _ _ _ _ _ _, fun _ => ⟨rfl, rfl⟩, by simp⟩
  case round =>
    obtain ⟨k', j, l, more, rfl, rfl, h6, hk1, hk2, hr', hkp, hps, hE, hE2⟩ := hrel
    obtain ⟨xa, xcap, rfl⟩ := NAt.form hps
    cases more with
    | false =>
      have EX := hid (hE2 rfl)
      clear hE hE2
      go_wp2_with fail
      exact H.out.1 l k' _ _ EX.out hk1 hk2 hr' hkp (NAt.lower hps (Nat.zero_le _))
    | true =>
    obtain ⟨hf, hE⟩ := hE rfl
    obtain ⟨f', rfl⟩ : ∃ f', gk = f' + 1 := ⟨gk - 1, by omega⟩
    have E := hid hE
    have F := hid hf
    clear hE hE2 hf
    go_wp2_with fail
    refine aheadOfPart_any l.length 6 b s k' nv _ _ hk2 hr' (hid ⟨?_, ?_⟩)
    rotate_left
    · intro y w1 e1 hbl
      exact ⟨rfl, H.out.2 y _ (by rw [← E.out]; simp only [selectorTo, bnd, e1]) ((hkp.under hlt).trans hbl)⟩
    intro _ k1 v w1 e1 hk3 hk4 hr1 hkp1 hv
    subst hv
    have h5 : l.length < 6 := by
      unfold aheadOfPart at e1
      split at e1
      · cases e1
      split at e1
      · cases e1
      omega
    have E1 : Hid (selector s.data.toList k = bnd (part j) (fun p => bnd join fun q => if q.2 then selectorTo f' q.1 (l ++ [p]) else ret (l ++ [p])) s.data.toList k1) := by
      show selector s.data.toList k = _
      rw [← E.out]; simp only [selectorTo, bnd, e1]
    clear e1 E
    have kp1 := hkp.trans hkp1
    have ps1 := PsIn.keeps hps (rd_keeps hr' hkp1) (by decide)
    clear hkp hkp1 hps hr'
    go_wp2_with fail
    refine part_any j b s k1 nv _ _ hl hk4 hr1 (hid ⟨?_, ?_⟩)
    rotate_left
    · intro y w2 e2 hbl
      exact ⟨rfl, H.out.2 y _ (by rw [E1.out]; simp only [bnd, e2]) ((kp1.under hlt).trans hbl)⟩
    intro p k2 v w2 e2 hk5 hk6 hr2 hkp2 hv
    obtain ⟨x, rfl, hx⟩ := hv
    have E2 : Hid (selector s.data.toList k = bnd join (fun q => if q.2 then selectorTo f' q.1 (l ++ [p]) else ret (l ++ [p])) s.data.toList k2) := by
      show selector s.data.toList k = _
      rw [E1.out]; simp only [bnd, e2]
    clear e2 E1
    have kp2 := kp1.trans hkp2
    have ps2 := PsIn.keeps ps1 (rd_keeps hr1 hkp2) (by decide)
    clear kp1 hkp2 ps1 hr1
    obtain ⟨LV, v1, v2, v3⟩ := ps2
    have V1 := hid v1
    have V3 := hid v3
    clear v1 v3
    have ox := own_form hx
    obtain ⟨ya, ycap, rfl⟩ := ox
    have hz2 : w.heap.size ≤ w2.heap.size := kp2.size
    go_wp2_with (at_builtin; refine wpList_append_lies _ rfl (.tmp 16) (.tmp 20) 72 rfl w.heap.size 102 i0 (.agg #[.int .i64 0, .slice none 0 0]) 2 32 Try.underlying72 HI.out HZ.out.1 HZ.out.2.1 HZ.out.2.2 rfl (by decide) (.slice xa l.length xcap) l.length (LV.flatMap encP) rfl (World.ownsRow.alloc v2 _) ⟨w2.heap.size, 0, none⟩ 1 1 (encP (p, .slice ya p.tests.length ycap)) rfl rfl (World.news_of_block (heap_alloc_new w2 _)) (by simp [encP, Value.oneCell']) (by decide) (by unfold maxLen; omega) (by omega) (by simp; omega) _ rfl ?_; intro gg cap w3 hown hgrow hat hlt3; have kp3 := grown_kp kp2 v2 (Nat.le_refl _) hgrow; have hr3 := grown_rd hr2 v2 (by decide) hgrow; have ps3 : PsIn w3 w.heap.size (.slice (some ⟨gg, 0, none⟩) (l.length + 1) cap) (l ++ [p]) := NAt.push V1.out v2 V3.out hx hgrow hown (fun a x kk ha => TsAt.keeps ha kk (by decide)); clear hown hgrow hat)
    refine join_any b s k2 nv _ _ hl hk6 hb0 (hmx.kp kp3 hb0) hr3 (hid ⟨?_, ?_⟩)
    rotate_left
    · intro y w4 e4 hbl
      exact ⟨rfl, H.out.2 y _ (by rw [E2.out]; simp only [bnd, e4]) ((kp3.under hlt).trans hbl)⟩
    intro q k3 v w4 e4 hk7 hk8 hr4 hkp4 hv
    subst hv
    have ps4 := PsIn.keeps ps3 (rd_keeps hr3 hkp4) (by decide)
    have E4 : Hid (selector s.data.toList k = (if q.2 then selectorTo f' q.1 (l ++ [p]) else ret (l ++ [p])) s.data.toList k3) := by
      show selector s.data.toList k = _
      rw [E2.out]; simp only [bnd, e4]
    clear e4 E2
    go_wp2_with fail
    go_roundg f'
    case measure => omega
    case rel =>
      refine ⟨k3, q.1, l ++ [p], q.2, rfl, rfl, by simp; omega, by omega, hk8, hr4, kp3.trans hkp4, by simpa using ps4, ?_, ?_⟩
      · intro hq
        refine ⟨by have := F.out; simp; omega, ?_⟩
        have := E4.out
        rw [this, if_pos hq]
      · intro hq
        rw [E4.out, if_neg (by rw [hq]; decide)]
        rfl

set_option maxHeartbeats 2000000 in
theorem selectors_any (b : Nat) (s : ByteArray) (k : Nat) (nv : Value) (w : World) (R : Ending → World → Prop) (hl : s.size ≤ 4000) (hk : k ≤ s.size) (hb0 : 0 < b) (hmx : Mx w) (hr : Rs w b s k nv)
    (H : Hid (Good b s k nv w (selectors s.data.toList k) (fun w' a v => SsAt w' v a) R)) :
    Calls Try.prog 81 #[.pointer (some ⟨b, 0, none⟩)] w R := by
  have hlt := hr.lt
  have HS : Hid (s.size = s.data.toList.length) := Lib.size_eq s
  obtain ⟨i0, hi, hz0, hz1, hz2⟩ := info_parts' Try.info72
  have HI := hid hi
  have HZ : Hid (i0.zero = some (.slice none 0 0) ∧ i0.size = 1 ∧ i0.bytes = 24) := ⟨hz0, hz1, hz2⟩
  clear hi hz0 hz1 hz2
  go_enter Try.func81, Try.ntmps81
  go_wp2_with fail
  go_loopg [3] 10 (fun f x wr => ∃ (k' : Nat) (l : List (List Prt)), f + l.length = 10 ∧ l.length ≤ 8 ∧ k ≤ k' ∧ k' ≤ s.size ∧ Rs wr b s k' nv ∧ Kp (· = b) w wr ∧ SsIn wr w.heap.size x l ∧ selectorsTo f l s.data.toList k' = selectors s.data.toList k)
  case atStart => exact ⟨k, [], rfl, by simp, Nat.le_refl _, hk, hr, Kp.refl _ _, NAt.nil _ _ _ _ _ _, rfl⟩
  case round =>
    obtain ⟨k', l, hf, h8, hk1, hk2, hr', hkp, hps, hE⟩ := hrel
    obtain ⟨xa, xcap, rfl⟩ := NAt.form hps
    obtain ⟨f', rfl⟩ : ∃ f', gk = f' + 1 := ⟨gk - 1, by omega⟩
    have E := hid hE
    have F := hid hf
    clear hE hf
    go_wp2_with fail
    refine aheadOfPart_any l.length 8 b s k' nv _ _ hk2 hr' (hid ⟨?_, ?_⟩)
    rotate_left
    · intro y w1 e1 hbl
      exact ⟨rfl, H.out.2 y _ (by rw [← E.out]; simp only [selectorsTo, bnd, e1]) ((hkp.under hlt).trans hbl)⟩
    intro _ k1 v w1 e1 hk3 hk4 hr1 hkp1 hv
    subst hv
    have h5 : l.length < 8 := by
      unfold aheadOfPart at e1
      split at e1
      · cases e1
      split at e1
      · cases e1
      omega
    have E1 : Hid (selectors s.data.toList k = bnd selector (fun p => opt [44] (bnd gaps fun _ => selectorsTo f' (l ++ [p])) (ret (l ++ [p]))) s.data.toList k1) := by
      show selectors s.data.toList k = _
      rw [← E.out]; simp only [selectorsTo, bnd, e1]
    clear e1 E
    have kp1 := hkp.trans hkp1
    have ps1 := SsIn.keeps hps (rd_keeps hr' hkp1) (by decide)
    clear hkp hkp1 hps hr'
    go_wp2_with fail
    refine selector_any b s k1 nv _ _ hl hk4 hb0 (hmx.kp kp1 hb0) hr1 (hid ⟨?_, ?_⟩)
    rotate_left
    · intro y w2 e2 hbl
      exact ⟨rfl, H.out.2 y _ (by rw [E1.out]; simp only [bnd, e2]) ((kp1.under hlt).trans hbl)⟩
    intro p k2 v w2 e2 hk5 hk6 hr2 hkp2 hx
    have E2 : Hid (selectors s.data.toList k = opt [44] (bnd gaps fun _ => selectorsTo f' (l ++ [p])) (ret (l ++ [p])) s.data.toList k2) := by
      show selectors s.data.toList k = _
      rw [E1.out]; simp only [bnd, e2]
    clear e2 E1
    have kp2 := kp1.trans hkp2
    have ps2 := SsIn.keeps ps1 (rd_keeps hr1 hkp2) (by decide)
    clear kp1 hkp2 ps1 hr1
    obtain ⟨LV, v1, v2, v3⟩ := ps2
    have V1 := hid v1
    have V3 := hid v3
    clear v1 v3
    obtain ⟨ya, ycap, rfl⟩ := NAt.form (show PsIn w2 0 v p from hx)
    have hz2 : w.heap.size ≤ w2.heap.size := kp2.size
    go_wp2_with (at_builtin; refine wpList_append_lies _ rfl (.tmp 8) (.tmp 11) 54 rfl w.heap.size 72 i0 (.slice none 0 0) 1 24 Try.underlying54 HI.out HZ.out.1 HZ.out.2.1 HZ.out.2.2 rfl (by decide) (.slice xa l.length xcap) l.length (LV.flatMap encS) rfl (World.ownsRow.alloc v2 _) ⟨w2.heap.size, 0, none⟩ 1 1 (encS (p, .slice ya p.length ycap)) rfl rfl (World.news_of_block (heap_alloc_new w2 _)) (by simp [encS, Value.oneCell']) (by decide) (by unfold maxLen; omega) (by omega) (by simp; omega) _ rfl ?_; intro gg cap w3 hown hgrow hat hlt3; have kp3 := grown_kp kp2 v2 (Nat.le_refl _) hgrow; have hr3 := grown_rd hr2 v2 (by decide) hgrow; have ps3 : SsIn w3 w.heap.size (.slice (some ⟨gg, 0, none⟩) (l.length + 1) cap) (l ++ [p]) := NAt.push V1.out v2 V3.out hx hgrow hown (fun a x kk ha => PsAt.keeps ha kk (by decide)); clear hown hgrow hat)
    cases t2 : has s.data.toList k2 [44] with
    | false =>
      refine (take_no b s ⟨#[44]⟩ k2 nv _ hk6 hr3 t2).mono ?_
      rintro e w4 ⟨rfl, n4, rfl⟩
      have EX : Hid (selectors s.data.toList k = .ok (l ++ [p], k2)) := by
        show selectors s.data.toList k = _
        rw [E2.out]; unfold opt; rw [if_neg (by rw [t2]; decide)]; rfl
      clear t2
      go_wp2_with fail
      exact H.out.1 (l ++ [p]) k2 _ _ EX.out (by omega) hk6 (hr3.drewN _) (kp3.drewN _) (NAt.lower ps3 (Nat.zero_le _))
    | true =>
      have l1 := has_le t2 (by rw [← HS.out]; exact hk6)
      rw [← HS.out] at l1
      have l1' : k2 + 1 ≤ s.size := l1
      clear l1
      refine (take_yes b s ⟨#[44]⟩ k2 nv _ hk6 (by omega) (by show (1 : Nat) ≤ 6000; omega) hr3 t2).mono ?_
      rintro e w4 ⟨rfl, hr4, hkp4⟩
      have E3 : Hid (selectors s.data.toList k = bnd gaps (fun _ => selectorsTo f' (l ++ [p])) s.data.toList (k2 + 1)) := by
        show selectors s.data.toList k = _
        rw [E2.out]; unfold opt; rw [if_pos t2]; rfl
      clear t2 E2
      have kp4 := kp3.trans hkp4
      have ps4 := SsIn.keeps ps3 (rd_keeps hr3 hkp4) (by decide)
      clear kp3 hkp4 ps3 hr3
      go_wp2_with fail
      refine gaps_any b s (k2 + 1) nv _ _ hl l1' hb0 (hmx.kp kp4 hb0) hr4 (hid ⟨?_, ?_⟩)
      · intro g5 k3 v w5 e5 hk7 hk8 hr5 hkp5 hv
        subst hv
        have EX : Hid (selectorsTo f' (l ++ [p]) s.data.toList k3 = selectors s.data.toList k) := by
          show _ = selectors s.data.toList k
          rw [E3.out]; simp only [bnd, e5]
        clear e5 E3
        have ps5 := SsIn.keeps ps4 (rd_keeps hr4 hkp5) (by decide)
        go_wp2_with fail
        go_roundg f'
        case measure => omega
        case rel => exact ⟨k3, l ++ [p], by have := F.out; simp; omega, by simp; omega, by omega, hk8, hr5, kp4.trans hkp5, by simpa using ps5, EX.out⟩
      · intro x w5 e5 hbl
        exact ⟨rfl, H.out.2 x _ (by rw [E3.out]; simp only [bnd, e5]) ((kp4.under hlt).trans hbl)⟩
end Go.Proofs.Ytanedepdhbdcgaa
