/- Texts that the statement's proof stands on: Sheet6, Sheet7, Sheet8. -/
import Derived.Test.YtblkldfokeeaeacGreatDoorA13
namespace Go.Proofs.YtblkldfokeeaeacGreatDoor.Sh
open Go.RowKit
def NAt {α β : Type} (T : TypeId) (sz : Nat) (enc : α × β → List Value) (P : World → α → β → Prop) (w : World) (base : Nat) (v : Value) (l : List α) : Prop :=
  ∃ LV : List (α × β), LV.map (·.1) = l ∧ w.ownsRow base T sz v l.length (LV.flatMap enc) ∧ ∀ p ∈ LV, P w p.1 p.2
theorem NAt.keeps {α β : Type} {T : TypeId} {sz : Nat} {enc : α × β → List Value} {P : World → α → β → Prop} {w w' : World} {base : Nat} {v : Value} {l : List α} (h : NAt T sz enc P w base v l) {Ts : TypeId → Prop} (hk : Keeps Ts w w') (hT : Ts T) (hP : ∀ a x, P w a x → P w' a x) : NAt T sz enc P w' base v l := by
  obtain ⟨LV, h1, h2, h3⟩ := h
  exact ⟨LV, h1, own_keeps h2 hk hT, fun p hp => hP _ _ (h3 p hp)⟩
theorem NAt.lower {α β : Type} {T : TypeId} {sz : Nat} {enc : α × β → List Value} {P : World → α → β → Prop} {w : World} {base base' : Nat} {v : Value} {l : List α} (h : NAt T sz enc P w base v l) (hb : base' ≤ base) : NAt T sz enc P w base' v l := by
  obtain ⟨LV, h1, h2, h3⟩ := h
  exact ⟨LV, h1, own_lower h2 hb, h3⟩
theorem NAt.form {α β : Type} {T : TypeId} {sz : Nat} {enc : α × β → List Value} {P : World → α → β → Prop} {w : World} {base : Nat} {v : Value} {l : List α} (h : NAt T sz enc P w base v l) : ∃ a cap, v = .slice a l.length cap := by
  obtain ⟨LV, h1, h2, h3⟩ := h
  exact own_form h2
theorem NAt.nil {α β : Type} (T : TypeId) (sz : Nat) (enc : α × β → List Value) (P : World → α → β → Prop) (w : World) (base : Nat) : NAt T sz enc P w base (.slice none 0 0) [] :=
  ⟨[], rfl, World.ownsRow_nil _ _ _ _, by simp⟩
theorem NAt.push {α β : Type} {T : TypeId} {sz : Nat} {enc : α × β → List Value} {P : World → α → β → Prop} {w w3 : World} {base g cap : Nat} {l : List α} {LV : List (α × β)} {a : α} {x : β} {o : Obj} {v : Value}
    (h1 : LV.map (·.1) = l) (h2 : w.ownsRow base T sz v l.length (LV.flatMap enc)) (h3 : ∀ p ∈ LV, P w p.1 p.2) (ha : P w a x) (hg : (w.alloc o).grownBy w3 v.ownBlock)
    (ho : w3.ownsRow base T sz (.slice (some ⟨g, 0, none⟩) (l.length + 1) cap) (l.length + 1) (LV.flatMap enc ++ enc (a, x)))
    (hP : ∀ a x, Keeps (· ≠ T) w w3 → P w a x → P w3 a x) : NAt T sz enc P w3 base (.slice (some ⟨g, 0, none⟩) (l.length + 1) cap) (l ++ [a]) := by
  have kk : Keeps (· ≠ T) w w3 := Keeps.grown h2 hg (by simp)
  refine ⟨LV ++ [(a, x)], by simp [h1], by simpa using ho, ?_⟩
  intro p hp
  rcases List.mem_append.1 hp with hp | hp
  · exact hP _ _ kk (h3 p hp)
  · rw [List.mem_singleton.1 hp]; exact hP _ _ kk ha
theorem TsAt.keeps {w w' : World} {v : Value} {l : List Tst} (h : TsAt w v l) {Ts : TypeId → Prop} (hk : Keeps Ts w w') (hT : Ts 152) : TsAt w' v l := own_keeps h hk hT
theorem DsAt.keeps {w w' : World} {v : Value} {l : List Dcl} (h : DsAt w v l) {Ts : TypeId → Prop} (hk : Keeps Ts w w') (hT : Ts 40) : DsAt w' v l := own_keeps h hk hT
def encP (p : Prt × Value) : List Value := [.int .i64 p.1.join, p.2]
def PsIn (w : World) (base : Nat) (v : Value) (l : List Prt) : Prop := NAt 150 2 encP (fun w a x => TsAt w x a.tests) w base v l
def PsAt (w : World) (v : Value) (l : List Prt) : Prop := PsIn w 0 v l
theorem PsIn.keeps {w w' : World} {base : Nat} {v : Value} {l : List Prt} (h : PsIn w base v l) {Ts : TypeId → Prop} (hk : Keeps Ts w w') (hT : Ts 150 ∧ Ts 152) : PsIn w' base v l := NAt.keeps h hk hT.1 (fun _ _ ha => ha.keeps hk hT.2)
theorem PsAt.keeps {w w' : World} {v : Value} {l : List Prt} (h : PsAt w v l) {Ts : TypeId → Prop} (hk : Keeps Ts w w') (hT : Ts 150 ∧ Ts 152) : PsAt w' v l := PsIn.keeps h hk hT
def encS (p : List Prt × Value) : List Value := [p.2]
def SsIn (w : World) (base : Nat) (v : Value) (l : List (List Prt)) : Prop := NAt 100 1 encS (fun w a x => PsAt w x a) w base v l
def SsAt (w : World) (v : Value) (l : List (List Prt)) : Prop := SsIn w 0 v l
theorem SsIn.keeps {w w' : World} {base : Nat} {v : Value} {l : List (List Prt)} (h : SsIn w base v l) {Ts : TypeId → Prop} (hk : Keeps Ts w w') (hT : Ts 100 ∧ Ts 150 ∧ Ts 152) : SsIn w' base v l := NAt.keeps h hk hT.1 (fun _ _ ha => ha.keeps hk hT.2)
theorem SsAt.keeps {w w' : World} {v : Value} {l : List (List Prt)} (h : SsAt w v l) {Ts : TypeId → Prop} (hk : Keeps Ts w w') (hT : Ts 100 ∧ Ts 150 ∧ Ts 152) : SsAt w' v l := SsIn.keeps h hk hT
theorem rd_keeps {w w' : World} {b : Nat} {s : ByteArray} {k : Nat} {nv : Value} (hr : Rs w b s k nv) (h : Kp (· = b) w w') : Keeps (· ≠ 215) w w' := Keeps.reader hr h (by simp)
theorem Tryz.info150 : (Tryz.prog.info? 150).map (fun i => (i.zero, i.size, i.bytes)) = some (some (.agg #[.int .i64 0, .slice none 0 0]), 2, 32) := by kernel_rfl
theorem Tryz.info100 : (Tryz.prog.info? 100).map (fun i => (i.zero, i.size, i.bytes)) = some (some (.slice none 0 0), 1, 24) := by kernel_rfl
set_option maxHeartbeats 2000000 in
theorem join_any (b : Nat) (s : ByteArray) (k : Nat) (nv : Value) (w : World) (R : Ending → World → Prop) (hl : s.size ≤ 4000) (hk : k ≤ s.size) (hb0 : 2 < b) (hmx : Mx w) (hr : Rs w b s k nv)
    (H : Hid (Good b s k nv w (join s.data.toList k) (fun _ a v => v = .tuple #[.int .i64 a.1, .bool a.2]) R)) :
    Calls Tryz.prog 198 #[.pointer (some ⟨b, 0, none⟩)] w R := by
  have hlt := hr.lt
  have HS : Hid (s.size = s.data.toList.length) := Lib.size_eq s
  go_enter Tryz.func198, Tryz.ntmps198
  go_wp2_with fail
  refine gaps_any b s k nv _ _ hl hk hb0 hmx hr (hid ⟨?_, ?_⟩)
  rotate_left
  · intro x w1 e1 hbl
    exact ⟨rfl, H.out.2 x _ (by simp only [join, bnd, e1]) hbl⟩
  intro g k1 v w1 e1 hk1 hk2 hr1 kp1 hv
  subst hv
  have E1 : Hid (join s.data.toList k = opt [62] (bnd gaps fun _ => ret (2, true)) (opt [43] (bnd gaps fun _ => ret (3, true))
    (if g then look [44] (ret (0, false)) (look [123] (ret (0, false)) (ended (ret (0, false)) (ret (1, true)))) else ret (0, false))) s.data.toList k1) := by
    show join s.data.toList k = _
    simp only [join, bnd, e1]
  clear e1
  go_wp2_with fail
  cases t1 : has s.data.toList k1 [62] with
  | true =>
    have l1 := has_le t1 (by rw [← HS.out]; exact hk2)
    rw [← HS.out] at l1
    have l1' : k1 + 1 ≤ s.size := l1
    clear l1
    refine (take_yes b s ⟨#[62]⟩ k1 nv _ hk2 (by omega) (by show (1 : Nat) ≤ 6000; omega) hr1 t1).mono ?_
    rintro e w2 ⟨rfl, hr2, hkp2⟩
    have E2 : Hid (join s.data.toList k = bnd gaps (fun _ => ret (2, true)) s.data.toList (k1 + 1)) := by
      show join s.data.toList k = _
      rw [E1.out]; unfold opt; rw [if_pos t1]; rfl
    clear t1 E1
    have kp2 := kp1.trans hkp2
    clear hkp2
    go_wp2_with fail
    refine gaps_any b s (k1 + 1) nv _ _ hl l1' hb0 (hmx.kp kp2 hb0) hr2 (hid ⟨?_, ?_⟩)
    · intro g3 k3 v w3 e3 hk3 hk4 hr3 hkp3 hv
      subst hv
      have EX : Hid (join s.data.toList k = .ok ((2, true), k3)) := by
        show join s.data.toList k = _
        rw [E2.out]; simp only [bnd, e3, ret]
      clear e3 E2
      go_wp2_with fail
      exact H.out.1 (2, true) k3 _ _ EX.out (by omega) hk4 hr3 (kp2.trans hkp3) rfl
    · intro x w3 e3 hbl
      exact ⟨rfl, H.out.2 x _ (by rw [E2.out]; simp only [bnd, e3]) ((kp2.under hlt).trans hbl)⟩
  | false =>
  refine (take_no b s ⟨#[62]⟩ k1 nv _ hk2 hr1 t1).mono ?_
  rintro e w2 ⟨rfl, n2, rfl⟩
  have E2 : Hid (join s.data.toList k = opt [43] (bnd gaps fun _ => ret (3, true))
    (if g then look [44] (ret (0, false)) (look [123] (ret (0, false)) (ended (ret (0, false)) (ret (1, true)))) else ret (0, false)) s.data.toList k1) := by
    show join s.data.toList k = _
    rw [E1.out]; unfold opt; rw [if_neg (by rw [t1]; decide)]
  clear t1 E1
  have hr2 := hr1.drewN n2
  have kp2 := kp1.drewN n2
  generalize w1.drewN n2 = w2 at hr2 kp2 ⊢
  clear hr1 kp1
  go_wp2_with fail
  cases t1 : has s.data.toList k1 [43] with
  | true =>
    have l1 := has_le t1 (by rw [← HS.out]; exact hk2)
    rw [← HS.out] at l1
    have l1' : k1 + 1 ≤ s.size := l1
    clear l1
    refine (take_yes b s ⟨#[43]⟩ k1 nv _ hk2 (by omega) (by show (1 : Nat) ≤ 6000; omega) hr2 t1).mono ?_
    rintro e w3 ⟨rfl, hr3, hkp3⟩
    have E3 : Hid (join s.data.toList k = bnd gaps (fun _ => ret (3, true)) s.data.toList (k1 + 1)) := by
      show join s.data.toList k = _
      rw [E2.out]; unfold opt; rw [if_pos t1]; rfl
    clear t1 E2
    have kp3 := kp2.trans hkp3
    clear hkp3
    go_wp2_with fail
    refine gaps_any b s (k1 + 1) nv _ _ hl l1' hb0 (hmx.kp kp3 hb0) hr3 (hid ⟨?_, ?_⟩)
    · intro g3 k3 v w4 e3 hk3 hk4 hr4 hkp4 hv
      subst hv
      have EX : Hid (join s.data.toList k = .ok ((3, true), k3)) := by
        show join s.data.toList k = _
        rw [E3.out]; simp only [bnd, e3, ret]
      clear e3 E3
      go_wp2_with fail
      exact H.out.1 (3, true) k3 _ _ EX.out (by omega) hk4 hr4 (kp3.trans hkp4) rfl
    · intro x w4 e3 hbl
      exact ⟨rfl, H.out.2 x _ (by rw [E3.out]; simp only [bnd, e3]) ((kp3.under hlt).trans hbl)⟩
  | false =>
  refine (take_no b s ⟨#[43]⟩ k1 nv _ hk2 hr2 t1).mono ?_
  rintro e w3 ⟨rfl, n3, rfl⟩
  have E3 : Hid (join s.data.toList k = (if g then look [44] (ret (0, false)) (look [123] (ret (0, false)) (ended (ret (0, false)) (ret (1, true)))) else ret (0, false)) s.data.toList k1) := by
    show join s.data.toList k = _
    rw [E2.out]; unfold opt; rw [if_neg (by rw [t1]; decide)]
  clear t1 E2
  have hr3 := hr2.drewN n3
  have kp3 := kp2.drewN n3
  generalize w2.drewN n3 = w3 at hr3 kp3 ⊢
  clear hr2 kp2
  cases g with
  | false =>
    have EX : Hid (join s.data.toList k = .ok ((0, false), k1)) := by
      show join s.data.toList k = _
      rw [E3.out]; rfl
    go_wp2_with fail
    exact H.out.1 (0, false) k1 _ _ EX.out hk1 hk2 hr3 kp3 rfl
  | true =>
  have h0 := hr3.c0
  have h1 := hr3.c1
  go_wp2_with fail
  refine (has_any b s ⟨#[44]⟩ k1 _ hk2 h0 h1).mono ?_
  rintro e w4 ⟨rfl, n4, rfl⟩
  clear h0 h1
  have hr4 := hr3.drewN n4
  have kp4 := kp3.drewN n4
  generalize w3.drewN n4 = w4 at hr4 kp4 ⊢
  clear hr3 kp3
  cases t1 : has s.data.toList k1 [44] with
  | true =>
    have EX : Hid (join s.data.toList k = .ok ((0, false), k1)) := by
      show join s.data.toList k = _
      rw [E3.out]; show look [44] _ _ _ _ = _; unfold look; rw [if_pos t1]; rfl
    clear t1
    go_wp2_with fail
    exact H.out.1 (0, false) k1 _ _ EX.out hk1 hk2 hr4 kp4 rfl
  | false =>
  have T1 := hid t1
  clear t1
  have h0 := hr4.c0
  have h1 := hr4.c1
  go_wp2_with fail
  refine (has_any b s ⟨#[123]⟩ k1 _ hk2 h0 h1).mono ?_
  rintro e w5 ⟨rfl, n5, rfl⟩
  clear h0 h1
  have hr5 := hr4.drewN n5
  have kp5 := kp4.drewN n5
  generalize w4.drewN n5 = w5 at hr5 kp5 ⊢
  clear hr4 kp4
  cases t2 : has s.data.toList k1 [123] with
  | true =>
    have EX : Hid (join s.data.toList k = .ok ((0, false), k1)) := by
      have t1 := T1.out
      show join s.data.toList k = _
      rw [E3.out]; show look [44] _ _ _ _ = _; unfold look; rw [if_neg (by rw [t1]; decide), if_pos t2]; rfl
    clear t2
    go_wp2_with fail
    exact H.out.1 (0, false) k1 _ _ EX.out hk1 hk2 hr5 kp5 rfl
  | false =>
  have T2 := hid t2
  clear t2
  have h0 := hr5.c0
  have h1 := hr5.c1
  go_wp2_with fail
  by_cases hend : s.size ≤ k1
  · refine (ended_yes b s k1 _ hend h0 h1).mono ?_
    rintro e w6 ⟨rfl, n, rfl⟩
    have EX : Hid (join s.data.toList k = .ok ((0, false), k1)) := by
      have t1 := T1.out
      have t2 := T2.out
      show join s.data.toList k = _
      rw [E3.out]; show look [44] _ _ _ _ = _; unfold look ended; rw [if_neg (by rw [t1]; decide), if_neg (by rw [t2]; decide), if_pos (by rw [← HS.out]; exact hend)]; rfl
    go_wp2_with fail
    exact H.out.1 (0, false) k1 _ _ EX.out hk1 hk2 (hr5.drewN _) (kp5.drewN _) rfl
  · refine (ended_no b s k1 _ (by omega) h0 h1).mono ?_
    rintro e w6 ⟨rfl, n, rfl⟩
    have EX : Hid (join s.data.toList k = .ok ((1, true), k1)) := by
      have t1 := T1.out
      have t2 := T2.out
      show join s.data.toList k = _
      rw [E3.out]; show look [44] _ _ _ _ = _; unfold look ended; rw [if_neg (by rw [t1]; decide), if_neg (by rw [t2]; decide), if_neg (by rw [← HS.out]; exact hend)]; rfl
    go_wp2_with fail
    exact H.out.1 (1, true) k1 _ _ EX.out hk1 hk2 (hr5.drewN _) (kp5.drewN _) rfl
set_option maxHeartbeats 2000000 in
theorem selector_any (b : Nat) (s : ByteArray) (k : Nat) (nv : Value) (w : World) (R : Ending → World → Prop) (hl : s.size ≤ 4000) (hk : k ≤ s.size) (hb0 : 2 < b) (hmx : Mx w) (hr : Rs w b s k nv)
    (H : Hid (Good b s k nv w (selector s.data.toList k) (fun w' a v => PsAt w' v a) R)) :
    Calls Tryz.prog 182 #[.pointer (some ⟨b, 0, none⟩)] w R := by
  have hlt := hr.lt
  obtain ⟨i0, hi, hz0, hz1, hz2⟩ := info_parts' Tryz.info150
  have HI := hid hi
  have HZ : Hid (i0.zero = some (.agg #[.int .i64 0, .slice none 0 0]) ∧ i0.size = 2 ∧ i0.bytes = 32) := ⟨hz0, hz1, hz2⟩
  clear hi hz0 hz1 hz2
  go_enter Tryz.func182, Tryz.ntmps182
  go_wp2_with fail
  go_loopg [3, 4, 5] 8 (fun f x y z wr => ∃ (k' j : Nat) (l : List Prt) (more : Bool), y = .int .i64 j ∧ z = .bool more ∧ l.length ≤ 6 ∧ k ≤ k' ∧ k' ≤ s.size ∧ Rs wr b s k' nv ∧ Kp (· = b) w wr ∧ PsIn wr w.heap.size x l ∧ (more = true → f + l.length = 8 ∧ selectorTo f j l s.data.toList k' = selector s.data.toList k) ∧ (more = false → selector s.data.toList k = .ok (l, k')))
  case atStart => exact ⟨k, 0, [], true, rfl, rfl, by simp, Nat.le_refl _, hk, hr, Kp.refl _ _, NAt.nil _ _ _ _ _ _, fun _ => ⟨rfl, rfl⟩, by simp⟩
  case round =>
    obtain ⟨k', j, l, more, rfl, rfl, h6, hk1, hk2, hr', hkp, hps, hE, hE2⟩ := hrel
    obtain ⟨xa, xcap, rfl⟩ := NAt.form hps
    cases more with
    | false =>
      have EX := hid (hE2 rfl)
      clear hE hE2
      go_wp2_with fail
      exact H.out.1 l k' _ _ EX.out hk1 hk2 hr' hkp (NAt.lower hps (Nat.zero_le _))
    | true =>
    obtain ⟨hf, hE⟩ := hE rfl
    obtain ⟨f', rfl⟩ : ∃ f', gk = f' + 1 := ⟨gk - 1, by omega⟩
    have E := hid hE
    have F := hid hf
    clear hE hE2 hf
    go_wp2_with fail
    refine aheadOfPart_any l.length 6 b s k' nv _ _ hk2 hr' (hid ⟨?_, ?_⟩)
    rotate_left
    · intro y w1 e1 hbl
      exact ⟨rfl, H.out.2 y _ (by rw [← E.out]; simp only [selectorTo, bnd, e1]) ((hkp.under hlt).trans hbl)⟩
    intro _ k1 v w1 e1 hk3 hk4 hr1 hkp1 hv
    subst hv
    have h5 : l.length < 6 := by
      unfold aheadOfPart at e1
      split at e1
      · cases e1
      split at e1
      · cases e1
      omega
    have E1 : Hid (selector s.data.toList k = bnd (part j) (fun p => bnd join fun q => if q.2 then selectorTo f' q.1 (l ++ [p]) else ret (l ++ [p])) s.data.toList k1) := by
      show selector s.data.toList k = _
      rw [← E.out]; simp only [selectorTo, bnd, e1]
    clear e1 E
    have kp1 := hkp.trans hkp1
    have ps1 := PsIn.keeps hps (rd_keeps hr' hkp1) (by decide)
    clear hkp hkp1 hps hr'
    go_wp2_with fail
    refine part_any j b s k1 nv _ _ hl hk4 hr1 (hid ⟨?_, ?_⟩)
    rotate_left
    · intro y w2 e2 hbl
      exact ⟨rfl, H.out.2 y _ (by rw [E1.out]; simp only [bnd, e2]) ((kp1.under hlt).trans hbl)⟩
    intro p k2 v w2 e2 hk5 hk6 hr2 hkp2 hv
    obtain ⟨x, rfl, hx⟩ := hv
    have E2 : Hid (selector s.data.toList k = bnd join (fun q => if q.2 then selectorTo f' q.1 (l ++ [p]) else ret (l ++ [p])) s.data.toList k2) := by
      show selector s.data.toList k = _
      rw [E1.out]; simp only [bnd, e2]
    clear e2 E1
    have kp2 := kp1.trans hkp2
    have ps2 := PsIn.keeps ps1 (rd_keeps hr1 hkp2) (by decide)
    clear kp1 hkp2 ps1 hr1
    obtain ⟨LV, v1, v2, v3⟩ := ps2
    have V1 := hid v1
    have V3 := hid v3
    clear v1 v3
    have ox := own_form hx
    obtain ⟨ya, ycap, rfl⟩ := ox
    have hz2 : w.heap.size ≤ w2.heap.size := kp2.size
    go_wp2_with (at_builtin; refine wpList_append_lies _ rfl (.tmp 16) (.tmp 20) 100 rfl w.heap.size 150 i0 (.agg #[.int .i64 0, .slice none 0 0]) 2 32 Tryz.underlying100 HI.out HZ.out.1 HZ.out.2.1 HZ.out.2.2 rfl (by decide) (.slice xa l.length xcap) l.length (LV.flatMap encP) rfl (World.ownsRow.alloc v2 _) ⟨w2.heap.size, 0, none⟩ 1 1 (encP (p, .slice ya p.tests.length ycap)) rfl rfl (World.news_of_block (heap_alloc_new w2 _)) (by simp [encP, Value.oneCell']) (by decide) (by unfold maxLen; omega) (by omega) (by simp; omega) _ rfl ?_; intro gg cap w3 hown hgrow hat hlt3; have kp3 := grown_kp kp2 v2 (Nat.le_refl _) hgrow; have hr3 := grown_rd hr2 v2 (by decide) hgrow; have ps3 : PsIn w3 w.heap.size (.slice (some ⟨gg, 0, none⟩) (l.length + 1) cap) (l ++ [p]) := NAt.push V1.out v2 V3.out hx hgrow hown (fun a x kk ha => TsAt.keeps ha kk (by decide)); clear hown hgrow hat)
    refine join_any b s k2 nv _ _ hl hk6 hb0 (hmx.kp kp3 hb0) hr3 (hid ⟨?_, ?_⟩)
    rotate_left
    · intro y w4 e4 hbl
      exact ⟨rfl, H.out.2 y _ (by rw [E2.out]; simp only [bnd, e4]) ((kp3.under hlt).trans hbl)⟩
    intro q k3 v w4 e4 hk7 hk8 hr4 hkp4 hv
    subst hv
    have ps4 := PsIn.keeps ps3 (rd_keeps hr3 hkp4) (by decide)
    have E4 : Hid (selector s.data.toList k = (if q.2 then selectorTo f' q.1 (l ++ [p]) else ret (l ++ [p])) s.data.toList k3) := by
      show selector s.data.toList k = _
      rw [E2.out]; simp only [bnd, e4]
    clear e4 E2
    go_wp2_with fail
    go_roundg f'
    case measure => omega
    case rel =>
      refine ⟨k3, q.1, l ++ [p], q.2, rfl, rfl, by simp; omega, by omega, hk8, hr4, kp3.trans hkp4, by simpa using ps4, ?_, ?_⟩
      · intro hq
        refine ⟨by have := F.out; simp; omega, ?_⟩
        have := E4.out
        rw [this, if_pos hq]
      · intro hq
        rw [E4.out, if_neg (by rw [hq]; decide)]
        rfl
set_option maxHeartbeats 2000000 in
theorem selectors_any (b : Nat) (s : ByteArray) (k : Nat) (nv : Value) (w : World) (R : Ending → World → Prop) (hl : s.size ≤ 4000) (hk : k ≤ s.size) (hb0 : 2 < b) (hmx : Mx w) (hr : Rs w b s k nv)
    (H : Hid (Good b s k nv w (selectors s.data.toList k) (fun w' a v => SsAt w' v a) R)) :
    Calls Tryz.prog 161 #[.pointer (some ⟨b, 0, none⟩)] w R := by
  have hlt := hr.lt
  have HS : Hid (s.size = s.data.toList.length) := Lib.size_eq s
  obtain ⟨i0, hi, hz0, hz1, hz2⟩ := info_parts' Tryz.info100
  have HI := hid hi
  have HZ : Hid (i0.zero = some (.slice none 0 0) ∧ i0.size = 1 ∧ i0.bytes = 24) := ⟨hz0, hz1, hz2⟩
  clear hi hz0 hz1 hz2
  go_enter Tryz.func161, Tryz.ntmps161
  go_wp2_with fail
  go_loopg [3] 10 (fun f x wr => ∃ (k' : Nat) (l : List (List Prt)), f + l.length = 10 ∧ l.length ≤ 8 ∧ k ≤ k' ∧ k' ≤ s.size ∧ Rs wr b s k' nv ∧ Kp (· = b) w wr ∧ SsIn wr w.heap.size x l ∧ selectorsTo f l s.data.toList k' = selectors s.data.toList k)
  case atStart => exact ⟨k, [], rfl, by simp, Nat.le_refl _, hk, hr, Kp.refl _ _, NAt.nil _ _ _ _ _ _, rfl⟩
  case round =>
    obtain ⟨k', l, hf, h8, hk1, hk2, hr', hkp, hps, hE⟩ := hrel
    obtain ⟨xa, xcap, rfl⟩ := NAt.form hps
    obtain ⟨f', rfl⟩ : ∃ f', gk = f' + 1 := ⟨gk - 1, by omega⟩
    have E := hid hE
    have F := hid hf
    clear hE hf
    go_wp2_with fail
    refine aheadOfPart_any l.length 8 b s k' nv _ _ hk2 hr' (hid ⟨?_, ?_⟩)
    rotate_left
    · intro y w1 e1 hbl
      exact ⟨rfl, H.out.2 y _ (by rw [← E.out]; simp only [selectorsTo, bnd, e1]) ((hkp.under hlt).trans hbl)⟩
    intro _ k1 v w1 e1 hk3 hk4 hr1 hkp1 hv
    subst hv
    have h5 : l.length < 8 := by
      unfold aheadOfPart at e1
      split at e1
      · cases e1
      split at e1
      · cases e1
      omega
    have E1 : Hid (selectors s.data.toList k = bnd selector (fun p => opt [44] (bnd gaps fun _ => selectorsTo f' (l ++ [p])) (ret (l ++ [p]))) s.data.toList k1) := by
      show selectors s.data.toList k = _
      rw [← E.out]; simp only [selectorsTo, bnd, e1]
    clear e1 E
    have kp1 := hkp.trans hkp1
    have ps1 := SsIn.keeps hps (rd_keeps hr' hkp1) (by decide)
    clear hkp hkp1 hps hr'
    go_wp2_with fail
    refine selector_any b s k1 nv _ _ hl hk4 hb0 (hmx.kp kp1 hb0) hr1 (hid ⟨?_, ?_⟩)
    rotate_left
    · intro y w2 e2 hbl
      exact ⟨rfl, H.out.2 y _ (by rw [E1.out]; simp only [bnd, e2]) ((kp1.under hlt).trans hbl)⟩
    intro p k2 v w2 e2 hk5 hk6 hr2 hkp2 hx
    have E2 : Hid (selectors s.data.toList k = opt [44] (bnd gaps fun _ => selectorsTo f' (l ++ [p])) (ret (l ++ [p])) s.data.toList k2) := by
      show selectors s.data.toList k = _
      rw [E1.out]; simp only [bnd, e2]
    clear e2 E1
    have kp2 := kp1.trans hkp2
    have ps2 := SsIn.keeps ps1 (rd_keeps hr1 hkp2) (by decide)
    clear kp1 hkp2 ps1 hr1
    obtain ⟨LV, v1, v2, v3⟩ := ps2
    have V1 := hid v1
    have V3 := hid v3
    clear v1 v3
    obtain ⟨ya, ycap, rfl⟩ := NAt.form (show PsIn w2 0 v p from hx)
    have hz2 : w.heap.size ≤ w2.heap.size := kp2.size
    go_wp2_with (at_builtin; refine wpList_append_lies _ rfl (.tmp 8) (.tmp 11) 33 rfl w.heap.size 100 i0 (.slice none 0 0) 1 24 Tryz.underlying33 HI.out HZ.out.1 HZ.out.2.1 HZ.out.2.2 rfl (by decide) (.slice xa l.length xcap) l.length (LV.flatMap encS) rfl (World.ownsRow.alloc v2 _) ⟨w2.heap.size, 0, none⟩ 1 1 (encS (p, .slice ya p.length ycap)) rfl rfl (World.news_of_block (heap_alloc_new w2 _)) (by simp [encS, Value.oneCell']) (by decide) (by unfold maxLen; omega) (by omega) (by simp; omega) _ rfl ?_; intro gg cap w3 hown hgrow hat hlt3; have kp3 := grown_kp kp2 v2 (Nat.le_refl _) hgrow; have hr3 := grown_rd hr2 v2 (by decide) hgrow; have ps3 : SsIn w3 w.heap.size (.slice (some ⟨gg, 0, none⟩) (l.length + 1) cap) (l ++ [p]) := NAt.push V1.out v2 V3.out hx hgrow hown (fun a x kk ha => PsAt.keeps ha kk (by decide)); clear hown hgrow hat)
    cases t2 : has s.data.toList k2 [44] with
    | false =>
      refine (take_no b s ⟨#[44]⟩ k2 nv _ hk6 hr3 t2).mono ?_
      rintro e w4 ⟨rfl, n4, rfl⟩
      have EX : Hid (selectors s.data.toList k = .ok (l ++ [p], k2)) := by
        show selectors s.data.toList k = _
        rw [E2.out]; unfold opt; rw [if_neg (by rw [t2]; decide)]; rfl
      clear t2
      go_wp2_with fail
      exact H.out.1 (l ++ [p]) k2 _ _ EX.out (by omega) hk6 (hr3.drewN _) (kp3.drewN _) (NAt.lower ps3 (Nat.zero_le _))
    | true =>
      have l1 := has_le t2 (by rw [← HS.out]; exact hk6)
      rw [← HS.out] at l1
      have l1' : k2 + 1 ≤ s.size := l1
      clear l1
      refine (take_yes b s ⟨#[44]⟩ k2 nv _ hk6 (by omega) (by show (1 : Nat) ≤ 6000; omega) hr3 t2).mono ?_
      rintro e w4 ⟨rfl, hr4, hkp4⟩
      have E3 : Hid (selectors s.data.toList k = bnd gaps (fun _ => selectorsTo f' (l ++ [p])) s.data.toList (k2 + 1)) := by
        show selectors s.data.toList k = _
        rw [E2.out]; unfold opt; rw [if_pos t2]; rfl
      clear t2 E2
      have kp4 := kp3.trans hkp4
      have ps4 := SsIn.keeps ps3 (rd_keeps hr3 hkp4) (by decide)
      clear kp3 hkp4 ps3 hr3
      go_wp2_with fail
      refine gaps_any b s (k2 + 1) nv _ _ hl l1' hb0 (hmx.kp kp4 hb0) hr4 (hid ⟨?_, ?_⟩)
      · intro g5 k3 v w5 e5 hk7 hk8 hr5 hkp5 hv
        subst hv
        have EX : Hid (selectorsTo f' (l ++ [p]) s.data.toList k3 = selectors s.data.toList k) := by
          show _ = selectors s.data.toList k
          rw [E3.out]; simp only [bnd, e5]
        clear e5 E3
        have ps5 := SsIn.keeps ps4 (rd_keeps hr4 hkp5) (by decide)
        go_wp2_with fail
        go_roundg f'
        case measure => omega
        case rel => exact ⟨k3, l ++ [p], by have := F.out; simp; omega, by simp; omega, by omega, hk8, hr5, kp4.trans hkp5, by simpa using ps5, EX.out⟩
      · intro x w5 e5 hbl
        exact ⟨rfl, H.out.2 x _ (by rw [E3.out]; simp only [bnd, e5]) ((kp4.under hlt).trans hbl)⟩
end Go.Proofs.YtblkldfokeeaeacGreatDoor.Sh
namespace Go.Proofs.YtblkldfokeeaeacGreatDoor.Sh
open Go.RowKit
def encR (p : Rl × (Value × Value)) : List Value := [.string (bs p.1.media), p.2.1, p.2.2, .int .i64 p.1.from_, .int .i64 p.1.to_]
def RsIn (w : World) (base : Nat) (v : Value) (l : List Rl) : Prop := NAt 38 5 encR (fun w a x => SsAt w x.1 a.sels ∧ DsAt w x.2 a.decls) w base v l
theorem RsIn.keeps {w w' : World} {base : Nat} {v : Value} {l : List Rl} (h : RsIn w base v l) {Ts : TypeId → Prop} (hk : Keeps Ts w w') (hT : Ts 38 ∧ Ts 40 ∧ Ts 100 ∧ Ts 150 ∧ Ts 152) : RsIn w' base v l :=
  NAt.keeps h hk hT.1 (fun _ _ ha => ⟨ha.1.keeps hk hT.2.2, ha.2.keeps hk hT.2.1⟩)
structure Stp (b : Nat) (nv : Value) (w : World) (nv' : Value) (w' : World) : Prop where
  kp : Kp (fun j => j = b ∨ some j = nv.ownBlock) w w'
  row : ∀ g, nv'.ownBlock = some g → nv.ownBlock = some g ∨ w.heap.size ≤ g
theorem Stp.ofKp {b : Nat} {nv : Value} {w w' : World} (h : Kp (· = b) w w') : Stp b nv w nv w' := ⟨h.weaken (fun _ h => .inl h), fun _ h => .inl h⟩
theorem Stp.trans {b : Nat} {nv nv1 nv2 : Value} {w w1 w2 : World} (h : Stp b nv w nv1 w1) (k : Stp b nv1 w1 nv2 w2) : Stp b nv w nv2 w2 := by
  refine ⟨⟨k.kp.os.trans h.kp.os, k.kp.tape.trans h.kp.tape, k.kp.output.trans h.kp.output, Nat.le_trans h.kp.size k.kp.size, fun j hj hx => ?_⟩, fun g hg => ?_⟩
  · rw [k.kp.block j (Nat.lt_of_lt_of_le hj h.kp.size) ?_]
    · exact h.kp.block j hj hx
    · rintro (hb | hg)
      · exact hx (.inl hb)
      · rcases h.row j hg.symm with h1 | h1
        · exact hx (.inr h1.symm)
        · omega
  · rcases k.row g hg with h1 | h1
    · exact h.row g h1
    · exact .inr (Nat.le_trans h.kp.size h1)
theorem Stp.under {b : Nat} {nv nv' : Value} {w w' : World} (h : Stp b nv w nv' w') (hb : b < w.heap.size) (hrow : ∀ g, nv.ownBlock = some g → b < g) : Below b w w' :=
  ⟨h.kp.os, h.kp.tape, h.kp.output, h.kp.size, fun j hj => h.kp.block j (by omega) (by
    rintro (h | h)
    · omega
    · have := hrow j h.symm; omega)⟩
theorem RsIn.row {w : World} {base : Nat} {v : Value} {l : List Rl} (h : RsIn w base v l) : ∀ g, v.ownBlock = some g → base ≤ g ∧ g < w.heap.size := by
  obtain ⟨LV, _, h2, _⟩ := h
  exact h2.lt
theorem Mx.stp {w w' : World} {b base : Nat} {nv nv' : Value} {L : List Rl} (h : Mx w) (hk : Stp b nv w nv' w') (hs : RsIn w base nv L) (hb0 : 2 < b) (hb : b < base) : Mx w' := by
  obtain ⟨mx, h⟩ := h
  refine ⟨mx, (hk.kp.cell (lt_of_cell h) ?_ 0).trans h⟩
  rintro (h | h)
  · omega
  · have := hs.row 2 h.symm; omega
theorem rpush {w w3 : World} {b base g cap : Nat} {s : ByteArray} {k : Nat} {nv : Value} {L : List Rl} {LV : List (Rl × (Value × Value))} {a : Rl} {x : Value × Value} {o : Obj}
    (hr : Rs w b s k nv) (h1 : LV.map (·.1) = L) (h2 : w.ownsRow base 38 5 nv L.length (LV.flatMap encR)) (h3 : ∀ p ∈ LV, SsAt w p.2.1 p.1.sels ∧ DsAt w p.2.2 p.1.decls) (ha : SsAt w x.1 a.sels ∧ DsAt w x.2 a.decls)
    (hg : (w.alloc o).grownBy w3 nv.ownBlock) (ho : w3.ownsRow base 38 5 (.slice (some ⟨g, 0, none⟩) (L.length + 1) cap) (L.length + 1) (LV.flatMap encR ++ encR (a, x))) (hat : nv.ownBlock = some g ∨ g = w.heap.size + 1) :
    Rs w3 b s k nv ∧ Rs (w3.setCell ⟨b, 2, none⟩ (.slice (some ⟨g, 0, none⟩) (L.length + 1) cap)) b s k (.slice (some ⟨g, 0, none⟩) (L.length + 1) cap) ∧
    RsIn (w3.setCell ⟨b, 2, none⟩ (.slice (some ⟨g, 0, none⟩) (L.length + 1) cap)) base (.slice (some ⟨g, 0, none⟩) (L.length + 1) cap) (L ++ [a]) ∧
    Stp b nv w (.slice (some ⟨g, 0, none⟩) (L.length + 1) cap) (w3.setCell ⟨b, 2, none⟩ (.slice (some ⟨g, 0, none⟩) (L.length + 1) cap)) := by
  have r3 : Rs w3 b s k nv := grown_rd hr h2 (by decide) hg
  have n3 : RsIn w3 base (.slice (some ⟨g, 0, none⟩) (L.length + 1) cap) (L ++ [a]) := NAt.push h1 h2 h3 ha hg ho (fun a x kk ha => ⟨ha.1.keeps kk (by decide), ha.2.keeps kk (by decide)⟩)
  have ks := Kp.set w3 b 2 (.slice (some ⟨g, 0, none⟩) (L.length + 1) cap)
  have al := fun j (hj : j < w.heap.size) => Below.heap_alloc w o j hj
  have lt5 := fun j (hj : j < w.heap.size) => (show j < (w.alloc o).heap.size by simp; omega)
  refine ⟨r3, ?_, n3.keeps (rd_keeps r3 ks) (by decide), ?_⟩
  · have := heap_set r3 2 (.slice (some ⟨g, 0, none⟩) (L.length + 1) cap)
    unfold Rs RdT
    rw [this]; rfl
  · refine ⟨⟨hg.os, hg.tape, hg.output, Nat.le_trans (by simp) (Nat.le_trans hg.size ks.size), fun j hj hx => ?_⟩, fun g' hg' => ?_⟩
    · rw [ks.block j (Nat.lt_of_lt_of_le (lt5 j hj) hg.size) (fun h => hx (.inl h)), hg.block j (lt5 j hj) (fun h => hx (.inr h)), al j hj]
    · simp [Value.ownBlock] at hg'
      subst hg'
      rcases hat with h | h
      · exact .inl h
      · right; omega
theorem tok_len {t S : List UInt8} {k k' : Nat} (h : tok t S k = .ok ((), k')) : k' = k + t.length := by
  unfold tok opt at h
  split at h
  · injection h with h
    injection h with _ h
    exact h.symm
  · cases h
theorem Tryz.info38 : (Tryz.prog.info? 38).map (fun i => (i.zero, i.size, i.bytes)) = some (some (.agg #[.string ⟨#[]⟩, .slice none 0 0, .slice none 0 0, .int .i64 0, .int .i64 0]), 5, 80) := by kernel_rfl
set_option maxHeartbeats 4000000 in
theorem rule_any (media : List UInt8) (b : Nat) (s : ByteArray) (base : Nat) (k : Nat) (L : List Rl) (nv : Value) (w : World) (R : Ending → World → Prop) (hl : s.size ≤ 4000) (hk : k ≤ s.size) (h60 : L.length ≤ 60) (hba : base ≤ w.heap.size) (hb0 : 2 < b) (hmx : Mx w) (hr : Rs w b s k nv) (hn : RsIn w base nv L)
    (hok : Hid (∀ p k' nv' w', rule L.length s.data.toList k = .ok (p, k') → k < k' → k' ≤ s.size → Rs w' b s k' nv' → RsIn w' base nv' (L ++ [⟨media, p.1, p.2, k, k'⟩]) → Stp b nv w nv' w' → L.length < 60 → R (.returned (.tuple #[])) w'))
    (hbad : Hid (∀ (x : Nat × Nat) w', rule L.length s.data.toList k = .error x → Below b w w' → R (.panicked [{ v := .iface 161 (.agg #[.int .i64 x.1, .int .i64 x.2]), recovered := false }]) w')) :
    Calls Tryz.prog 130 #[.pointer (some ⟨b, 0, none⟩), .string (bs media)] w R := by
  have hlt := hr.lt
  obtain ⟨nx, ncap, rfl⟩ := NAt.form hn
  have h1 := hr.c1
  have h2 := hr.c2
  obtain ⟨i0, hi, hz0, hz1, hz2⟩ := info_parts' Tryz.info38
  have HI := hid hi
  have HZ : Hid (i0.zero = some (.agg #[.string ⟨#[]⟩, .slice none 0 0, .slice none 0 0, .int .i64 0, .int .i64 0]) ∧ i0.size = 5 ∧ i0.bytes = 80) := ⟨hz0, hz1, hz2⟩
  clear hi hz0 hz1 hz2
  go_enter Tryz.func130, Tryz.ntmps130
  go_wp2_with fail
  refine (at_any b _ _ h1).mono ?_
  rintro e w' ⟨rfl, hw⟩
  obtain rfl := hw.symm
  go_wp2_with fail
  clear h1 h2
  refine aheadOfPart_any L.length 60 b s k _ _ _ hk hr (hid ⟨?_, ?_⟩)
  rotate_left
  · intro y w1 e1 hbl
    exact ⟨rfl, hbad.out y _ (by simp only [rule, bnd, e1]) hbl⟩
  intro _ k1 v w1 e1 hk3 hk4 hr1 kp1 hv
  subst hv
  have h59 : L.length < 60 := by
    unfold aheadOfPart at e1
    split at e1
    · cases e1
    split at e1
    · cases e1
    omega
  have E1 : Hid (rule L.length s.data.toList k = bnd selectors (fun l => bnd (tok [123]) fun _ => bnd decls fun d => bnd (tok [125]) fun _ => ret (l, d)) s.data.toList k1) := by
    show rule L.length s.data.toList k = _
    simp only [rule, bnd, e1]
  clear e1
  go_wp2_with fail
  refine selectors_any b s k1 _ _ _ hl hk4 hb0 (hmx.kp kp1 hb0) hr1 (hid ⟨?_, ?_⟩)
  rotate_left
  · intro y w2 e2 hbl
    exact ⟨rfl, hbad.out y _ (by rw [E1.out]; simp only [bnd, e2]) ((kp1.under hlt).trans hbl)⟩
  intro sl k2 sv w2 e2 hk5 hk6 hr2 hkp2 hsv
  have E2 : Hid (rule L.length s.data.toList k = bnd (tok [123]) (fun _ => bnd decls fun d => bnd (tok [125]) fun _ => ret (sl, d)) s.data.toList k2) := by
    show rule L.length s.data.toList k = _
    rw [E1.out]; simp only [bnd, e2]
  clear e2 E1
  have kp2 := kp1.trans hkp2
  clear kp1 hkp2 hr1
  go_wp2_with fail
  refine tok_any b s ⟨#[123]⟩ k2 _ _ _ hl (by show (1 : Nat) ≤ 6000; omega) hk6 hr2 ⟨?_, ?_⟩
  rotate_left
  · intro x w3 e3 hbl
    have e3' : tok [123] s.data.toList k2 = .error x := e3
    exact ⟨rfl, hbad.out x _ (by rw [E2.out]; simp only [bnd, e3']) ((kp2.under hlt).trans hbl)⟩
  intro _ k3 v w3 e3 hk7 hk8 hr3 hkp3 hv
  subst hv
  have E3 : Hid (rule L.length s.data.toList k = bnd decls (fun d => bnd (tok [125]) fun _ => ret (sl, d)) s.data.toList k3) := by
    have e3' : tok [123] s.data.toList k2 = .ok ((), k3) := e3
    show rule L.length s.data.toList k = _
    rw [E2.out]; simp only [bnd, e3']
  have hk78 : k3 = k2 + 1 := by
    have e3' : tok [123] s.data.toList k2 = .ok ((), k3) := e3
    exact tok_len e3'
  clear e3 E2
  have kp3 := kp2.trans hkp3
  have sv3 := hsv.keeps (rd_keeps hr2 hkp3) (by decide)
  clear kp2 hkp3 hsv hr2
  go_wp2_with fail
  refine decls_any b s k3 _ _ _ hl hk8 hb0 (hmx.kp kp3 hb0) hr3 (hid ⟨?_, ?_⟩)
  rotate_left
  · intro y w4 e4 hbl
    exact ⟨rfl, hbad.out y _ (by rw [E3.out]; simp only [bnd, e4]) ((kp3.under hlt).trans hbl)⟩
  intro dl k4 dv w4 e4 hk9 hk10 hr4 hkp4 hdv
  have E4 : Hid (rule L.length s.data.toList k = bnd (tok [125]) (fun _ => ret (sl, dl)) s.data.toList k4) := by
    show rule L.length s.data.toList k = _
    rw [E3.out]; simp only [bnd, e4]
  clear e4 E3
  have kp4 := kp3.trans hkp4
  have sv4 := sv3.keeps (rd_keeps hr3 hkp4) (by decide)
  clear kp3 hkp4 sv3 hr3
  go_wp2_with fail
  refine tok_any b s ⟨#[125]⟩ k4 _ _ _ hl (by show (1 : Nat) ≤ 6000; omega) hk10 hr4 ⟨?_, ?_⟩
  rotate_left
  · intro x w5 e5 hbl
    have e5' : tok [125] s.data.toList k4 = .error x := e5
    exact ⟨rfl, hbad.out x _ (by rw [E4.out]; simp only [bnd, e5']) ((kp4.under hlt).trans hbl)⟩
  intro _ k5 v w5 e5 hk11 hk12 hr5 hkp5 hv
  subst hv
  have E5 : Hid (rule L.length s.data.toList k = .ok ((sl, dl), k5)) := by
    have e5' : tok [125] s.data.toList k4 = .ok ((), k5) := e5
    show rule L.length s.data.toList k = _
    rw [E4.out]; simp only [bnd, e5', ret]
  clear e5 E4
  have kp5 := kp4.trans hkp5
  have kk5 := rd_keeps hr4 hkp5
  have sv5 := sv4.keeps kk5 (by decide)
  have dv5 := hdv.keeps kk5 (by decide)
  have hn5 := hn.keeps (rd_keeps hr kp5) (by decide)
  have row0 := hn.row
  clear kp4 hkp5 sv4 hdv kk5 hr4
  obtain ⟨sx, scap, rfl⟩ := NAt.form (show SsIn w5 0 sv sl from sv5)
  obtain ⟨dx, dcap, rfl⟩ := own_form dv5
  obtain ⟨LV, v1, v2, v3⟩ := hn5
  have V1 := hid v1
  have V3 := hid v3
  have SV := hid sv5
  have DV := hid dv5
  have h1 := hr5.c1
  have h2 := hr5.c2
  have h2a := cell_alloc h2
  have hbaW : base ≤ w5.heap.size := by have := kp5.size; omega
  clear v1 v3 sv5 dv5
  go_wp2_with fail
  go_region_law (first
    | (go_simp; go_at_call 113; refine (at_any b _ _ (by exact h1)).mono ?_; rintro e w' ⟨rfl, hw⟩; obtain rfl := hw.symm)
    | (refine step_append_lies _ rfl (.tmp 34) (.tmp 45) 29 rfl base 38 i0 (.agg #[.string ⟨#[]⟩, .slice none 0 0, .slice none 0 0, .int .i64 0, .int .i64 0]) 5 80 Tryz.underlying29 HI.out HZ.out.1 HZ.out.2.1 HZ.out.2.2 rfl (by decide) (.slice nx L.length ncap) L.length (LV.flatMap encR) rfl (World.ownsRow.alloc (w := w5) v2 _) ⟨w5.heap.size, 0, none⟩ 1 1 (encR (⟨media, sl, dl, k, k5⟩, (.slice sx sl.length scap, .slice dx dl.length dcap))) rfl rfl (World.news_of_block (heap_alloc_new w5 _)) (by simp [encR, Value.oneCell']) (by decide) (by unfold maxLen; omega) (by omega) (by simp; omega) _ rfl ?_; intro g cap w6 hown hgrow hat hlt6; obtain ⟨r1, r2, r3, r4⟩ := rpush hr5 V1.out v2 V3.out (a := ⟨media, sl, dl, k, k5⟩) (x := (.slice sx sl.length scap, .slice dx dl.length dcap)) ⟨SV.out, DV.out⟩ ⟨hgrow.os, hgrow.tape, hgrow.output, hgrow.size, hgrow.block⟩ hown (by simpa using hat); have y2 := r1.c2; have y3 := r1.fz 2; clear hown hgrow hat))
  all_goals
    go_wp2_with fail
    go_end0
    exact hok.out (sl, dl) k5 _ _ E5.out (by omega) hk12 r2 r3 ((Stp.ofKp kp5).trans r4) h59
end Go.Proofs.YtblkldfokeeaeacGreatDoor.Sh
namespace Go.Proofs.YtblkldfokeeaeacGreatDoor.Sh
open Go.RowKit
def stepTo (f : Nat) (S : List UInt8) (k1 : Nat) (md : Option (List UInt8)) (L : List Rl) : Res (List Rl) :=
  match md with
  | none =>
    if S.length ≤ k1 then .ok L
    else if has S k1 mediaL then
      match mediaHead S (k1 + 6) with
      | .error x => .error x
      | .ok (n, k2) => rulesTo f S k2 (some n) L
    else
      match rule L.length S k1 with
      | .error x => .error x
      | .ok (p, k2) => rulesTo f S k2 none (L ++ [⟨[], p.1, p.2, k1, k2⟩])
  | some n =>
    if has S k1 [125] then rulesTo f S (k1 + 1) none L
    else
      match rule L.length S k1 with
      | .error x => .error x
      | .ok (p, k2) => rulesTo f S k2 (some n) (L ++ [⟨n, p.1, p.2, k1, k2⟩])
theorem rulesTo_ok {f : Nat} {S : List UInt8} {k k1 : Nat} {g : Bool} {md : Option (List UInt8)} {L : List Rl} (h : gaps S k = .ok (g, k1)) : rulesTo (f + 1) S k md L = stepTo f S k1 md L := by
  rw [rulesTo, h]; rfl
theorem rulesTo_err {f : Nat} {S : List UInt8} {k : Nat} {x : Nat × Nat} {md : Option (List UInt8)} {L : List Rl} (h : gaps S k = .error x) : rulesTo (f + 1) S k md L = .error x := by
  rw [rulesTo, h]
set_option maxHeartbeats 2000000 in
theorem media_any (total : Res (List Rl)) (f : Nat) (b : Nat) (s : ByteArray) (base : Nat) (k : Nat) (L : List Rl) (nv : Value) (w : World) (R : Ending → World → Prop) (hl : s.size ≤ 4000) (hk : k ≤ s.size) (hf : s.size - k < f) (h60 : L.length ≤ 60) (hb : b < base) (hba : base ≤ w.heap.size) (hb0 : 2 < b) (hmx : Mx w) (hr : Rs w b s k nv) (hn : RsIn w base nv L)
    (hE : (match mediaHead s.data.toList k with | .error x => .error x | .ok (n, k2) => rulesTo f s.data.toList k2 (some n) L) = total)
    (hok : Hid (∀ f' k' L' nv' w', rulesTo f' s.data.toList k' none L' = total → s.size - k' < f' → f' ≤ f → k ≤ k' → k' ≤ s.size → L'.length ≤ 60 → Rs w' b s k' nv' → RsIn w' base nv' L' → Stp b nv w nv' w' → R (.returned (.tuple #[])) w'))
    (hbad : Hid (∀ (x : Nat × Nat) w', total = .error x → Below b w w' → R (.panicked [{ v := .iface 161 (.agg #[.int .i64 x.1, .int .i64 x.2]), recovered := false }]) w')) :
    Calls Tryz.prog 129 #[.pointer (some ⟨b, 0, none⟩)] w R := by
  have hlt := hr.lt
  have HS : Hid (s.size = s.data.toList.length) := Lib.size_eq s
  have row0 := hid hn.row
  have E0 := hid hE
  clear hE
  go_enter Tryz.func129, Tryz.ntmps129
  go_wp2_with fail
  refine gaps_any b s k nv _ _ hl hk hb0 hmx hr (hid ⟨?_, ?_⟩)
  rotate_left
  · intro x w1 e1 hbl
    exact ⟨rfl, hbad.out x _ (by rw [← E0.out]; simp only [mediaHead, bnd, e1]) hbl⟩
  intro g k1 v w1 e1 hk1 hk2 hr1 kp1 hv
  subst hv
  cases g with
  | false =>
    have EX : Hid (total = .error (2, k1)) := by
      show total = _
      rw [← E0.out]; simp only [mediaHead, bnd, e1]; rfl
    have h1 := hr1.c1
    clear e1
    go_wp2_with fail
    refine (at_any b _ _ h1).mono ?_
    rintro e w' ⟨rfl, hw⟩
    obtain rfl := hw.symm
    go_wp2_with (go_at_call 112; refine (throw_any _ _ _).mono ?_; rintro e w' ⟨rfl, rfl⟩)
    exact ⟨rfl, hbad.out (2, k1) _ EX.out (kp1.under hlt)⟩
  | true =>
  have E1 : Hid ((match bnd sname (fun n => bnd gaps fun _ => bnd (tok [123]) fun _ => ret n) s.data.toList k1 with | .error x => .error x | .ok (n, k2) => rulesTo f s.data.toList k2 (some n) L) = total) := by
    show _ = total
    rw [← E0.out]; simp only [mediaHead, bnd, e1]; rfl
  clear e1 E0
  go_wp2_with fail
  refine sname_any b s k1 nv _ _ hl hr1 (hid ⟨?_, ?_⟩)
  rotate_left
  · intro x w2 e2 hbl
    exact ⟨rfl, hbad.out x _ (by rw [← E1.out]; simp only [bnd, e2]) ((kp1.under hlt).trans hbl)⟩
  intro n k2 v w2 e2 hk3 hk4 hr2 hkp2 hv
  subst hv
  have E2 : Hid ((match bnd gaps (fun _ => bnd (tok [123]) fun _ => ret n) s.data.toList k2 with | .error x => .error x | .ok (n, k2) => rulesTo f s.data.toList k2 (some n) L) = total) := by
    show _ = total
    rw [← E1.out]; simp only [bnd, e2]
  clear e2 E1
  have kp2 := kp1.trans hkp2
  clear kp1 hkp2 hr1
  go_wp2_with fail
  refine gaps_any b s k2 nv _ _ hl hk4 hb0 (hmx.kp kp2 hb0) hr2 (hid ⟨?_, ?_⟩)
  rotate_left
  · intro x w3 e3 hbl
    exact ⟨rfl, hbad.out x _ (by rw [← E2.out]; simp only [bnd, e3]) ((kp2.under hlt).trans hbl)⟩
  intro g3 k3 v w3 e3 hk5 hk6 hr3 hkp3 hv
  subst hv
  have E3 : Hid ((match bnd (tok [123]) (fun _ => ret n) s.data.toList k3 with | .error x => .error x | .ok (n, k2) => rulesTo f s.data.toList k2 (some n) L) = total) := by
    show _ = total
    rw [← E2.out]; simp only [bnd, e3]
  clear e3 E2
  have kp3 := kp2.trans hkp3
  clear kp2 hkp3 hr2
  go_wp2_with fail
  refine tok_any b s ⟨#[123]⟩ k3 _ _ _ hl (by show (1 : Nat) ≤ 6000; omega) hk6 hr3 ⟨?_, ?_⟩
  rotate_left
  · intro x w4 e4 hbl
    have e4' : tok [123] s.data.toList k3 = .error x := e4
    exact ⟨rfl, hbad.out x _ (by rw [← E3.out]; simp only [bnd, e4']) ((kp3.under hlt).trans hbl)⟩
  intro _ k4 v w4 e4 hk7 hk8 hr4 hkp4 hv
  subst hv
  have E4 : Hid (rulesTo f s.data.toList k4 (some n) L = total) := by
    have e4' : tok [123] s.data.toList k3 = .ok ((), k4) := e4
    show _ = total
    rw [← E3.out]; simp only [bnd, e4', ret]
  clear e4 E3
  have kp4 := kp3.trans hkp4
  clear kp3 hkp4 hr3
  obtain ⟨f0, rfl⟩ : ∃ f0, f = f0 + 1 := ⟨f - 1, by omega⟩
  go_wp2_with fail
  refine gaps_any b s k4 nv _ _ hl hk8 hb0 (hmx.kp kp4 hb0) hr4 (hid ⟨?_, ?_⟩)
  rotate_left
  · intro x w5 e5 hbl
    exact ⟨rfl, hbad.out x _ (by rw [← E4.out, rulesTo_err e5]) ((kp4.under hlt).trans hbl)⟩
  intro g5 k5 v w5 e5 hk9 hk10 hr5 hkp5 hv
  subst hv
  have E5 : Hid (stepTo f0 s.data.toList k5 (some n) L = total) := by
    show _ = total
    rw [← E4.out, rulesTo_ok e5]
  clear e5 E4
  have kp5 := kp4.trans hkp5
  have n5 := hn.keeps (rd_keeps hr kp5) (by decide)
  clear kp4 hkp5 hr4
  go_wp2_with fail
  go_loopg [] f0 (fun g wr => ∃ (k' : Nat) (L' : List Rl) (nv' : Value), g ≤ f0 ∧ s.size - k' ≤ g ∧ k ≤ k' ∧ k' ≤ s.size ∧ L'.length ≤ 60 ∧ Rs wr b s k' nv' ∧ RsIn wr base nv' L' ∧ Stp b nv w nv' wr ∧ stepTo g s.data.toList k' (some n) L' = total)
  case atStart => exact ⟨k5, L, nv, Nat.le_refl _, by omega, by omega, hk10, h60, hr5, n5, Stp.ofKp kp5, E5.out⟩
  case round =>
    clear hr5 n5 kp5 E5
    obtain ⟨k', L', nv', hg, hf', hk11, hk12, hL', hr', hn', hst, hE⟩ := hrel
    have E := hid hE
    clear hE
    have zw : w.heap.size ≤ wr.heap.size := hst.kp.size
    have MM := hid (hmx.stp hst hn hb0 hb)
    have UN := hid (hst.under hlt (fun g h => by have := row0.out g h; omega))
    have lt' := hr'.lt
    go_wp2_with fail
    cases t1 : has s.data.toList k' [125] with
    | true =>
      have l1 := has_le t1 (by rw [← HS.out]; exact hk12)
      rw [← HS.out] at l1
      have l1' : k' + 1 ≤ s.size := l1
      clear l1
      refine (take_yes b s ⟨#[125]⟩ k' nv' _ hk12 (by omega) (by show (1 : Nat) ≤ 6000; omega) hr' t1).mono ?_
      rintro e w6 ⟨rfl, hr6, hkp6⟩
      have EX : Hid (rulesTo gk s.data.toList (k' + 1) none L' = total) := by
        show _ = total
        rw [← E.out]; simp only [stepTo]; rw [if_pos t1]
      clear t1
      have n6 := hn'.keeps (rd_keeps hr' hkp6) (by decide)
      go_wp2_with fail
      go_end0
      exact hok.out gk (k' + 1) L' nv' _ EX.out (by omega) (by omega) (by omega) l1' hL' hr6 n6 (hst.trans (Stp.ofKp hkp6))
    | false =>
    refine (take_no b s ⟨#[125]⟩ k' nv' _ hk12 hr' t1).mono ?_
    rintro e w6 ⟨rfl, n6, rfl⟩
    have E1 : Hid ((match rule L'.length s.data.toList k' with | .error x => .error x | .ok (p, k2) => rulesTo gk s.data.toList k2 (some n) (L' ++ [⟨n, p.1, p.2, k', k2⟩])) = total) := by
      show _ = total
      rw [← E.out]; simp only [stepTo]; rw [if_neg (by rw [t1]; decide)]
    clear t1 E
    have hr6 := hr'.drewN n6
    have nn6 : RsIn (wr.drewN n6) base nv' L' := hn'
    have st6 : Stp b nv w nv' (wr.drewN n6) := hst.trans (Stp.ofKp ((Kp.refl _ _).drewN _))
    have M6 : Mx (wr.drewN n6) := MM.out
    have U6 : Below b w (wr.drewN n6) := below_drewN' UN.out _
    have z6 : wr.heap.size ≤ (wr.drewN n6).heap.size := Nat.le_refl _
    generalize wr.drewN n6 = w6 at hr6 nn6 st6 M6 U6 z6 ⊢
    have M7 := hid M6
    have U7 := hid U6
    clear M6 U6
    go_wp2_with fail
    refine rule_any n b s base k' L' nv' _ _ hl hk12 hL' (by omega) hb0 M7.out hr6 nn6 ?_ ?_
    rotate_left
    · intro x w7 e7 hbl
      exact ⟨rfl, hbad.out x _ (by rw [← E1.out, e7]) (U7.out.trans hbl)⟩
    intro p k7 nv7 w7 e7 hk13 hk14 hr7 hn7 hst7 h59
    have E2 : Hid (rulesTo gk s.data.toList k7 (some n) (L' ++ [⟨n, p.1, p.2, k', k7⟩]) = total) := by
      show _ = total
      rw [← E1.out, e7]
    clear e7 E1
    obtain ⟨g0, hg0⟩ : ∃ g0, gk = g0 + 1 := ⟨gk - 1, by omega⟩
    have st7 := st6.trans hst7
    have M8 := hid (hmx.stp st7 hn hb0 hb)
    have U8 := hid (st7.under hlt (fun g h => by have := row0.out g h; omega))
    have G0 := hid hg0
    clear hg0
    go_wp2_with fail
    refine gaps_any b s k7 nv7 _ _ hl hk14 hb0 M8.out hr7 (hid ⟨?_, ?_⟩)
    rotate_left
    · intro x w8 e8 hbl
      exact ⟨rfl, hbad.out x _ (by have := E2.out; rw [G0.out, rulesTo_err e8] at this; exact this.symm) (U8.out.trans hbl)⟩
    intro g8 k8 v w8 e8 hk15 hk16 hr8 hkp8 hv
    subst hv
    have E3 : Hid (stepTo g0 s.data.toList k8 (some n) (L' ++ [⟨n, p.1, p.2, k', k7⟩]) = total) := by
      have := E2.out
      rw [G0.out, rulesTo_ok e8] at this
      exact this
    clear e8 E2
    have n8 := hn7.keeps (rd_keeps hr7 hkp8) (by decide)
    go_wp2_with fail
    go_roundg g0
    case measure => have := G0.out; omega
    case rel => exact ⟨k8, L' ++ [⟨n, p.1, p.2, k', k7⟩], nv7, by have := G0.out; omega, by have := G0.out; omega, by omega, hk16, by simp; omega, hr8, n8, st7.trans (Stp.ofKp hkp8), E3.out⟩
end Go.Proofs.YtblkldfokeeaeacGreatDoor.Sh
