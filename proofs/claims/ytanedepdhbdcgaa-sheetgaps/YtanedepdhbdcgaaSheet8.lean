/-
  What media and sheet of package sheet do: the plain answer of the SheetSpec text, or its fault. Conditions: the text has at most 4000 bytes; the cell of internal/bytealg.MaxLen holds some int.
-/
import Derived.Test.YtanedepdhbdcgaaSheet7
namespace Go.Proofs.Ytanedepdhbdcgaa
open Go.RowKit

/-- What rulesTo does behind the gaps. -/
def stepTo (f : Nat) (S : List UInt8) (k1 : Nat) (md : Option (List UInt8)) (L : List Rl) : Res (List Rl) :=
  match md with
  | none =>
    if S.length ≤ k1 then .ok L
    else if has S k1 mediaL then
      match mediaHead S (k1 + 6) with
      | .error x => .error x
      | .ok (n, k2) => rulesTo f S k2 (some n) L
    else
      match rule L.length S k1 with
      | .error x => .error x
      | .ok (p, k2) => rulesTo f S k2 none (L ++ [⟨[], p.1, p.2, k1, k2⟩])
  | some n =>
    if has S k1 [125] then rulesTo f S (k1 + 1) none L
    else
      match rule L.length S k1 with
      | .error x => .error x
      | .ok (p, k2) => rulesTo f S k2 (some n) (L ++ [⟨n, p.1, p.2, k1, k2⟩])

theorem rulesTo_ok {f : Nat} {S : List UInt8} {k k1 : Nat} {g : Bool} {md : Option (List UInt8)} {L : List Rl} (h : gaps S k = .ok (g, k1)) : rulesTo (f + 1) S k md L = stepTo f S k1 md L := by
  rw [rulesTo, h]; rfl
theorem rulesTo_err {f : Nat} {S : List UInt8} {k : Nat} {x : Nat × Nat} {md : Option (List UInt8)} {L : List Rl} (h : gaps S k = .error x) : rulesTo (f + 1) S k md L = .error x := by
  rw [rulesTo, h]

set_option maxHeartbeats 2000000 in
theorem media_any (total : Res (List Rl)) (f : Nat) (b : Nat) (s : ByteArray) (base : Nat) (k : Nat) (L : List Rl) (nv : Value) (w : World) (R : Ending → World → Prop) (hl : s.size ≤ 4000) (hk : k ≤ s.size) (hf : s.size - k < f) (h60 : L.length ≤ 60) (hb : b < base) (hba : base ≤ w.heap.size) (hb0 : 0 < b) (hmx : Mx w) (hr : Rs w b s k nv) (hn : RsIn w base nv L)
    (hE : (match mediaHead s.data.toList k with | .error x => .error x | .ok (n, k2) => rulesTo f s.data.toList k2 (some n) L) = total)
    (hok : Hid (∀ f' k' L' nv' w', rulesTo f' s.data.toList k' none L' = total → s.size - k' < f' → f' ≤ f → k ≤ k' → k' ≤ s.size → L'.length ≤ 60 → Rs w' b s k' nv' → RsIn w' base nv' L' → Stp b nv w nv' w' → R (.returned (.tuple #[])) w'))
    (hbad : Hid (∀ (x : Nat × Nat) w', total = .error x → Below b w w' → R (.panicked [{ v := .iface 87 (.agg #[.int .i64 x.1, .int .i64 x.2]), recovered := false }]) w')) :
    Calls Try.prog 62 #[.pointer (some ⟨b, 0, none⟩)] w R := by
  have hlt := hr.lt
  have HS : Hid (s.size = s.data.toList.length) := Lib.size_eq s
  have row0 := hid hn.row
  have E0 := hid hE
  clear hE
  go_enter Try.func62, Try.ntmps62
  go_wp2_with fail
  refine gaps_any b s k nv _ _ hl hk hb0 hmx hr (hid ⟨?_, ?_⟩)
  rotate_left
  · intro x w1 e1 hbl
    exact ⟨rfl, hbad.out x _ (by rw [← E0.out]; simp only [mediaHead, bnd, e1]) hbl⟩
  intro g k1 v w1 e1 hk1 hk2 hr1 kp1 hv
  subst hv
  cases g with
  | false =>
    have EX : Hid (total = .error (2, k1)) := by
      show total = _
      rw [← E0.out]; simp only [mediaHead, bnd, e1]; rfl
    have h1 := hr1.c1
    clear e1
    go_wp2_with fail
    refine (at_any b _ _ h1).mono ?_
    rintro e w' ⟨rfl, hw⟩
    obtain rfl := hw.symm
    go_wp2_with (go_at_call 71; refine (throw_any _ _ _).mono ?_; rintro e w' ⟨rfl, rfl⟩)
    exact ⟨rfl, hbad.out (2, k1) _ EX.out (kp1.under hlt)⟩
  | true =>
  have E1 : Hid ((match bnd sname (fun n => bnd gaps fun _ => bnd (tok [123]) fun _ => ret n) s.data.toList k1 with | .error x => .error x | .ok (n, k2) => rulesTo f s.data.toList k2 (some n) L) = total) := by
    show _ = total
    rw [← E0.out]; simp only [mediaHead, bnd, e1]; rfl
  clear e1 E0
  go_wp2_with fail
  refine sname_any b s k1 nv _ _ hl hr1 (hid ⟨?_, ?_⟩)
  rotate_left
  · intro x w2 e2 hbl
    exact ⟨rfl, hbad.out x _ (by rw [← E1.out]; simp only [bnd, e2]) ((kp1.under hlt).trans hbl)⟩
  intro n k2 v w2 e2 hk3 hk4 hr2 hkp2 hv
  subst hv
  have E2 : Hid ((match bnd gaps (fun _ => bnd (tok [123]) fun _ => ret n) s.data.toList k2 with | .error x => .error x | .ok (n, k2) => rulesTo f s.data.toList k2 (some n) L) = total) := by
    show _ = total
    rw [← E1.out]; simp only [bnd, e2]
  clear e2 E1
  have kp2 := kp1.trans hkp2
  clear kp1 hkp2 hr1
  go_wp2_with fail
  refine gaps_any b s k2 nv _ _ hl hk4 hb0 (hmx.kp kp2 hb0) hr2 (hid ⟨?_, ?_⟩)
  rotate_left
  · intro x w3 e3 hbl
    exact ⟨rfl, hbad.out x _ (by rw [← E2.out]; simp only [bnd, e3]) ((kp2.under hlt).trans hbl)⟩
  intro g3 k3 v w3 e3 hk5 hk6 hr3 hkp3 hv
  subst hv
  have E3 : Hid ((match bnd (tok [123]) (fun _ => ret n) s.data.toList k3 with | .error x => .error x | .ok (n, k2) => rulesTo f s.data.toList k2 (some n) L) = total) := by
    show _ = total
    rw [← E2.out]; simp only [bnd, e3]
  clear e3 E2
  have kp3 := kp2.trans hkp3
  clear kp2 hkp3 hr2
  go_wp2_with fail
  refine tok_any b s ⟨#[123]⟩ k3 _ _ _ hl (by show (1 : Nat) ≤ 6000; omega) hk6 hr3 ⟨?_, ?_⟩
  rotate_left
  · intro x w4 e4 hbl
    have e4' : tok [123] s.data.toList k3 = .error x := e4
    exact ⟨rfl, hbad.out x _ (by rw [← E3.out]; simp only [bnd, e4']) ((kp3.under hlt).trans hbl)⟩
  intro _ k4 v w4 e4 hk7 hk8 hr4 hkp4 hv
  subst hv
  have E4 : Hid (rulesTo f s.data.toList k4 (some n) L = total) := by
    have e4' : tok [123] s.data.toList k3 = .ok ((), k4) := e4
    show _ = total
    rw [← E3.out]; simp only [bnd, e4', ret]
  clear e4 E3
  have kp4 := kp3.trans hkp4
  clear kp3 hkp4 hr3
  obtain ⟨f0, rfl⟩ : ∃ f0, f = f0 + 1 := ⟨f - 1, by omega⟩
  go_wp2_with fail
  refine gaps_any b s k4 nv _ _ hl hk8 hb0 (hmx.kp kp4 hb0) hr4 (hid ⟨?_, ?_⟩)
  rotate_left
  · intro x w5 e5 hbl
    exact ⟨rfl, hbad.out x _ (by rw [← E4.out, rulesTo_err e5]) ((kp4.under hlt).trans hbl)⟩
  intro g5 k5 v w5 e5 hk9 hk10 hr5 hkp5 hv
  subst hv
  have E5 : Hid (stepTo f0 s.data.toList k5 (some n) L = total) := by
    show _ = total
    rw [← E4.out, rulesTo_ok e5]
  clear e5 E4
  have kp5 := kp4.trans hkp5
  have n5 := hn.keeps (rd_keeps hr kp5) (by decide)
  clear kp4 hkp5 hr4
  go_wp2_with fail
  go_loopg [] f0 (fun g wr => ∃ (k' : Nat) (L' : List Rl) (nv' : Value), g ≤ f0 ∧ s.size - k' ≤ g ∧ k ≤ k' ∧ k' ≤ s.size ∧ L'.length ≤ 60 ∧ Rs wr b s k' nv' ∧ RsIn wr base nv' L' ∧ Stp b nv w nv' wr ∧ stepTo g s.data.toList k' (some n) L' = total)
  case atStart => exact ⟨k5, L, nv, Nat.le_refl _, by omega, by omega, hk10, h60, hr5, n5, Stp.ofKp kp5, E5.out⟩
  case round =>
    clear hr5 n5 kp5 E5
    obtain ⟨k', L', nv', hg, hf', hk11, hk12, hL', hr', hn', hst, hE⟩ := hrel
    have E := hid hE
    clear hE
    have zw : w.heap.size ≤ wr.heap.size := hst.kp.size
    have MM := hid (hmx.stp hst hn hb0 hb)
    have UN := hid (hst.under hlt (fun g h => by have := row0.out g h; omega))
    have lt' := hr'.lt
    go_wp2_with fail
    cases t1 : has s.data.toList k' [125] with
    | true =>
      have l1 := has_le t1 (by rw [← HS.out]; exact hk12)
      rw [← HS.out] at l1
      have l1' : k' + 1 ≤ s.size := l1
      clear l1
      refine (take_yes b s ⟨#[125]⟩ k' nv' _ hk12 (by omega) (by show (1 : Nat) ≤ 6000; omega) hr' t1).mono ?_
      rintro e w6 ⟨rfl, hr6, hkp6⟩
      have EX : Hid (rulesTo gk s.data.toList (k' + 1) none L' = total) := by
        show _ = total
        rw [← E.out]; simp only [stepTo]; rw [if_pos t1]
      clear t1
      have n6 := hn'.keeps (rd_keeps hr' hkp6) (by decide)
      go_wp2_with fail
      go_end0
      exact hok.out gk (k' + 1) L' nv' _ EX.out (by omega) (by omega) (by omega) l1' hL' hr6 n6 (hst.trans (Stp.ofKp hkp6))
    | false =>
    refine (take_no b s ⟨#[125]⟩ k' nv' _ hk12 hr' t1).mono ?_
    rintro e w6 ⟨rfl, n6, rfl⟩
    have E1 : Hid ((match rule L'.length s.data.toList k' with | .error x => .error x | .ok (p, k2) => rulesTo gk s.data.toList k2 (some n) (L' ++ [⟨n, p.1, p.2, k', k2⟩])) = total) := by
      show _ = total
      rw [← E.out]; simp only [stepTo]; rw [if_neg (by rw [t1]; decide)]
    clear t1 E
    have hr6 := hr'.drewN n6
    have nn6 : RsIn (wr.drewN n6) base nv' L' := hn'
    have st6 : Stp b nv w nv' (wr.drewN n6) := hst.trans (Stp.ofKp ((Kp.refl _ _).drewN _))
    have M6 : Mx (wr.drewN n6) := MM.out
    have U6 : Below b w (wr.drewN n6) := below_drewN' UN.out _
    have z6 : wr.heap.size ≤ (wr.drewN n6).heap.size := Nat.le_refl _
    generalize wr.drewN n6 = w6 at hr6 nn6 st6 M6 U6 z6 ⊢
    have M7 := hid M6
    have U7 := hid U6
    clear M6 U6
    go_wp2_with fail
    refine rule_any n b s base k' L' nv' _ _ hl hk12 hL' (by omega) hb0 M7.out hr6 nn6 ?_ ?_
    rotate_left
    · intro x w7 e7 hbl
      exact ⟨rfl, hbad.out x _ (by rw [← E1.out, e7]) (U7.out.trans hbl)⟩
    intro p k7 nv7 w7 e7 hk13 hk14 hr7 hn7 hst7 h59
    have E2 : Hid (rulesTo gk s.data.toList k7 (some n) (L' ++ [⟨n, p.1, p.2, k', k7⟩]) = total) := by
      show _ = total
      rw [← E1.out, e7]
    clear e7 E1
    obtain ⟨g0, hg0⟩ : ∃ g0, gk = g0 + 1 := ⟨gk - 1, by omega⟩
    have st7 := st6.trans hst7
    have M8 := hid (hmx.stp st7 hn hb0 hb)
    have U8 := hid (st7.under hlt (fun g h => by have := row0.out g h; omega))
    have G0 := hid hg0
    clear hg0
    go_wp2_with fail
    refine gaps_any b s k7 nv7 _ _ hl hk14 hb0 M8.out hr7 (hid ⟨?_, ?_⟩)
    rotate_left
    · intro x w8 e8 hbl
      exact ⟨rfl, hbad.out x _ (by have := E2.out; rw [G0.out, rulesTo_err e8] at this; exact this.symm) (U8.out.trans hbl)⟩
    intro g8 k8 v w8 e8 hk15 hk16 hr8 hkp8 hv
    subst hv
    have E3 : Hid (stepTo g0 s.data.toList k8 (some n) (L' ++ [⟨n, p.1, p.2, k', k7⟩]) = total) := by
      have := E2.out
      rw [G0.out, rulesTo_ok e8] at this
      exact this
    clear e8 E2
    have n8 := hn7.keeps (rd_keeps hr7 hkp8) (by decide)
    go_wp2_with fail
    go_roundg g0
    case measure => have := G0.out; omega
    case rel => exact ⟨k8, L' ++ [⟨n, p.1, p.2, k', k7⟩], nv7, by have := G0.out; omega, by have := G0.out; omega, by omega, hk16, by simp; omega, hr8, n8, st7.trans (Stp.ofKp hkp8), E3.out⟩
end Go.Proofs.Ytanedepdhbdcgaa
