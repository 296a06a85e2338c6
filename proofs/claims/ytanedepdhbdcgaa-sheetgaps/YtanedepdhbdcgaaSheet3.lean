/-
  What decls and onlyDecls of package sheet do: the plain answers of the SheetSpec text, in new memory, or their faults. Conditions: the text has at most 4000 bytes; the cell of internal/bytealg.MaxLen holds some int.
-/
import Derived.Test.YtanedepdhbdcgaaSheet2
namespace Go.Proofs.Ytanedepdhbdcgaa
open Go.RowKit

def encD (d : Dcl) : List Value := [.string (bs d.name), .string (bs d.val), .bool d.strong]
/-- The slice value v holds the declarations l. -/
def DsAt (w : World) (v : Value) (l : List Dcl) : Prop := w.ownsRow 0 77 3 v l.length (l.flatMap encD)

theorem info_parts' {t : TypeId} {z : Value} {n m : Nat} (h : (Try.prog.info? t).map (fun i => (i.zero, i.size, i.bytes)) = some (some z, n, m)) : ∃ i, Try.prog.info? t = some i ∧ i.zero = some z ∧ i.size = n ∧ i.bytes = m := by
  cases hi : Try.prog.info? t with
  | none => rw [hi] at h; simp at h
  | some i => rw [hi] at h; simp at h; exact ⟨i, rfl, h.1, h.2.1, h.2.2⟩

theorem Try.info77 : (Try.prog.info? 77).map (fun i => (i.zero, i.size, i.bytes)) = some (some (.agg #[.string ⟨#[]⟩, .string ⟨#[]⟩, .bool false]), 3, 40) := by kernel_rfl

theorem decl_letter {S : List UInt8} {k k' : Nat} {d : Dcl} (h : decl S k = .ok (d, k')) : fitsAt S k letterB = true := by
  cases hf : fitsAt S k letterB with
  | true => rfl
  | false =>
    have : sname S k = .error (2, k) := by simp only [sname, nameTo, hf]; rfl
    simp only [decl, bnd, this] at h
    cases h

set_option maxRecDepth 100000 in
set_option maxHeartbeats 2000000 in
theorem decls_any (b : Nat) (s : ByteArray) (k : Nat) (nv : Value) (w : World) (R : Ending → World → Prop) (hl : s.size ≤ 4000) (hk : k ≤ s.size) (hb0 : 0 < b) (hmx : Mx w) (hr : Rs w b s k nv)
    (H : Hid (Good b s k nv w (decls s.data.toList k) (fun w' a v => DsAt w' v a) R)) :
    Calls Try.prog 70 #[.pointer (some ⟨b, 0, none⟩)] w R := by
  have hlt := hr.lt
  have HS : Hid (s.size = s.data.toList.length) := Lib.size_eq s
  obtain ⟨i0, hi, hz0, hz1, hz2⟩ := info_parts' Try.info77
  have HI := hid hi
  have HZ : Hid (i0.zero = some (.agg #[.string ⟨#[]⟩, .string ⟨#[]⟩, .bool false]) ∧ i0.size = 3 ∧ i0.bytes = 40) := ⟨hz0, hz1, hz2⟩
  clear hi hz0 hz1 hz2
  go_enter Try.func70, Try.ntmps70
  go_wp2_with fail
  refine gaps_any b s k nv _ _ hl hk hb0 hmx hr (hid ⟨?_, ?_⟩)
  rotate_left
  · intro x w1 e1 hbl
    exact ⟨rfl, H.out.2 x _ (by simp only [decls, bnd, e1]) hbl⟩
  intro g k1 v w1 e1 hk1 hk2 hr1 hkp1 hv
  subst hv
  have E1 : Hid (decls s.data.toList k = declsTo 22 [] s.data.toList k1) := by
    show decls s.data.toList k = declsTo 22 [] s.data.toList k1
    simp only [decls, bnd, e1]
  clear e1
  go_wp2_with fail
  go_loopg [3] 22 (fun f x wr => ∃ (k' : Nat) (l : List Dcl), f + l.length = 22 ∧ l.length ≤ 20 ∧ k ≤ k' ∧ k' ≤ s.size ∧ Rs wr b s k' nv ∧ Kp (· = b) w wr ∧ wr.ownsRow w.heap.size 77 3 x l.length (l.flatMap encD) ∧ declsTo f l s.data.toList k' = decls s.data.toList k)
  case atStart => exact ⟨k1, [], rfl, by simp, hk1, hk2, hr1, hkp1, World.ownsRow_nil _ _ _ _, E1.out.symm⟩
  case round =>
    clear hr1 hkp1 hk1 hk2 E1
    obtain ⟨k', l, hf, h20, hk1, hk2, hr', hkp, ho, hE⟩ := hrel
    obtain ⟨f', rfl⟩ : ∃ f', gk = f' + 1 := ⟨gk - 1, by omega⟩
    have E := hid hE
    have F := hid hf
    clear hE hf
    have h0 := hr'.c0
    have h1 := hr'.c1
    obtain ⟨xa, xcap, rfl⟩ := own_form ho
    go_wp2_with fail
    by_cases hend : s.size ≤ k'
    · refine (ended_yes b s k' _ hend h0 h1).mono ?_
      rintro e w2 ⟨rfl, n, rfl⟩
      have EX : Hid (decls s.data.toList k = .ok (l, k')) := by
        show decls s.data.toList k = .ok (l, k')
        rw [← E.out]
        simp only [declsTo, ended]
        rw [if_pos (by rw [← HS.out]; exact hend)]
        rfl
      go_wp2_with fail
      exact H.out.1 l k' _ _ EX.out hk1 hk2 (hr'.drewN _) (hkp.drewN _) (own_lower ho (Nat.zero_le _))
    have hend' : k' < s.size := by omega
    have E2 : Hid (declsTo (f' + 1) l s.data.toList k' = look [125] (ret l)
      (bnd (if 20 ≤ l.length then fits letterB (bad 5) (ret ()) else ret ()) fun _ =>
        bnd decl fun d => opt [59] (bnd gaps fun _ => declsTo f' (l ++ [d])) (ret (l ++ [d]))) s.data.toList k') := by
      show declsTo (f' + 1) l s.data.toList k' = _
      simp only [declsTo, ended]
      rw [if_neg (by rw [← HS.out]; omega)]
    refine (ended_no b s k' _ hend' h0 h1).mono ?_
    rintro e w2 ⟨rfl, n, rfl⟩
    clear h0 h1
    have hr2 := hr'.drewN n
    have kp2 := hkp.drewN n
    have ho2 : (wr.drewN n).ownsRow w.heap.size 77 3 (.slice xa l.length xcap) l.length (l.flatMap encD) := ho
    generalize wr.drewN n = w2 at hr2 kp2 ho2 ⊢
    clear hr' hkp ho hend
    have h0 := hr2.c0
    have h1 := hr2.c1
    go_wp2_with fail
    refine (has_any b s ⟨#[125]⟩ k' _ hk2 h0 h1).mono ?_
    rintro e w3 ⟨rfl, n3, rfl⟩
    clear h0 h1
    have hr3 := hr2.drewN n3
    have kp3 := kp2.drewN n3
    have ho3 : (w2.drewN n3).ownsRow w.heap.size 77 3 (.slice xa l.length xcap) l.length (l.flatMap encD) := ho2
    generalize w2.drewN n3 = w3 at hr3 kp3 ho3 ⊢
    clear hr2 kp2 ho2
    cases t1 : has s.data.toList k' [125] with
    | true =>
      have EX : Hid (decls s.data.toList k = .ok (l, k')) := by
        show decls s.data.toList k = .ok (l, k')
        rw [← E.out, E2.out]
        unfold look
        rw [if_pos t1]
        rfl
      clear t1
      go_wp2_with fail
      exact H.out.1 l k' _ _ EX.out hk1 hk2 hr3 kp3 (own_lower ho3 (Nat.zero_le _))
    | false =>
    have E3 : Hid (decls s.data.toList k = bnd (if 20 ≤ l.length then fits letterB (bad 5) (ret ()) else ret ()) (fun _ =>
        bnd decl fun d => opt [59] (bnd gaps fun _ => declsTo f' (l ++ [d])) (ret (l ++ [d]))) s.data.toList k') := by
      show decls s.data.toList k = _
      rw [← E.out, E2.out]
      unfold look
      rw [if_neg (by rw [t1]; decide)]
    clear t1 E E2
    have h0 := hr3.c0
    have h1 := hr3.c1
    go_wp2_with fail
    refine (hasName_any b s k' _ h0 h1).mono ?_
    rintro e w4 ⟨rfl, n4, rfl⟩
    clear h0 h1
    have hr4 := hr3.drewN n4
    have kp4 := kp3.drewN n4
    have ho4 : (w3.drewN n4).ownsRow w.heap.size 77 3 (.slice xa l.length xcap) l.length (l.flatMap encD) := ho3
    generalize w3.drewN n4 = w4 at hr4 kp4 ho4 ⊢
    clear hr3 kp3 ho3
    by_cases hbad : 20 ≤ l.length ∧ fitsAt s.data.toList k' letterB = true
    · have EX : Hid (decls s.data.toList k = .error (5, k')) := by
        show decls s.data.toList k = .error (5, k')
        rw [E3.out, if_pos hbad.1]
        unfold bnd fits
        rw [if_pos hbad.2]
        rfl
      rw [hbad.2]
      have h20' := hbad.1
      have h1 := hr4.c1
      clear hbad
      go_wp2_with fail
      refine (at_any b _ _ h1).mono ?_
      rintro e w' ⟨rfl, hw⟩
      obtain rfl := hw.symm
      go_wp2_with (go_at_call 71; refine (throw_any _ _ _).mono ?_; rintro e w' ⟨rfl, rfl⟩)
      exact ⟨rfl, H.out.2 (5, k') _ EX.out (kp4.under hlt)⟩
    have E4 : Hid (decls s.data.toList k = bnd decl (fun d => opt [59] (bnd gaps fun _ => declsTo f' (l ++ [d])) (ret (l ++ [d]))) s.data.toList k') := by
      show decls s.data.toList k = _
      rw [E3.out]
      by_cases hq : 20 ≤ l.length
      · rw [if_pos hq]
        have : fitsAt s.data.toList k' letterB = false := by
          cases hh : fitsAt s.data.toList k' letterB with
          | true => exact absurd ⟨hq, hh⟩ hbad
          | false => rfl
        simp only [bnd, fits, this]
        rfl
      · rw [if_neg hq]; rfl
    clear E3
    have h19 : fitsAt s.data.toList k' letterB = true → ¬ 20 ≤ l.length := fun hh hq => hbad ⟨hq, hh⟩
    clear hbad
    have HL : Hid (fitsAt s.data.toList k' letterB = true → ¬ 20 ≤ l.length) := h19
    cases hft : fitsAt s.data.toList k' letterB
    all_goals
      rw [hft] at h19
      simp at h19
      clear hft
      go_wp2_with fail
      refine decl_any b s k' nv _ _ hl hb0 (hmx.kp kp4 hb0) hr4 (hid ⟨?_, ?_⟩)
      rotate_left
      · intro x w5 e1 hbl
        exact ⟨rfl, H.out.2 x _ (by rw [E4.out]; simp only [bnd, e1]) ((kp4.under hlt).trans hbl)⟩
      intro d k2 v w5 e5 hk3 hk4 hr5 hkp5 hv
      subst hv
      have hl19 := HL.out (decl_letter e5)
      have E5 : Hid (decls s.data.toList k = opt [59] (bnd gaps fun _ => declsTo f' (l ++ [d])) (ret (l ++ [d])) s.data.toList k2) := by
        show decls s.data.toList k = _
        rw [E4.out]; simp only [bnd, e5]
      clear e5
      have kp5 := kp4.trans hkp5
      have ho5 := own_kp ho4 hkp5 (fun j hj cur fz hc => by
        subst hj
        have := hr4
        unfold RdT at this
        rw [this] at hc
        simp at hc)
      have hbase : w.heap.size ≤ w5.heap.size := kp5.size
      simp only [dclV]
      go_wp2_with (at_builtin; refine wpList_append_lies _ rfl (.tmp 32) (.tmp 35) 43 rfl w.heap.size 77 i0 (.agg #[.string ⟨#[]⟩, .string ⟨#[]⟩, .bool false]) 3 40 Try.underlying43 HI.out HZ.out.1 HZ.out.2.1 HZ.out.2.2 rfl (by decide) (.slice xa l.length xcap) l.length (l.flatMap encD) rfl (World.ownsRow.alloc ho5 _) ⟨w5.heap.size, 0, none⟩ 1 1 (encD d) rfl rfl (World.news_of_block (heap_alloc_new w5 _)) (by simp [encD, Value.oneCell']) (by decide) (by unfold maxLen; omega) (by omega) (by simp; omega) _ rfl ?_; intro gg cap w6 hown hgrow hat hlt6)
      have kp6 := grown_kp kp5 ho5 (Nat.le_refl _) hgrow
      have hr6 := grown_rd hr5 ho5 (by decide) hgrow
      have ho6 : w6.ownsRow w.heap.size 77 3 (.slice (some ⟨gg, 0, none⟩) (l.length + 1) cap) (l ++ [d]).length ((l ++ [d]).flatMap encD) := by simpa using hown
      clear hown hgrow hat hlt6 ho5 ho4 kp4 kp5 hkp5 hr4 hr5 hbase
      cases t2 : has s.data.toList k2 [59] with
      | false =>
        refine (take_no b s ⟨#[59]⟩ k2 nv _ hk4 hr6 t2).mono ?_
        rintro e w7 ⟨rfl, n7, rfl⟩
        have EX : Hid (decls s.data.toList k = .ok (l ++ [d], k2)) := by
          show decls s.data.toList k = .ok (l ++ [d], k2)
          rw [E5.out]; unfold opt; rw [if_neg (by rw [t2]; decide)]; rfl
        clear t2
        go_wp2_with fail
        exact H.out.1 (l ++ [d]) k2 _ _ EX.out (by omega) hk4 (hr6.drewN _) (kp6.drewN _) (own_lower ho6 (Nat.zero_le _))
      | true =>
        have l1 := has_le t2 (by rw [← HS.out]; exact hk4)
        rw [← HS.out] at l1
        have l1' : k2 + 1 ≤ s.size := l1
        clear l1
        refine (take_yes b s ⟨#[59]⟩ k2 nv _ hk4 (by omega) (by show (1 : Nat) ≤ 6000; omega) hr6 t2).mono ?_
        rintro e w7 ⟨rfl, hr7, hkp7⟩
        have E6 : Hid (decls s.data.toList k = bnd gaps (fun _ => declsTo f' (l ++ [d])) s.data.toList (k2 + 1)) := by
          show decls s.data.toList k = _
          rw [E5.out]; unfold opt; rw [if_pos t2]; rfl
        clear t2 E5
        have kp7 := kp6.trans hkp7
        have ho7 := own_kp ho6 hkp7 (fun j hj cur fz hc => by
          subst hj
          have := hr6
          unfold RdT at this
          rw [this] at hc
          simp at hc)
        clear ho6 kp6 hkp7 hr6
        go_wp2_with fail
        refine gaps_any b s (k2 + 1) nv _ _ hl l1' hb0 (hmx.kp kp7 hb0) hr7 (hid ⟨?_, ?_⟩)
        · intro g8 k3 v w8 e8 hk5 hk6 hr8 hkp8 hv
          subst hv
          have EX : Hid (declsTo f' (l ++ [d]) s.data.toList k3 = decls s.data.toList k) := by
            show declsTo f' (l ++ [d]) s.data.toList k3 = decls s.data.toList k
            rw [E6.out]; simp only [bnd, e8]
          clear e8
          have ho8 := own_kp ho7 hkp8 (fun j hj cur fz hc => by
            subst hj
            have := hr7
            unfold RdT at this
            rw [this] at hc
            simp at hc)
          go_wp2_with fail
          go_roundg f'
          case measure => omega
          case rel => exact ⟨k3, l ++ [d], by have := F.out; simp; omega, by simp; omega, by omega, hk6, hr8, kp7.trans hkp8, ho8, EX.out⟩
        · intro x w8 e8 hbl
          exact ⟨rfl, H.out.2 x _ (by rw [E6.out]; simp only [bnd, e8]) ((kp7.under hlt).trans hbl)⟩

set_option maxHeartbeats 1000000 in
theorem onlyDecls_any (b : Nat) (s : ByteArray) (k : Nat) (nv : Value) (w : World) (R : Ending → World → Prop) (hl : s.size ≤ 4000) (hk : k ≤ s.size) (hb0 : 0 < b) (hmx : Mx w) (hr : Rs w b s k nv)
    (H : Hid (Good b s k nv w (onlyDecls s.data.toList k) (fun w' a v => DsAt w' v a) R)) :
    Calls Try.prog 45 #[.pointer (some ⟨b, 0, none⟩)] w R := by
  have hlt := hr.lt
  have HS : Hid (s.size = s.data.toList.length) := Lib.size_eq s
  go_enter Try.func45, Try.ntmps45
  go_wp2_with fail
  refine decls_any b s k nv _ _ hl hk hb0 hmx hr (hid ⟨?_, ?_⟩)
  rotate_left
  · intro x w1 e1 hbl
    exact ⟨rfl, H.out.2 x _ (by simp only [onlyDecls, bnd, e1]) hbl⟩
  intro l k1 v w1 e1 hk1 hk2 hr1 hkp1 hv
  obtain ⟨xa, xcap, rfl⟩ := own_form hv
  have E1 : Hid (onlyDecls s.data.toList k = ended (ret l) (bad 2) s.data.toList k1) := by
    show onlyDecls s.data.toList k = _
    simp only [onlyDecls, bnd, e1]
  clear e1
  have h0 := hr1.c0
  have h1 := hr1.c1
  have HV := hid hv
  clear hv
  go_wp2_with fail
  by_cases hend : s.size ≤ k1
  · refine (ended_yes b s k1 _ hend h0 h1).mono ?_
    rintro e w2 ⟨rfl, n, rfl⟩
    go_wp2_with fail
    refine H.out.1 l k1 _ _ ?_ hk1 hk2 (hr1.drewN _) (hkp1.drewN _) HV.out
    rw [E1.out]; unfold ended; rw [if_pos (by rw [← HS.out]; exact hend)]; rfl
  · refine (ended_no b s k1 _ (by omega) h0 h1).mono ?_
    rintro e w2 ⟨rfl, n, rfl⟩
    go_wp2_with fail
    refine (at_any b _ _ (by exact h1)).mono ?_
    rintro e w' ⟨rfl, hw⟩
    obtain rfl := hw.symm
    go_wp2_with (go_at_call 71; refine (throw_any _ _ _).mono ?_; rintro e w' ⟨rfl, rfl⟩)
    refine ⟨rfl, H.out.2 (2, k1) _ ?_ (below_drewN' (hkp1.under hlt) _)⟩
    rw [E1.out]; unfold ended; rw [if_neg (by rw [← HS.out]; exact hend)]; rfl
end Go.Proofs.Ytanedepdhbdcgaa
