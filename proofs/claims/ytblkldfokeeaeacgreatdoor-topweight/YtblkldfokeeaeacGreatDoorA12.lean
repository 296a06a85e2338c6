/- Texts that the statement's proof stands on: Sheet2, Sheet3. -/
import Derived.Test.YtblkldfokeeaeacGreatDoorA11
namespace Go.Proofs.YtblkldfokeeaeacGreatDoor.Sh
open Go.RowKit
theorem tok_yes {S : List UInt8} {k : Nat} {t : List UInt8} (h : has S k t = true) : tok t S k = .ok ((), k + t.length) := by unfold tok opt; rw [if_pos h]; rfl
theorem tok_no {S : List UInt8} {k : Nat} {t : List UInt8} (h : has S k t = false) : tok t S k = .error (2, k) := by unfold tok opt; rw [if_neg (by rw [h]; decide)]; rfl
theorem tok_any (b : Nat) (s t : ByteArray) (k : Nat) (nv : Value) (w : World) (R : Ending → World → Prop) (hl : s.size ≤ 4000) (ht : t.size ≤ 6000) (hk : k ≤ s.size) (hr : Rs w b s k nv)
    (H : Good b s k nv w (tok t.data.toList s.data.toList k) (fun _ _ v => v = .tuple #[]) R) :
    Calls Tryz.prog 159 #[.pointer (some ⟨b, 0, none⟩), .string t] w R := by
  cases h : has s.data.toList k t.data.toList with
  | true =>
    have l1 := has_le h (by rw [← Lib.size_eq]; exact hk)
    rw [← Lib.size_eq, ← Lib.size_eq] at l1
    refine (need_yes b s t k nv w hk (by omega) ht hr h).mono ?_
    rintro e w1 ⟨rfl, hr1, hkp1⟩
    exact H.1 () _ _ _ ((tok_yes h).trans (by rw [Lib.size_eq])) (by omega) l1 hr1 hkp1 rfl
  | false =>
    refine (need_no b s t k nv w hk hr h).mono ?_
    rintro e w1 ⟨rfl, n, rfl⟩
    exact H.2 (2, k) _ (tok_no h) (below_drewN' (Below.refl _ _) _)
set_option maxHeartbeats 1000000 in
theorem word_any (ahead : List UInt8) (b : Nat) (s : ByteArray) (k : Nat) (nv : Value) (w : World) (R : Ending → World → Prop) (hl : s.size ≤ 4000) (hk : k ≤ s.size) (hb0 : 2 < b) (ha : ahead.length ≤ 100) (hmx : Mx w) (hr : Rs w b s k nv)
    (H : Hid (Good b s k nv w (word ahead s.data.toList k) (fun _ a v => v = .string (bs a)) R)) :
    Calls Tryz.prog 213 #[.pointer (some ⟨b, 0, none⟩), .string (bs ahead)] w R := by
  have hlt := hr.lt
  have h1 := hr.c1
  have hle := whileEnd_le (S := s.data.toList) (k := k) wordB (by rw [← Lib.size_eq]; exact hk)
  rw [← Lib.size_eq] at hle
  go_enter Tryz.func213, Tryz.ntmps213
  go_wp2_with fail
  refine (at_any b _ _ h1).mono ?_
  rintro e w' ⟨rfl, hw⟩
  obtain rfl := hw.symm
  go_wp2_with fail
  clear h1
  refine (while_any 214 wordB cfW tellsW b s k nv _ (by omega) hk hr).mono ?_
  rintro e w1 ⟨rfl, hr1, hkp1⟩
  rw [sub_bs]
  obtain ⟨u, hu⟩ : ∃ u, sub s.data.toList k (whileEnd s.data.toList k wordB) = u := ⟨_, rfl⟩
  obtain ⟨m, hm⟩ : ∃ m, whileEnd s.data.toList k wordB = m := ⟨_, rfl⟩
  have CH : Hid (chars wordB s.data.toList k = .ok (u, m)) := by
    show chars wordB s.data.toList k = .ok (u, m)
    unfold chars
    rw [hu, hm]
  have hul : u.length ≤ 4000 := by
    rw [← hu]; unfold sub; rw [List.length_take]; omega
  rw [hu]
  rw [hm] at hr1 hle
  clear hu hm
  have us := bs_size u
  have az := bs_size ahead
  by_cases hu0 : u = []
  · subst hu0
    have hq : (bs ([] : List UInt8)).toList.isEmpty = true := by rw [bs_toList]; rfl
    go_wp2_with (go_at_call 112; refine (throw_any _ _ _).mono ?_; rintro e w' ⟨rfl, rfl⟩)
    exact ⟨rfl, H.out.2 (2, k) _ (by simp only [word, CH.out]; rfl) (hkp1.under hlt)⟩
  · have hq : (bs u).toList.isEmpty = false := by rw [bs_toList]; cases u with
      | nil => exact absurd rfl hu0
      | cons => rfl
    by_cases h60 : 60 < ahead.length + u.length
    · go_wp2_with (go_at_call 112; refine (throw_any _ _ _).mono ?_; rintro e w' ⟨rfl, rfl⟩)
      exact ⟨rfl, H.out.2 (4, k) _ (by simp only [word, CH.out]; rw [if_neg hu0, if_pos h60]) (hkp1.under hlt)⟩
    · go_wp2_with fail
      have h60' := hid h60
      clear h60
      refine gaps_any b s m nv _ _ hl hle.2 hb0 (hmx.kp hkp1 hb0) hr1 (hid ⟨?_, ?_⟩)
      · intro a k' v w2 e1 hk1 hk2 hr2 hkp2 hv
        have EX : Hid (word ahead s.data.toList k = .ok (ahead ++ u, k')) := by
          show word ahead s.data.toList k = .ok (ahead ++ u, k')
          simp only [word, CH.out]
          rw [if_neg hu0, if_neg h60'.out]
          simp only [bnd, e1, ret]
        clear e1
        subst hv
        have h60 := h60'.out
        go_wp2_with fail
        have fin := H.out.1 (ahead ++ u) k' _ _ EX.out (by omega) hk2 hr2 (hkp1.trans hkp2) rfl
        rw [show bs (ahead ++ u) = bs ahead ++ bs u from ba_ext (by simp [bs])] at fin
        exact fin
      · intro x w2 e1 hbl
        refine ⟨rfl, H.out.2 x _ ?_ ((hkp1.under hlt).trans hbl)⟩
        simp only [word, CH.out]
        rw [if_neg hu0, if_neg h60'.out]
        simp only [bnd, e1]
theorem word_len {ahead : List UInt8} {S : List UInt8} {k k' : Nat} {v : List UInt8} (h : word ahead S k = .ok (v, k')) : v.length ≤ 60 := by
  simp only [word, chars] at h
  split at h
  · cases h
  split at h
  · cases h
  rename_i h60
  unfold bnd at h
  split at h
  · cases h
  · injection h with h
    injection h with h _
    rw [← h, List.length_append]; omega
set_option maxHeartbeats 1000000 in
theorem svalue_any (b : Nat) (s : ByteArray) (k : Nat) (nv : Value) (w : World) (R : Ending → World → Prop) (hl : s.size ≤ 4000) (hk : k ≤ s.size) (hb0 : 2 < b) (hmx : Mx w) (hr : Rs w b s k nv)
    (H : Hid (Good b s k nv w (value s.data.toList k) (fun _ a v => v = .string (bs a) ∧ a.length ≤ 60) R)) :
    Calls Tryz.prog 200 #[.pointer (some ⟨b, 0, none⟩)] w R := by
  have hlt := hr.lt
  go_enter Tryz.func200, Tryz.ntmps200
  go_wp2_with fail
  refine word_any [] b s k nv _ _ hl hk hb0 (by simp) hmx hr (hid ⟨?_, ?_⟩)
  rotate_left
  · intro x w1 e1 hbl
    exact ⟨rfl, H.out.2 x _ (by simp only [value, bnd, e1]) hbl⟩
  intro v k1 vv w1 e1 hk1 hk2 hr1 hkp1 hv
  subst hv
  have hv60 := word_len e1
  have E1 : Hid (value s.data.toList k = valueTo 62 v s.data.toList k1) := by
    show value s.data.toList k = valueTo 62 v s.data.toList k1
    simp only [value, bnd, e1]
  clear e1
  have K1 := hid hkp1
  have hkk := hid hk1
  clear hkp1
  go_wp2_with fail
  go_loopg [3] 62 (fun f x wr => ∃ k' v', x = .string (bs v') ∧ v'.length ≤ 60 ∧ 60 < v'.length + f ∧ k ≤ k' ∧ k' ≤ s.size ∧ Rs wr b s k' nv ∧ Kp (· = b) w wr ∧ valueTo f v' s.data.toList k' = value s.data.toList k)
  case atStart => exact ⟨k1, v, rfl, hv60, by omega, hkk.out, hk2, hr1, K1.out, E1.out.symm⟩
  case round =>
    clear hr1 hk1 hk2
    obtain ⟨k', v', rfl, hv', hf, hk3, hk4, hr', hkp, hE⟩ := hrel
    obtain ⟨f', rfl⟩ : ∃ f', gk = f' + 1 := ⟨gk - 1, by omega⟩
    have E := hid hE
    clear hE E1 K1 hkk hv60
    have h0 := hr'.c0
    have h1 := hr'.c1
    go_wp2_with fail
    refine (hasByte_any 214 wordB cfW tellsW b s k' _ h0 h1).mono ?_
    rintro e w2 ⟨rfl, n, rfl⟩
    clear h0 h1
    have hr2 := hr'.drewN n
    have hkp2 := hkp.drewN n
    generalize wr.drewN n = w2 at hr2 hkp2 ⊢
    have vs := bs_size v'
    cases hf : fitsAt s.data.toList k' wordB with
    | false =>
      have EX : Hid (value s.data.toList k = .ok (v', k')) := by
        show value s.data.toList k = .ok (v', k')
        rw [← E.out]
        simp only [valueTo, fits, hf]
        rfl
      clear hf
      go_wp2_with fail
      exact H.out.1 v' k' _ _ EX.out hk3 hk4 hr2 hkp2 ⟨rfl, hv'⟩
    | true =>
      have F := hid hf
      clear hf
      go_wp2_with fail
      rw [show bs v' ++ { data := #[32] } = bs (v' ++ [32]) from ba_ext (by simp [bs])]
      refine word_any (v' ++ [32]) b s k' nv _ _ hl hk4 hb0 (by simp; omega) (hmx.kp hkp2 hb0) hr2 (hid ⟨?_, ?_⟩)
      · intro v2 k2 vv w3 e1 hk5 hk6 hr3 hkp3 hv
        subst hv
        have h60 := word_len e1
        have EX : Hid (valueTo f' v2 s.data.toList k2 = value s.data.toList k) := by
          show valueTo f' v2 s.data.toList k2 = value s.data.toList k
          rw [← E.out]
          have := F.out
          simp only [valueTo, fits, this, bnd, e1]
          rfl
        have hv2 : v'.length + 2 ≤ v2.length := by
          clear EX
          simp only [word, chars] at e1
          split at e1
          · cases e1
          rename_i hne
          split at e1
          · cases e1
          unfold bnd at e1
          split at e1
          · cases e1
          · injection e1 with e1
            injection e1 with e1 _
            have : 0 < (sub s.data.toList k' (whileEnd s.data.toList k' wordB)).length := List.length_pos_iff.2 hne
            rw [← e1]; simp; omega
        clear e1
        go_wp2_with fail
        go_roundg f'
        case measure => omega
        case rel => exact ⟨k2, v2, rfl, h60, by omega, by omega, hk6, hr3, hkp2.trans hkp3, EX.out⟩
      · intro x w3 e1 hbl
        refine ⟨rfl, H.out.2 x _ ?_ ((hkp2.under hlt).trans hbl)⟩
        rw [← E.out]
        have := F.out
        simp only [valueTo, fits, this, bnd, e1]
        rfl
def dclV (d : Dcl) : Value := .agg #[.string (bs d.name), .string (bs d.val), .bool d.strong]
set_option maxHeartbeats 2000000 in
theorem decl_any (b : Nat) (s : ByteArray) (k : Nat) (nv : Value) (w : World) (R : Ending → World → Prop) (hl : s.size ≤ 4000) (hb0 : 2 < b) (hmx : Mx w) (hr : Rs w b s k nv)
    (H : Hid (Good b s k nv w (decl s.data.toList k) (fun _ a v => v = dclV a) R)) :
    Calls Tryz.prog 184 #[.pointer (some ⟨b, 0, none⟩)] w R := by
  have hlt := hr.lt
  have hn0 : ¬ w.heap.size = b := by omega
  go_enter Tryz.func184, Tryz.ntmps184
  go_wp2_with fail
  have B0 := heap_alloc_new w (.cells #[.string ⟨#[]⟩, .string ⟨#[]⟩, .bool false] 40)
  have kp0 : Kp (· = b) w (w.alloc (.cells #[.string ⟨#[]⟩, .string ⟨#[]⟩, .bool false] 40)) := Kp.alloc w _
  have hr0 := hr.alloc (.cells #[.string ⟨#[]⟩, .string ⟨#[]⟩, .bool false] 40)
  generalize w.alloc (.cells #[.string ⟨#[]⟩, .string ⟨#[]⟩, .bool false] 40) = w0 at B0 kp0 hr0 ⊢
  refine sname_any b s k nv _ _ hl hr0 (hid ⟨?_, ?_⟩)
  rotate_left
  · intro x w1 e1 hbl
    exact ⟨rfl, H.out.2 x _ (by simp only [decl, bnd, e1]) ((kp0.under hlt).trans hbl)⟩
  intro n k1 v w1 e1 hk1 hk2 hr1 hkp1 hv
  subst hv
  have E1 := hid e1
  clear e1
  have kp1 := kp0.trans hkp1
  have B1 := (hkp1.block _ (Array.getElem?_eq_some_iff.1 B0).1 hn0).trans B0
  have z1 : w.heap.size < w1.heap.size := (Array.getElem?_eq_some_iff.1 B1).1
  clear kp0 hkp1 B0 hr0
  go_wp2_with fail
  have D2 := heap_alloc_new w1 (.cells #[.string (bs n), .string ⟨#[]⟩, .bool false] 40)
  have kp2 : Kp (· = b) w (w1.alloc (.cells #[.string (bs n), .string ⟨#[]⟩, .bool false] 40)) := kp1.trans (Kp.alloc _ _)
  have B2 := (Below.heap_alloc w1 (.cells #[.string (bs n), .string ⟨#[]⟩, .bool false] 40) _ z1).trans B1
  have hr2 := hr1.alloc (.cells #[.string (bs n), .string ⟨#[]⟩, .bool false] 40)
  have hn1 : ¬ w1.heap.size = b := by have := hr1.lt; omega
  have zz : w.heap.size ≠ w1.heap.size := by omega
  clear B1 kp1 hr1
  generalize hD : w1.heap.size = D at *
  generalize w1.alloc (.cells #[.string (bs n), .string ⟨#[]⟩, .bool false] 40) = w2 at D2 kp2 B2 hr2 ⊢
  refine gaps_any b s k1 nv _ _ hl hk2 hb0 (hmx.kp kp2 hb0) hr2 (hid ⟨?_, ?_⟩)
  rotate_left
  · intro x w3 e1 hbl
    exact ⟨rfl, H.out.2 x _ (by have := E1.out; simp only [decl, bnd, this, e1]) ((kp2.under hlt).trans hbl)⟩
  intro g k2 v w3 e2 hk3 hk4 hr3 hkp3 hv
  subst hv
  have E2 := hid e2
  clear e2
  have kp3 := kp2.trans hkp3
  have B3 := (hkp3.block _ (Array.getElem?_eq_some_iff.1 B2).1 hn0).trans B2
  have D3 := (hkp3.block _ (Array.getElem?_eq_some_iff.1 D2).1 hn1).trans D2
  clear kp2 hkp3 B2 D2 hr2
  go_wp2_with fail
  refine tok_any b s ⟨#[58]⟩ k2 nv _ _ hl (by show (1 : Nat) ≤ 6000; omega) hk4 hr3 ⟨?_, ?_⟩
  rotate_left
  · intro x w4 e1 hbl
    exact ⟨rfl, H.out.2 x _ (by have h1 := E1.out; have h2 := E2.out; simp only at e1; simp only [decl, bnd, h1, h2, e1]) ((kp3.under hlt).trans hbl)⟩
  intro _ k3 v w4 e3 hk5 hk6 hr4 hkp4 hv
  subst hv
  have E3 : Hid (tok [58] s.data.toList k2 = .ok ((), k3)) := e3
  clear e3
  have kp4 := kp3.trans hkp4
  have B4 := (hkp4.block _ (Array.getElem?_eq_some_iff.1 B3).1 hn0).trans B3
  have D4 := (hkp4.block _ (Array.getElem?_eq_some_iff.1 D3).1 hn1).trans D3
  clear kp3 hkp4 B3 D3 hr3
  go_wp2_with fail
  refine gaps_any b s k3 nv _ _ hl hk6 hb0 (hmx.kp kp4 hb0) hr4 (hid ⟨?_, ?_⟩)
  rotate_left
  · intro x w5 e1 hbl
    exact ⟨rfl, H.out.2 x _ (by have h1 := E1.out; have h2 := E2.out; have h3 := E3.out; simp only [decl, bnd, h1, h2, h3, e1]) ((kp4.under hlt).trans hbl)⟩
  intro g4 k4 v w5 e4 hk7 hk8 hr5 hkp5 hv
  subst hv
  have E4 := hid e4
  clear e4
  have kp5 := kp4.trans hkp5
  have B5 := (hkp5.block _ (Array.getElem?_eq_some_iff.1 B4).1 hn0).trans B4
  have D5 := (hkp5.block _ (Array.getElem?_eq_some_iff.1 D4).1 hn1).trans D4
  clear kp4 hkp5 B4 D4 hr4
  go_wp2_with fail
  refine svalue_any b s k4 nv _ _ hl hk8 hb0 (hmx.kp kp5 hb0) hr5 (hid ⟨?_, ?_⟩)
  rotate_left
  · intro x w6 e1 hbl
    exact ⟨rfl, H.out.2 x _ (by have h1 := E1.out; have h2 := E2.out; have h3 := E3.out; have h4 := E4.out; simp only [decl, bnd, h1, h2, h3, h4, e1]) ((kp5.under hlt).trans hbl)⟩
  intro vl k5 v w6 e5 hk9 hk10 hr6 hkp6 hv
  obtain ⟨rfl, hv60⟩ := hv
  have DD : Hid (decl s.data.toList k = opt [33] (bnd (tok importantL) fun _ => bnd gaps fun _ => ret ⟨n, vl, true⟩) (ret ⟨n, vl, false⟩) s.data.toList k5) := by
    have h1 := E1.out; have h2 := E2.out; have h3 := E3.out; have h4 := E4.out
    show decl s.data.toList k = opt [33] (bnd (tok importantL) fun _ => bnd gaps fun _ => ret ⟨n, vl, true⟩) (ret ⟨n, vl, false⟩) s.data.toList k5
    simp only [decl, bnd, h1, h2, h3, h4, e5]
  have kp6 := kp5.trans hkp6
  have B6 := (hkp6.block _ (Array.getElem?_eq_some_iff.1 B5).1 hn0).trans B5
  have D6 := (hkp6.block _ (Array.getElem?_eq_some_iff.1 D5).1 hn1).trans D5
  clear kp5 hkp6 B5 D5 hr5 e5 E1 E2 E3 E4
  have c1 := cell_of D6 1
  have f1 := fz_of D6 1
  simp at c1
  go_wp2_with fail
  have hsz : w.heap.size ≤ D := by rw [← hD]; omega
  have D7 := heap_set D6 1 (.string (bs vl))
  have B7 := (Below.heap_setCell w6 ⟨D, 1, none⟩ (.string (bs vl)) w.heap.size zz).trans B6
  have kp7 := kp6.setNew (a := ⟨D, 1, none⟩) hsz (.string (bs vl))
  have hr7 := hr6.setOther (a := ⟨D, 1, none⟩) (Ne.symm hn1) (.string (bs vl))
  clear c1 f1 D6 B6 kp6 hr6
  generalize w6.setCell ⟨D, 1, none⟩ (.string (bs vl)) = w7 at D7 B7 kp7 hr7 ⊢
  simp at D7
  have kk : k ≤ k5 := by omega
  cases t1 : has s.data.toList k5 [33] with
  | false =>
    refine (take_no b s ⟨#[33]⟩ k5 nv _ hk10 hr7 t1).mono ?_
    rintro e w8 ⟨rfl, n8, rfl⟩
    have EX : Hid (decl s.data.toList k = .ok (⟨n, vl, false⟩, k5)) := by
      show decl s.data.toList k = .ok (⟨n, vl, false⟩, k5)
      rw [DD.out]; unfold opt; rw [if_neg (by rw [t1]; decide)]; rfl
    clear t1
    have hr8 := hr7.drewN n8
    have kp8 := kp7.drewN n8
    have D8 : (w7.drewN n8).heap[D]? = _ := D7
    have B8 : (w7.drewN n8).heap[w.heap.size]? = _ := B7
    generalize w7.drewN n8 = w8 at hr8 kp8 D8 B8 ⊢
    have c0 := cell_of D8 0
    have c1 := cell_of D8 1
    have c2 := cell_of D8 2
    have d0 := cell_of B8 0
    have d1 := cell_of B8 1
    have d2 := cell_of B8 2
    have f0 := fz_of B8 0
    have f1 := fz_of B8 1
    have f2 := fz_of B8 2
    simp at c0 c1 c2 d0 d1 d2
    go_wp2_with fail
    refine bodyPost_ret (v := dclV ⟨n, vl, false⟩) (by simp [results, Tryz.results184, go_sem, d0, d1, d2, dclV]) rfl ?_
    exact H.out.1 ⟨n, vl, false⟩ k5 _ _ EX.out kk hk10 (((hr8.setOther (by simp; omega) _).setOther (by simp; omega) _).setOther (by simp; omega) _) (((kp8.setNew (by simp) _).setNew (by simp) _).setNew (by simp) _) rfl
  | true =>
    have l1 := has_le t1 (by rw [← Lib.size_eq]; exact hk10)
    rw [← Lib.size_eq] at l1
    have l1' : k5 + 1 ≤ s.size := l1
    clear l1
    refine (take_yes b s ⟨#[33]⟩ k5 nv _ hk10 (by omega) (by show (1 : Nat) ≤ 6000; omega) hr7 t1).mono ?_
    rintro e w8 ⟨rfl, hr8, hkp8⟩
    have D2 : Hid (decl s.data.toList k = bnd (tok importantL) (fun _ => bnd gaps fun _ => ret ⟨n, vl, true⟩) s.data.toList (k5 + 1)) := by
      show decl s.data.toList k = bnd (tok importantL) (fun _ => bnd gaps fun _ => ret ⟨n, vl, true⟩) s.data.toList (k5 + 1)
      rw [DD.out]; unfold opt; rw [if_pos t1]; rfl
    clear t1 DD
    have kp8 := kp7.trans hkp8
    have B8 := (hkp8.block _ (Array.getElem?_eq_some_iff.1 B7).1 hn0).trans B7
    have D8 := (hkp8.block _ (Array.getElem?_eq_some_iff.1 D7).1 hn1).trans D7
    clear kp7 hkp8 B7 D7 hr7
    go_wp2_with fail
    refine tok_any b s ⟨#[105, 109, 112, 111, 114, 116, 97, 110, 116]⟩ (k5 + 1) nv _ _ hl (by show (9 : Nat) ≤ 6000; omega) l1' hr8 ⟨?_, ?_⟩
    rotate_left
    · intro x w9 e1 hbl
      have e1' : tok importantL s.data.toList (k5 + 1) = .error x := e1
      exact ⟨rfl, H.out.2 x _ (by rw [D2.out]; simp only [bnd, e1']) ((kp8.under hlt).trans hbl)⟩
    intro _ k6 v w9 e6 hk11 hk12 hr9 hkp9 hv
    subst hv
    have E6 : Hid (tok importantL s.data.toList (k5 + 1) = .ok ((), k6)) := e6
    clear e6
    have kp9 := kp8.trans hkp9
    have B9 := (hkp9.block _ (Array.getElem?_eq_some_iff.1 B8).1 hn0).trans B8
    have D9 := (hkp9.block _ (Array.getElem?_eq_some_iff.1 D8).1 hn1).trans D8
    clear kp8 hkp9 B8 D8 hr8
    go_wp2_with fail
    refine gaps_any b s k6 nv _ _ hl hk12 hb0 (hmx.kp kp9 hb0) hr9 (hid ⟨?_, ?_⟩)
    rotate_left
    · intro x w10 e1 hbl
      exact ⟨rfl, H.out.2 x _ (by have h1 := E6.out; rw [D2.out]; simp only [bnd, h1, e1]) ((kp9.under hlt).trans hbl)⟩
    intro g7 k7 v w10 e7 hk13 hk14 hr10 hkp10 hv
    subst hv
    have EX : Hid (decl s.data.toList k = .ok (⟨n, vl, true⟩, k7)) := by
      have h1 := E6.out
      show decl s.data.toList k = .ok (⟨n, vl, true⟩, k7)
      rw [D2.out]; simp only [bnd, h1, e7, ret]
    have kp10 := kp9.trans hkp10
    have B10 := (hkp10.block _ (Array.getElem?_eq_some_iff.1 B9).1 hn0).trans B9
    have D10 := (hkp10.block _ (Array.getElem?_eq_some_iff.1 D9).1 hn1).trans D9
    clear kp9 hkp10 B9 D9 hr9 e7 D2 E6
    have c0 := cell_of D10 0
    have c1 := cell_of D10 1
    have c2 := cell_of D10 2
    have d0 := cell_of B10 0
    have d1 := cell_of B10 1
    have d2 := cell_of B10 2
    have f0 := fz_of B10 0
    have f1 := fz_of B10 1
    have f2 := fz_of B10 2
    have g2 := fz_of D10 2
    simp at c0 c1 c2 d0 d1 d2
    go_wp2_with fail
    refine bodyPost_ret (v := dclV ⟨n, vl, true⟩) (by simp [results, Tryz.results184, go_sem, d0, d1, d2, dclV]) rfl ?_
    exact H.out.1 ⟨n, vl, true⟩ k7 _ _ EX.out (by omega) hk14 ((((hr10.setOther (Ne.symm hn1) _).setOther (by simp; omega) _).setOther (by simp; omega) _).setOther (by simp; omega) _) ((((kp10.setNew hsz _).setNew (by simp) _).setNew (by simp) _).setNew (by simp) _) rfl
end Go.Proofs.YtblkldfokeeaeacGreatDoor.Sh
namespace Go.Proofs.YtblkldfokeeaeacGreatDoor.Sh
open Go.RowKit
def encD (d : Dcl) : List Value := [.string (bs d.name), .string (bs d.val), .bool d.strong]
def DsAt (w : World) (v : Value) (l : List Dcl) : Prop := w.ownsRow 0 40 3 v l.length (l.flatMap encD)
theorem info_parts' {t : TypeId} {z : Value} {n m : Nat} (h : (Tryz.prog.info? t).map (fun i => (i.zero, i.size, i.bytes)) = some (some z, n, m)) : ∃ i, Tryz.prog.info? t = some i ∧ i.zero = some z ∧ i.size = n ∧ i.bytes = m := by
  cases hi : Tryz.prog.info? t with
  | none => rw [hi] at h; simp at h
  | some i => rw [hi] at h; simp at h; exact ⟨i, rfl, h.1, h.2.1, h.2.2⟩
theorem Tryz.info40 : (Tryz.prog.info? 40).map (fun i => (i.zero, i.size, i.bytes)) = some (some (.agg #[.string ⟨#[]⟩, .string ⟨#[]⟩, .bool false]), 3, 40) := by kernel_rfl
theorem decl_letter {S : List UInt8} {k k' : Nat} {d : Dcl} (h : decl S k = .ok (d, k')) : fitsAt S k letterB = true := by
  cases hf : fitsAt S k letterB with
  | true => rfl
  | false =>
    have : sname S k = .error (2, k) := by simp only [sname, nameTo, hf]; rfl
    simp only [decl, bnd, this] at h
    cases h
set_option maxRecDepth 100000 in
set_option maxHeartbeats 2000000 in
theorem decls_any (b : Nat) (s : ByteArray) (k : Nat) (nv : Value) (w : World) (R : Ending → World → Prop) (hl : s.size ≤ 4000) (hk : k ≤ s.size) (hb0 : 2 < b) (hmx : Mx w) (hr : Rs w b s k nv)
    (H : Hid (Good b s k nv w (decls s.data.toList k) (fun w' a v => DsAt w' v a) R)) :
    Calls Tryz.prog 162 #[.pointer (some ⟨b, 0, none⟩)] w R := by
  have hlt := hr.lt
  have HS : Hid (s.size = s.data.toList.length) := Lib.size_eq s
  obtain ⟨i0, hi, hz0, hz1, hz2⟩ := info_parts' Tryz.info40
  have HI := hid hi
  have HZ : Hid (i0.zero = some (.agg #[.string ⟨#[]⟩, .string ⟨#[]⟩, .bool false]) ∧ i0.size = 3 ∧ i0.bytes = 40) := ⟨hz0, hz1, hz2⟩
  clear hi hz0 hz1 hz2
  go_enter Tryz.func162, Tryz.ntmps162
  go_wp2_with fail
  refine gaps_any b s k nv _ _ hl hk hb0 hmx hr (hid ⟨?_, ?_⟩)
  rotate_left
  · intro x w1 e1 hbl
    exact ⟨rfl, H.out.2 x _ (by simp only [decls, bnd, e1]) hbl⟩
  intro g k1 v w1 e1 hk1 hk2 hr1 hkp1 hv
  subst hv
  have E1 : Hid (decls s.data.toList k = declsTo 22 [] s.data.toList k1) := by
    show decls s.data.toList k = declsTo 22 [] s.data.toList k1
    simp only [decls, bnd, e1]
  clear e1
  go_wp2_with fail
  go_loopg [3] 22 (fun f x wr => ∃ (k' : Nat) (l : List Dcl), f + l.length = 22 ∧ l.length ≤ 20 ∧ k ≤ k' ∧ k' ≤ s.size ∧ Rs wr b s k' nv ∧ Kp (· = b) w wr ∧ wr.ownsRow w.heap.size 40 3 x l.length (l.flatMap encD) ∧ declsTo f l s.data.toList k' = decls s.data.toList k)
  case atStart => exact ⟨k1, [], rfl, by simp, hk1, hk2, hr1, hkp1, World.ownsRow_nil _ _ _ _, E1.out.symm⟩
  case round =>
    clear hr1 hkp1 hk1 hk2 E1
    obtain ⟨k', l, hf, h20, hk1, hk2, hr', hkp, ho, hE⟩ := hrel
    obtain ⟨f', rfl⟩ : ∃ f', gk = f' + 1 := ⟨gk - 1, by omega⟩
    have E := hid hE
    have F := hid hf
    clear hE hf
    have h0 := hr'.c0
    have h1 := hr'.c1
    obtain ⟨xa, xcap, rfl⟩ := own_form ho
    go_wp2_with fail
    by_cases hend : s.size ≤ k'
    · refine (ended_yes b s k' _ hend h0 h1).mono ?_
      rintro e w2 ⟨rfl, n, rfl⟩
      have EX : Hid (decls s.data.toList k = .ok (l, k')) := by
        show decls s.data.toList k = .ok (l, k')
        rw [← E.out]
        simp only [declsTo, ended]
        rw [if_pos (by rw [← HS.out]; exact hend)]
        rfl
      go_wp2_with fail
      exact H.out.1 l k' _ _ EX.out hk1 hk2 (hr'.drewN _) (hkp.drewN _) (own_lower ho (Nat.zero_le _))
    have hend' : k' < s.size := by omega
    have E2 : Hid (declsTo (f' + 1) l s.data.toList k' = look [125] (ret l)
      (bnd (if 20 ≤ l.length then fits letterB (bad 5) (ret ()) else ret ()) fun _ =>
        bnd decl fun d => opt [59] (bnd gaps fun _ => declsTo f' (l ++ [d])) (ret (l ++ [d]))) s.data.toList k') := by
      show declsTo (f' + 1) l s.data.toList k' = _
      simp only [declsTo, ended]
      rw [if_neg (by rw [← HS.out]; omega)]
    refine (ended_no b s k' _ hend' h0 h1).mono ?_
    rintro e w2 ⟨rfl, n, rfl⟩
    clear h0 h1
    have hr2 := hr'.drewN n
    have kp2 := hkp.drewN n
    have ho2 : (wr.drewN n).ownsRow w.heap.size 40 3 (.slice xa l.length xcap) l.length (l.flatMap encD) := ho
    generalize wr.drewN n = w2 at hr2 kp2 ho2 ⊢
    clear hr' hkp ho hend
    have h0 := hr2.c0
    have h1 := hr2.c1
    go_wp2_with fail
    refine (has_any b s ⟨#[125]⟩ k' _ hk2 h0 h1).mono ?_
    rintro e w3 ⟨rfl, n3, rfl⟩
    clear h0 h1
    have hr3 := hr2.drewN n3
    have kp3 := kp2.drewN n3
    have ho3 : (w2.drewN n3).ownsRow w.heap.size 40 3 (.slice xa l.length xcap) l.length (l.flatMap encD) := ho2
    generalize w2.drewN n3 = w3 at hr3 kp3 ho3 ⊢
    clear hr2 kp2 ho2
    cases t1 : has s.data.toList k' [125] with
    | true =>
      have EX : Hid (decls s.data.toList k = .ok (l, k')) := by
        show decls s.data.toList k = .ok (l, k')
        rw [← E.out, E2.out]
        unfold look
        rw [if_pos t1]
        rfl
      clear t1
      go_wp2_with fail
      exact H.out.1 l k' _ _ EX.out hk1 hk2 hr3 kp3 (own_lower ho3 (Nat.zero_le _))
    | false =>
    have E3 : Hid (decls s.data.toList k = bnd (if 20 ≤ l.length then fits letterB (bad 5) (ret ()) else ret ()) (fun _ =>
        bnd decl fun d => opt [59] (bnd gaps fun _ => declsTo f' (l ++ [d])) (ret (l ++ [d]))) s.data.toList k') := by
      show decls s.data.toList k = _
      rw [← E.out, E2.out]
      unfold look
      rw [if_neg (by rw [t1]; decide)]
    clear t1 E E2
    have h0 := hr3.c0
    have h1 := hr3.c1
    go_wp2_with fail
    refine (hasName_any b s k' _ h0 h1).mono ?_
    rintro e w4 ⟨rfl, n4, rfl⟩
    clear h0 h1
    have hr4 := hr3.drewN n4
    have kp4 := kp3.drewN n4
    have ho4 : (w3.drewN n4).ownsRow w.heap.size 40 3 (.slice xa l.length xcap) l.length (l.flatMap encD) := ho3
    generalize w3.drewN n4 = w4 at hr4 kp4 ho4 ⊢
    clear hr3 kp3 ho3
    by_cases hbad : 20 ≤ l.length ∧ fitsAt s.data.toList k' letterB = true
    · have EX : Hid (decls s.data.toList k = .error (5, k')) := by
        show decls s.data.toList k = .error (5, k')
        rw [E3.out, if_pos hbad.1]
        unfold bnd fits
        rw [if_pos hbad.2]
        rfl
      rw [hbad.2]
      have h20' := hbad.1
      have h1 := hr4.c1
      clear hbad
      go_wp2_with fail
      refine (at_any b _ _ h1).mono ?_
      rintro e w' ⟨rfl, hw⟩
      obtain rfl := hw.symm
      go_wp2_with (go_at_call 112; refine (throw_any _ _ _).mono ?_; rintro e w' ⟨rfl, rfl⟩)
      exact ⟨rfl, H.out.2 (5, k') _ EX.out (kp4.under hlt)⟩
    have E4 : Hid (decls s.data.toList k = bnd decl (fun d => opt [59] (bnd gaps fun _ => declsTo f' (l ++ [d])) (ret (l ++ [d]))) s.data.toList k') := by
      show decls s.data.toList k = _
      rw [E3.out]
      by_cases hq : 20 ≤ l.length
      · rw [if_pos hq]
        have : fitsAt s.data.toList k' letterB = false := by
          cases hh : fitsAt s.data.toList k' letterB with
          | true => exact absurd ⟨hq, hh⟩ hbad
          | false => rfl
        simp only [bnd, fits, this]
        rfl
      · rw [if_neg hq]; rfl
    clear E3
    have h19 : fitsAt s.data.toList k' letterB = true → ¬ 20 ≤ l.length := fun hh hq => hbad ⟨hq, hh⟩
    clear hbad
    have HL : Hid (fitsAt s.data.toList k' letterB = true → ¬ 20 ≤ l.length) := h19
    cases hft : fitsAt s.data.toList k' letterB
    all_goals
      rw [hft] at h19
      simp at h19
      clear hft
      go_wp2_with fail
      refine decl_any b s k' nv _ _ hl hb0 (hmx.kp kp4 hb0) hr4 (hid ⟨?_, ?_⟩)
      rotate_left
      · intro x w5 e1 hbl
        exact ⟨rfl, H.out.2 x _ (by rw [E4.out]; simp only [bnd, e1]) ((kp4.under hlt).trans hbl)⟩
      intro d k2 v w5 e5 hk3 hk4 hr5 hkp5 hv
      subst hv
      have hl19 := HL.out (decl_letter e5)
      have E5 : Hid (decls s.data.toList k = opt [59] (bnd gaps fun _ => declsTo f' (l ++ [d])) (ret (l ++ [d])) s.data.toList k2) := by
        show decls s.data.toList k = _
        rw [E4.out]; simp only [bnd, e5]
      clear e5
      have kp5 := kp4.trans hkp5
      have ho5 := own_kp ho4 hkp5 (fun j hj cur fz hc => by
        subst hj
        have := hr4
        unfold RdT at this
        rw [this] at hc
        simp at hc)
      have hbase : w.heap.size ≤ w5.heap.size := kp5.size
      simp only [dclV]
      go_wp2_with (at_builtin; refine wpList_append_lies _ rfl (.tmp 32) (.tmp 35) 34 rfl w.heap.size 40 i0 (.agg #[.string ⟨#[]⟩, .string ⟨#[]⟩, .bool false]) 3 40 Tryz.underlying34 HI.out HZ.out.1 HZ.out.2.1 HZ.out.2.2 rfl (by decide) (.slice xa l.length xcap) l.length (l.flatMap encD) rfl (World.ownsRow.alloc ho5 _) ⟨w5.heap.size, 0, none⟩ 1 1 (encD d) rfl rfl (World.news_of_block (heap_alloc_new w5 _)) (by simp [encD, Value.oneCell']) (by decide) (by unfold maxLen; omega) (by omega) (by simp; omega) _ rfl ?_; intro gg cap w6 hown hgrow hat hlt6)
      have kp6 := grown_kp kp5 ho5 (Nat.le_refl _) hgrow
      have hr6 := grown_rd hr5 ho5 (by decide) hgrow
      have ho6 : w6.ownsRow w.heap.size 40 3 (.slice (some ⟨gg, 0, none⟩) (l.length + 1) cap) (l ++ [d]).length ((l ++ [d]).flatMap encD) := by simpa using hown
      clear hown hgrow hat hlt6 ho5 ho4 kp4 kp5 hkp5 hr4 hr5 hbase
      cases t2 : has s.data.toList k2 [59] with
      | false =>
        refine (take_no b s ⟨#[59]⟩ k2 nv _ hk4 hr6 t2).mono ?_
        rintro e w7 ⟨rfl, n7, rfl⟩
        have EX : Hid (decls s.data.toList k = .ok (l ++ [d], k2)) := by
          show decls s.data.toList k = .ok (l ++ [d], k2)
          rw [E5.out]; unfold opt; rw [if_neg (by rw [t2]; decide)]; rfl
        clear t2
        go_wp2_with fail
        exact H.out.1 (l ++ [d]) k2 _ _ EX.out (by omega) hk4 (hr6.drewN _) (kp6.drewN _) (own_lower ho6 (Nat.zero_le _))
      | true =>
        have l1 := has_le t2 (by rw [← HS.out]; exact hk4)
        rw [← HS.out] at l1
        have l1' : k2 + 1 ≤ s.size := l1
        clear l1
        refine (take_yes b s ⟨#[59]⟩ k2 nv _ hk4 (by omega) (by show (1 : Nat) ≤ 6000; omega) hr6 t2).mono ?_
        rintro e w7 ⟨rfl, hr7, hkp7⟩
        have E6 : Hid (decls s.data.toList k = bnd gaps (fun _ => declsTo f' (l ++ [d])) s.data.toList (k2 + 1)) := by
          show decls s.data.toList k = _
          rw [E5.out]; unfold opt; rw [if_pos t2]; rfl
        clear t2 E5
        have kp7 := kp6.trans hkp7
        have ho7 := own_kp ho6 hkp7 (fun j hj cur fz hc => by
          subst hj
          have := hr6
          unfold RdT at this
          rw [this] at hc
          simp at hc)
        clear ho6 kp6 hkp7 hr6
        go_wp2_with fail
        refine gaps_any b s (k2 + 1) nv _ _ hl l1' hb0 (hmx.kp kp7 hb0) hr7 (hid ⟨?_, ?_⟩)
        · intro g8 k3 v w8 e8 hk5 hk6 hr8 hkp8 hv
          subst hv
          have EX : Hid (declsTo f' (l ++ [d]) s.data.toList k3 = decls s.data.toList k) := by
            show declsTo f' (l ++ [d]) s.data.toList k3 = decls s.data.toList k
            rw [E6.out]; simp only [bnd, e8]
          clear e8
          have ho8 := own_kp ho7 hkp8 (fun j hj cur fz hc => by
            subst hj
            have := hr7
            unfold RdT at this
            rw [this] at hc
            simp at hc)
          go_wp2_with fail
          go_roundg f'
          case measure => omega
          case rel => exact ⟨k3, l ++ [d], by have := F.out; simp; omega, by simp; omega, by omega, hk6, hr8, kp7.trans hkp8, ho8, EX.out⟩
        · intro x w8 e8 hbl
          exact ⟨rfl, H.out.2 x _ (by rw [E6.out]; simp only [bnd, e8]) ((kp7.under hlt).trans hbl)⟩
set_option maxHeartbeats 1000000 in
theorem onlyDecls_any (b : Nat) (s : ByteArray) (k : Nat) (nv : Value) (w : World) (R : Ending → World → Prop) (hl : s.size ≤ 4000) (hk : k ≤ s.size) (hb0 : 2 < b) (hmx : Mx w) (hr : Rs w b s k nv)
    (H : Hid (Good b s k nv w (onlyDecls s.data.toList k) (fun w' a v => DsAt w' v a) R)) :
    Calls Tryz.prog 133 #[.pointer (some ⟨b, 0, none⟩)] w R := by
  have hlt := hr.lt
  have HS : Hid (s.size = s.data.toList.length) := Lib.size_eq s
  go_enter Tryz.func133, Tryz.ntmps133
  go_wp2_with fail
  refine decls_any b s k nv _ _ hl hk hb0 hmx hr (hid ⟨?_, ?_⟩)
  rotate_left
  · intro x w1 e1 hbl
    exact ⟨rfl, H.out.2 x _ (by simp only [onlyDecls, bnd, e1]) hbl⟩
  intro l k1 v w1 e1 hk1 hk2 hr1 hkp1 hv
  obtain ⟨xa, xcap, rfl⟩ := own_form hv
  have E1 : Hid (onlyDecls s.data.toList k = ended (ret l) (bad 2) s.data.toList k1) := by
    show onlyDecls s.data.toList k = _
    simp only [onlyDecls, bnd, e1]
  clear e1
  have h0 := hr1.c0
  have h1 := hr1.c1
  have HV := hid hv
  clear hv
  go_wp2_with fail
  by_cases hend : s.size ≤ k1
  · refine (ended_yes b s k1 _ hend h0 h1).mono ?_
    rintro e w2 ⟨rfl, n, rfl⟩
    go_wp2_with fail
    refine H.out.1 l k1 _ _ ?_ hk1 hk2 (hr1.drewN _) (hkp1.drewN _) HV.out
    rw [E1.out]; unfold ended; rw [if_pos (by rw [← HS.out]; exact hend)]; rfl
  · refine (ended_no b s k1 _ (by omega) h0 h1).mono ?_
    rintro e w2 ⟨rfl, n, rfl⟩
    go_wp2_with fail
    refine (at_any b _ _ (by exact h1)).mono ?_
    rintro e w' ⟨rfl, hw⟩
    obtain rfl := hw.symm
    go_wp2_with (go_at_call 112; refine (throw_any _ _ _).mono ?_; rintro e w' ⟨rfl, rfl⟩)
    refine ⟨rfl, H.out.2 (2, k1) _ ?_ (below_drewN' (hkp1.under hlt) _)⟩
    rw [E1.out]; unfold ended; rw [if_neg (by rw [← HS.out]; exact hend)]; rfl
end Go.Proofs.YtblkldfokeeaeacGreatDoor.Sh
