/-
  What part of package sheet does: the plain answer of the SheetSpec text, in new memory, or its fault. Conditions: the text has at most 4000 bytes.
-/
import Derived.Test.YtanedepdhbdcgaaSheet4
import Derived.Deep.CutRange
import Derived.Deep.CutBlock
namespace Go.Proofs.Ytanedepdhbdcgaa
open Go.RowKit

def encT (t : Tst) : List Value := [.int .i64 t.kind, .string (bs t.name), .string (bs t.val)]
/-- The slice value v holds the tests l. -/
def TsAt (w : World) (v : Value) (l : List Tst) : Prop := w.ownsRow 0 104 3 v l.length (l.flatMap encT)
/-- The value v is the part p. -/
def PrtAt (w : World) (p : Prt) (v : Value) : Prop := ∃ x, v = .agg #[.int .i64 p.join, x] ∧ TsAt w x p.tests

theorem Try.info104 : (Try.prog.info? 104).map (fun i => (i.zero, i.size, i.bytes)) = some (some (.agg #[.int .i64 0, .string ⟨#[]⟩, .string ⟨#[]⟩]), 3, 40) := by kernel_rfl

theorem sname_le {S : List UInt8} {k k' : Nat} {n : List UInt8} (h : sname S k = .ok (n, k')) : k < k' ∧ k' ≤ S.length ∧ n.length ≤ 20 := by
  unfold sname at h
  split at h
  · cases h
  rename_i e he
  split at h
  · cases h
  rename_i h20
  injection h with h
  injection h with h1 h2
  have := nameTo_le he
  subst h1 h2
  exact ⟨this.1, this.2, by omega⟩

theorem sname_yes (b : Nat) (s : ByteArray) (k : Nat) (nv : Value) (w : World) (hl : s.size ≤ 4000) (hr : Rs w b s k nv) {n : List UInt8} {k1 : Nat} (hm : sname s.data.toList k = .ok (n, k1)) :
    Calls Try.prog 78 #[.pointer (some ⟨b, 0, none⟩)] w fun e w' => e = .returned (.string (bs n)) ∧ Rs w' b s k1 nv ∧ Kp (· = b) w w' := by
  refine sname_any b s k nv w _ hl hr (hid ⟨?_, ?_⟩)
  · intro a k' v w' e _ _ hr' hk' hv
    rw [hm] at e
    injection e with e
    injection e with e1 e2
    subst e1 e2 hv
    exact ⟨rfl, hr', hk'⟩
  · intro x w' e
    rw [hm] at e
    cases e
theorem sname_no (b : Nat) (s : ByteArray) (k : Nat) (nv : Value) (w : World) (hl : s.size ≤ 4000) (hr : Rs w b s k nv) {x : Nat × Nat} (hm : sname s.data.toList k = .error x) :
    Calls Try.prog 78 #[.pointer (some ⟨b, 0, none⟩)] w fun e w' => e = .panicked [{ v := .iface 87 (.agg #[.int .i64 x.1, .int .i64 x.2]), recovered := false }] ∧ Below b w w' := by
  refine sname_any b s k nv w _ hl hr (hid ⟨?_, ?_⟩)
  · intro a k' v w' e
    rw [hm] at e
    cases e
  · intro x' w' e hb
    rw [hm] at e
    injection e with e
    subst e
    exact ⟨rfl, hb⟩

def PartInv (join : Nat) (b : Nat) (s : ByteArray) (k : Nat) (nv : Value) (w : World) (f : Nat) (wr : World) : Prop :=
  ∃ (k' : Nat) (l : List Tst) (x : Value), 8 ≤ f + l.length ∧ l.length ≤ 6 ∧ k ≤ k' ∧ k' ≤ s.size ∧ Rs wr b s k' nv ∧ Kp (· = b) w wr ∧ wr.ownsRow w.heap.size 104 3 x l.length (l.flatMap encT) ∧
    wr.heap[w.heap.size]? = some (.cells #[.int .i64 0, .slice none 0 0] 102 (0, 0)) ∧ wr.heap[w.heap.size + 1]? = some (.cells #[.int .i64 join, x] 102 (0, 0)) ∧
    bnd (testsTo f l) (fun l => ret ⟨join, l⟩) s.data.toList k' = part join s.data.toList k

set_option maxRecDepth 100000 in
set_option maxHeartbeats 4000000 in
theorem part_any (join : Nat) (b : Nat) (s : ByteArray) (k : Nat) (nv : Value) (w : World) (R : Ending → World → Prop) (hl : s.size ≤ 4000) (hk : k ≤ s.size) (hr : Rs w b s k nv)
    (H : Hid (Good b s k nv w (part join s.data.toList k) (fun w' a v => PrtAt w' a v) R)) :
    Calls Try.prog 105 #[.pointer (some ⟨b, 0, none⟩), .int .i64 join] w R := by
  have hlt := hr.lt
  have hn0 : ¬ w.heap.size = b := by omega
  have hn1 : ¬ w.heap.size + 1 = b := by omega
  have HS : Hid (s.size = s.data.toList.length) := Lib.size_eq s
  obtain ⟨i0, hi, hz0, hz1, hz2⟩ := info_parts' Try.info104
  have HI := hid hi
  have HZ : Hid (i0.zero = some (.agg #[.int .i64 0, .string ⟨#[]⟩, .string ⟨#[]⟩]) ∧ i0.size = 3 ∧ i0.bytes = 40) := ⟨hz0, hz1, hz2⟩
  clear hi hz0 hz1 hz2
  go_enter Try.func105, Try.ntmps105
  go_upto_region 2 with fail
  have Q0 := block_two0 w #[.int .i64 0, .slice none 0 0] 102 (o := .cells #[.int .i64 join, .slice none 0 0] 102)
  have P0 := block_two1 w #[.int .i64 join, .slice none 0 0] 102 (o := .cells #[.int .i64 0, .slice none 0 0] 102)
  have kp0 : Kp (· = b) w ((w.alloc (.cells #[.int .i64 0, .slice none 0 0] 102)).alloc (.cells #[.int .i64 join, .slice none 0 0] 102)) := (Kp.alloc w _).trans (Kp.alloc _ _)
  have hr0 := (hr.alloc (.cells #[.int .i64 0, .slice none 0 0] 102)).alloc (.cells #[.int .i64 join, .slice none 0 0] 102)
  generalize (w.alloc (.cells #[.int .i64 0, .slice none 0 0] 102)).alloc (.cells #[.int .i64 join, .slice none 0 0] 102) = w0 at Q0 P0 kp0 hr0 ⊢
  have zP : w.heap.size + 1 < w0.heap.size := (Array.getElem?_eq_some_iff.1 P0).1
  go_cut [19] from 9 to 19 (fun c wx => (c = .bool false ∧ PartInv join b s k nv w 8 wx) ∨ (c = .bool true ∧ Rs wx b s k nv ∧ Kp (· = b) w wx ∧ wx.heap[w.heap.size]? = some (.cells #[.int .i64 0, .slice none 0 0] 102 (0, 0)) ∧ wx.heap[w.heap.size + 1]? = some (.cells #[.int .i64 join, .slice none 0 0] 102 (0, 0)) ∧ part join s.data.toList k = bnd (bnd sname fun n => ret [⟨1, n, []⟩]) (fun l => bnd (testsTo 8 l) fun l => ret ⟨join, l⟩) s.data.toList k))
  case first =>
    go_wp2_with fail
    cases t1 : has s.data.toList k [42] with
    | true =>
      have l1 := has_le t1 (by rw [← HS.out]; exact hk)
      rw [← HS.out] at l1
      have l1' : k + 1 ≤ s.size := l1
      clear l1
      refine (take_yes b s ⟨#[42]⟩ k nv _ hk (by omega) (by show (1 : Nat) ≤ 6000; omega) hr0 t1).mono ?_
      rintro e w1 ⟨rfl, hr1, hkp1⟩
      have ST : Hid (PartInv join b s k nv w 8 w1) := by
        refine ⟨k + 1, [], .slice none 0 0, by simp, by simp, by omega, l1', hr1, kp0.trans hkp1, World.ownsRow_nil _ _ _ _, (hkp1.block _ (by omega) hn0).trans Q0, (hkp1.block _ zP hn1).trans P0, ?_⟩
        simp only [part, partHead, bnd, opt]
        rw [if_pos t1]
        rfl
      clear t1 Q0 P0 kp0 hr0 hr1 hkp1 zP
      go_wp2_with fail
      go_meet
      case rel => exact .inl ⟨rfl, ST.out⟩
    | false =>
      refine (take_no b s ⟨#[42]⟩ k nv _ hk hr0 t1).mono ?_
      rintro e w1 ⟨rfl, n1, rfl⟩
      have hr1 := hr0.drewN n1
      have kp1 := kp0.drewN n1
      have Q1 : (w0.drewN n1).heap[w.heap.size]? = _ := Q0
      have P1 : (w0.drewN n1).heap[w.heap.size + 1]? = _ := P0
      have T1 := hid t1
      generalize w0.drewN n1 = w1 at hr1 kp1 Q1 P1 ⊢
      clear t1 Q0 P0 kp0 hr0 zP
      have h0 := hr1.c0
      have h1 := hr1.c1
      go_wp2_with fail
      refine (hasName_any b s k _ h0 h1).mono ?_
      rintro e w2 ⟨rfl, n2, rfl⟩
      clear h0 h1
      have hr2 := hr1.drewN n2
      have kp2 := kp1.drewN n2
      have Q2 : (w1.drewN n2).heap[w.heap.size]? = _ := Q1
      have P2 : (w1.drewN n2).heap[w.heap.size + 1]? = _ := P1
      generalize w1.drewN n2 = w2 at hr2 kp2 Q2 P2 ⊢
      clear hr1 kp1 Q1 P1
      cases hf : fitsAt s.data.toList k letterB with
      | false =>
        have ST : Hid (PartInv join b s k nv w 8 w2) := by
          refine ⟨k, [], .slice none 0 0, by simp, by simp, by omega, hk, hr2, kp2, World.ownsRow_nil _ _ _ _, Q2, P2, ?_⟩
          have t1 := T1.out
          simp only [part, partHead, bnd, opt, fits]
          rw [if_neg (by rw [t1]; decide), if_neg (by rw [hf]; decide)]
          rfl
        clear hf Q2 P2 kp2 hr2 T1
        go_wp2_with fail
        go_meet
        case rel => exact .inl ⟨rfl, ST.out⟩
      | true =>
        have PH : Hid (part join s.data.toList k = bnd (bnd sname fun n => ret [⟨1, n, []⟩]) (fun l => bnd (testsTo 8 l) fun l => ret ⟨join, l⟩) s.data.toList k) := by
          have t1 := T1.out
          show part join s.data.toList k = _
          simp only [part, partHead, bnd, opt, fits]
          rw [if_neg (by rw [t1]; decide), if_pos hf]
        clear hf T1
        go_wp2_with fail
        go_meet
        case rel => exact .inr ⟨rfl, hr2, kp2, Q2, P2, PH.out⟩
  case rest =>
  clear Q0 P0 kp0 hr0 zP
  rename World => w2
  go_upto_if 19 with fail
  go_cut [] from 9 to 27 (fun wx => PartInv join b s k nv w 8 wx)
  case first =>
    rcases hcut with ⟨rfl, hI⟩ | ⟨rfl, hr2, kp2, Q2, P2, PH⟩
    · have ST := hid hI
      clear hI
      go_wp2_with fail
      go_meet
      case rel => exact ST.out
    have PHH := hid PH
    clear PH
    have zP2 : w.heap.size + 1 < w2.heap.size := (Array.getElem?_eq_some_iff.1 P2).1
    have p1 := cell_of P2 1
    have f1 := fz_of P2 1
    simp at p1
    cases es : sname s.data.toList k with
    | error x =>
      have EX : Hid (part join s.data.toList k = .error x) := by
        show part join s.data.toList k = .error x
        rw [PHH.out]; simp only [bnd, es]
      have ES := hid es
      clear es
      go_wp2_with fail
      go_region_with (go_at_call 78; refine (sname_no b s k nv _ hl ?_ ES.out).mono ?_; exact hr2; rintro e w' ⟨rfl, hb⟩; refine bear (by exact ⟨rfl, H.out.2 x _ EX.out ((kp2.under hlt).trans ⟨hb.os, hb.tape, hb.output, hb.size, hb.block⟩)⟩) ⟨#[], []⟩ w ?_)
      all_goals trivial
    | ok q =>
      obtain ⟨n, k1⟩ := q
      have sl := sname_le es
      rw [← HS.out] at sl
      obtain ⟨sl1, sl2, sl3⟩ := sl
      have EX : Hid (bnd (testsTo 8 [⟨1, n, []⟩]) (fun l => ret ⟨join, l⟩) s.data.toList k1 = part join s.data.toList k) := by
        show _ = part join s.data.toList k
        rw [PHH.out]; simp only [bnd, es, ret]
      have ES := hid es
      clear es PHH
      go_wp2_with fail
      go_region_law (first
        | (go_simp; go_at_call 78; refine (sname_yes b s k nv _ hl ?_ ES.out).mono ?_; exact hr2; rintro e w5 ⟨rfl, hr5, hk5'⟩; have hk5 := kp_undrewN hk5'; clear hk5'; have pp2 := (hk5.cell (j := w.heap.size + 1) zP2 hn1 1).trans p1; have pp3 := cell_alloc pp2)
        | (refine step_append_lies _ rfl (.tmp 21) (.tmp 25) 100 rfl w.heap.size 104 i0 (.agg #[.int .i64 0, .string ⟨#[]⟩, .string ⟨#[]⟩]) 3 40 Try.underlying100 HI.out HZ.out.1 HZ.out.2.1 HZ.out.2.2 rfl (by decide) (.slice none 0 0) 0 [] rfl (World.ownsRow_nil _ _ _ _) ⟨w5.heap.size, 0, none⟩ 1 1 (encT ⟨1, n, []⟩) rfl rfl (World.news_of_block (heap_alloc_new w5 _)) (by simp [encT, Value.oneCell']) (by decide) (by unfold maxLen; omega) (by omega) (by have q1 := hk5.size; have q2 : w2.heap.size ≤ w5.heap.size := q1; simp; omega) _ rfl ?_; intro g cap w3 hown hgrow hat hlt3; have ow5 : w5.ownsRow w.heap.size 104 3 (.slice none 0 0) 0 [] := World.ownsRow_nil _ _ _ _; have kp3 := grown_kp (kp2.trans hk5) ow5 (Nat.le_refl _) hgrow; have hr3 := grown_rd hr5 ow5 (by decide) hgrow; have Q5 := (hk5.block _ (by omega) hn0).trans Q2; have P5 := (hk5.block _ zP2 hn1).trans P2; have Q3 := (Keeps.grown (Ts := (· = 102)) ow5 hgrow (by decide) _ _ _ _ rfl Q5).trans Q5; have P3 := (Keeps.grown (Ts := (· = 102)) ow5 hgrow (by decide) _ _ _ _ rfl P5).trans P5; have y2 := cell_of P3 1; have y3 := fz_of P3 1; simp at y2; have HW := hid hown; clear hown hgrow hat ow5))
      all_goals
        have ST : Hid (PartInv join b s k nv w 8 (w3.setCell ⟨w.heap.size + 1, 1, none⟩ (.slice (some ⟨g, 0, none⟩) 1 cap))) := by
          have PP := heap_set P3 1 (.slice (some ⟨g, 0, none⟩) 1 cap)
          simp at PP
          refine ⟨k1, [⟨1, n, []⟩], .slice (some ⟨g, 0, none⟩) 1 cap, by simp, by simp, by omega, sl2, hr3.setOther (by simp; omega) _, kp3.setNew (by simp) _, ?_, ?_, PP, EX.out⟩
          · exact own_kp HW.out (Kp.set w3 (w.heap.size + 1) 1 _) (by rintro j rfl cur fz hc; rw [P3] at hc; simp at hc)
          · rw [Below.heap_setCell _ _ _ _ (by simp)]; exact Q3
        go_wp2_with fail
        go_meet
        case rel => exact ST.out
  case rest =>
  have ST := hid hcut
  clear hcut
  go_wp2_with fail
  go_loopg [] 8 (fun f wr => PartInv join b s k nv w f wr)
  case atStart => exact ST.out
  case round =>
    clear ST
    obtain ⟨k', l, x, h8, h6, hk1, hk2, hr', hkp, ho, hQ, hP, hE⟩ := hrel
    obtain ⟨f', rfl⟩ : ∃ f', gk = f' + 1 := ⟨gk - 1, by omega⟩
    have E := hid hE
    clear hE
    obtain ⟨xa, xcap, rfl⟩ := own_form ho
    have zP : w.heap.size + 1 < wr.heap.size := (Array.getElem?_eq_some_iff.1 hP).1
    go_wp2_with fail
    refine test_any b s k' nv _ _ hl hk2 hr' (hid ⟨?_, ?_⟩)
    rotate_left
    · intro y w1 e1 hbl
      exact ⟨rfl, H.out.2 y _ (by rw [← E.out]; simp only [testsTo, bnd, e1]) ((hkp.under hlt).trans hbl)⟩
    intro t k1 v w1 e1 hk3 hk4 hr1 hkp1 hv
    subst hv
    have E1 : Hid (part join s.data.toList k = bnd (if t.kind = 0 then ret l else if 6 ≤ l.length then bad 5 else testsTo f' (l ++ [t])) (fun l => ret ⟨join, l⟩) s.data.toList k1) := by
      show part join s.data.toList k = _
      rw [← E.out]; simp only [testsTo, bnd, e1]
    clear e1 E
    have kp1 := hkp.trans hkp1
    have ho1 := own_rd ho hr' hkp1 (by decide)
    have Q1 := (hkp1.block _ (by omega) hn0).trans hQ
    have P1 := (hkp1.block _ zP hn1).trans hP
    have zP1 : w.heap.size + 1 < w1.heap.size := (Array.getElem?_eq_some_iff.1 P1).1
    clear hkp hkp1 ho hr' hQ hP zP
    have hz : w.heap.size ≤ w1.heap.size := by omega
    have Q2 := (Below.heap_alloc w1 (.cells #[.int .i64 t.kind, .string (bs t.name), .string (bs t.val)] 104) _ (by omega)).trans Q1
    have P2 := (Below.heap_alloc w1 (.cells #[.int .i64 t.kind, .string (bs t.name), .string (bs t.val)] 104) _ zP1).trans P1
    have hr2 := hr1.alloc (.cells #[.int .i64 t.kind, .string (bs t.name), .string (bs t.val)] 104)
    have kp2 : Kp (· = b) w (w1.alloc (.cells #[.int .i64 t.kind, .string (bs t.name), .string (bs t.val)] 104)) := kp1.trans (Kp.alloc _ _)
    have ho2 : (w1.alloc (.cells #[.int .i64 t.kind, .string (bs t.name), .string (bs t.val)] 104)).ownsRow w.heap.size 104 3 (.slice xa l.length xcap) l.length (l.flatMap encT) := World.ownsRow.alloc ho1 _
    have T2 := heap_alloc_new w1 (.cells #[.int .i64 t.kind, .string (bs t.name), .string (bs t.val)] 104)
    simp only [tstV]
    go_upto_region 5 with fail
    generalize w1.alloc (.cells #[.int .i64 t.kind, .string (bs t.name), .string (bs t.val)] 104) = w2 at T2 Q2 P2 hr2 kp2 ho2 ⊢
    generalize w1.heap.size = TN at *
    have p0 := cell_of P2 0
    have p1 := cell_of P2 1
    have q0 := cell_of Q2 0
    have q1 := cell_of Q2 1
    have f0 := fz_of Q2 0
    have f1 := fz_of Q2 1
    have g1 := fz_of P2 1
    have t0 := cell_of T2 0
    have t1 := cell_of T2 1
    have t2 := cell_of T2 2
    simp at p0 p1 q0 q1 t0 t1 t2
    have hz2 : w.heap.size ≤ w2.heap.size := kp2.size
    by_cases hk0 : t.kind = 0
    · have EX : Hid (part join s.data.toList k = .ok (⟨join, l⟩, k1)) := by
        show part join s.data.toList k = _
        rw [E1.out, if_pos hk0]; rfl
      have hk0' : (t.kind : Int) = 0 := by omega
      go_wp2_with fail
      refine bodyPost_ret (v := .agg #[.int .i64 join, .slice xa l.length xcap]) (by simp [results, Try.results105, go_sem, q0, q1]) rfl ?_
      refine H.out.1 ⟨join, l⟩ k1 _ _ EX.out (by omega) hk4 ((hr2.setOther (by simp; omega) _).setOther (by simp; omega) _) ((kp2.setNew (by simp) _).setNew (by simp) _) ⟨_, rfl, ?_⟩
      have ka := (Kp.set w2 w.heap.size 0 (.int .i64 join)).trans (Kp.set _ w.heap.size 1 (.slice xa l.length xcap))
      exact own_lower (own_kp ho2 ka (by rintro j rfl cur fz hc; rw [Q2] at hc; simp at hc)) (Nat.zero_le _)
    have hk0' : ¬ (t.kind : Int) = 0 := by omega
    by_cases h6' : 6 ≤ l.length
    · have EX : Hid (part join s.data.toList k = .error (5, k1)) := by
        show part join s.data.toList k = _
        rw [E1.out, if_neg hk0, if_pos h6']; rfl
      have h1 := hr2.c1
      go_wp2_with fail
      refine (at_any b _ _ h1).mono ?_
      rintro e w' ⟨rfl, hw⟩
      obtain rfl := hw.symm
      go_wp2_with (go_at_call 71; refine (throw_any _ _ _).mono ?_; rintro e w' ⟨rfl, rfl⟩)
      exact ⟨rfl, H.out.2 (5, k1) _ EX.out (kp2.under hlt)⟩
    have EX : Hid (bnd (testsTo f' (l ++ [t])) (fun l => ret ⟨join, l⟩) s.data.toList k1 = part join s.data.toList k) := by
      show _ = part join s.data.toList k
      rw [E1.out, if_neg hk0, if_neg h6']
    clear E1
    go_wp2_with (at_builtin; refine wpList_append_lies _ rfl (.tmp 44) (.tmp 46) 100 rfl w.heap.size 104 i0 (.agg #[.int .i64 0, .string ⟨#[]⟩, .string ⟨#[]⟩]) 3 40 Try.underlying100 HI.out HZ.out.1 HZ.out.2.1 HZ.out.2.2 rfl (by decide) (.slice xa l.length xcap) l.length (l.flatMap encT) rfl (World.ownsRow.alloc ho2 _) ⟨w2.heap.size, 0, none⟩ 1 1 (encT t) rfl rfl (World.news_of_block (heap_alloc_new w2 _)) (by simp [encT, Value.oneCell']) (by decide) (by unfold maxLen; omega) (by omega) (by simp; omega) _ rfl ?_; intro gg cap w3 hown hgrow hat hlt3; have kp3 := grown_kp kp2 ho2 (Nat.le_refl _) hgrow; have hr3 := grown_rd hr2 ho2 (by decide) hgrow; have Q3 := (Keeps.grown (Ts := (· = 102)) ho2 hgrow (by decide) _ _ _ _ rfl Q2).trans Q2; have P3 := (Keeps.grown (Ts := (· = 102)) ho2 hgrow (by decide) _ _ _ _ rfl P2).trans P2; have y2 := cell_of P3 1; have y3 := fz_of P3 1; simp at y2; have HW := hid hown; clear hown hgrow hat)
    go_roundg f'
    case measure => omega
    case rel =>
      have PP := heap_set P3 1 (.slice (some ⟨gg, 0, none⟩) (l.length + 1) cap)
      simp at PP
      refine ⟨k1, l ++ [t], .slice (some ⟨gg, 0, none⟩) (l.length + 1) cap, by simp; omega, by simp; omega, by omega, hk4, hr3.setOther (by simp; omega) _, kp3.setNew (by simp) _, ?_, ?_, PP, EX.out⟩
      · have := own_kp HW.out (Kp.set w3 (w.heap.size + 1) 1 (.slice (some ⟨gg, 0, none⟩) (l.length + 1) cap)) (by rintro j rfl cur fz hc; rw [P3] at hc; simp at hc)
        simpa using this
      · rw [Below.heap_setCell _ _ _ _ (by simp)]; exact Q3
end Go.Proofs.Ytanedepdhbdcgaa
