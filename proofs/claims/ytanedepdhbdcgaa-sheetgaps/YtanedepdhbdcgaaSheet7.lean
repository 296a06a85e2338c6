/-
  What rule of package sheet does: the plain answer of the SheetSpec text, behind the rules that are there, or its fault. Conditions: the text has at most 4000 bytes; the cell of internal/bytealg.MaxLen holds some int.
-/
import Derived.Test.YtanedepdhbdcgaaSheet6
namespace Go.Proofs.Ytanedepdhbdcgaa
open Go.RowKit

def encR (p : Rl × (Value × Value)) : List Value := [.string (bs p.1.media), p.2.1, p.2.2, .int .i64 p.1.from_, .int .i64 p.1.to_]
/-- The slice value v holds the rules l, in rows from 'base' on. -/
def RsIn (w : World) (base : Nat) (v : Value) (l : List Rl) : Prop := NAt 56 5 encR (fun w a x => SsAt w x.1 a.sels ∧ DsAt w x.2 a.decls) w base v l
theorem RsIn.keeps {w w' : World} {base : Nat} {v : Value} {l : List Rl} (h : RsIn w base v l) {Ts : TypeId → Prop} (hk : Keeps Ts w w') (hT : Ts 56 ∧ Ts 77 ∧ Ts 72 ∧ Ts 102 ∧ Ts 104) : RsIn w' base v l :=
  NAt.keeps h hk hT.1 (fun _ _ ha => ⟨ha.1.keeps hk hT.2.2, ha.2.keeps hk hT.2.1⟩)

/-- From w to w' the reader's block b, the rules' row and new memory alone have turned. -/
structure Stp (b : Nat) (nv : Value) (w : World) (nv' : Value) (w' : World) : Prop where
  kp : Kp (fun j => j = b ∨ some j = nv.ownBlock) w w'
  row : ∀ g, nv'.ownBlock = some g → nv.ownBlock = some g ∨ w.heap.size ≤ g

theorem Stp.ofKp {b : Nat} {nv : Value} {w w' : World} (h : Kp (· = b) w w') : Stp b nv w nv w' := ⟨h.weaken (fun _ h => .inl h), fun _ h => .inl h⟩
theorem Stp.trans {b : Nat} {nv nv1 nv2 : Value} {w w1 w2 : World} (h : Stp b nv w nv1 w1) (k : Stp b nv1 w1 nv2 w2) : Stp b nv w nv2 w2 := by
  refine ⟨⟨k.kp.os.trans h.kp.os, k.kp.tape.trans h.kp.tape, k.kp.output.trans h.kp.output, Nat.le_trans h.kp.size k.kp.size, fun j hj hx => ?_⟩, fun g hg => ?_⟩
  · rw [k.kp.block j (Nat.lt_of_lt_of_le hj h.kp.size) ?_]
    · exact h.kp.block j hj hx
    · rintro (hb | hg)
      · exact hx (.inl hb)
      · rcases h.row j hg.symm with h1 | h1
        · exact hx (.inr h1.symm)
        · omega
  · rcases k.row g hg with h1 | h1
    · exact h.row g h1
    · exact .inr (Nat.le_trans h.kp.size h1)
theorem Stp.under {b : Nat} {nv nv' : Value} {w w' : World} (h : Stp b nv w nv' w') (hb : b < w.heap.size) (hrow : ∀ g, nv.ownBlock = some g → b < g) : Below b w w' :=
  ⟨h.kp.os, h.kp.tape, h.kp.output, h.kp.size, fun j hj => h.kp.block j (by omega) (by
    rintro (h | h)
    · omega
    · have := hrow j h.symm; omega)⟩
theorem RsIn.row {w : World} {base : Nat} {v : Value} {l : List Rl} (h : RsIn w base v l) : ∀ g, v.ownBlock = some g → base ≤ g ∧ g < w.heap.size := by
  obtain ⟨LV, _, h2, _⟩ := h
  exact h2.lt
theorem Mx.stp {w w' : World} {b base : Nat} {nv nv' : Value} {L : List Rl} (h : Mx w) (hk : Stp b nv w nv' w') (hs : RsIn w base nv L) (hb0 : 0 < b) (hb : b < base) : Mx w' := by
  obtain ⟨mx, h⟩ := h
  refine ⟨mx, (hk.kp.cell (lt_of_cell h) ?_ 0).trans h⟩
  rintro (h | h)
  · omega
  · have := hs.row 0 h.symm; omega

/-- One rule more, behind the append and the store: what is handed on. -/
theorem rpush {w w3 : World} {b base g cap : Nat} {s : ByteArray} {k : Nat} {nv : Value} {L : List Rl} {LV : List (Rl × (Value × Value))} {a : Rl} {x : Value × Value} {o : Obj}
    (hr : Rs w b s k nv) (h1 : LV.map (·.1) = L) (h2 : w.ownsRow base 56 5 nv L.length (LV.flatMap encR)) (h3 : ∀ p ∈ LV, SsAt w p.2.1 p.1.sels ∧ DsAt w p.2.2 p.1.decls) (ha : SsAt w x.1 a.sels ∧ DsAt w x.2 a.decls)
    (hg : (w.alloc o).grownBy w3 nv.ownBlock) (ho : w3.ownsRow base 56 5 (.slice (some ⟨g, 0, none⟩) (L.length + 1) cap) (L.length + 1) (LV.flatMap encR ++ encR (a, x))) (hat : nv.ownBlock = some g ∨ g = w.heap.size + 1) :
    Rs w3 b s k nv ∧ Rs (w3.setCell ⟨b, 2, none⟩ (.slice (some ⟨g, 0, none⟩) (L.length + 1) cap)) b s k (.slice (some ⟨g, 0, none⟩) (L.length + 1) cap) ∧
    RsIn (w3.setCell ⟨b, 2, none⟩ (.slice (some ⟨g, 0, none⟩) (L.length + 1) cap)) base (.slice (some ⟨g, 0, none⟩) (L.length + 1) cap) (L ++ [a]) ∧
    Stp b nv w (.slice (some ⟨g, 0, none⟩) (L.length + 1) cap) (w3.setCell ⟨b, 2, none⟩ (.slice (some ⟨g, 0, none⟩) (L.length + 1) cap)) := by
  have r3 : Rs w3 b s k nv := grown_rd hr h2 (by decide) hg
  have n3 : RsIn w3 base (.slice (some ⟨g, 0, none⟩) (L.length + 1) cap) (L ++ [a]) := NAt.push h1 h2 h3 ha hg ho (fun a x kk ha => ⟨ha.1.keeps kk (by decide), ha.2.keeps kk (by decide)⟩)
  have ks := Kp.set w3 b 2 (.slice (some ⟨g, 0, none⟩) (L.length + 1) cap)
  have al := fun j (hj : j < w.heap.size) => Below.heap_alloc w o j hj
  have lt5 := fun j (hj : j < w.heap.size) => (show j < (w.alloc o).heap.size by simp; omega)
  refine ⟨r3, ?_, n3.keeps (rd_keeps r3 ks) (by decide), ?_⟩
  · have := heap_set r3 2 (.slice (some ⟨g, 0, none⟩) (L.length + 1) cap)
    unfold Rs RdT
    rw [this]; rfl
  · refine ⟨⟨hg.os, hg.tape, hg.output, Nat.le_trans (by simp) (Nat.le_trans hg.size ks.size), fun j hj hx => ?_⟩, fun g' hg' => ?_⟩
    · rw [ks.block j (Nat.lt_of_lt_of_le (lt5 j hj) hg.size) (fun h => hx (.inl h)), hg.block j (lt5 j hj) (fun h => hx (.inr h)), al j hj]
    · simp [Value.ownBlock] at hg'
      subst hg'
      rcases hat with h | h
      · exact .inl h
      · right; omega

theorem tok_len {t S : List UInt8} {k k' : Nat} (h : tok t S k = .ok ((), k')) : k' = k + t.length := by
  unfold tok opt at h
  split at h
  · injection h with h
    injection h with _ h
    exact h.symm
  · cases h

theorem Try.info56 : (Try.prog.info? 56).map (fun i => (i.zero, i.size, i.bytes)) = some (some (.agg #[.string ⟨#[]⟩, .slice none 0 0, .slice none 0 0, .int .i64 0, .int .i64 0]), 5, 80) := by kernel_rfl

set_option maxHeartbeats 4000000 in
theorem rule_any (media : List UInt8) (b : Nat) (s : ByteArray) (base : Nat) (k : Nat) (L : List Rl) (nv : Value) (w : World) (R : Ending → World → Prop) (hl : s.size ≤ 4000) (hk : k ≤ s.size) (h60 : L.length ≤ 60) (hba : base ≤ w.heap.size) (hb0 : 0 < b) (hmx : Mx w) (hr : Rs w b s k nv) (hn : RsIn w base nv L)
    (hok : Hid (∀ p k' nv' w', rule L.length s.data.toList k = .ok (p, k') → k < k' → k' ≤ s.size → Rs w' b s k' nv' → RsIn w' base nv' (L ++ [⟨media, p.1, p.2, k, k'⟩]) → Stp b nv w nv' w' → L.length < 60 → R (.returned (.tuple #[])) w'))
    (hbad : Hid (∀ (x : Nat × Nat) w', rule L.length s.data.toList k = .error x → Below b w w' → R (.panicked [{ v := .iface 87 (.agg #[.int .i64 x.1, .int .i64 x.2]), recovered := false }]) w')) :
    Calls Try.prog 63 #[.pointer (some ⟨b, 0, none⟩), .string (bs media)] w R := by
  have hlt := hr.lt
  obtain ⟨nx, ncap, rfl⟩ := NAt.form hn
  have h1 := hr.c1
  have h2 := hr.c2
  obtain ⟨i0, hi, hz0, hz1, hz2⟩ := info_parts' Try.info56
  have HI := hid hi
  have HZ : Hid (i0.zero = some (.agg #[.string ⟨#[]⟩, .slice none 0 0, .slice none 0 0, .int .i64 0, .int .i64 0]) ∧ i0.size = 5 ∧ i0.bytes = 80) := ⟨hz0, hz1, hz2⟩
  clear hi hz0 hz1 hz2
  go_enter Try.func63, Try.ntmps63
  go_wp2_with fail
  refine (at_any b _ _ h1).mono ?_
  rintro e w' ⟨rfl, hw⟩
  obtain rfl := hw.symm
  go_wp2_with fail
  clear h1 h2
  refine aheadOfPart_any L.length 60 b s k _ _ _ hk hr (hid ⟨?_, ?_⟩)
  rotate_left
  · intro y w1 e1 hbl
    exact ⟨rfl, hbad.out y _ (by simp only [rule, bnd, e1]) hbl⟩
  intro _ k1 v w1 e1 hk3 hk4 hr1 kp1 hv
  subst hv
  have h59 : L.length < 60 := by
    unfold aheadOfPart at e1
    split at e1
    · cases e1
    split at e1
    · cases e1
    omega
  have E1 : Hid (rule L.length s.data.toList k = bnd selectors (fun l => bnd (tok [123]) fun _ => bnd decls fun d => bnd (tok [125]) fun _ => ret (l, d)) s.data.toList k1) := by
    show rule L.length s.data.toList k = _
    simp only [rule, bnd, e1]
  clear e1
  go_wp2_with fail
  refine selectors_any b s k1 _ _ _ hl hk4 hb0 (hmx.kp kp1 hb0) hr1 (hid ⟨?_, ?_⟩)
  rotate_left
  · intro y w2 e2 hbl
    exact ⟨rfl, hbad.out y _ (by rw [E1.out]; simp only [bnd, e2]) ((kp1.under hlt).trans hbl)⟩
  intro sl k2 sv w2 e2 hk5 hk6 hr2 hkp2 hsv
  have E2 : Hid (rule L.length s.data.toList k = bnd (tok [123]) (fun _ => bnd decls fun d => bnd (tok [125]) fun _ => ret (sl, d)) s.data.toList k2) := by
    show rule L.length s.data.toList k = _
    rw [E1.out]; simp only [bnd, e2]
  clear e2 E1
  have kp2 := kp1.trans hkp2
  clear kp1 hkp2 hr1
  go_wp2_with fail
  refine tok_any b s ⟨#[123]⟩ k2 _ _ _ hl (by show (1 : Nat) ≤ 6000; omega) hk6 hr2 ⟨?_, ?_⟩
  rotate_left
  · intro x w3 e3 hbl
    have e3' : tok [123] s.data.toList k2 = .error x := e3
    exact ⟨rfl, hbad.out x _ (by rw [E2.out]; simp only [bnd, e3']) ((kp2.under hlt).trans hbl)⟩
  intro _ k3 v w3 e3 hk7 hk8 hr3 hkp3 hv
  subst hv
  have E3 : Hid (rule L.length s.data.toList k = bnd decls (fun d => bnd (tok [125]) fun _ => ret (sl, d)) s.data.toList k3) := by
    have e3' : tok [123] s.data.toList k2 = .ok ((), k3) := e3
    show rule L.length s.data.toList k = _
    rw [E2.out]; simp only [bnd, e3']
  have hk78 : k3 = k2 + 1 := by
    have e3' : tok [123] s.data.toList k2 = .ok ((), k3) := e3
    exact tok_len e3'
  clear e3 E2
  have kp3 := kp2.trans hkp3
  have sv3 := hsv.keeps (rd_keeps hr2 hkp3) (by decide)
  clear kp2 hkp3 hsv hr2
  go_wp2_with fail
  refine decls_any b s k3 _ _ _ hl hk8 hb0 (hmx.kp kp3 hb0) hr3 (hid ⟨?_, ?_⟩)
  rotate_left
  · intro y w4 e4 hbl
    exact ⟨rfl, hbad.out y _ (by rw [E3.out]; simp only [bnd, e4]) ((kp3.under hlt).trans hbl)⟩
  intro dl k4 dv w4 e4 hk9 hk10 hr4 hkp4 hdv
  have E4 : Hid (rule L.length s.data.toList k = bnd (tok [125]) (fun _ => ret (sl, dl)) s.data.toList k4) := by
    show rule L.length s.data.toList k = _
    rw [E3.out]; simp only [bnd, e4]
  clear e4 E3
  have kp4 := kp3.trans hkp4
  have sv4 := sv3.keeps (rd_keeps hr3 hkp4) (by decide)
  clear kp3 hkp4 sv3 hr3
  go_wp2_with fail
  refine tok_any b s ⟨#[125]⟩ k4 _ _ _ hl (by show (1 : Nat) ≤ 6000; omega) hk10 hr4 ⟨?_, ?_⟩
  rotate_left
  · intro x w5 e5 hbl
    have e5' : tok [125] s.data.toList k4 = .error x := e5
    exact ⟨rfl, hbad.out x _ (by rw [E4.out]; simp only [bnd, e5']) ((kp4.under hlt).trans hbl)⟩
  intro _ k5 v w5 e5 hk11 hk12 hr5 hkp5 hv
  subst hv
  have E5 : Hid (rule L.length s.data.toList k = .ok ((sl, dl), k5)) := by
    have e5' : tok [125] s.data.toList k4 = .ok ((), k5) := e5
    show rule L.length s.data.toList k = _
    rw [E4.out]; simp only [bnd, e5', ret]
  clear e5 E4
  have kp5 := kp4.trans hkp5
  have kk5 := rd_keeps hr4 hkp5
  have sv5 := sv4.keeps kk5 (by decide)
  have dv5 := hdv.keeps kk5 (by decide)
  have hn5 := hn.keeps (rd_keeps hr kp5) (by decide)
  have row0 := hn.row
  clear kp4 hkp5 sv4 hdv kk5 hr4
  obtain ⟨sx, scap, rfl⟩ := NAt.form (show SsIn w5 0 sv sl from sv5)
  obtain ⟨dx, dcap, rfl⟩ := own_form dv5
  obtain ⟨LV, v1, v2, v3⟩ := hn5
  have V1 := hid v1
  have V3 := hid v3
  have SV := hid sv5
  have DV := hid dv5
  have h1 := hr5.c1
  have h2 := hr5.c2
  have h2a := cell_alloc h2
  have hbaW : base ≤ w5.heap.size := by have := kp5.size; omega
  clear v1 v3 sv5 dv5
  go_wp2_with fail
  go_region_law (first
    | (go_simp; go_at_call 72; refine (at_any b _ _ (by exact h1)).mono ?_; rintro e w' ⟨rfl, hw⟩; obtain rfl := hw.symm)
    | (refine step_append_lies _ rfl (.tmp 34) (.tmp 45) 44 rfl base 56 i0 (.agg #[.string ⟨#[]⟩, .slice none 0 0, .slice none 0 0, .int .i64 0, .int .i64 0]) 5 80 Try.underlying44 HI.out HZ.out.1 HZ.out.2.1 HZ.out.2.2 rfl (by decide) (.slice nx L.length ncap) L.length (LV.flatMap encR) rfl (World.ownsRow.alloc (w := w5) v2 _) ⟨w5.heap.size, 0, none⟩ 1 1 (encR (⟨media, sl, dl, k, k5⟩, (.slice sx sl.length scap, .slice dx dl.length dcap))) rfl rfl (World.news_of_block (heap_alloc_new w5 _)) (by simp [encR, Value.oneCell']) (by decide) (by unfold maxLen; omega) (by omega) (by simp; omega) _ rfl ?_; intro g cap w6 hown hgrow hat hlt6; obtain ⟨r1, r2, r3, r4⟩ := rpush hr5 V1.out v2 V3.out (a := ⟨media, sl, dl, k, k5⟩) (x := (.slice sx sl.length scap, .slice dx dl.length dcap)) ⟨SV.out, DV.out⟩ ⟨hgrow.os, hgrow.tape, hgrow.output, hgrow.size, hgrow.block⟩ hown (by simpa using hat); have y2 := r1.c2; have y3 := r1.fz 2; clear hown hgrow hat))
  all_goals
    go_wp2_with fail
    go_end0
    exact hok.out (sl, dl) k5 _ _ E5.out (by omega) hk12 r2 r3 ((Stp.ofKp kp5).trans r4) h59
end Go.Proofs.Ytanedepdhbdcgaa
