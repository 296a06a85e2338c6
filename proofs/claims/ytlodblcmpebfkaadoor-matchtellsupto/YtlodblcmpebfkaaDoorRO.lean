/-
  What was handed in, opened: a rule that is read lies in memory as the walks ask, each kind a number of 64 bits, each name a text that may be. No function of the program is named here; no condition.
-/
import Derived.Test.YtlodblcmpebfkaaDoorR8
import Derived.Test.YtlodblcmpebfkaaDoorMOpenR
namespace Go.Proofs.YtlodblcmpebfkaaDoor
open Go.RowKit

section
variable {H : Type} {enc : TypeId × Value → H} {w : World} {held : Bool}

/-- A test. -/
theorem open_testW (fuel : Nat) (cs : List Value) (x : DataW H × List MemPlace) (hl : cs.length = 3) (h : DataW.trod enc Tryd.prog w 0 (fun _ => true) held fuel 41 cs = some x) :
    ∃ y : Ts, cs = [.int .i64 y.kind, .string y.name, .string y.val] ∧ WfT y := by
  obtain ⟨xs, n, _, _, hxl, hf⟩ := open_st st41 fl41 h
  match cs, hl with
  | [c0, c1, c2], _ =>
    obtain ⟨y0, h0, _⟩ := get_some (hf 0 3 0 rfl) (by rw [hxl]; decide)
    obtain ⟨y1, h1, _⟩ := get_some (hf 1 9 1 rfl) (by rw [hxl]; decide)
    obtain ⟨y2, h2, _⟩ := get_some (hf 2 9 2 rfl) (by rw [hxl]; decide)
    rw [cl3] at h0
    rw [cl9] at h1 h2
    obtain ⟨k, e0, _, w0⟩ := DataW.trod_int Tryd.underlying3 h0
    obtain ⟨a, e1, _, w1⟩ := DataW.trod_string Tryd.underlying9 h1
    obtain ⟨b, e2, _⟩ := DataW.trod_string Tryd.underlying9 h2
    simp at e0 e1 e2
    exact ⟨⟨k, a, b⟩, by rw [e0, e1, e2], w0, w1⟩
/-- Tests. -/
theorem open_testsW (fuel : Nat) (cs : List Value) (x : DataW H × List MemPlace) (h : DataW.trod enc Tryd.prog w 0 (fun _ => true) held fuel 43 cs = some x) :
    ∃ v l, cs = [v] ∧ TsAt w v l ∧ l.length ≤ Rows.uptoBulk x.1 ∧ (Rows.uptoBulk x.1 ≤ lim → ∀ t ∈ l, WfT t) := by
  obtain ⟨v, l, h1, h2, _, h3, h4⟩ := open_sl (sz := 3) Tryd.underlying43 cl41 (by decide) eT (fun _ => 0) WfT (fun fuel cs x hl h => by
    obtain ⟨y, hy, hw⟩ := open_testW fuel cs x hl h
    subst hy
    exact ⟨y, fun c hc => ⟨hc 0 (by decide), hc 1 (by decide), hc 2 (by decide)⟩, Nat.zero_le _, fun _ => hw⟩) h
  exact ⟨v, l, h1, h2, h3, h4⟩
/-- A part. -/
theorem open_partW (fuel : Nat) (cs : List Value) (x : DataW H × List MemPlace) (hl : cs.length = 2) (h : DataW.trod enc Tryd.prog w 0 (fun _ => true) held fuel 45 cs = some x) :
    ∃ (y : Pt) (v : Value), cs = [.int .i64 y.join, v] ∧ TsAt w v y.tests ∧ y.tests.length ≤ Rows.uptoBulk x.1 ∧ (Rows.uptoBulk x.1 ≤ lim → ∀ t ∈ y.tests, WfT t) := by
  obtain ⟨xs, n, hx, _, hxl, hf⟩ := open_st st45 fl45 h
  match cs, hl with
  | [c0, c1], _ =>
    obtain ⟨y0, h0, _⟩ := get_some (hf 0 3 0 rfl) (by rw [hxl]; decide)
    obtain ⟨y1, h1, m1⟩ := get_some (hf 1 43 1 rfl) (by rw [hxl]; decide)
    rw [cl3] at h0
    rw [cl43] at h1
    obtain ⟨k, e0, _⟩ := DataW.trod_int Tryd.underlying3 h0
    obtain ⟨v, l, e1, h2, h3, h4⟩ := open_testsW _ _ _ h1
    simp at e0 e1
    have hb := bulk_mem (List.mem_map_of_mem (f := (·.1)) m1)
    refine ⟨⟨k, l⟩, v, by rw [e0, e1], h2, ?_, fun hq => h4 ?_⟩
    · rw [hx]
      simp only [Rows.uptoBulk]
      omega
    · rw [hx] at hq
      simp only [Rows.uptoBulk] at hq
      omega
/-- A selector. -/
theorem open_partsW (fuel : Nat) (cs : List Value) (x : DataW H × List MemPlace) (h : DataW.trod enc Tryd.prog w 0 (fun _ => true) held fuel 30 cs = some x) :
    ∃ v s, cs = [v] ∧ PsAt w v s ∧ (s.flatMap (·.tests)).length ≤ Rows.uptoBulk x.1 ∧ s.length ≤ Rows.uptoBulk x.1 ∧ (Rows.uptoBulk x.1 ≤ lim → WfS s) := by
  obtain ⟨v, l, h1, h2, h3, h4, h5⟩ := open_sl (sz := 2) Tryd.underlying30 cl45 (by decide) (eP w) (fun p => p.tests.length) (fun p => ∀ t ∈ p.tests, WfT t) (fun fuel cs x hl h => by
    obtain ⟨y, v, hy, hv, hb, hw⟩ := open_partW fuel cs x hl h
    subst hy
    exact ⟨y, fun c hc => ⟨hc 0 (by decide), v, hc 1 (by decide), hv⟩, hb, hw⟩) h
  refine ⟨v, l, h1, h2, ?_, h4, h5⟩
  rw [List.length_flatMap]
  exact h3
/-- Selectors. -/
theorem open_selsW (fuel : Nat) (cs : List Value) (x : DataW H × List MemPlace) (h : DataW.trod enc Tryd.prog w 0 (fun _ => true) held fuel 23 cs = some x) :
    ∃ v ss, cs = [v] ∧ SsAt w v ss ∧ (Rows.uptoBulk x.1 ≤ lim → ss.length ≤ lim ∧ ∀ s ∈ ss, SmS s ∧ WfS s) := by
  obtain ⟨v, l, h1, h2, _, h3, h4⟩ := open_sl (sz := 1) Tryd.underlying23 cl30 (by decide) (eS w) (fun _ => 0) (fun s => SmS s ∧ WfS s) (fun fuel cs x hl h => by
    obtain ⟨v, s, hv, hp, hb1, hb2, hb3⟩ := open_partsW fuel cs x h
    subst hv
    exact ⟨s, fun c hc => ⟨v, hc 0 (by decide), hp⟩, Nat.zero_le _, fun hq => ⟨⟨Nat.le_trans hb2 hq, Nat.le_trans hb1 hq⟩, hb3 hq⟩⟩) h
  exact ⟨v, l, h1, h2, fun hq => ⟨Nat.le_trans h3 hq, h4 hq⟩⟩
/-- A rule. -/
theorem open_ruleW (fuel : Nat) (cs : List Value) (x : DataW H × List MemPlace) (hl : cs.length = 5) (h : DataW.trod enc Tryd.prog w 0 (fun _ => true) held fuel 28 cs = some x) :
    ∃ (md : ByteArray) (ss : List (List Pt)) (ssv : Value) (da : Option Addr) (dn dc : Nat) (rf rt : Int), cs = [.string md, ssv, .slice da dn dc, .int .i64 rf, .int .i64 rt] ∧ SsAt w ssv ss ∧ (Rows.uptoBulk x.1 ≤ lim → ss.length ≤ lim ∧ ∀ s ∈ ss, SmS s ∧ WfS s) := by
  obtain ⟨xs, n, hx, _, hxl, hf⟩ := open_st st28 fl28 h
  match cs, hl with
  | [c0, c1, c2, c3, c4], _ =>
    obtain ⟨y0, h0, _⟩ := get_some (hf 0 9 0 rfl) (by rw [hxl]; decide)
    obtain ⟨y1, h1, m1⟩ := get_some (hf 1 23 1 rfl) (by rw [hxl]; decide)
    obtain ⟨y2, h2, _⟩ := get_some (hf 2 24 2 rfl) (by rw [hxl]; decide)
    obtain ⟨y3, h3, _⟩ := get_some (hf 3 26 3 rfl) (by rw [hxl]; decide)
    rw [cl9] at h0
    rw [cl23] at h1
    rw [cl24] at h2
    rw [cl26] at h3
    obtain ⟨md, e0, _⟩ := DataW.trod_string Tryd.underlying9 h0
    obtain ⟨v, ss, e1, g1, g2⟩ := open_selsW _ _ _ h1
    obtain ⟨k4, k5, e3⟩ := open_span _ _ _ (by simp) h3
    obtain ⟨da, dn, dc, e2⟩ : ∃ da dn dc, c2 = .slice da dn dc := by
      rcases DataW.trod_slice Tryd.underlying24 h2 with ⟨e, _⟩ | ⟨a, len, cap, _, _, _, _, e, _⟩
      · simp at e; exact ⟨_, _, _, e⟩
      · simp at e; exact ⟨_, _, _, e⟩
    simp at e0 e1 e3
    refine ⟨md, ss, v, da, dn, dc, k4, k5, by rw [e0, e1, e2, e3.1, e3.2], g1, fun hq => g2 ?_⟩
    rw [hx] at hq
    simp only [Rows.uptoBulk] at hq
    have := bulk_mem (List.mem_map_of_mem (f := (·.1)) m1)
    omega
end
end Go.Proofs.YtlodblcmpebfkaaDoor
