/-
  What was handed in, opened: a rule that is read lies in memory as the walks ask. No function of the program is named here; no condition.
-/
import Derived.Test.YtlodblcmpebfkaaDoorMOpen
namespace Go.Proofs.YtlodblcmpebfkaaDoor
open Go.RowKit

theorem cl30 : Tryd.prog.cellsOf 30 = 1 := by kernel_rfl
theorem cl23 : Tryd.prog.cellsOf 23 = 1 := by kernel_rfl
theorem cl24 : Tryd.prog.cellsOf 24 = 1 := by kernel_rfl
theorem cl28 : Tryd.prog.cellsOf 28 = 5 := by kernel_rfl
theorem st28 : Tryd.prog.underlying 28 = some (.struct (Tryd.prog.fieldsOf 28)) := by kernel_rfl
theorem fl28 : (Tryd.prog.fieldsOf 28).toList.map (fun f => (f.type, f.offset)) = [(9, 0), (23, 1), (24, 2), (26, 3)] := by kernel_rfl

section
variable {H : Type} {enc : TypeId × Value → H} {w : World} {held : Bool}

/-- Selectors. -/
theorem open_sels (fuel : Nat) (cs : List Value) (x : DataW H × List MemPlace) (h : DataW.trod enc Tryd.prog w 0 (fun _ => true) held fuel 23 cs = some x) :
    ∃ v ss, cs = [v] ∧ SsAt w v ss ∧ (Rows.uptoBulk x.1 ≤ lim → ss.length ≤ lim ∧ ∀ s ∈ ss, SmS s) := by
  obtain ⟨v, l, h1, h2, _, h3, h4⟩ := open_sl (sz := 1) Tryd.underlying23 cl30 (by decide) (eS w) (fun _ => 0) SmS (fun fuel cs x hl h => by
    obtain ⟨v, s, hv, hp, hb1, hb2⟩ := open_parts fuel cs x h
    subst hv
    exact ⟨s, fun c hc => ⟨v, hc 0 (by decide), hp⟩, Nat.zero_le _, fun hq => ⟨Nat.le_trans hb2 hq, Nat.le_trans hb1 hq⟩⟩) h
  exact ⟨v, l, h1, h2, fun hq => ⟨Nat.le_trans h3 hq, h4 hq⟩⟩
/-- A rule. -/
theorem open_rule (fuel : Nat) (cs : List Value) (x : DataW H × List MemPlace) (hl : cs.length = 5) (h : DataW.trod enc Tryd.prog w 0 (fun _ => true) held fuel 28 cs = some x) :
    ∃ (md : ByteArray) (ss : List (List Pt)) (ssv : Value) (da : Option Addr) (dn dc : Nat) (rf rt : Int), cs = [.string md, ssv, .slice da dn dc, .int .i64 rf, .int .i64 rt] ∧ SsAt w ssv ss ∧ (Rows.uptoBulk x.1 ≤ lim → ss.length ≤ lim ∧ ∀ s ∈ ss, SmS s) := by
  obtain ⟨xs, n, hx, _, hxl, hf⟩ := open_st st28 fl28 h
  match cs, hl with
  | [c0, c1, c2, c3, c4], _ =>
    obtain ⟨y0, h0, _⟩ := get_some (hf 0 9 0 rfl) (by rw [hxl]; decide)
    obtain ⟨y1, h1, m1⟩ := get_some (hf 1 23 1 rfl) (by rw [hxl]; decide)
    obtain ⟨y2, h2, _⟩ := get_some (hf 2 24 2 rfl) (by rw [hxl]; decide)
    obtain ⟨y3, h3, _⟩ := get_some (hf 3 26 3 rfl) (by rw [hxl]; decide)
    rw [cl9] at h0
    rw [cl23] at h1
    rw [cl24] at h2
    rw [cl26] at h3
    obtain ⟨md, e0, _⟩ := DataW.trod_string Tryd.underlying9 h0
    obtain ⟨v, ss, e1, g1, g2⟩ := open_sels _ _ _ h1
    obtain ⟨k4, k5, e3⟩ := open_span _ _ _ (by simp) h3
    obtain ⟨da, dn, dc, e2⟩ : ∃ da dn dc, c2 = .slice da dn dc := by
      rcases DataW.trod_slice Tryd.underlying24 h2 with ⟨e, _⟩ | ⟨a, len, cap, _, _, _, _, e, _⟩
      · simp at e; exact ⟨_, _, _, e⟩
      · simp at e; exact ⟨_, _, _, e⟩
    simp at e0 e1 e3
    refine ⟨md, ss, v, da, dn, dc, k4, k5, by rw [e0, e1, e2, e3.1, e3.2], g1, fun hq => g2 ?_⟩
    rw [hx] at hq
    simp only [Rows.uptoBulk] at hq
    have := bulk_mem (List.mem_map_of_mem (f := (·.1)) m1)
    omega
end
end Go.Proofs.YtlodblcmpebfkaaDoor
