/-
  What alive of the statements of chapter 2 answers: true. Conditions: the cell of internal/bytealg.MaxLen holds some int.
-/
import Derived.Test.YtanedepdhbdcgaaSheetSame2
namespace Go.Proofs.Ytanedepdhbdcgaa
open Go.RowKit

def aliveS : List UInt8 := [112, 46, 97, 32, 62, 32, 98, 44, 32, 35, 113, 32, 123, 32, 99, 111, 108, 111, 114, 58, 32, 114, 101, 100, 32, 33, 105, 109, 112, 111, 114, 116, 97, 110, 116, 59, 32, 101, 100, 103, 101, 58, 32, 49, 32, 50, 32, 125, 32, 64, 109, 101, 100, 105, 97, 32, 119, 105, 100, 101, 32, 123, 32, 105, 32, 123, 32, 115, 105, 122, 101, 58, 32, 49, 50, 32, 125, 32, 125]
def aliveD : List UInt8 := [99, 111, 108, 111, 114, 58, 32, 114, 101, 100, 59, 32, 115, 105, 122, 101, 58, 49, 50]
def aliveP : List UInt8 := [99, 111, 108, 111, 114, 58, 32, 114, 101, 100, 59, 32, 115, 105, 122, 101, 58, 32, 49, 50]
def wideL : List UInt8 := [119, 105, 100, 101]

theorem alive_sheet : (match sheetParse aliveS with | .ok L => some (L.map fun r => (r.sels.length, r.media)) | .error _ => none) = some [(2, []), (1, wideL)] := by decide +kernel
theorem alive_decls : (match declsParse aliveD with | .ok l => some (printL l, l.length, l.all fun d => decide (d.name.length ≤ 6000) && decide (d.val.length ≤ 6000)) | .error _ => none) = some (aliveP, 2, true) := by decide +kernel

theorem alive_rules : ∃ L, sheetParse aliveS = .ok L ∧ ∃ r0 r1, L = [r0, r1] ∧ r0.sels.length = 2 ∧ r1.media = wideL := by
  have h := alive_sheet
  cases e : sheetParse aliveS with
  | error x => rw [e] at h; cases h
  | ok L =>
    rw [e] at h
    injection h with h
    match L, h with
    | [r0, r1], h =>
      simp at h
      exact ⟨_, rfl, r0, r1, rfl, h.1.1, h.2.2⟩
theorem alive_declared : ∃ l, declsParse aliveD = .ok l ∧ printL l = aliveP ∧ l.length = 2 ∧ ∀ d ∈ l, d.name.length ≤ 6000 ∧ d.val.length ≤ 6000 := by
  have h := alive_decls
  cases e : declsParse aliveD with
  | error x => rw [e] at h; cases h
  | ok l =>
    rw [e] at h
    injection h with h
    injection h with h1 h
    injection h with h2 h3
    refine ⟨l, rfl, h1, h2, fun d hd => ?_⟩
    have := List.all_eq_true.1 h3 d hd
    simpa using this

set_option maxRecDepth 100000 in
set_option maxHeartbeats 2000000 in
theorem salive_any (w : World) (hmx : Mx w) : Calls Try.prog 31 #[] w fun e w' => e = .returned (.bool true) ∧ Below w.heap.size w w' := by
  obtain ⟨L, eL, r0, r1, rfl, hr0, hr1⟩ := alive_rules
  obtain ⟨dl, eD, pD, lD, sD⟩ := alive_declared
  have EL := hid eL
  have ED := hid eD
  have PD := hid pD
  have SD := hid sD
  clear eL eD pD sD
  go_enter Try.func31, Try.ntmps31
  go_wp2_with fail
  refine sparse_any _ _ _ (by show (79 : Nat) ≤ _; omega) hmx (hid ?_) (hid ?_)
  rotate_left
  · intro x w1 e1 _
    have e1' : sheetParse aliveS = .error x := e1
    rw [EL.out] at e1'
    cases e1'
  intro L1 nv w1 e1 hn hb hl1
  have e1' : sheetParse aliveS = .ok L1 := e1
  rw [EL.out] at e1'
  injection e1' with e1'
  subst e1'
  clear e1
  obtain ⟨na, ncap, rfl⟩ := NAt.form hn
  have z1 := hb.size
  have f1 := heap_alloc_new w1 (.cells #[.int .i64 0, .int .i64 0] 25)
  have hb1 : Below w.heap.size w (w1.alloc (.cells #[.int .i64 0, .int .i64 0] 25)) := hb.alloc z1 _
  have hn1 : RsIn (w1.alloc (.cells #[.int .i64 0, .int .i64 0] 25)) w.heap.size (.slice na [r0, r1].length ncap) [r0, r1] := hn.keeps (Keeps.below (Ts := fun _ => True) ((Below.refl _ _).alloc (Nat.le_refl _) _)) ⟨trivial, trivial, trivial, trivial, trivial⟩
  have zf : w1.heap.size < (w1.alloc (.cells #[.int .i64 0, .int .i64 0] 25)).heap.size := by simp
  go_wp2_with fail
  generalize w1.alloc (.cells #[.int .i64 0, .int .i64 0] 25) = w2 at f1 hb1 hn1 zf ⊢
  clear hn hb
  generalize w1.heap.size = F at *
  have m2 : Mx w2 := by
    obtain ⟨mx, h⟩ := hmx
    exact ⟨mx, (hb1.cell (p := ⟨0, 0, none⟩) (lt_of_cell h)).trans h⟩
  refine dparse_any _ _ _ (by show (19 : Nat) ≤ _; omega) m2 (hid ?_) (hid ?_)
  rotate_left
  · intro x w3 e1 _
    have e1' : declsParse aliveD = .error x := e1
    rw [ED.out] at e1'
    cases e1'
  intro l3 dv w3 e3 hd hb3
  have e3' : declsParse aliveD = .ok l3 := e3
  rw [ED.out] at e3'
  injection e3' with e3'
  subst e3'
  clear e3
  have f3 := (hb3.block F zf).trans f1
  have hn3 := hn1.keeps (Keeps.below (Ts := fun _ => True) hb3) ⟨trivial, trivial, trivial, trivial, trivial⟩
  obtain ⟨LV, v1, v2, v3⟩ := hn3
  have lv : LV.length = 2 := by have := congrArg List.length v1; simpa using this
  obtain ⟨g, rfl, p⟩ := row_at (enc := encR) (sz := 5) (fun _ => rfl) (by simpa using lv) v2 (k := 0) (by omega) (by decide)
  obtain ⟨g', hg', q⟩ := row_at (enc := encR) (sz := 5) (fun _ => rfl) (by simpa using lv) v2 (k := 1) (by omega) (by decide)
  injection hg' with hg'
  injection hg' with hg'
  subst hg'
  have p1 := p 1 (by decide)
  have q0 := q 0 (by decide)
  have s0 := (v3 LV[0] (List.getElem_mem (by omega))).1
  have e0 : LV[0].1 = r0 := by have := congrArg (fun l => l[0]?) v1; simpa [List.getElem?_eq_getElem, lv] using this
  have e1 : LV[1].1 = r1 := by have := congrArg (fun l => l[1]?) v1; simpa [List.getElem?_eq_getElem, lv] using this
  simp [encR] at p1 q0
  rw [e0] at s0
  rw [e1, hr1] at q0
  obtain ⟨sa, scap, hsv⟩ := NAt.form (show SsIn w3 0 _ r0.sels from s0)
  rw [hsv, hr0] at p1
  have c0 := cell_of f3 0
  simp at c0
  have gl : g < w3.heap.size := lt_of_cell q0
  have Fl : F < w3.heap.size := lt_of_cell c0
  have hwd : ((bs wideL).toList == [119, 105, 100, 101]) = true := by rw [bs_toList]; rfl
  obtain ⟨da, dcap, rfl⟩ := own_form hd
  have z3 := hb3.size
  have hd4 := hd.keeps (Keeps.below (Ts := fun _ => True) ((Below.refl _ w3).alloc (Nat.le_refl _) (.cells #[.int .i64 0, .int .i64 0] 25))) trivial
  have hb4 : Below w.heap.size w (w3.alloc (.cells #[.int .i64 0, .int .i64 0] 25)) := (hb1.trans (hb3.mono (by omega))).alloc (by omega) _
  have DD := hid hd4
  have BB := hid hb4
  clear v1 v2 v3 p q e0 e1 s0 hsv hd hn1 f3 f1 hb1 hb3 hd4 hb4
  have hlen : [r0, r1].length = 2 := rfl
  go_wp2_with fail
  have dd : DsAt (w3.alloc (.cells #[.int .i64 0, .int .i64 0] 25)) (.slice da 2 dcap) dl := by have := DD.out; rw [lD] at this; exact this
  refine (print_any dl _ _ dd (by omega) SD.out).mono ?_
  rintro e w5 ⟨rfl, hb5⟩
  rw [PD.out]
  have hpp : ((bs aliveP).toList == [99, 111, 108, 111, 114, 58, 32, 114, 101, 100, 59, 32, 115, 105, 122, 101, 58, 32, 49, 50]) = true := by rw [bs_toList]; rfl
  clear dd
  go_wp2_with fail
  go_ret
  exact ⟨rfl, BB.out.trans (hb5.mono (by simp; omega))⟩
end Go.Proofs.Ytanedepdhbdcgaa
