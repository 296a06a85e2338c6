/-
  The pages of the law TopWeight, and what their elements' own styles come to be. No program's function is named here.
-/
import Derived.Test.YtblkldfokeeaeacGreatDoorAxTG
namespace Go.Proofs.YtblkldfokeeaeacGreatDoor
open Go.RowKit Go.Maps

def atK : List Sh.At2 := [([99, 108, 97, 115, 115], [107])]
def atKQ : List Sh.At2 := [([99, 108, 97, 115, 115], [107]), ([105, 100], [113])]
def tW (inner : Bs) : Sh.Tr := .sty [] inner (.el [112] atKQ (.txt 120 .nil) (.el [112] atK (.txt 121 .nil) (.el [112] [] (.txt 122 .nil) .nil)))
theorem tW_len (s : Bs) : (Sh.text (tW s)).length = s.length + 66 := by
  simp [tW, Sh.text, Sh.first2, Sh.ats2, Sh.at2, Sh.lastTag, Sh.styleL, atK, atKQ]
def lkW (a b c : Bs) : Nat → List Dc
  | 1 => [⟨bsL colorL, bsL a, false⟩]
  | 2 => [⟨bsL colorL, bsL b, false⟩]
  | 3 => [⟨bsL colorL, bsL c, false⟩]
  | _ => []
theorem nmClass : Sh.NmOk [99, 108, 97, 115, 115] := ⟨⟨99, [108, 97, 115, 115], rfl, by decide, by decide⟩, by decide⟩
theorem nmId : Sh.NmOk [105, 100] := ⟨⟨105, [100], rfl, by decide, by decide⟩, by decide⟩
theorem atsK : Sh.AtsOk atK := ⟨by decide, fun a ha => by rw [List.mem_singleton.1 ha]; exact nmClass, fun a ha => by rw [List.mem_singleton.1 ha]; show ∀ b ∈ [107], _; decide, List.pairwise_singleton _ _⟩
theorem atsKQ : Sh.AtsOk atKQ := by
  refine ⟨by decide, fun a ha => ?_, fun a ha => ?_, ?_⟩
  · rcases List.mem_cons.1 ha with rfl | ha
    · exact nmClass
    · rw [List.mem_singleton.1 ha]; exact nmId
  · rcases List.mem_cons.1 ha with rfl | ha
    · show ∀ b ∈ [107], _; decide
    · rw [List.mem_singleton.1 ha]; show ∀ b ∈ [113], _; decide
  · unfold atKQ
    simp
theorem edit_any {v : Bs} {l : List Sh.At2} (hv : v.length ≤ 1000) (hl : l.any Sh.isSty = false) : (Sh.ats2 (Sh.editAts v l)).length ≤ 1100 + (Sh.ats2 l).length := by
  unfold Sh.editAts
  rw [if_neg (by rw [hl]; decide)]
  split
  · omega
  · simp [Sh.ats2, Sh.at2, Sh.styleL]; omega
theorem pgW {rows : List RuT} {a b c : Bs} (hr : ∀ y ∈ rows, RuOk y) (hl : (ruTx rows).length ≤ 400) (h6 : ∀ b ∈ ruTx rows, b ≠ 60) (h60 : rows.length ≤ 5) (hal : ∀ r ∈ ruAt [] 0 rows, ∃ a, allB (r.decls.map Sh.ofL) = some a) (la : a.length ≤ 20) (lb : b.length ≤ 20) (lc : c.length ≤ 20)
    (h : ∀ k, k < 4 → ∀ hk : k < (Sh.nodes 0 (-1) 0 (tW (ruTx rows))).length, lookOf ((((treeR (tW (ruTx rows)) fun _ => ruAt [] 0 rows).map ofR).flatMap (ruCl ((Sh.nodes 0 (-1) 0 (tW (ruTx rows))).map ofN) k [])) ++ asC true w00 (ownD (Sh.nodes 0 (-1) 0 (tW (ruTx rows)))[k])) = lkW a b c k) : Pg (tW (ruTx rows)) (fun _ => rows) (lkW a b c) where
  ok := ⟨by decide, atsN, first_free h6, by decide, nm_p, by decide, atsKQ, ⟨by decide, trivial⟩, by decide, nm_p, by decide, atsK, ⟨by decide, trivial⟩, by decide, nm_p, by decide, atsN, ⟨by decide, trivial⟩, trivial⟩
  few := by show 4 ≤ 120; decide
  len := by rw [tW_len]; omega
  inn := fun y hy => by
    rw [List.mem_singleton.1 (show y ∈ [(0, ruTx rows)] from hy)]
    exact ⟨rfl, hr, by show (ruTx rows).length ≤ 4000; omega, by show rows.length ≤ 60; omega, hal⟩
  sixty := by
    have : treeR (tW (ruTx rows)) (fun _ => ruAt [] 0 rows) = (ruAt [] 0 rows).map (shift 7) ++ ([] ++ ([] ++ ([] ++ []))) := rfl
    rw [this]
    simp [ruAt_len]
    omega
  own := fun v hv => by
    have hv2 : v ∈ [⟨Sh.styleL, -1, []⟩, ⟨[112], -1, atKQ⟩, ⟨[112], -1, atK⟩, ⟨[112], -1, []⟩] := hv
    have : Sh.styOf v.ats = [] := by
      rcases List.mem_cons.1 hv2 with rfl | hv2
      · rfl
      rcases List.mem_cons.1 hv2 with rfl | hv2
      · rfl
      rcases List.mem_cons.1 hv2 with rfl | hv2
      · rfl
      · rw [List.mem_singleton.1 hv2]; rfl
    rw [this]
    exact ⟨[], [], by kernel_rfl, rfl⟩
  eight := by kernel_rfl
  look := fun k hk hk2 => h k hk hk2
  twenty := fun k => match k with
    | 0 => Nat.zero_le _
    | 1 => by show 1 ≤ 20; decide
    | 2 => by show 1 ≤ 20; decide
    | 3 => by show 1 ≤ 20; decide
    | _ + 4 => Nat.zero_le _
  out := by
    have pa := print1 a false
    have pb := print1 b false
    have pc := print1 c false
    have e1 : (Sh.first2 Sh.styleL [] ++ List.replicate rows.length 32 ++ Sh.lastTag Sh.styleL ++ (Sh.first2 [112] (Sh.editAts (printD [⟨bsL colorL, bsL a, false⟩]) atKQ) ++ [120] ++ Sh.lastTag [112] ++ (Sh.first2 [112] (Sh.editAts (printD [⟨bsL colorL, bsL b, false⟩]) atK) ++ [121] ++ Sh.lastTag [112] ++ (Sh.first2 [112] (Sh.editAts (printD [⟨bsL colorL, bsL c, false⟩]) []) ++ [122] ++ Sh.lastTag [112] ++ [])))).length ≤ 6000 := by
      have ha := edit_any (v := printD [⟨bsL colorL, bsL a, false⟩]) (l := atKQ) (by omega) (by decide)
      have hb := edit_any (v := printD [⟨bsL colorL, bsL b, false⟩]) (l := atK) (by omega) (by decide)
      have hc := edit_any (v := printD [⟨bsL colorL, bsL c, false⟩]) (l := []) (by omega) (by decide)
      have k1 : (Sh.ats2 atKQ).length = 17 := by decide
      have k2 : (Sh.ats2 atK).length = 10 := by decide
      have k3 : (Sh.ats2 []).length = 0 := by decide
      have e0 : Sh.ats2 [] = [] := rfl
      simp only [Sh.first2, Sh.lastTag, Sh.styleL, e0, List.length_append, List.length_replicate, List.length_cons, List.length_nil]
      omega
    exact e1
section
variable {a b c : Bs}
def rQ (a : Bs) : RuT := ruP [35, 113] [[⟨0, [⟨3, [113], []⟩]⟩]] colorL a
def rK (a : Bs) : RuT := ruP [46, 107] [[⟨0, [⟨2, [107], []⟩]⟩]] colorL a
def rP (a : Bs) : RuT := ruP [112] [nmSel [112]] colorL a
theorem okQ (h : Wd a) : RuOk (rQ a) := ru_plain (fun _ => by kernel_rfl) (fun _ => by kernel_rfl) nmColor (by decide) h
theorem okK (h : Wd a) : RuOk (rK a) := ru_plain (fun _ => by kernel_rfl) (fun _ => by kernel_rfl) nmColor (by decide) h
theorem okP (h : Wd a) : RuOk (rP a) := ru_plain hp_p hs_p nmColor (by decide) h
def rows6 (a b c : Bs) : Nat → List RuT
  | 0 => [rQ a, rK b, rP c]
  | 1 => [rQ a, rP c, rK b]
  | 2 => [rK b, rQ a, rP c]
  | 3 => [rK b, rP c, rQ a]
  | 4 => [rP c, rQ a, rK b]
  | _ => [rP c, rK b, rQ a]
theorem rows_mem {n : Nat} {y : RuT} (h : y ∈ rows6 a b c n) : y = rQ a ∨ y = rK b ∨ y = rP c := by
  unfold rows6 at h
  split at h <;> simp at h <;> rcases h with h | h | h <;> simp [h]
theorem ru_6 (ha : Wd a) (hb : Wd b) (hc : Wd c) : (∀ x ∈ (rQ a).1, x ≠ 60) ∧ (∀ x ∈ (rK b).1, x ≠ 60) ∧ (∀ x ∈ (rP c).1, x ≠ 60) := by
  refine ⟨?_, ?_, ?_⟩
  · have := no60_of (p := [35, 113, 123, 99, 111, 108, 111, 114, 58]) (q := [125]) ha (by decide) (by decide)
    simpa [rQ, ruP] using this
  · have := no60_of (p := [46, 107, 123, 99, 111, 108, 111, 114, 58]) (q := [125]) hb (by decide) (by decide)
    simpa [rK, ruP] using this
  · have := no60_of (p := [112, 123, 99, 111, 108, 111, 114, 58]) (q := [125]) hc (by decide) (by decide)
    simpa [rP, ruP] using this
theorem ruAt_dec {Q : List Sh.Dcl → Prop} : ∀ (l : List RuT) (k : Nat), (∀ x ∈ l, Q x.2.2) → ∀ r ∈ ruAt [] k l, Q r.decls
  | [], _, _, _, h => by cases h
  | x :: l, k, hx, r, h => by
    rcases List.mem_cons.1 h with rfl | h
    · exact hx x (List.mem_cons_self ..)
    · exact ruAt_dec l _ (fun y hy => hx y (List.mem_cons_of_mem _ hy)) r h
theorem pgW6 (ha : Wd a) (hb : Wd b) (hc : Wd c) (n : Nat) (hn : n < 6) : Pg (tW (ruTx (rows6 a b c n))) (fun _ => rows6 a b c n) (lkW a b c) := by
  have la := ha.len
  have lb := hb.len
  have lc := hc.len
  refine pgW (fun y hy => ?_) ?_ (fun x hx => ?_) ?_ (ruAt_dec (Q := fun D => ∃ a, allB (D.map Sh.ofL) = some a) _ 0 fun y hy => ?_) la lb lc ?_
  · rcases rows_mem hy with rfl | rfl | rfl
    · exact okQ ha
    · exact okK hb
    · exact okP hc
  · match n, hn with
    | 0, _ => simp [rows6, ruTx, rQ, rK, rP, ruP]; omega
    | 1, _ => simp [rows6, ruTx, rQ, rK, rP, ruP]; omega
    | 2, _ => simp [rows6, ruTx, rQ, rK, rP, ruP]; omega
    | 3, _ => simp [rows6, ruTx, rQ, rK, rP, ruP]; omega
    | 4, _ => simp [rows6, ruTx, rQ, rK, rP, ruP]; omega
    | 5, _ => simp [rows6, ruTx, rQ, rK, rP, ruP]; omega
  · obtain ⟨y, hy, hx⟩ := List.mem_flatMap.1 hx
    obtain ⟨k1, k2, k3⟩ := ru_6 ha hb hc
    rcases rows_mem hy with rfl | rfl | rfl
    · exact k1 x hx
    · exact k2 x hx
    · exact k3 x hx
  · match n, hn with
    | 0, _ => show 3 ≤ 5; decide
    | 1, _ => show 3 ≤ 5; decide
    | 2, _ => show 3 ≤ 5; decide
    | 3, _ => show 3 ≤ 5; decide
    | 4, _ => show 3 ≤ 5; decide
    | 5, _ => show 3 ≤ 5; decide
  · rcases rows_mem hy with rfl | rfl | rfl
    · exact ⟨_, all_one (isE_color a false)⟩
    · exact ⟨_, all_one (isE_color b false)⟩
    · exact ⟨_, all_one (isE_color c false)⟩
  · intro k hk
    have h1 : n = 0 ∨ n = 1 ∨ n = 2 ∨ n = 3 ∨ n = 4 ∨ n = 5 := by omega
    have h2 : k = 0 ∨ k = 1 ∨ k = 2 ∨ k = 3 := by omega
    rcases h1 with rfl | rfl | rfl | rfl | rfl | rfl <;> rcases h2 with rfl | rfl | rfl | rfl <;> intro hk2 <;> kernel_rfl
end
end Go.Proofs.YtblkldfokeeaeacGreatDoor
