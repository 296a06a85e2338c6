/-
  The pages of the law TopWhere, and what they come to be. No program's function is named here.
-/
import Derived.Test.YtblkldfokeeaeacGreatDoorAxTJ
namespace Go.Proofs.YtblkldfokeeaeacGreatDoor
open Go.RowKit Go.Maps

abbrev tPB (rest : Sh.Tr) : Sh.Tr := .el [112] [] (.txt 120 (.el [98] [] (.txt 121 .nil) .nil)) rest
def tH1 (s : Bs) : Sh.Tr := .sty [] s (tPB .nil)
def tH2 (s : Bs) : Sh.Tr := tPB (.sty [] s .nil)
def tH3 (s s2 : Bs) : Sh.Tr := .sty [] s (tPB (.sty [] s2 .nil))
theorem nmSizeH : Sh.NameOK sizeL := nameOk (by decide) (by decide) (by decide)
theorem isE_sizeH (v : Bs) (s : Bool) : isE (Sh.ofL ⟨sizeL, v, s⟩) = false := by kernel_rfl
theorem nm_b : Sh.NmOk [98] := ⟨⟨98, [], rfl, by decide, by decide⟩, by decide⟩
section
variable {a b : Bs}
def rB (b : Bs) : RuT := ruP [98] [nmSel [98]] sizeL b
theorem okB (h : Wd b) : RuOk (rB b) := ru_plain (fun _ => by kernel_rfl) (fun _ => by kernel_rfl) nmSizeH (by decide) h
theorem rB_6 (h : Wd b) : ∀ x ∈ (rB b).1, x ≠ 60 := by
  have := no60_of (p := [98, 123, 115, 105, 122, 101, 58]) (q := [125]) h (by decide) (by decide)
  simpa [rB, ruP] using this
theorem rP_6 (h : Wd a) : ∀ x ∈ (rP a).1, x ≠ 60 := by
  have := no60_of (p := [112, 123, 99, 111, 108, 111, 114, 58]) (q := [125]) h (by decide) (by decide)
  simpa [rP, ruP] using this
abbrev rw2 (a b : Bs) : List RuT := [rP a, rB b]
theorem rw2_6 (ha : Wd a) (hb : Wd b) : ∀ x ∈ ruTx (rw2 a b), x ≠ 60 := fun x hx => by
  obtain ⟨y, hy, hx⟩ := List.mem_flatMap.1 hx
  rcases List.mem_cons.1 hy with rfl | hy
  · exact rP_6 ha x hx
  · rw [List.mem_singleton.1 hy] at hx
    exact rB_6 hb x hx
theorem rw2_ok (ha : Wd a) (hb : Wd b) : ∀ y ∈ rw2 a b, RuOk y := fun y hy => by
  rcases List.mem_cons.1 hy with rfl | hy
  · exact okP ha
  · rw [List.mem_singleton.1 hy]
    exact okB hb
theorem all_b (b : Bs) : ∃ a, allB ([⟨sizeL, b, false⟩].map Sh.ofL) = some a := ⟨_, all_one (isE_sizeH b false)⟩
theorem all_p (a : Bs) : ∃ c, allB ([⟨colorL, a, false⟩].map Sh.ofL) = some c := ⟨_, all_one (isE_color a false)⟩
theorem rw2_all (a b : Bs) : ∀ r ∈ ruAt [] 0 (rw2 a b), ∃ a, allB (r.decls.map Sh.ofL) = some a := ruAt_dec (Q := fun D => ∃ a, allB (D.map Sh.ofL) = some a) _ 0 fun y hy => by
  rcases List.mem_cons.1 hy with rfl | hy
  · exact all_p a
  · rw [List.mem_singleton.1 hy]
    exact all_b b
theorem rw2_len (a b : Bs) : (ruTx (rw2 a b)).length = a.length + b.length + 17 := by
  simp [ruTx, rP, rB, ruP]
  omega
theorem rP_len (a : Bs) : (ruTx [rP a]).length = a.length + 9 := by simp [ruTx, rP, ruP]
theorem rB_len (a : Bs) : (ruTx [rB a]).length = a.length + 8 := by simp [ruTx, rB, ruP]
abbrev colD (a : Bs) : List Dc := [⟨bsL colorL, bsL a, false⟩]
abbrev sizD (b : Bs) : List Dc := [⟨bsL sizeL, bsL b, false⟩]
def lkH1 (a b : Bs) : Nat → List Dc
  | 1 => colD a
  | 2 => sizD b
  | _ => []
def lkH2 (a b : Bs) : Nat → List Dc
  | 0 => colD a
  | 1 => sizD b
  | _ => []
def rw3 (a b : Bs) : Nat → List RuT
  | 0 => [rP a]
  | _ => [rB b]
theorem ed_c (a : Bs) : Sh.editAts (printD (colD a)) [] = [(Sh.styleL, colorL ++ [58, 32] ++ a ++ [])] := by kernel_rfl
theorem ed_s (b : Bs) : Sh.editAts (printD (sizD b)) [] = [(Sh.styleL, sizeL ++ [58, 32] ++ b ++ [])] := by kernel_rfl
def wantL (a b : Bs) : Bs := [60, 112, 32, 115, 116, 121, 108, 101, 61, 34] ++ (colorL ++ [58, 32] ++ a) ++ [34, 62, 120, 60, 98, 32, 115, 116, 121, 108, 101, 61, 34] ++ (sizeL ++ [58, 32] ++ b) ++ [34, 62, 121, 60, 47, 98, 62, 60, 47, 112, 62]
abbrev styG (n : Nat) : Bs := [60, 115, 116, 121, 108, 101, 62] ++ List.replicate n 32 ++ [60, 47, 115, 116, 121, 108, 101, 62]
theorem pb_text (a b R : Bs) : Sh.first2 [112] (Sh.editAts (printD (colD a)) []) ++ (120 :: (Sh.first2 [98] (Sh.editAts (printD (sizD b)) []) ++ [121] ++ Sh.lastTag [98] ++ [])) ++ Sh.lastTag [112] ++ R = wantL a b ++ R := by
  rw [ed_c, ed_s]
  simp [Sh.first2, Sh.ats2, Sh.at2, Sh.lastTag, Sh.styleL, wantL]
theorem outH1 (a b : Bs) : Sh.text (Sh.edit (fun k => printD (lkH1 a b k)) (fun _ _ => List.replicate (rw2 a b).length 32) 0 (tH1 (ruTx (rw2 a b)))) = styG 2 ++ (wantL a b ++ []) := by
  rw [← pb_text]
  rfl
theorem outH2 (a b : Bs) : Sh.text (Sh.edit (fun k => printD (lkH2 a b k)) (fun _ _ => List.replicate (rw2 a b).length 32) 0 (tH2 (ruTx (rw2 a b)))) = wantL a b ++ (styG 2 ++ []) := by
  rw [← pb_text]
  rfl
theorem outH3 (a b : Bs) : Sh.text (Sh.edit (fun k => printD (lkH1 a b k)) (fun j _ => List.replicate (rw3 a b j).length 32) 0 (tH3 (ruTx [rP a]) (ruTx [rB b]))) = styG 1 ++ (wantL a b ++ (styG 1 ++ [])) := by
  rw [← pb_text]
  rfl
theorem want_len (a b : Bs) : (wantL a b).length = a.length + b.length + 47 := by
  simp [wantL]
  omega
theorem noown {v : Sh.Vw} (h : v.ats = []) : ∃ D a, Sh.declsParse (Sh.styOf v.ats) = .ok D ∧ allB (D.map Sh.ofL) = some a := by
  rw [h]
  exact ⟨[], [], by kernel_rfl, rfl⟩
theorem lkH1_20 (a b : Bs) (k : Nat) : (lkH1 a b k).length ≤ 20 := by
  unfold lkH1
  split <;> simp
theorem lkH2_20 (a b : Bs) (k : Nat) : (lkH2 a b k).length ≤ 20 := by
  unfold lkH2
  split <;> simp
theorem pgH1 (ha : Wd a) (hb : Wd b) : Pg (tH1 (ruTx (rw2 a b))) (fun _ => rw2 a b) (lkH1 a b) where
  ok := ⟨by decide, atsN, first_free (rw2_6 ha hb), by decide, nm_p, by decide, atsN, ⟨by decide, by decide, nm_b, by decide, atsN, ⟨by decide, trivial⟩, trivial⟩, trivial⟩
  few := by show 3 ≤ 120; decide
  len := by
    have h := rw2_len a b
    have la := ha.len
    have lb := hb.len
    simp [tH1, tPB, Sh.text, Sh.first2, Sh.ats2, Sh.lastTag, Sh.styleL]
    omega
  inn := fun y hy => by
    rw [List.mem_singleton.1 (show y ∈ [(0, ruTx (rw2 a b))] from hy)]
    have h := rw2_len a b
    have la := ha.len
    have lb := hb.len
    exact ⟨rfl, rw2_ok ha hb, by show (ruTx (rw2 a b)).length ≤ 4000; omega, by show 2 ≤ 60; decide, rw2_all a b⟩
  sixty := by show 2 ≤ 60; decide
  own := fun v hv => by
    have hv2 : v ∈ [⟨Sh.styleL, -1, []⟩, ⟨[112], -1, []⟩, ⟨[98], 1, []⟩] := hv
    refine noown ?_
    simp at hv2
    rcases hv2 with rfl | rfl | rfl <;> rfl
  eight := by kernel_rfl
  look := fun k hk => by
    have hk3 : k < 3 := hk
    have h2 : k = 0 ∨ k = 1 ∨ k = 2 := by omega
    rcases h2 with rfl | rfl | rfl <;> intro hk2 <;> kernel_rfl
  twenty := lkH1_20 a b
  out := by
    show (Sh.text (Sh.edit (fun k => printD (lkH1 a b k)) (fun _ _ => List.replicate (rw2 a b).length 32) 0 (tH1 (ruTx (rw2 a b))))).length ≤ 6000
    rw [outH1]
    have la := ha.len
    have lb := hb.len
    have := want_len a b
    simp
    omega
theorem pgH2 (ha : Wd a) (hb : Wd b) : Pg (tH2 (ruTx (rw2 a b))) (fun _ => rw2 a b) (lkH2 a b) where
  ok := ⟨by decide, nm_p, by decide, atsN, ⟨by decide, by decide, nm_b, by decide, atsN, ⟨by decide, trivial⟩, trivial⟩, by decide, atsN, first_free (rw2_6 ha hb), trivial⟩
  few := by show 3 ≤ 120; decide
  len := by
    have h := rw2_len a b
    have la := ha.len
    have lb := hb.len
    simp [tH2, tPB, Sh.text, Sh.first2, Sh.ats2, Sh.lastTag, Sh.styleL]
    omega
  inn := fun y hy => by
    rw [List.mem_singleton.1 (show y ∈ [(2, ruTx (rw2 a b))] from hy)]
    have h := rw2_len a b
    have la := ha.len
    have lb := hb.len
    exact ⟨rfl, rw2_ok ha hb, by show (ruTx (rw2 a b)).length ≤ 4000; omega, by show 2 ≤ 60; decide, rw2_all a b⟩
  sixty := by show 2 ≤ 60; decide
  own := fun v hv => by
    have hv2 : v ∈ [⟨[112], -1, []⟩, ⟨[98], 0, []⟩, ⟨Sh.styleL, -1, []⟩] := hv
    refine noown ?_
    simp at hv2
    rcases hv2 with rfl | rfl | rfl <;> rfl
  eight := by kernel_rfl
  look := fun k hk => by
    have hk3 : k < 3 := hk
    have h2 : k = 0 ∨ k = 1 ∨ k = 2 := by omega
    rcases h2 with rfl | rfl | rfl <;> intro hk2 <;> kernel_rfl
  twenty := lkH2_20 a b
  out := by
    show (Sh.text (Sh.edit (fun k => printD (lkH2 a b k)) (fun _ _ => List.replicate (rw2 a b).length 32) 0 (tH2 (ruTx (rw2 a b))))).length ≤ 6000
    rw [outH2]
    have la := ha.len
    have lb := hb.len
    have := want_len a b
    simp
    omega
theorem pgH3 (ha : Wd a) (hb : Wd b) : Pg (tH3 (ruTx [rP a]) (ruTx [rB b])) (rw3 a b) (lkH1 a b) where
  ok := ⟨by decide, atsN, first_free (by simpa [ruTx] using rP_6 ha), by decide, nm_p, by decide, atsN, ⟨by decide, by decide, nm_b, by decide, atsN, ⟨by decide, trivial⟩, trivial⟩, by decide, atsN, first_free (by simpa [ruTx] using rB_6 hb), trivial⟩
  few := by show 4 ≤ 120; decide
  len := by
    have h := rP_len a
    have h' := rB_len b
    have la := ha.len
    have lb := hb.len
    simp [tH3, tPB, Sh.text, Sh.first2, Sh.ats2, Sh.lastTag, Sh.styleL]
    omega
  inn := fun y hy => by
    have h := rP_len a
    have h' := rB_len b
    have la := ha.len
    have lb := hb.len
    rcases List.mem_cons.1 (show y ∈ [(0, ruTx [rP a]), (3, ruTx [rB b])] from hy) with rfl | hy
    · exact ⟨rfl, fun y hy => by rw [List.mem_singleton.1 (show y ∈ [rP a] from hy)]; exact okP ha, by show (ruTx [rP a]).length ≤ 4000; omega, by show 1 ≤ 60; decide, fun r hr => ruAt_dec (Q := fun D => ∃ a, allB (D.map Sh.ofL) = some a) [rP a] 0 (fun y hy => by rw [List.mem_singleton.1 hy]; exact all_p a) r hr⟩
    · rw [List.mem_singleton.1 hy]
      exact ⟨rfl, fun y hy => by rw [List.mem_singleton.1 (show y ∈ [rB b] from hy)]; exact okB hb, by show (ruTx [rB b]).length ≤ 4000; omega, by show 1 ≤ 60; decide, fun r hr => ruAt_dec (Q := fun D => ∃ a, allB (D.map Sh.ofL) = some a) [rB b] 0 (fun y hy => by rw [List.mem_singleton.1 hy]; exact all_b b) r hr⟩
  sixty := by show 2 ≤ 60; decide
  own := fun v hv => by
    have hv2 : v ∈ [⟨Sh.styleL, -1, []⟩, ⟨[112], -1, []⟩, ⟨[98], 1, []⟩, ⟨Sh.styleL, -1, []⟩] := hv
    refine noown ?_
    simp at hv2
    rcases hv2 with rfl | rfl | rfl | rfl <;> rfl
  eight := by kernel_rfl
  look := fun k hk => by
    have hk3 : k < 4 := hk
    have h2 : k = 0 ∨ k = 1 ∨ k = 2 ∨ k = 3 := by omega
    rcases h2 with rfl | rfl | rfl | rfl <;> intro hk2 <;> kernel_rfl
  twenty := lkH1_20 a b
  out := by
    rw [outH3]
    have la := ha.len
    have lb := hb.len
    have := want_len a b
    simp
    omega
end
end Go.Proofs.YtblkldfokeeaeacGreatDoor
