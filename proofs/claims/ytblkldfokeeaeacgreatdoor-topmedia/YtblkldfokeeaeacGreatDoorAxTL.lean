/-
  The page of the law TopMedia: which rules stay, and what it is folded to. No program's function is named here.
-/
import Derived.Test.YtblkldfokeeaeacGreatDoorAxTG
import Derived.Test.YtblkldfokeeaeacGreatDoorAxTI
namespace Go.Proofs.YtblkldfokeeaeacGreatDoor
open Go.RowKit Go.Maps

def rA (a : Bs) : RuT := ruP [112] [nmSel [112]] colorL a
def rZ (b : Bs) : RuT := ruP [112] [nmSel [112]] sizeL b
def mdHead : Bs := [64, 109, 101, 100, 105, 97, 32, 119, 105, 100, 101, 123]
def mdT (a b c : Bs) : Bs := (rA a).1 ++ ((rZ b).1 ++ (mdHead ++ ((rA c).1 ++ [125])))
def wideL : Bs := [119, 105, 100, 101]
def mdR (a b c : Bs) : List Sh.Rl := [⟨[], [nmSel [112]], [⟨colorL, a, false⟩], 0, (rA a).1.length⟩, ⟨[], [nmSel [112]], [⟨sizeL, b, false⟩], (rA a).1.length, (rA a).1.length + (rZ b).1.length⟩, ⟨wideL, [nmSel [112]], [⟨colorL, c, false⟩], (rA a).1.length + (rZ b).1.length + 12, (rA a).1.length + (rZ b).1.length + 12 + (rA c).1.length⟩]
section
variable {a b c : Bs}
theorem mdT_len (a b c : Bs) : (mdT a b c).length = a.length + b.length + c.length + 39 := by
  simp [mdT, rA, rZ, ruP, mdHead]
  omega
theorem md_sheet (ha : Wd a) (hb : Wd b) (hc : Wd c) : Sh.sheetParse (mdT a b c) = .ok (mdR a b c) := by
  have la := ha.len
  have lb := hb.len
  have lc := hc.len
  have hl := mdT_len a b c
  have oA : RuOk (rA a) := ru_plain hp_p hs_p nmColor (by decide) ha
  have oZ : RuOk (rZ b) := ru_plain hp_p hs_p nmSize (by decide) hb
  have oC : RuOk (rA c) := ru_plain hp_p hs_p nmColor (by decide) hc
  rw [Sh.Ps.iff (by omega)]
  have h0 : (mdT a b c).drop 0 = ruTx [rA a, rZ b] ++ (mdHead ++ ((rA c).1 ++ [125])) := by simp [mdT, ruTx]
  refine ps_rules [rA a, rZ b] 0 [] _ _ (fun x hx => ?_) h0 (by show 0 + 2 ≤ 60; decide) ?_
  · rcases List.mem_cons.1 hx with rfl | hx
    · exact oA
    · rw [List.mem_singleton.1 hx]; exact oZ
  have e : 0 + (ruTx [rA a, rZ b]).length = (rA a).1.length + (rZ b).1.length := by simp [ruTx]
  rw [e]
  have h1 : (mdT a b c).drop ((rA a).1.length + (rZ b).1.length) = mdHead ++ ((rA c).1 ++ [125]) := by rw [← e]; exact Sh.at_add h0
  generalize hk : (rA a).1.length + (rZ b).1.length = k at *
  have h2 : (mdT a b c).drop k = 64 :: ([109, 101, 100, 105, 97, 32, 119, 105, 100, 101, 123] ++ ((rA c).1 ++ [125])) := h1
  have h3 : (mdT a b c).drop (k + 12) = (rA c).1 ++ [125] := Sh.at_add (u := mdHead) h1
  have h4 : (mdT a b c).drop (k + 6) = 32 :: 119 :: ([105, 100, 101, 123] ++ ((rA c).1 ++ [125])) := Sh.at_add (u := [64, 109, 101, 100, 105, 97]) h1
  have h5 := Sh.at_one h4
  have h6 : (mdT a b c).drop (k + 6 + 1 + 4) = 123 :: ((rA c).1 ++ [125]) := Sh.at_add (u := wideL) h5
  obtain ⟨r1, x, hx, x1, x2, x3, x4, x5⟩ := oC.move (n := 2) h3 (by decide)
  have h7 : (mdT a b c).drop (k + 12 + (rA c).1.length) = [125] := Sh.at_add h3
  have h8 := Sh.at_one h7
  refine .media (n := wideL) (k2 := k + 12) (Sh.gp_stop_at (Sh.at_byte h2) (by decide) (by decide) (by decide)) (Sh.at_lt h2) (Sh.at_tok (t := Sh.mediaL) h1) ?_ ?_
  · unfold Sh.mediaHead
    refine Sh.bnd_ok.2 ⟨true, k + 6 + 1, Sh.gaps_one (by omega) h4 (by decide) (by decide) (by decide), ?_⟩
    rw [if_pos rfl]
    refine Sh.bnd_ok.2 ⟨wideL, k + 6 + 1 + 4, Sh.sname_read (nameOk (by decide) (by decide) (by decide)) (.inr ⟨123, _, rfl, by decide⟩) h5, ?_⟩
    refine Sh.bnd_ok.2 ⟨false, k + 6 + 1 + 4, Sh.gaps_none h6 (by decide) (by decide) (by decide), ?_⟩
    exact Sh.bnd_ok.2 ⟨(), k + 12, Sh.tok_iff.2 ⟨Sh.at_byte h6, by omega⟩, rfl⟩
  · refine .rule1 (Sh.gp_stop_at hx x1 x2 x3) (Sh.no_tok hx x5) r1 ?_
    refine .close (k1 := k + 12 + (rA c).1.length) (Sh.gp_stop_at (Sh.at_byte h7) (by decide) (by decide) (by decide)) (Sh.one_tok.2 (Sh.at_byte h7)) ?_
    have hm : mdR a b c = [] ++ ruAt [] 0 [rA a, rZ b] ++ [⟨wideL, (rA c).2.1, (rA c).2.2, k + 12, k + 12 + (rA c).1.length⟩] := by
      unfold mdR
      rw [hk]
      simp [ruAt, rA, rZ, ruP] at hk ⊢
      omega
    rw [← hm]
    exact .fin (k1 := k + 12 + (rA c).1.length + 1) (Sh.gp_end (Sh.at_end h8)) (Sh.at_end h8)
theorem md_no6 (ha : Wd a) (hb : Wd b) (hc : Wd c) : ∀ x ∈ mdT a b c, x ≠ 60 := fun x hx => by
  unfold mdT at hx
  have hA : ∀ {q : Bs}, Wd q → ∀ y ∈ (rA q).1, y ≠ 60 := fun {q} h => by
    have := no60_of (p := [112, 123, 99, 111, 108, 111, 114, 58]) (q := [125]) h (by decide) (by decide)
    simpa [rA, ruP] using this
  have hZ : ∀ y ∈ (rZ b).1, y ≠ 60 := by
    have := no60_of (p := [112, 123, 115, 105, 122, 101, 58]) (q := [125]) hb (by decide) (by decide)
    simpa [rZ, ruP] using this
  rcases List.mem_append.1 hx with hx | hx
  · exact hA ha x hx
  rcases List.mem_append.1 hx with hx | hx
  · exact hZ x hx
  rcases List.mem_append.1 hx with hx | hx
  · exact (show ∀ y ∈ mdHead, y ≠ 60 by decide) x hx
  rcases List.mem_append.1 hx with hx | hx
  · exact hA hc x hx
  · rw [List.mem_singleton.1 hx]; decide
/-! ### which rules stay -/
def stC (r : Ru) : Bool := r.decls.any fun d => d.name.data.toList == colorL
def stCR (r : Sh.Rl) : Bool := r.decls.any fun d => d.name == colorL
theorem stC_shift (o : Nat) (r : Sh.Rl) : stC (ofR (shift o r)) = stCR r := by
  show (r.decls.map Sh.ofL).any _ = _
  rw [List.any_map]
  rfl
def mdU (a b c : Bs) : List Ru := (treeR (tE (mdT a b c)) fun _ => mdR a b c).map ofR
def mdN (a b c : Bs) : List Nd := (Sh.nodes 0 (-1) 0 (tE (mdT a b c))).map ofN
theorem md_stay (a b c : Bs) : ∀ r ∈ mdU a b c, stayB (mdN a b c) (mdU a b c) r = stC r := by
  have hE : ((mdU a b c).all fun r => (mdU a b c).all fun q => !(stC q && meetB (mdN a b c) r q) || stC r) = true := by kernel_rfl
  have hM : ((mdU a b c).all fun r => mdSt r == (r.media.data.toList == wideL)) = true := by kernel_rfl
  refine stay_st (fun r hr hm => ?_) (fun r hr q hq h1 h2 => ?_) (fun r hr hs => ?_)
  · have hr2 : r ∈ [_, _, _] := hr
    rcases List.mem_cons.1 hr2 with rfl | hr2
    · rfl
    rcases List.mem_cons.1 hr2 with rfl | hr2
    · exfalso
      have : (bsL []).toList.isEmpty = false := hm
      rw [bsL_toList] at this
      cases this
    · rw [List.mem_singleton.1 hr2]; rfl
  · have := List.all_eq_true.1 (List.all_eq_true.1 hE r hr) q hq
    rw [h1, h2] at this
    simpa using this
  · have b3 : Stay (mdN a b c) (mdU a b c) (ofR (shift 7 ⟨wideL, [nmSel [112]], [⟨colorL, c, false⟩], (rA a).1.length + (rZ b).1.length + 12, (rA a).1.length + (rZ b).1.length + 12 + (rA c).1.length⟩)) := by
      refine .base (List.mem_cons_of_mem _ (List.mem_cons_of_mem _ (List.mem_cons_self ..))) ?_
      show (bsL wideL).toList.isEmpty = false
      rw [bsL_toList]; rfl
    have hr2 : r ∈ [_, _, _] := hr
    rcases List.mem_cons.1 hr2 with rfl | hr2
    · exact .step hr b3 (by kernel_rfl)
    rcases List.mem_cons.1 hr2 with rfl | hr2
    · cases hs
    · rw [List.mem_singleton.1 hr2]; exact b3
end
end Go.Proofs.YtblkldfokeeaeacGreatDoor
