/-
  The law TopMedia returns true. Conditions: the tables hold what their texts say; the texts are shorter than 2 to the 63.
-/
import Derived.Test.YtblkldfokeeaeacGreatDoorAxTL
import Derived.Test.YtblkldfokeeaeacGreatDoorAxC9
namespace Go.Proofs.YtblkldfokeeaeacGreatDoor
open Go.RowKit Go.Maps

section
variable {a b c : Bs}
theorem md_rd (ha : Wd a) (hb : Wd b) (hc : Wd c) : Sh.Ok 1 (tE (mdT a b c)) ∧ (∀ x ∈ Sh.inn 0 (tE (mdT a b c)), Sh.sheetParse x.2 = .ok (mdR a b c)) ∧ Rd (Sh.text (tE (mdT a b c))) (Sh.nodes 0 (-1) 0 (tE (mdT a b c))) (treeR (tE (mdT a b c)) fun _ => mdR a b c) := by
  have hl := mdT_len a b c
  have la := ha.len
  have lb := hb.len
  have lc := hc.len
  have ho : Sh.Ok 1 (tE (mdT a b c)) := ⟨by decide, atsN, first_free (md_no6 ha hb hc), by decide, nm_p, by decide, atsN, ⟨by decide, trivial⟩, trivial⟩
  have hA : ∀ x ∈ Sh.inn 0 (tE (mdT a b c)), Sh.sheetParse x.2 = .ok (mdR a b c) := fun x hx => by
    rw [List.mem_singleton.1 (show x ∈ [(0, mdT a b c)] from hx)]
    exact md_sheet ha hb hc
  refine ⟨ho, hA, rd_tree ho (by show 2 ≤ 120; decide) (by rw [tE_len]; omega) hA (by show 3 ≤ 60; decide) (fun x hx r hr => ?_) (fun v hv => ?_)⟩
  · have hr2 : r ∈ [_, _, _] := hr
    rcases List.mem_cons.1 hr2 with rfl | hr2
    · exact ⟨_, all_one (isE_color a false)⟩
    rcases List.mem_cons.1 hr2 with rfl | hr2
    · exact ⟨_, all_one (isE_size b false)⟩
    · rw [List.mem_singleton.1 hr2]; exact ⟨_, all_one (isE_color c false)⟩
  · rcases List.mem_cons.1 (show v ∈ [⟨Sh.styleL, -1, []⟩, ⟨[112], -1, []⟩] from hv) with rfl | hv
    · exact ⟨[], [], by kernel_rfl, rfl⟩
    · rw [List.mem_singleton.1 hv]
      exact ⟨[], [], by kernel_rfl, rfl⟩
def lkZ (b : Bs) : Nat → List Dc
  | 1 => [⟨bsL sizeL, bsL b, false⟩]
  | _ => []
theorem md_look0 (a b c : Bs) (hk : 0 < (Sh.nodes 0 (-1) 0 (tE (mdT a b c))).length) : lookOf ((((mdU a b c).filter fun r => !stC r).flatMap (ruCl (mdN a b c) 0 [])) ++ asC true w00 (ownD (Sh.nodes 0 (-1) 0 (tE (mdT a b c)))[0])) = lkZ b 0 := by kernel_rfl
theorem md_look1 (a b c : Bs) (hk : 1 < (Sh.nodes 0 (-1) 0 (tE (mdT a b c))).length) : lookOf ((((mdU a b c).filter fun r => !stC r).flatMap (ruCl (mdN a b c) 1 [])) ++ asC true w00 (ownD (Sh.nodes 0 (-1) 0 (tE (mdT a b c)))[1])) = lkZ b 1 := by kernel_rfl
theorem md_lookAt (ha : Wd a) (hb : Wd b) (hc : Wd c) (k : Nat) (hk : k < 2) : lookAt (mdN a b c) (mdU a b c) k = lkZ b k := by
  have hr := (md_rd ha hb hc).2.2
  have hk' : k < (Sh.nodes 0 (-1) 0 (tE (mdT a b c))).length := hk
  have h := look_st (st := stC) hr (md_stay a b c) hk'
  have h1 : k = 0 ∨ k = 1 := by omega
  rcases h1 with rfl | rfl
  · exact h.trans (md_look0 a b c hk')
  · exact h.trans (md_look1 a b c hk')
theorem printZ (b : Bs) : printD [⟨bsL sizeL, bsL b, false⟩] = sizeL ++ [58, 32] ++ b ++ [] := rfl
theorem md_fold (ha : Wd a) (hb : Wd b) (hc : Wd c) : ∃ T, foldB (Sh.text (tE (mdT a b c))) = .ok T := by
  obtain ⟨ho, hA, hr⟩ := md_rd ha hb hc
  have la := ha.len
  have lb := hb.len
  have lc := hc.len
  refine ⟨_, fold_st (v := fun k => printD (lkZ b k)) hr ho hA (md_stay a b c) stC_shift (fun n hn => ?_) (fun k hk => ?_) ?_⟩
  · have hv : Sh.vw n ∈ Sh.views (-1) 0 (tE (mdT a b c)) := by
      rw [← Sh.nodes_views _ 0]
      exact List.mem_map.2 ⟨n, hn, rfl⟩
    have := List.all_eq_true.1 (show ((Sh.views (-1) 0 (tE (mdT a b c))).all fun v => decide (v.ats.length < 8)) = true by kernel_rfl) _ hv
    simp [Sh.vw] at this
    exact this
  · have h := md_lookAt ha hb hc k hk
    refine ⟨?_, ?_⟩
    · show (lookAt (mdN a b c) (mdU a b c) k).length ≤ 20
      rw [h]
      match k with
      | 0 => exact Nat.zero_le _
      | 1 => show 1 ≤ 20; decide
      | _ + 2 => exact Nat.zero_le _
    · show printD (lookAt (mdN a b c) (mdU a b c) k) = _
      rw [h]
  · have e1 : (Sh.first2 Sh.styleL [] ++ (Sh.sub (mdT a b c) 0 (rA a).1.length ++ [32] ++ (mdT a b c).drop ((rA a).1.length + (rZ b).1.length)) ++ Sh.lastTag Sh.styleL ++ (Sh.first2 [112] (Sh.editAts (printD [⟨bsL sizeL, bsL b, false⟩]) []) ++ [120] ++ Sh.lastTag [112] ++ [])).length ≤ 6000 := by
      have hb2 := edit_nil (v := printD [⟨bsL sizeL, bsL b, false⟩]) (by rw [printZ]; simp; omega)
      have hl := mdT_len a b c
      have h1 := sub_len_le (mdT a b c) 0 (rA a).1.length
      have h2 : ((mdT a b c).drop ((rA a).1.length + (rZ b).1.length)).length ≤ (mdT a b c).length := by simp
      have e0 : Sh.ats2 [] = [] := rfl
      simp only [Sh.first2, Sh.lastTag, Sh.styleL, e0, List.length_append, List.length_cons, List.length_nil]
      omega
    exact e1
theorem md_far (a b c : Bs) (hk : 1 < (Sh.nodes 0 (-1) 0 (tE (mdT a b c))).length) : lookF (((mdU a b c).flatMap (ruCl (mdN a b c) 1 [])) ++ asC true w00 (ownD (Sh.nodes 0 (-1) 0 (tE (mdT a b c)))[1])) colorL = some ⟨bsL colorL, bsL a, false⟩ := by kernel_rfl
theorem md_near (a b c : Bs) (hk : 1 < (Sh.nodes 0 (-1) 0 (tE (mdT a b c))).length) : lookF (((mdU a b c).flatMap (ruCl (mdN a b c) 1 [⟨#[119, 105, 100, 101]⟩])) ++ asC true w00 (ownD (Sh.nodes 0 (-1) 0 (tE (mdT a b c)))[1])) colorL = some ⟨bsL colorL, bsL c, false⟩ := by kernel_rfl
/-- What the folded page is. -/
structure MdT (a b c T : Bs) (L' : List Sh.Nd) (R' : List Sh.Rl) : Prop where
  fold : foldB (Sh.text (tE (mdT a b c))) = .ok T
  again : Rd T L' R'
  nodes : L'.length = 2
  rules : R'.length = 2
  own : ∀ h : 1 < L'.length, ownV L'[1] = printD [⟨bsL sizeL, bsL b, false⟩]
  far : valueB styB inhB iniB (L'.map ofN) (R'.map ofR) [] ⟨#[99, 111, 108, 111, 114]⟩ 1 = .ok (bsL a)
  near : valueB styB inhB iniB (L'.map ofN) (R'.map ofR) [⟨#[119, 105, 100, 101]⟩] ⟨#[99, 111, 108, 111, 114]⟩ 1 = .ok (bsL c)
theorem md_all (ha : Wd a) (hb : Wd b) (hc : Wd c) : ∃ T L' R', MdT a b c T L' R' := by
  obtain ⟨ho, hA, hr⟩ := md_rd ha hb hc
  obtain ⟨T, hf⟩ := md_fold ha hb hc
  obtain ⟨L0, R0, L', R', t0, h1, _, _⟩ := fold_ok hf
  have e := read_iff.2 h1.read
  rw [read_iff.2 hr] at e
  injection e with e
  injection e with e1 e2
  subst e1 e2
  have hk : 1 < (Sh.nodes 0 (-1) 0 (tE (mdT a b c))).length := by show 1 < 2; decide
  refine ⟨T, L', R', hf, h1.again, h1.len, ?_, fun h => ?_, ?_, ?_⟩
  · have := congrArg List.length h1.stay
    rw [List.length_map, List.length_map] at this
    rw [this]
    have e3 : ((treeR (tE (mdT a b c)) fun _ => mdR a b c).filter fun r => stayB (mdN a b c) (mdU a b c) (ofR r)) = (treeR (tE (mdT a b c)) fun _ => mdR a b c).filter fun r => stC (ofR r) := List.filter_congr fun r hr2 => md_stay a b c _ (List.mem_map.2 ⟨r, hr2, rfl⟩)
    show ((treeR (tE (mdT a b c)) fun _ => mdR a b c).filter fun r => stayB (mdN a b c) (mdU a b c) (ofR r)).length = 2
    rw [e3]
    kernel_rfl
  · rw [h1.own' 1]
    show printD (lookAt (mdN a b c) (mdU a b c) 1) = _
    rw [md_lookAt ha hb hc 1 (by decide)]
    rfl
  · obtain ⟨v, g1, g2⟩ := h1.value inhB iniB [] ⟨#[99, 111, 108, 111, 114]⟩ 1 hk
    have g3 := value_there styF inhB iniB (name := ⟨#[99, 111, 108, 111, 114]⟩) (hr.claims hk [] (Q := mdU a b c) (fun _ h => h)) (md_far a b c hk)
    rw [sty_eq, g2]
    exact congrArg Except.ok (Except.ok.inj (g1.symm.trans g3))
  · obtain ⟨v, g1, g2⟩ := h1.value inhB iniB [⟨#[119, 105, 100, 101]⟩] ⟨#[99, 111, 108, 111, 114]⟩ 1 hk
    have g3 := value_there styF inhB iniB (name := ⟨#[99, 111, 108, 111, 114]⟩) (hr.claims hk [⟨#[119, 105, 100, 101]⟩] (Q := mdU a b c) (fun _ h => h)) (md_near a b c hk)
    rw [sty_eq, g2]
    exact congrArg Except.ok (Except.ok.inj (g1.symm.trans g3))
end
end Go.Proofs.YtblkldfokeeaeacGreatDoor
