/-
  The law TopEdge returns true. Conditions: the tables hold what their texts say; the texts are shorter than 2 to the 63.
-/
import Derived.Test.YtblkldfokeeaeacGreatDoorAxTE
namespace Go.Proofs.YtblkldfokeeaeacGreatDoor
open Go.RowKit Go.Maps

def lkD (D : List Dc) : Nat → List Dc
  | 1 => D
  | _ => []
theorem ruCl_eq {l : List Nd} {k : Int} {r : Ru} {A : List Dc} (h : allB r.decls = some A) (hm : counts r.media [] = true) : ruCl l k [] r = if (bestB l k r.sels).2 then asC false (bestB l k r.sels).1 A else [] := by
  unfold ruCl ruleC
  rw [h, hm, Bool.true_and]
  split <;> rfl
theorem all_edge {a : Bs} (ha : Wd a) : allB [Sh.ofL ⟨edgeL, a, false⟩] = some [⟨sd0, bsL a, false⟩, ⟨sd1, bsL a, false⟩, ⟨sd2, bsL a, false⟩, ⟨sd3, bsL a, false⟩] := by
  have h1 : isE (Sh.ofL ⟨edgeL, a, false⟩) = true := by kernel_rfl
  have h2 : cutB (Sh.ofL ⟨edgeL, a, false⟩).val = [bsL a] := cut_word ha
  unfold allB expB
  rw [h1, if_pos rfl, h2]
  rfl
theorem counts_nil : counts (bsL []) [] = true := by
  unfold counts
  rw [bsL_toList]
  rfl
theorem ruCl_edge {a : Bs} (ha : Wd a) (l : List Nd) (k : Int) (ss : List (List Sh.Prt)) (o f t : Nat) : ruCl l k [] (ofR (shift o ⟨[], ss, [⟨edgeL, a, false⟩], f, t⟩)) = if (bestB l k (ss.map (·.map ofP))).2 then asC false (bestB l k (ss.map (·.map ofP))).1 [⟨sd0, bsL a, false⟩, ⟨sd1, bsL a, false⟩, ⟨sd2, bsL a, false⟩, ⟨sd3, bsL a, false⟩] else [] :=
  ruCl_eq (all_edge ha) counts_nil
theorem isE_left (v : Bs) (s : Bool) : isE (Sh.ofL ⟨leftL, v, s⟩) = false := by kernel_rfl
def tE (inner : Bs) : Sh.Tr := .sty [] inner (.el [112] [] (.txt 120 .nil) .nil)
theorem tE_len (s : Bs) : (Sh.text (tE s)).length = s.length + 23 := by
  simp [tE, Sh.text, Sh.first2, Sh.ats2, Sh.lastTag, Sh.styleL]
theorem ruAt_len (md : Bs) : ∀ (l : List RuT) (k : Nat), (ruAt md k l).length = l.length
  | [], _ => rfl
  | x :: l, k => by show (ruAt md _ l).length + 1 = _; rw [ruAt_len md l]; rfl
theorem edit_nil {v : Bs} (hv : v.length ≤ 1000) : (Sh.ats2 (Sh.editAts v [])).length ≤ 1100 := by
  have : Sh.editAts v [] = if v = [] then [] else [(Sh.styleL, v)] := rfl
  rw [this]
  split
  · simp [Sh.ats2]
  · simp [Sh.ats2, Sh.at2, Sh.styleL]; omega
theorem pgE {rows : List RuT} {D : List Dc} (hr : ∀ y ∈ rows, RuOk y) (hl : (ruTx rows).length ≤ 400) (h6 : ∀ b ∈ ruTx rows, b ≠ 60) (h60 : rows.length ≤ 5) (hal : ∀ r ∈ ruAt [] 0 rows, ∃ a, allB (r.decls.map Sh.ofL) = some a) (hD : D.length ≤ 20) (hp : (printD D).length ≤ 1000)
    (h0 : ∀ hk : 0 < (Sh.nodes 0 (-1) 0 (tE (ruTx rows))).length, lookOf ((((treeR (tE (ruTx rows)) fun _ => ruAt [] 0 rows).map ofR).flatMap (ruCl ((Sh.nodes 0 (-1) 0 (tE (ruTx rows))).map ofN) 0 [])) ++ asC true w00 (ownD (Sh.nodes 0 (-1) 0 (tE (ruTx rows)))[0])) = [])
    (h1 : ∀ hk : 1 < (Sh.nodes 0 (-1) 0 (tE (ruTx rows))).length, lookOf ((((treeR (tE (ruTx rows)) fun _ => ruAt [] 0 rows).map ofR).flatMap (ruCl ((Sh.nodes 0 (-1) 0 (tE (ruTx rows))).map ofN) 1 [])) ++ asC true w00 (ownD (Sh.nodes 0 (-1) 0 (tE (ruTx rows)))[1])) = D) : Pg (tE (ruTx rows)) (fun _ => rows) (lkD D) where
  ok := ⟨by decide, atsN, first_free h6, by decide, nm_p, by decide, atsN, ⟨by decide, trivial⟩, trivial⟩
  few := by show 2 ≤ 120; decide
  len := by rw [tE_len]; omega
  inn := fun y hy => by
    rw [List.mem_singleton.1 (show y ∈ [(0, ruTx rows)] from hy)]
    exact ⟨rfl, hr, by show (ruTx rows).length ≤ 4000; omega, by show rows.length ≤ 60; omega, hal⟩
  sixty := by
    have : treeR (tE (ruTx rows)) (fun _ => ruAt [] 0 rows) = (ruAt [] 0 rows).map (shift 7) ++ ([] ++ []) := rfl
    rw [this]
    simp [ruAt_len]
    omega
  own := fun v hv => by
    rcases List.mem_cons.1 (show v ∈ [⟨Sh.styleL, -1, []⟩, ⟨[112], -1, []⟩] from hv) with rfl | hv
    · exact ⟨[], [], by kernel_rfl, rfl⟩
    · rw [List.mem_singleton.1 hv]
      exact ⟨[], [], by kernel_rfl, rfl⟩
  eight := by kernel_rfl
  look := fun k hk hk2 => by
    have hk3 : k < 2 := hk
    match k, hk3 with
    | 0, _ => exact h0 hk2
    | 1, _ => exact h1 hk2
  twenty := fun k => match k with
    | 0 => Nat.zero_le _
    | 1 => hD
    | _ + 2 => Nat.zero_le _
  out := by
    have e1 : (Sh.first2 Sh.styleL [] ++ List.replicate rows.length 32 ++ Sh.lastTag Sh.styleL ++ (Sh.first2 [112] (Sh.editAts (printD D) []) ++ [120] ++ Sh.lastTag [112] ++ [])).length ≤ 6000 := by
      have hb := edit_nil hp
      have e0 : Sh.ats2 [] = [] := rfl
      simp [Sh.first2, Sh.lastTag, Sh.styleL, e0] at hb ⊢
      omega
    exact e1
section
variable {a b : Bs}
theorem nmEdge : Sh.NameOK edgeL := nameOk (by decide) (by decide) (by decide)
theorem nmLeft : Sh.NameOK leftL := nameOk (by decide) (by decide) (by decide)
def rE (a : Bs) : RuT := ruP [112] [nmSel [112]] edgeL a
def rL (b : Bs) : RuT := ruP [112] [nmSel [112]] leftL b
def sides (a b c d : Bs) : List Dc := [⟨sd2, bsL a, false⟩, ⟨sd3, bsL b, false⟩, ⟨sd1, bsL c, false⟩, ⟨sd0, bsL d, false⟩]
theorem print4 (a b c d : Bs) : printD (sides a b c d) = [101, 100, 103, 101, 45, 98, 111, 116, 116, 111, 109] ++ [58, 32] ++ a ++ [] ++ [59, 32] ++ ([101, 100, 103, 101, 45, 108, 101, 102, 116] ++ [58, 32] ++ b ++ [] ++ [59, 32] ++ ([101, 100, 103, 101, 45, 114, 105, 103, 104, 116] ++ [58, 32] ++ c ++ [] ++ [59, 32] ++ ([101, 100, 103, 101, 45, 116, 111, 112] ++ [58, 32] ++ d ++ []))) := rfl
theorem ok_el (ha : Wd a) (hb : Wd b) : (RuOk (rE a) ∧ RuOk (rL b)) := ⟨ru_plain hp_p hs_p nmEdge (by decide) ha, ru_plain hp_p hs_p nmLeft (by decide) hb⟩
theorem no6_el (ha : Wd a) (hb : Wd b) : (∀ x ∈ (rE a).1, x ≠ 60) ∧ (∀ x ∈ (rL b).1, x ≠ 60) := by
  refine ⟨?_, ?_⟩
  · have := no60_of (p := [112, 123, 101, 100, 103, 101, 58]) (q := [125]) ha (by decide) (by decide)
    simpa [rE, ruP] using this
  · have := no60_of (p := [112, 123, 101, 100, 103, 101, 45, 108, 101, 102, 116, 58]) (q := [125]) hb (by decide) (by decide)
    simpa [rL, ruP] using this
theorem all_two {x y : RuT} {A B : List Dc} (hx : allB (x.2.2.map Sh.ofL) = some A) (hy : allB (y.2.2.map Sh.ofL) = some B) : ∀ r ∈ ruAt [] 0 [x, y], ∃ a, allB (r.decls.map Sh.ofL) = some a := fun r hr => by
  rcases List.mem_cons.1 (show r ∈ [_, _] from hr) with rfl | hr
  · exact ⟨A, hx⟩
  · rw [List.mem_singleton.1 hr]; exact ⟨B, hy⟩
theorem pgEL (ha : Wd a) (hb : Wd b) : Pg (tE (ruTx [rE a, rL b])) (fun _ => [rE a, rL b]) (lkD (sides a b a a)) := by
  have la := ha.len
  have lb := hb.len
  refine pgE (fun y hy => ?_) (by simp [ruTx, rE, rL, ruP]; omega) (fun x hx => ?_) (by show 2 ≤ 5; decide) (all_two (all_edge ha) (all_one (isE_left b false))) (by show 4 ≤ 20; decide) (by rw [print4]; simp; omega) (fun _ => ?_) (fun _ => ?_)
  · rcases List.mem_cons.1 hy with rfl | hy
    · exact (ok_el ha hb).1
    · rw [List.mem_singleton.1 hy]; exact (ok_el ha hb).2
  · rcases List.mem_append.1 (show x ∈ (rE a).1 ++ ((rL b).1 ++ []) from hx) with hx | hx
    · exact (no6_el ha hb).1 x hx
    · exact (no6_el ha hb).2 x (by simpa using hx)
  · show lookOf ((ruCl _ 0 [] (ofR (shift 7 ⟨[], [nmSel [112]], [⟨edgeL, a, false⟩], 0, _⟩)) ++ _) ++ _) = _
    rw [ruCl_edge ha]
    kernel_rfl
  · show lookOf ((ruCl _ 1 [] (ofR (shift 7 ⟨[], [nmSel [112]], [⟨edgeL, a, false⟩], 0, _⟩)) ++ _) ++ _) = _
    rw [ruCl_edge ha]
    kernel_rfl
theorem pgLE (ha : Wd a) (hb : Wd b) : Pg (tE (ruTx [rL b, rE a])) (fun _ => [rL b, rE a]) (lkD (sides a a a a)) := by
  have la := ha.len
  have lb := hb.len
  refine pgE (fun y hy => ?_) (by simp [ruTx, rE, rL, ruP]; omega) (fun x hx => ?_) (by show 2 ≤ 5; decide) (all_two (all_one (isE_left b false)) (all_edge ha)) (by show 4 ≤ 20; decide) (by rw [print4]; simp; omega) (fun _ => ?_) (fun _ => ?_)
  · rcases List.mem_cons.1 hy with rfl | hy
    · exact (ok_el ha hb).2
    · rw [List.mem_singleton.1 hy]; exact (ok_el ha hb).1
  · rcases List.mem_append.1 (show x ∈ (rL b).1 ++ ((rE a).1 ++ []) from hx) with hx | hx
    · exact (no6_el ha hb).2 x hx
    · exact (no6_el ha hb).1 x (by simpa using hx)
  · show lookOf ((_ ++ (ruCl _ 0 [] (ofR (shift 7 ⟨[], [nmSel [112]], [⟨edgeL, a, false⟩], _, _⟩)) ++ _)) ++ _) = _
    rw [ruCl_edge ha]
    kernel_rfl
  · show lookOf ((_ ++ (ruCl _ 1 [] (ofR (shift 7 ⟨[], [nmSel [112]], [⟨edgeL, a, false⟩], _, _⟩)) ++ _)) ++ _) = _
    rw [ruCl_edge ha]
    kernel_rfl
end
end Go.Proofs.YtblkldfokeeaeacGreatDoor
