/-
  The law FoldPlaces returns true. Conditions: the tables hold what their texts say; the page is shorter than 2 to the 63.
-/
import Derived.Test.YtblkldfokeeaeacGreatDoorAxFO
namespace Go.Proofs.YtblkldfokeeaeacGreatDoor
open Go.RowKit Go.Maps
theorem tree_cut {S : Bs} {L : List Sh.Nd} {t : Sh.Tr} (ho : Sh.Ok 1 t) (hs : S = Sh.text t) (hn : L = Sh.nodes 0 (-1) 0 t) : Sh.Within 0 (L.map Sh.cutN) S.length ∧ ∀ n ∈ L, Sh.Row S n.nameEnd n := by
  have h0 : S.drop 0 = Sh.text t ++ [] := by rw [hs]; simp
  have h1 := (Sh.rest_app (S := S) t 0 (-1) 0 1 [] ho h0).1
  rw [← hn, Nat.zero_add, ← hs] at h1
  exact ⟨h1, by rw [hn]; exact Sh.nodes_row t 0 (-1) 0 [] h0⟩
set_option maxRecDepth 100000 in
set_option maxHeartbeats 4000000 in
theorem foldPlaces_any (s : ByteArray) (w : World) (hs : s.size ≤ 9223372036854775807) (hT : Tab w) : Calls Tryz.prog 8 #[.string s] w fun e w' => e = .returned (.bool true) ∧ Below w.heap.size w w' := by
  have AL := hid (alive_any w hT)
  have HT := hid hT
  have FA := hid (fun w' hT' => fold_any s w' hs hT')
  clear hT
  cases hf : foldB s.data.toList with
  | error x =>
    rw [hf] at FA
    simp only [FoldAns] at FA
    obtain ⟨xe, xa⟩ := x
    go_enter Tryz.func8, Tryz.ntmps8
    go_wp2_with (first
      | (go_at_call 15; refine AL.out.mono ?_; rintro e w1 ⟨rfl, hb1⟩; have HB1 := hid hb1; clear hb1)
      | (go_at_call 16; refine (FA.out w1 (HT.out.ext (Ext.below HB1.out))).mono ?_; rintro e w2 ⟨⟨rfl, hx⟩, hb2⟩; have HB2 := hid (below_trans HB1.out hb2 (Nat.le_refl _)); have hx' : ¬ ((xe : Int) = 0) := Int.natCast_ne_zero.2 hx; clear hb2 hx; simp only [faultV]))
    go_ret
    exact ⟨rfl, below_al HB2.out⟩
  | ok T =>
    rw [hf] at FA
    simp only [FoldAns] at FA
    obtain ⟨L, R, L', R', t, h1, _, _⟩ := fold_ok hf
    have c1 := tree_cut h1.ok h1.src h1.nds
    have c2 := tree_cut h1.ok' h1.out h1.nds'
    have h6 : s.size ≤ 6000 := by rw [Lib.size_eq s]; exact (page_bd h1.read.page).2.1
    have R1 := hid (fun w' hT' => rest_any s L w' h6 hT' h1.read.page c1.1 c1.2)
    have hT6 : (bsL T).size ≤ 6000 := by rw [bsL_size]; exact fold_len hf
    have R2 := hid (fun w' hT' => rest_any (bsL T) L' w' hT6 hT' h1.again.page c2.1 c2.2)
    have hpl := h1.places
    rw [show (bsL T).data.toList = T from rfl, ← hpl] at R2
    generalize bsL (Sh.app s.data.toList 0 (L.map Sh.cutN) s.data.toList.length) = Z at *
    clear hpl c1 c2 h1 hf hT6 h6
    generalize bsL T = bt at *
    go_enter Tryz.func8, Tryz.ntmps8
    go_wp2_with (first
      | (go_at_call 15; refine AL.out.mono ?_; rintro e w1 ⟨rfl, hb1⟩; have HB1 := hid hb1; clear hb1)
      | (go_at_call 16; refine (FA.out w1 (HT.out.ext (Ext.below HB1.out))).mono ?_; rintro e w2 ⟨rfl, hb2⟩; have HB2 := hid (below_trans HB1.out hb2 (Nat.le_refl _)); have HB3 := hid (below_al HB2.out (o := .cells #[.int .i64 0, .int .i64 0] 25)); clear hb2; simp only [faultV])
      | (go_at_call 25; refine (R2.out w4 (HT.out.ext (Ext.below HB4.out))).mono ?_; rintro e w5 ⟨rfl, hb5⟩; have HB5 := hid (below_trans HB4.out hb5 (Nat.le_refl _)); clear hb5)
      | (go_at_call 25; refine (R1.out _ (HT.out.ext (Ext.below HB3.out))).mono ?_; rintro e w4 ⟨rfl, hb4⟩; have HB4 := hid (below_trans HB3.out hb4 (Nat.le_refl _)); clear hb4))
    go_ret
    exact ⟨rfl, HB5.out⟩
end Go.Proofs.YtblkldfokeeaeacGreatDoor
