/-
  The law TopStrong returns true. Conditions: the tables hold what their texts say; the texts are shorter than 2 to the 63.
-/
import Derived.Test.YtblkldfokeeaeacGreatDoorAxTD
namespace Go.Proofs.YtblkldfokeeaeacGreatDoor
open Go.RowKit Go.Maps

def lk1 (d : Dc) : Nat → List Dc
  | 1 => [d]
  | _ => []
theorem lk1_few (d : Dc) : ∀ k, (lk1 d k).length ≤ 20
  | 0 => by show 0 ≤ 20; decide
  | 1 => by show 1 ≤ 20; decide
  | _ + 2 => by show 0 ≤ 20; decide
theorem atsN : Sh.AtsOk [] := ⟨by decide, by simp, by simp, List.Pairwise.nil⟩
theorem nm_p : Sh.NmOk [112] := ⟨⟨112, [], rfl, by decide, by simp⟩, by decide⟩
theorem all_one {d : Dc} (h : isE d = false) : allB [d] = some [d] := by
  unfold allB expB
  rw [h]
  rfl
theorem ownD_of {n : Sh.Nd} {o : Bs} {D : List Sh.Dcl} {A : List Dc} (h : ownV n = o) (hp : Sh.declsParse o = .ok D) (ha : allB (D.map Sh.ofL) = some A) : ownD n = A := by
  unfold ownD
  rw [h, hp]
  simp only
  rw [ha]
  rfl
theorem edit_len {v o : Bs} (hv : v.length ≤ 200) (ho : o.length ≤ 200) : (Sh.ats2 (Sh.editAts v [(Sh.styleL, o)])).length ≤ 300 := by
  have : Sh.editAts v [(Sh.styleL, o)] = Sh.one2 v (Sh.styleL, o) := by unfold Sh.editAts; rw [if_pos (by rfl)]; simp
  rw [this]
  unfold Sh.one2
  split
  · split
    · simp [Sh.ats2]
    · simp [Sh.ats2, Sh.at2, Sh.styleL]; omega
  · simp [Sh.ats2, Sh.at2, Sh.styleL]; omega
/-! ### the pages -/
def tSty (sheet own : Bs) : Sh.Tr := .sty [] sheet (.el [112] [(Sh.styleL, own)] (.txt 120 .nil) .nil)
theorem tSty_len (s o : Bs) : (Sh.text (tSty s o)).length = s.length + o.length + 32 := by
  simp [tSty, Sh.text, Sh.first2, Sh.ats2, Sh.at2, Sh.lastTag, Sh.styleL]
  omega
theorem pgS {x : RuT} {own : Bs} {e : Sh.Dcl} {d : Dc} (hx : RuOk x) (hxl : x.1.length ≤ 200) (hx6 : ∀ b ∈ x.1, b ≠ 60) (hxa : ∃ a, allB (x.2.2.map Sh.ofL) = some a) (hol : own.length ≤ 200) (hov : ∀ b ∈ own, Sh.valueB b = true) (hod : Sh.declsParse own = .ok [e]) (hee : isE (Sh.ofL e) = false) (hd : (printD [d]).length ≤ 200)
    (h0 : ∀ hk : 0 < (Sh.nodes 0 (-1) 0 (tSty x.1 own)).length, lookOf ((((treeR (tSty x.1 own) fun _ => ruAt [] 0 [x]).map ofR).flatMap (ruCl ((Sh.nodes 0 (-1) 0 (tSty x.1 own)).map ofN) 0 [])) ++ asC true w00 (ownD (Sh.nodes 0 (-1) 0 (tSty x.1 own))[0])) = [])
    (h1 : lookOf ((((treeR (tSty x.1 own) fun _ => ruAt [] 0 [x]).map ofR).flatMap (ruCl ((Sh.nodes 0 (-1) 0 (tSty x.1 own)).map ofN) 1 [])) ++ asC true w00 [Sh.ofL e]) = [d]) : Pg (tSty x.1 own) (fun _ => [x]) (lk1 d) where
  ok := ⟨by decide, atsN, first_free hx6, by decide, nm_p, by decide, ⟨by show 1 ≤ 8; decide, fun a ha => by rw [List.mem_singleton.1 ha]; exact Sh.nmSty, fun a ha => by rw [List.mem_singleton.1 ha]; exact hov, List.pairwise_singleton _ _⟩, ⟨by decide, trivial⟩, trivial⟩
  few := by show 2 ≤ 120; decide
  len := by rw [tSty_len]; omega
  inn := fun y hy => by
    rw [List.mem_singleton.1 (show y ∈ [(0, x.1)] from hy)]
    refine ⟨by simp [ruTx], fun z hz => by rw [List.mem_singleton.1 hz]; exact hx, by simp [ruTx]; omega, by show 1 ≤ 60; decide, fun r hr => ?_⟩
    rw [List.mem_singleton.1 (show r ∈ [_] from hr)]
    exact hxa
  sixty := by show 1 ≤ 60; decide
  own := fun v hv => by
    rcases List.mem_cons.1 (show v ∈ [⟨Sh.styleL, -1, []⟩, ⟨[112], -1, [(Sh.styleL, own)]⟩] from hv) with rfl | hv
    · exact ⟨[], [], by kernel_rfl, rfl⟩
    · rw [List.mem_singleton.1 hv]
      exact ⟨[e], _, hod, all_one hee⟩
  eight := by kernel_rfl
  look := fun k hk hk2 => by
    have hk3 : k < 2 := hk
    match k, hk3 with
    | 0, _ => exact h0 hk2
    | 1, _ =>
      have : ownD ((Sh.nodes 0 (-1) 0 (tSty x.1 own))[1]'hk2) = [Sh.ofL e] := ownD_of (o := own) (by rfl) hod (all_one hee)
      rw [this]
      exact h1
  twenty := lk1_few d
  out := by
    have e1 : (Sh.first2 Sh.styleL [] ++ [32] ++ Sh.lastTag Sh.styleL ++ (Sh.first2 [112] (Sh.editAts (printD [d]) [(Sh.styleL, own)]) ++ [120] ++ Sh.lastTag [112] ++ [])).length ≤ 6000 := by
      have hb := edit_len hd hol
      have e0 : Sh.ats2 [] = [] := rfl
      simp [Sh.first2, Sh.lastTag, Sh.styleL, e0] at hb ⊢
      omega
    exact e1
/-! ### one page, folded -/
theorem ba_data (x y : ByteArray) : (x ++ y).data.toList = x.data.toList ++ y.data.toList := by rw [ByteArray.data_append, Array.toList_append]
set_option maxRecDepth 100000 in
set_option maxHeartbeats 4000000 in
theorem of_any (sheet own : ByteArray) (T : Bs) (L' : List Sh.Nd) (w : World) (hs : sheet.size ≤ 200) (ho : own.size ≤ 200) (hf : foldB (Sh.text (tSty sheet.data.toList own.data.toList)) = .ok T) (hp : Sh.parse T = .ok L') (hk : 1 < L'.length) (hT : Tab w) :
    Calls Tryz.prog 30 #[.string sheet, .string own] w fun e w' => e = .returned (.string (bsL (ownV L'[1]))) ∧ Below w.heap.size w w' := by
  have e0 : (⟨#[60, 115, 116, 121, 108, 101, 62]⟩ ++ sheet ++ ⟨#[60, 47, 115, 116, 121, 108, 101, 62, 60, 112, 32, 115, 116, 121, 108, 101, 61, 34]⟩ ++ own ++ ⟨#[34, 62, 120, 60, 47, 112, 62]⟩ : ByteArray).data.toList = Sh.text (tSty sheet.data.toList own.data.toList) := by
    simp only [ba_data]
    simp [tSty, Sh.text, Sh.first2, Sh.ats2, Sh.at2, Sh.lastTag, Sh.styleL]
  have e1 : (⟨#[60, 115, 116, 121, 108, 101, 62]⟩ ++ sheet ++ ⟨#[60, 47, 115, 116, 121, 108, 101, 62, 60, 112, 32, 115, 116, 121, 108, 101, 61, 34]⟩ ++ own ++ ⟨#[34, 62, 120, 60, 47, 112, 62]⟩ : ByteArray).size ≤ 9223372036854775807 := by
    simp only [ByteArray.size_append]
    have z1 : (⟨#[60, 115, 116, 121, 108, 101, 62]⟩ : ByteArray).size = 7 := rfl
    have z2 : (⟨#[60, 47, 115, 116, 121, 108, 101, 62, 60, 112, 32, 115, 116, 121, 108, 101, 61, 34]⟩ : ByteArray).size = 18 := rfl
    have z3 : (⟨#[34, 62, 120, 60, 47, 112, 62]⟩ : ByteArray).size = 7 := rfl
    omega
  have FA := fold_any _ w e1 hT
  rw [e0, hf] at FA
  simp only [FoldAns] at FA
  have HF := hid FA
  have HT := hid hT
  have SA := hid (fun w' hT' => style_any T L' 1 w' hp hk hT')
  generalize bsL (ownV L'[1]) = bv at *
  clear FA hT e0 e1 hf hp
  go_enter Tryz.func30, Tryz.ntmps30
  go_wp2_with (first
    | (go_at_call 16; refine HF.out.mono ?_; rintro e w2 ⟨rfl, hb2⟩; have HB2 := hid (below_al hb2 (o := .cells #[.int .i64 0, .int .i64 0] 25)); have HF2 := hid (FaB.new w2 0 0); clear hb2; simp only [faultV])
    | (go_at_call 29; refine (SA.out _ (HT.out.ext (Ext.below HB2.out))).mono ?_; rintro e w4 ⟨rfl, hb4⟩; have HB4 := hid (below_trans HB2.out hb4 (Nat.le_refl _)); have F4 := HF2.out.below hb4; have y0 := F4.cell0; have y1 := F4.cell1; clear hb4 F4))
  go_ret
  exact ⟨rfl, HB4.out⟩
/-! ### the three pages -/
theorem hp_p (Z : Bs) : Sh.hasPart ([112] ++ 123 :: Z) 0 = true := by kernel_rfl
theorem hs_p (Z : Bs) : Sh.selectors ([112] ++ 123 :: Z) 0 = .ok ([nmSel [112]], 1) := by kernel_rfl
def zpS : List (List Sh.Prt) := [[⟨0, [⟨3, [122], []⟩]⟩], nmSel [112]]
theorem hp_z (Z : Bs) : Sh.hasPart ([35, 122, 44, 112] ++ 123 :: Z) 0 = true := by kernel_rfl
theorem hs_z (Z : Bs) : Sh.selectors ([35, 122, 44, 112] ++ 123 :: Z) 0 = .ok (zpS, 4) := by kernel_rfl
theorem nmColor : Sh.NameOK colorL := nameOk (by decide) (by decide) (by decide)
theorem wd_no60 {a : Bs} (h : Wd a) : ∀ b ∈ a, b ≠ 60 := fun b hb => (wch_value (h.ch b hb)).2.1
theorem no60_of {a p q : Bs} (h : Wd a) (hp : ∀ b ∈ p, b ≠ 60) (hq : ∀ b ∈ q, b ≠ 60) : ∀ b ∈ p ++ a ++ q, b ≠ 60 := fun b hb => by
  rcases List.mem_append.1 hb with hb | hb
  · rcases List.mem_append.1 hb with hb | hb
    · exact hp b hb
    · exact wd_no60 h b hb
  · exact hq b hb
section
variable {a b : Bs}
theorem val_own {p q : Bs} (h : Wd b) (hp : (p.all Sh.valueB) = true) (hq : (q.all Sh.valueB) = true) : ∀ c ∈ p ++ b ++ q, Sh.valueB c = true := fun c hc => by
  rcases List.mem_append.1 hc with hc | hc
  · rcases List.mem_append.1 hc with hc | hc
    · exact List.all_eq_true.1 hp c hc
    · exact (wch_value (h.ch c hc)).1
  · exact List.all_eq_true.1 hq c hc
theorem own_plain1 (h : Wd b) : Sh.declsParse (colorL ++ 58 :: b) = .ok [⟨colorL, b, false⟩] := by
  have hl := h.len
  refine own_one (c := 99) (Y := [111, 108, 111, 114] ++ 58 :: b) (by simp; omega) rfl (by decide) ?_
  have := decl_nil (S := colorL ++ 58 :: b) (k := 0) (nm := colorL) (a := b) rfl nmColor h
  rw [this]
  simp; omega
theorem own_imp1 (h : Wd b) : Sh.declsParse (colorL ++ 58 :: (b ++ 33 :: Sh.importantL)) = .ok [⟨colorL, b, true⟩] := by
  have hl := h.len
  refine own_one (c := 99) (Y := [111, 108, 111, 114] ++ 58 :: (b ++ 33 :: Sh.importantL)) (by simp [Sh.importantL]; omega) rfl (by decide) ?_
  have := decl_imp0 (S := colorL ++ 58 :: (b ++ 33 :: Sh.importantL)) (k := 0) (nm := colorL) (a := b) rfl nmColor h
  rw [this]
  simp [Sh.importantL]; omega
theorem isE_color (v : Bs) (s : Bool) : isE (Sh.ofL ⟨colorL, v, s⟩) = false := by kernel_rfl
theorem print1 (v : Bs) (s : Bool) : (printD [⟨bsL colorL, bsL v, s⟩]).length ≤ v.length + 30 := by
  have h : printD [⟨bsL colorL, bsL v, s⟩] = colorL ++ [58, 32] ++ v ++ (if s then [32, 33] ++ Sh.importantL else []) := rfl
  rw [h]
  cases s <;> simp [Sh.importantL]
theorem pg1 (ha : Wd a) (hb : Wd b) : Pg (tSty (ruP [112] [nmSel [112]] colorL a).1 (colorL ++ 58 :: b)) (fun _ => [ruP [112] [nmSel [112]] colorL a]) (lk1 ⟨bsL colorL, bsL b, false⟩) :=
  pgS (ru_plain hp_p hs_p nmColor (by decide) ha) (by have := ha.len; simp [ruP]; omega) (by
    have := no60_of (p := [112, 123, 99, 111, 108, 111, 114, 58]) (q := [125]) ha (by decide) (by decide)
    simpa [ruP] using this) ⟨_, all_one (isE_color a false)⟩ (by have := hb.len; simp; omega) (by
    have := val_own (p := colorL ++ [58]) (q := []) hb (by decide) (by decide)
    simpa using this) (own_plain1 hb) (isE_color b false) (by have := print1 b false; have := hb.len; omega) (fun _ => by kernel_rfl) (by kernel_rfl)
theorem pg2 (ha : Wd a) (hb : Wd b) : Pg (tSty (ruI [112] [nmSel [112]] colorL a).1 (colorL ++ 58 :: b)) (fun _ => [ruI [112] [nmSel [112]] colorL a]) (lk1 ⟨bsL colorL, bsL a, true⟩) :=
  pgS (ru_imp hp_p hs_p nmColor (by decide) ha (by have := ha.len; simp [Sh.importantL]; omega)) (by have := ha.len; simp [ruI, Sh.importantL]; omega) (by
    have := no60_of (p := [112, 123, 99, 111, 108, 111, 114, 58]) (q := 32 :: 33 :: (Sh.importantL ++ [125])) ha (by decide) (by decide)
    simpa [ruI] using this) ⟨_, all_one (isE_color a true)⟩ (by have := hb.len; simp; omega) (by
    have := val_own (p := colorL ++ [58]) (q := []) hb (by decide) (by decide)
    simpa using this) (own_plain1 hb) (isE_color b false) (by have := print1 a true; have := ha.len; omega) (fun _ => by kernel_rfl) (by kernel_rfl)
theorem pg3 (ha : Wd a) (hb : Wd b) : Pg (tSty (ruI [35, 122, 44, 112] zpS colorL a).1 (colorL ++ 58 :: (b ++ 33 :: Sh.importantL))) (fun _ => [ruI [35, 122, 44, 112] zpS colorL a]) (lk1 ⟨bsL colorL, bsL b, true⟩) :=
  pgS (ru_imp hp_z hs_z nmColor (by decide) ha (by have := ha.len; simp [Sh.importantL]; omega)) (by have := ha.len; simp [ruI, Sh.importantL]; omega) (by
    have := no60_of (p := [35, 122, 44, 112, 123, 99, 111, 108, 111, 114, 58]) (q := 32 :: 33 :: (Sh.importantL ++ [125])) ha (by decide) (by decide)
    simpa [ruI] using this) ⟨_, all_one (isE_color a true)⟩ (by have := hb.len; simp [Sh.importantL]; omega) (by
    have := val_own (p := colorL ++ [58]) (q := 33 :: Sh.importantL) hb (by decide) (by decide)
    simpa using this) (own_imp1 hb) (isE_color b true) (by have := print1 b true; have := hb.len; omega) (fun _ => by kernel_rfl) (by kernel_rfl)
end
end Go.Proofs.YtblkldfokeeaeacGreatDoor
