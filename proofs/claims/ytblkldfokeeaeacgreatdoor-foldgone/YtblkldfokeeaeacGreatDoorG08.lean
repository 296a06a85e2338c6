/-
  The laws of chapter 6 over lists: nothing looks another way; folded is folded; the page is the same; who may go is gone; own styles are enough; only there. No program's function is named here.
  The edits of a page in the order that they are made in, and sorted: they are those of its tree, one behind the other. No program's function is named here.
  How great what Read tells can be: places lie in the page, attributes and values are few and short. No program's function is named here.
-/
import Derived.Test.YtblkldfokeeaeacGreatDoorG07
namespace Go.Proofs.YtblkldfokeeaeacGreatDoor
variable {S T : Bs} {L L' : List Sh.Nd} {R R' : List Sh.Rl} {t : Sh.Tr}

/-! ### elements alike but for their own styles -/
theorem Fd.vw (h : Fd S T L R L' R' t) {k : Nat} (hk : k < L.length) : Sh.vw (L'[k]'(by rw [h.len]; exact hk)) = Sh.reAts (newV (L.map ofN) (R.map ofR)) (Sh.vw L[k], k) := by
  have hk' : k < L'.length := by rw [h.len]; exact hk
  have := congrArg (fun l => l[k]?) h.view
  simp [hk, hk'] at this
  exact this
theorem find_rest {x : Bs} (hx : x ≠ Sh.styleL) : ∀ l : List Sh.At2, l.find? (fun a => a.1 == x) = (l.filter fun a => !Sh.isSty a).find? (fun a => a.1 == x)
  | [] => rfl
  | a :: l => by
    have ih := find_rest hx l
    rw [List.filter_cons, List.find?_cons]
    cases hs : Sh.isSty a
    · simp only [Bool.not_false, if_true, List.find?_cons]
      rw [ih]
    · have ha : a.1 = Sh.styleL := by simpa [Sh.isSty] using hs
      have : (a.1 == x) = false := by rw [ha]; simpa using fun e => hx e.symm
      rw [this]
      simpa using ih
theorem getA_vw (x : ByteArray) (n : Sh.Nd) : getA x (ofN n).attrs = ((Sh.vw n).ats.find? fun a => a.1 == x.data.toList).map fun a => bsL a.2 := by
  show getA x (n.attrs.map ofA) = _
  rw [getA_find]
  unfold Sh.vw
  rw [List.find?_map, Option.map_map]
  rfl
theorem Fd.sim (h : Fd S T L R L' R' t) : Sim (L.map ofN) (L'.map ofN) := by
  have hl : L.length = L'.length := h.len.symm
  have hout : ∀ k, ¬ k < L.length → ndAt (L.map ofN) k = ndAt (L'.map ofN) k := fun k hk => by
    unfold ndAt
    rw [List.getD_eq_getElem?_getD, List.getD_eq_getElem?_getD, List.getElem?_eq_none (by simp; omega), List.getElem?_eq_none (by simp; omega)]
  refine ⟨by simpa using hl, fun k => ?_, fun k => ?_, fun k n hn => ?_⟩
  · by_cases hk : k < L.length
    · rw [nd_map hk, nd_map (show k < L'.length by omega)]
      have := congrArg Sh.Vw.name (h.vw hk)
      show bsL _ = bsL _
      exact congrArg bsL this.symm
    · rw [hout k hk]
  · unfold YtblkldfokeeaeacGreatDoor.par
    by_cases hk : k < L.length
    · rw [nd_map hk, nd_map (show k < L'.length by omega)]
      have := congrArg Sh.Vw.parent (h.vw hk)
      exact this.symm
    · rw [hout k hk]
  · by_cases hk : k < L.length
    · rw [nd_map hk, nd_map (show k < L'.length by omega), getA_vw, getA_vw, h.vw hk]
      have hx : n.data.toList ≠ Sh.styleL := fun e => hn (by rw [Lib.toList_data, Lib.toList_data]; exact e)
      show _ = ((Sh.editAts _ _).find? _).map _
      rw [find_rest hx, find_rest hx (Sh.editAts _ _), Sh.editAts_rest]
    · rw [hout k hk]
theorem sel_ok {s : List Sh.Prt} (h : PrtsOk s) : SelOk (s.map ofP) := fun p hp u hu => by
  obtain ⟨q, hq, rfl⟩ := List.mem_map.1 hp
  obtain ⟨x, hx, rfl⟩ := List.mem_map.1 hu
  intro hk e
  have hk' : (x.kind : Int) = 4 ∨ (x.kind : Int) = 5 := hk
  refine h q hq x hx (by omega) ?_
  rw [show (ofT x).name.toList = x.name from bsL_toList _, Lib.toList_data] at e
  exact e
theorem sels_ok {r : Sh.Rl} (h : RlOk r) : ∀ s ∈ (ofR r).sels, SelOk s := fun s hs => by
  obtain ⟨q, hq, rfl⟩ := List.mem_map.1 hs
  exact sel_ok (h.sel q hq)

/-! ### the rules that stay claim what they claimed -/
theorem flat_bareC (l : List Nd) (k : Int) (media : List ByteArray) (R : List Sh.Rl) : (R.map ofR).flatMap (ruCl l k media) = (R.map Sh.bare).flatMap fun r => ruCl l k media (ofR r) := by
  rw [List.flatMap_map, List.flatMap_map]
  rfl
theorem Fd.stayC (h : Fd S T L R L' R' t) (k : Int) (media : List ByteArray) : (R'.map ofR).flatMap (ruCl (L'.map ofN) k media) = ((R.map ofR).filter (stayB (L.map ofN) (R.map ofR))).flatMap (ruCl (L.map ofN) k media) := by
  rw [flat_bareC, h.stay, ← flat_bareC, List.filter_map, List.flatMap_map, List.flatMap_map]
  refine flat_congr fun r hr => ?_
  have hr' : r ∈ R := (List.mem_filter.1 hr).1
  unfold ruCl
  rw [h.sim.ruleC k media (sels_ok (h.read.rlOk r hr'))]

/-! ### rules that stay and rules that go -/
theorem stay_iff {l : List Nd} {rs : List Ru} {r : Ru} : stayB l rs r = true ↔ Stay l rs r := by unfold stayB; simp
theorem go_media {l : List Nd} {rs : List Ru} {r : Ru} (h : r ∈ goesB l rs) : r.media.toList.isEmpty = true := by
  obtain ⟨h1, h2⟩ := List.mem_filter.1 h
  cases hm : r.media.toList.isEmpty
  · have : Stay l rs r := .base h1 hm
    rw [stay_iff.2 this] at h2; cases h2
  · rfl
theorem go_clR {l : List Nd} {k : Int} {rs : List Ru} (media : List ByteArray) : (goesB l rs).flatMap (ruCl l k media) = (goesB l rs).flatMap (ruCl l k []) := by
  refine flat_congr fun r hr => ?_
  have hm := go_media hr
  unfold ruCl ruleC counts
  rw [hm]; rfl
noncomputable def fcs (l : List Nd) (k : Int) (media : List ByteArray) (rs : List Ru) : List Fc := rs.map fun r => (ruCl l k media r, stayB l rs r)
theorem fcs_all (l : List Nd) (k : Int) (media : List ByteArray) (rs : List Ru) : allCl (fcs l k media rs) = rs.flatMap (ruCl l k media) := by
  unfold allCl fcs
  rw [List.flatMap_map]
theorem fcs_stay (l : List Nd) (k : Int) (media : List ByteArray) (rs : List Ru) : stayCl (fcs l k media rs) = (rs.filter (stayB l rs)).flatMap (ruCl l k media) := by
  unfold stayCl fcs
  rw [List.filter_map, List.flatMap_map]
  rfl
theorem fcs_go (l : List Nd) (k : Int) (media : List ByteArray) (rs : List Ru) : goCl (fcs l k media rs) = (goesB l rs).flatMap (ruCl l k []) := by
  rw [← go_clR media]
  unfold goCl fcs goesB
  rw [List.filter_map, List.flatMap_map]
  rfl
theorem names_of {r : Ru} {a : List Dc} (h : allB r.decls = some a) {d : Dc} (hd : d ∈ a) : nm d ∈ namesB r := by
  unfold namesB
  rw [h]
  exact List.mem_map.2 ⟨d, hd, rfl⟩
theorem fcs_apart {l : List Nd} {k : Nat} (hk : k < l.length) (media : List ByteArray) (rs : List Ru) : Apart (fcs l k media rs) := by
  intro x hx y hy e
  rw [fcs_stay] at hx
  rw [fcs_go] at hy
  obtain ⟨r, hr, hx⟩ := List.mem_flatMap.1 hx
  obtain ⟨q, hq, hy⟩ := List.mem_flatMap.1 hy
  obtain ⟨hr1, hr2⟩ := List.mem_filter.1 hr
  obtain ⟨hq1, hq2⟩ := List.mem_filter.1 hq
  obtain ⟨b1, a1, ha1, hd1⟩ := ruCl_mem hx
  obtain ⟨b2, a2, ha2, hd2⟩ := ruCl_mem hy
  have hng : ¬ Stay l rs q := fun h => by rw [stay_iff.2 h] at hq2; cases hq2
  refine Sh.StR.apart hq1 hng (stay_iff.1 hr2) ?_
  unfold meetB
  rw [Bool.and_eq_true_iff]
  refine ⟨List.any_eq_true.2 ⟨k, List.mem_range.2 hk, ?_⟩, List.any_eq_true.2 ⟨nm y.d, names_of ha2 hd2, ?_⟩⟩
  · unfold meansR; rw [b1, b2]; rfl
  · rw [← e]; exact List.elem_eq_true_of_mem (names_of ha1 hd1)

/-! ### own styles, told anew -/
theorem Fd.ownD (h : Fd S T L R L' R' t) {k : Nat} (hk : k < L'.length) : ownD L'[k] = lookAt (L.map ofN) (R.map ofR) k := by
  have hk' : k < L.length := by rw [← h.len]; exact hk
  obtain ⟨h1, h2⟩ := h.read.turn (h.few k hk')
  unfold YtblkldfokeeaeacGreatDoor.ownD
  rw [h.own' k hk, h1]
  simp only
  rw [h2]; rfl
theorem Fd.look (h : Fd S T L R L' R' t) {k : Nat} (hk : k < L.length) (media : List ByteArray) : IsLook (lookAt (L.map ofN) (R.map ofR) k) (lookF (goCl (fcs (L.map ofN) k media (R.map ofR)) ++ asC true w00 (YtblkldfokeeaeacGreatDoor.ownD L[k]))) := by
  rw [h.read.look hk, fcs_go]
  exact lookOf_is _
/-- NOTHING LOOKS ANOTHER WAY. -/
theorem Fd.alike (h : Fd S T L R L' R' t) {k : Nat} (hk : k < L.length) (media : List ByteArray) : ∃ cs cs', claimsB styF (L.map ofN) k (R.map ofR) media = .ok cs ∧ claimsB styF (L'.map ofN) k (R'.map ofR) media = .ok cs' ∧ ∀ n, lookF cs n = lookF cs' n := by
  have hk' : k < L'.length := by rw [h.len]; exact hk
  refine ⟨_, _, h.read.claims hk media (fun _ hr => hr), h.again.claims hk' media (fun _ hr => hr), fun n => ?_⟩
  rw [h.stayC, h.ownD hk', ← fcs_stay, ← fcs_all]
  exact same_look (fcs_apart (by simpa using hk) media _) (h.look hk media) n
theorem Fd.value (h : Fd S T L R L' R' t) (inh : ByteArray → Bool) (ini : ByteArray → ByteArray) (media : List ByteArray) (name : ByteArray) : ∀ k, k < L.length → ∃ v, valueB styF inh ini (L.map ofN) (R.map ofR) media name k = .ok v ∧ valueB styF inh ini (L'.map ofN) (R'.map ofR) media name k = .ok v := by
  intro k
  induction k using Nat.strongRecOn with
  | _ k ih =>
    intro hk
    obtain ⟨cs, cs', h1, h2, he⟩ := h.alike hk media
    cases hl : lookF cs name.data.toList with
    | some d => exact ⟨d.val, value_there styF inh ini h1 hl, value_there styF inh ini h2 (by rw [← he]; exact hl)⟩
    | none =>
      have hl' : lookF cs' name.data.toList = none := by rw [← he]; exact hl
      by_cases hc : inh name = true ∧ 0 ≤ YtblkldfokeeaeacGreatDoor.par (L.map ofN) k ∧ YtblkldfokeeaeacGreatDoor.par (L.map ofN) k < k
      · have hp := h.sim.par k
        rw [value_up styF inh ini h1 hl hc.1 hc.2.1 hc.2.2, value_up styF inh ini h2 hl' hc.1 (by rw [← hp]; exact hc.2.1) (by rw [← hp]; exact hc.2.2), ← hp]
        exact ih _ (by omega) (by omega)
      · refine ⟨ini name, value_end styF inh ini h1 hl hc, value_end styF inh ini h2 hl' ?_⟩
        rw [← h.sim.par k]; exact hc
/-- OWN STYLES ARE ENOUGH. -/
def touchB (l : List Nd) (k : Int) (r : Ru) (n : Bs) : Bool := (bestB l k r.sels).2 && (namesB r).contains n
theorem Fd.alone (h : Fd S T L R L' R' t) {k : Nat} (hk : k < L.length) {d : Dc} (hd : d ∈ lookOf (okCl (claimsB styF (L.map ofN) k (R.map ofR) []))) (hf : ∀ r ∈ R', touchB (L'.map ofN) k (ofR r) (nm d) = false) : d ∈ lookOf (okCl (claimsB styF (L'.map ofN) k [] [])) := by
  have hk' : k < L'.length := by rw [h.len]; exact hk
  have e2 : claimsB styF (L'.map ofN) k [] [] = .ok ([] ++ asC true w00 (lookAt (L.map ofN) (R.map ofR) k)) := by
    rw [h.again.claims hk' [] (Q := []) (fun _ hr => by cases hr), h.ownD hk']; rfl
  rw [h.read.claims hk [] (fun _ hr => hr)] at hd
  rw [e2]
  have e3 := own_again (h.look hk []) (lookOf_is ([] ++ asC true w00 (lookAt (L.map ofN) (R.map ofR) k)))
  show d ∈ lookOf ([] ++ asC true w00 (lookAt (L.map ofN) (R.map ofR) k))
  rw [e3]
  refine own_enough (h.look hk []) (lookOf_is _) (by rw [fcs_all]; exact hd) fun y hy e => ?_
  rw [fcs_stay, ← h.stayC] at hy
  obtain ⟨r, hr, hy⟩ := List.mem_flatMap.1 hy
  obtain ⟨q, hq, rfl⟩ := List.mem_map.1 hr
  obtain ⟨b, a, ha, hda⟩ := ruCl_mem hy
  have := hf q hq
  unfold touchB at this
  rw [b, ← e] at this
  have h2 : (namesB (ofR q)).contains (nm y.d) = true := List.contains_iff_mem.2 (names_of ha hda)
  rw [h2] at this
  cases this

/-! ### those that stay stay again -/
theorem Sim.meet {l m : List Nd} (H : Sim l m) {r q : Ru} (hr : ∀ s ∈ r.sels, SelOk s) (hq : ∀ s ∈ q.sels, SelOk s) : meetB l r q = meetB m r q := by
  unfold meetB meansR bestB
  rw [H.len]
  congr 2
  funext k
  rw [H.bestTo k _ _ hr, H.bestTo k _ _ hq]
/-! ### where nothing is new no byte is -/
theorem sty_same {n : Sh.Nd} (hp : (Sh.vw n).ats.Pairwise fun a b => a.1 ≠ b.1) : Sh.styEd (ownV n) n.nameEnd n.attrs = [] := by
  have hone : ∀ (l : List Sh.Atr), (l.map fun a => (a.name, a.val)).Pairwise (fun a b : Sh.At2 => a.1 ≠ b.1) → ∀ a ∈ l, a.name = Sh.styleL → l.find? (fun a => a.name == Sh.styleL) = some a := by
    intro l
    induction l with
    | nil => intro _ a ha; cases ha
    | cons b l ih =>
      intro hp a ha hs
      obtain ⟨h1, h2⟩ := List.pairwise_cons.1 hp
      rw [List.find?_cons]
      rcases List.mem_cons.1 ha with rfl | ha
      · simp [hs]
      · have : b.name ≠ Sh.styleL := fun e => h1 (a.name, a.val) (List.mem_map.2 ⟨a, ha, rfl⟩) (by show b.name = a.name; rw [e, hs])
        have hb : (b.name == Sh.styleL) = false := by simpa using this
        rw [hb]
        exact ih h2 a ha hs
  unfold Sh.styEd
  split
  · refine List.flatMap_eq_nil_iff.2 fun a ha => ?_
    unfold Sh.edA
    by_cases hs : a.name = Sh.styleL
    · have := hone n.attrs hp a ha hs
      have hv : ownV n = a.val := by unfold ownV ownA; rw [this]
      simp [hv]
    · simp [hs]
  · rename_i hn
    have hv : ownV n = [] := by
      unfold ownV ownA
      have : n.attrs.find? (fun a => a.name == Sh.styleL) = none := List.find?_eq_none.2 fun a ha hs => hn (List.any_eq_true.2 ⟨a, ha, hs⟩)
      rw [this]
    rw [if_pos hv]
theorem ed_true {o : Nat} : ∀ A : List Sh.Rl, ∀ F : List Bool, (∀ b ∈ F, b = true) → Sh.edR o (A.zip F) = []
  | [], _, _ => rfl
  | a :: A, [], _ => rfl
  | a :: A, b :: F, h => by
    have hb := h b (List.mem_cons_self ..)
    have ih := ed_true (o := o) A F fun x hx => h x (List.mem_cons_of_mem _ hx)
    subst hb
    unfold Sh.edR at ih ⊢
    rw [List.zip_cons_cons, List.flatMap_cons, ih]
    rfl
theorem rule_mem {S : Bs} {L : List Sh.Nd} {n : Sh.Nd} (hn : n ∈ L) {r : Sh.Rl} (hr : r ∈ rulesAt S n) : shift n.inFrom r ∈ flatR S L := List.mem_flatMap.2 ⟨n, hn, List.mem_map.2 ⟨r, hr, rfl⟩⟩
theorem eds_nil {S : Bs} {L : List Sh.Nd} {R : List Sh.Rl} (h : Rd S L R) {t : Sh.Tr} (ho : Sh.Ok 1 t) (hL : L = Sh.nodes 0 (-1) 0 t) (hv : ∀ k (hk : k < L.length), newV (L.map ofN) (R.map ofR) k = ownV L[k]) (hs : ∀ r ∈ R, stayB (L.map ofN) (R.map ofR) (ofR r) = true) :
    edsB S L R = [] := by
  unfold edsB Sh.eds
  refine List.flatMap_eq_nil_iff.2 fun x hx => ?_
  have hx2 := zip_mem hx
  obtain ⟨hk, hxe⟩ := List.getElem?_eq_some_iff.1 hx2
  have hmem : x.1 ∈ L := List.mem_of_getElem? hx2
  unfold Sh.ndEd
  rw [hv x.2 hk, hxe]
  have h1 : Sh.styEd (ownV x.1) x.1.nameEnd x.1.attrs = [] := by
    refine sty_same (views_apart t (-1) 0 1 ho _ ?_)
    rw [← Sh.nodes_views t 0, ← hL]
    exact List.mem_map.2 ⟨_, hmem, rfl⟩
  rw [h1]
  split
  · simp only [hx2]
    refine ed_true _ _ fun b hb => ?_
    obtain ⟨r, hr, rfl⟩ := List.mem_map.1 hb
    exact hs _ (by rw [h.flat]; exact rule_mem hmem hr)
  · rfl
theorem app_none (S : Bs) : Sh.app S 0 [] S.length = S := by
  show Sh.sub S 0 S.length = S
  unfold Sh.sub
  simp
theorem goes_none {l : List Nd} {rs : List Ru} (h : ∀ r ∈ rs, stayB l rs r = true) : goesB l rs = [] := List.filter_eq_nil_iff.2 fun r hr => by simp [h r hr]
/-- THE PAGE IS THE SAME, where nothing always counts, and no element has a style. -/
theorem Fd.still (h : Fd S T L R L' R' t) (hT : T = Sh.app S 0 (edsB S L R) S.length) (hm : ∀ r ∈ R, r.media ≠ []) (hs : ∀ n ∈ L, n.attrs.any (fun a => a.name == Sh.styleL) = false) : T = S := by
  have hst : ∀ r ∈ R, stayB (L.map ofN) (R.map ofR) (ofR r) = true := fun r hr => stay_iff.2 (.base (List.mem_map.2 ⟨r, hr, rfl⟩) (by
    show (bsL r.media).toList.isEmpty = false
    rw [bsL_toList]
    have := hm r hr
    cases hq : r.media with
    | nil => exact absurd hq this
    | cons _ _ => rfl))
  have hov : ∀ n ∈ L, ownV n = [] := fun n hn => by
    unfold ownV ownA
    have : n.attrs.find? (fun a => a.name == Sh.styleL) = none := List.find?_eq_none.2 fun a ha he => by
      have := hs n hn
      rw [List.any_eq_true.2 ⟨a, ha, he⟩] at this
      cases this
    rw [this]
  have hg : goesB (L.map ofN) (R.map ofR) = [] := goes_none fun r hr => by
    obtain ⟨q, hq, rfl⟩ := List.mem_map.1 hr
    exact hst q hq
  have hv : ∀ k (hk : k < L.length), newV (L.map ofN) (R.map ofR) k = ownV L[k] := fun k hk => by
    have ho := hov L[k] (List.getElem_mem hk)
    unfold newV
    rw [h.read.look hk, hg, ho]
    unfold YtblkldfokeeaeacGreatDoor.ownD
    rw [ho]
    rfl
  rw [hT, eds_nil h.read h.ok h.nds hv hst, app_none]
/-- WHO MAY GO IS GONE, where none has media. -/
theorem Fd.none (h : Fd S T L R L' R' t) (hm : ∀ r ∈ R, r.media = []) : R' = [] := by
  have : (R.filter fun r => stayB (L.map ofN) (R.map ofR) (ofR r)) = [] := List.filter_eq_nil_iff.2 fun r hr hs => by
    refine Sh.StR.none (fun q hq hq2 => ?_) (stay_iff.1 hs)
    obtain ⟨x, hx, rfl⟩ := List.mem_map.1 hq
    have : (bsL x.media).toList.isEmpty = false := hq2
    rw [bsL_toList, hm x hx] at this
    cases this
  have h2 := h.stay
  rw [this] at h2
  exact List.map_eq_nil_iff.1 h2
/-- ONLY THERE. -/
theorem Fd.places (h : Fd S T L R L' R' t) : Sh.app S 0 (L.map Sh.cutN) S.length = Sh.app T 0 (L'.map Sh.cutN) T.length := by
  have h1 := (Sh.rest_app (S := S) t 0 (-1) 0 1 [] h.ok (by rw [h.src]; simp)).2
  have h2 := (Sh.rest_app (S := T) _ 0 (-1) 0 1 [] h.ok' (by rw [← h.out]; simp)).2
  rw [← h.nds, Nat.zero_add, ← h.src] at h1
  rw [← h.nds', Nat.zero_add, ← h.out, Sh.rest_edit] at h2
  rw [h1, h2]
end Go.Proofs.YtblkldfokeeaeacGreatDoor

namespace Go.Proofs.YtblkldfokeeaeacGreatDoor

/-! ### edits stand apart -/
theorem strict_eq : ∀ {A B : List Sh.Ed}, A.Pairwise (fun x y => x.1 < y.1) → B.Pairwise (fun x y => x.1 < y.1) → (∀ x, x ∈ A ↔ x ∈ B) → A = B
  | [], [], _, _, _ => rfl
  | [], y :: B, _, _, h => absurd ((h y).2 (List.mem_cons_self ..)) (by simp)
  | x :: A, [], _, _, h => absurd ((h x).1 (List.mem_cons_self ..)) (by simp)
  | x :: A, y :: B, hA, hB, h => by
    obtain ⟨l1, l2⟩ := List.pairwise_cons.1 hA
    obtain ⟨m1, m2⟩ := List.pairwise_cons.1 hB
    have hxy : x = y := by
      rcases List.mem_cons.1 ((h x).1 (List.mem_cons_self ..)) with e | hx
      · exact e
      · rcases List.mem_cons.1 ((h y).2 (List.mem_cons_self ..)) with e | hy
        · exact e.symm
        · have a := l1 y hy
          have b := m1 x hx
          omega
    subst hxy
    rw [strict_eq l2 m2 fun z => ?_]
    constructor
    · intro hz
      rcases List.mem_cons.1 ((h z).1 (List.mem_cons_of_mem _ hz)) with e | e
      · subst e; have := l1 z hz; omega
      · exact e
    · intro hz
      rcases List.mem_cons.1 ((h z).2 (List.mem_cons_of_mem _ hz)) with e | e
      · subst e; have := m1 z hz; omega
      · exact e
/-- A sorted list of edits is the strictly sorted one that it is a permutation of. -/
theorem sorted_eq {A B : List Sh.Ed} (hA : A.Pairwise (fun x y => x.1 ≤ y.1)) (hB : B.Pairwise (fun x y => x.1 < y.1)) (hp : A.Perm B) : A = B := by
  have hne : A.Pairwise (fun x y => x.1 ≠ y.1) := by
    have : (A.map (·.1)).Nodup := (hp.map _).nodup_iff.2 (List.pairwise_map.2 (hB.imp fun {a b} h => Nat.ne_of_lt h))
    exact List.pairwise_map.1 this
  exact strict_eq ((hA.and hne).imp fun {a b} h => by have := h.1; have := h.2; omega) hB fun x => hp.mem_iff
/-- From k up to m, each ahead of the next. -/
def Spread (k : Nat) (E : List Sh.Ed) (m : Nat) : Prop := E.Pairwise (fun x y => x.1 < y.1) ∧ ∀ e ∈ E, k ≤ e.1 ∧ e.1 < m
theorem Spread.nil (k m : Nat) : Spread k [] m := ⟨List.Pairwise.nil, by simp⟩
theorem Spread.app {k m n : Nat} {E F : List Sh.Ed} (h : Spread k E m) (g : Spread m F n) (h1 : k ≤ m) (h2 : m ≤ n) : Spread k (E ++ F) n := by
  refine ⟨List.pairwise_append.2 ⟨h.1, g.1, fun x hx y hy => ?_⟩, fun e he => ?_⟩
  · have := (h.2 x hx).2; have := (g.2 y hy).1; omega
  · rcases List.mem_append.1 he with he | he
    · have := h.2 e he; omega
    · have := g.2 e he; omega
theorem Spread.wide {k k' m m' : Nat} {E : List Sh.Ed} (h : Spread k E m) (h1 : k' ≤ k) (h2 : m ≤ m') : Spread k' E m' := ⟨h.1, fun e he => by have := h.2 e he; omega⟩
theorem at2_pos (a : Sh.At2) : 0 < (Sh.at2 a).length := by rw [Sh.at2_len]; omega
theorem ats_spread (v : Bs) : ∀ (l : List Sh.At2) (k : Nat), Spread k ((Sh.atrs k l).flatMap (Sh.edA v)) (k + (Sh.ats2 l).length)
  | [], k => Spread.nil _ _
  | a :: l, k => by
    have ih := ats_spread v l (k + (Sh.at2 a).length)
    have e : k + (Sh.ats2 (a :: l)).length = k + (Sh.at2 a).length + (Sh.ats2 l).length := by simp [Sh.ats2]; omega
    rw [e]
    show Spread k (Sh.edA v ⟨a.1, a.2, k, k + (Sh.at2 a).length⟩ ++ (Sh.atrs (k + (Sh.at2 a).length) l).flatMap (Sh.edA v)) _
    refine Spread.app (m := k + (Sh.at2 a).length) ?_ ih (by omega) (by omega)
    have hp := at2_pos a
    unfold Sh.edA
    split
    · exact ⟨List.pairwise_singleton _ _, fun e he => by rw [List.mem_singleton.1 he]; show k ≤ k ∧ k < _; omega⟩
    · exact Spread.nil _ _
theorem sty_spread (v : Bs) (l : List Sh.At2) (k : Nat) : Spread k (Sh.styEd v k (Sh.atrs k l)) (k + (Sh.ats2 l).length + 1) := by
  unfold Sh.styEd
  split
  · exact (ats_spread v l k).wide (Nat.le_refl _) (by omega)
  · split
    · exact Spread.nil _ _
    · exact ⟨List.pairwise_singleton _ _, fun e he => by rw [List.mem_singleton.1 he]; show k ≤ k ∧ k < _; omega⟩
theorem first2_len (n : Bs) (l : List Sh.At2) : (Sh.first2 n l).length = 1 + n.length + (Sh.ats2 l).length + 1 := by simp [Sh.first2]; omega
theorem first_spread (v n : Bs) (l : List Sh.At2) (k : Nat) : Spread k (Sh.styEd v (k + 1 + n.length) (Sh.atrs (k + 1 + n.length) l)) (k + (Sh.first2 n l).length) :=
  (sty_spread v l (k + 1 + n.length)).wide (by omega) (by rw [first2_len]; omega)
theorem tree_spread (v : Nat → Bs) (hs : Nat → List Sh.Ed) : ∀ (t : Sh.Tr) (k : Nat) (p : Int) (i d : Nat), Sh.Ok d t → (∀ x ∈ (Sh.nodes k p i t).zipIdx i, x.1.name = Sh.styleL → Spread x.1.inFrom (hs x.2) x.1.inTo) → Spread k (Sh.eds v hs (Sh.nodes k p i t) i) (k + (Sh.text t).length)
  | .nil, k, p, i, d, _, _ => Spread.nil _ _
  | .txt b r, k, p, i, d, ho, hh => by
    have ih := tree_spread v hs r (k + 1) p i d ho.2 hh
    exact ih.wide (by omega) (by show k + 1 + (Sh.text r).length ≤ k + ((Sh.text r).length + 1); omega)
  | .note c r, k, p, i, d, ho, hh => by
    have ih := tree_spread v hs r (k + 7 + c.length) p i d ho.2 hh
    exact ih.wide (by omega) (by simp [Sh.text]; omega)
  | .sty l s r, k, p, i, d, ho, hh => by
    have e : Sh.nodes k p i (.sty l s r) = ⟨Sh.styleL, p, Sh.atrs (k + 6) l, k + 6, k + (Sh.first2 Sh.styleL l).length, k + (Sh.first2 Sh.styleL l).length + s.length⟩ :: Sh.nodes (k + (Sh.first2 Sh.styleL l).length + s.length + 8) p (i + 1) r := rfl
    rw [e] at hh ⊢
    have ih := tree_spread v hs r (k + (Sh.first2 Sh.styleL l).length + s.length + 8) p (i + 1) d ho.2.2.2 (fun x hx => hh x (List.mem_cons_of_mem _ hx))
    have h0 := hh (⟨Sh.styleL, p, Sh.atrs (k + 6) l, k + 6, k + (Sh.first2 Sh.styleL l).length, k + (Sh.first2 Sh.styleL l).length + s.length⟩, i) (List.mem_cons_self ..) rfl
    have hlen : (Sh.text (.sty l s r)).length = (Sh.first2 Sh.styleL l).length + s.length + 8 + (Sh.text r).length := by simp [Sh.text, Sh.lastTag, Sh.styleL]; omega
    show Spread k (Sh.ndEd v hs (_, i) ++ Sh.eds v hs _ (i + 1)) _
    unfold Sh.ndEd
    rw [if_pos rfl]
    rw [show k + (Sh.text (.sty l s r)).length = k + (Sh.first2 Sh.styleL l).length + s.length + 8 + (Sh.text r).length by omega]
    refine Spread.app (m := k + (Sh.first2 Sh.styleL l).length + s.length + 8) ?_ ih (by omega) (by omega)
    exact ((first_spread (v i) Sh.styleL l k).app h0 (by omega) (by show k + (Sh.first2 Sh.styleL l).length ≤ k + (Sh.first2 Sh.styleL l).length + s.length; omega)).wide (Nat.le_refl _) (by show k + (Sh.first2 Sh.styleL l).length + s.length ≤ _; omega)
  | .el n l u r, k, p, i, d, ho, hh => by
    have e : Sh.nodes k p i (.el n l u r) = ⟨n, p, Sh.atrs (k + 1 + n.length) l, k + 1 + n.length, 0, 0⟩ :: (Sh.nodes (k + (Sh.first2 n l).length) i (i + 1) u ++ Sh.nodes (k + (Sh.first2 n l).length + (Sh.text u).length + (Sh.lastTag n).length) p (i + 1 + Sh.count u) r) := rfl
    rw [e] at hh ⊢
    rw [List.zipIdx_cons, List.zipIdx_append, Sh.nodes_len] at hh
    have i1 := tree_spread v hs u (k + (Sh.first2 n l).length) i (i + 1) (d + 1) ho.2.2.2.2.1 (fun x hx => hh x (List.mem_cons_of_mem _ (List.mem_append_left _ hx)))
    have i2 := tree_spread v hs r (k + (Sh.first2 n l).length + (Sh.text u).length + (Sh.lastTag n).length) p (i + 1 + Sh.count u) d ho.2.2.2.2.2 (fun x hx => hh x (List.mem_cons_of_mem _ (List.mem_append_right _ hx)))
    have hlen : (Sh.text (.el n l u r)).length = (Sh.first2 n l).length + (Sh.text u).length + (Sh.lastTag n).length + (Sh.text r).length := by simp [Sh.text]; omega
    show Spread k (Sh.ndEd v hs (_, i) ++ Sh.eds v hs _ (i + 1)) _
    rw [Sh.eds_app, Sh.nodes_len]
    unfold Sh.ndEd
    rw [if_neg ho.2.2.1, List.append_nil]
    rw [show k + (Sh.text (.el n l u r)).length = k + (Sh.first2 n l).length + (Sh.text u).length + (Sh.lastTag n).length + (Sh.text r).length by omega]
    refine Spread.app (m := k + (Sh.first2 n l).length) (first_spread (v i) n l k) (Spread.app (m := k + (Sh.first2 n l).length + (Sh.text u).length + (Sh.lastTag n).length) (i1.wide (Nat.le_refl _) (by omega)) i2 (by omega) (by omega)) (by omega) (by omega)
theorem gone_spread {s : Bs} {o : Nat} : ∀ {M : List Sh.Rl} {k : Nat} (fl : List Bool), Sh.Chain s k M → Spread (o + k) (Sh.edR o (M.zip fl)) (o + s.length)
  | [], k, fl, _ => by simp [Sh.edR]; exact Spread.nil _ _
  | r :: M, k, [], _ => by simp [Sh.edR]; exact Spread.nil _ _
  | r :: M, k, b :: fl, h => by
    obtain ⟨h1, h2, h3, _, h5⟩ := h
    have ih := gone_spread (o := o) fl h5
    show Spread _ ((if b then [] else [(o + r.from_, o + r.to_, [32])]) ++ Sh.edR o (M.zip fl)) _
    refine Spread.app (m := o + r.to_) ?_ ih (by omega) (by omega)
    cases b
    · exact ⟨List.pairwise_singleton _ _, fun e he => by
        have : e = (o + r.from_, o + r.to_, [32]) := by simpa using he
        rw [this]; show o + k ≤ o + r.from_ ∧ o + r.from_ < o + r.to_; omega⟩
    · exact Spread.nil _ _
variable {S : Bs} {L : List Sh.Nd} {R : List Sh.Rl}
theorem Rd.spread (h : Rd S L R) : (edsB S L R).Pairwise (fun x y => x.1 < y.1) ∧ Sh.Within 0 (edsB S L R) S.length := by
  obtain ⟨t, ho, hS, hL, hc, hl⟩ := Sh.parse_tree h.page
  refine ⟨?_, (text_fold h ho hS hL).1⟩
  have := tree_spread (YtblkldfokeeaeacGreatDoor.newV (L.map ofN) (R.map ofR)) (fun j => match L[j]? with | none => [] | some n => goneEd S (L.map ofN) (R.map ofR) n) t 0 (-1) 0 1 ho (fun x hx hs => by
    rw [← hL] at hx
    have hx2 := zip_mem hx
    have hmem : x.1 ∈ L := List.mem_of_getElem? hx2
    simp only [hx2]
    have hp := h.sheet x.1 hmem hs
    have hn := nodes_len (S := S) t 0 (-1) 0 1 [] ho (by rw [hS]; simp) x.1 (by rw [← hL]; exact hmem) hs
    have hg := gone_spread (s := Sh.sub S x.1.inFrom x.1.inTo) (o := x.1.inFrom) (flagsAt S (L.map ofN) (R.map ofR) x.1) (Sh.sheet_few hp).2.1
    rw [← hn] at hg
    exact hg)
  rw [← hL] at this
  exact this.1

/-! ### as they are made -/
def restyleB (n : Sh.Nd) (v : Bs) : List Sh.Ed := if ownV n = v then [] else match ownA n with
  | some a => [(a.from_, a.to_, if v = [] then [] else Sh.at2 (Sh.styleL, v))]
  | none => [(n.nameEnd, n.nameEnd, if v = [] then [] else Sh.at2 (Sh.styleL, v))]
noncomputable def ruleEds (L : List Sh.Nd) (R : List Sh.Rl) : List Sh.Ed := (R.filter fun r => !stayB (L.map ofN) (R.map ofR) (ofR r)).map fun r => (r.from_, r.to_, [32])
noncomputable def madeEds (L : List Sh.Nd) (R : List Sh.Rl) : List Sh.Ed := ruleEds L R ++ L.zipIdx.flatMap fun x => restyleB x.1 (newV (L.map ofN) (R.map ofR) x.2)
theorem restyle_eq {n : Sh.Nd} (hp : (Sh.vw n).ats.Pairwise fun a b => a.1 ≠ b.1) (v : Bs) : restyleB n v = Sh.styEd v n.nameEnd n.attrs := by
  have hone : ∀ (l : List Sh.Atr), (l.map fun a => (a.name, a.val)).Pairwise (fun a b : Sh.At2 => a.1 ≠ b.1) → ∀ a, l.find? (fun a => a.name == Sh.styleL) = some a → l.flatMap (Sh.edA v) = Sh.edA v a := by
    intro l
    induction l with
    | nil => intro _ a ha; cases ha
    | cons b l ih =>
      intro hp a ha
      obtain ⟨h1, h2⟩ := List.pairwise_cons.1 hp
      rw [List.find?_cons] at ha
      by_cases hb : b.name = Sh.styleL
      · have : (b.name == Sh.styleL) = true := by simpa using hb
        rw [this] at ha
        injection ha with ha
        subst ha
        rw [List.flatMap_cons]
        have : l.flatMap (Sh.edA v) = [] := List.flatMap_eq_nil_iff.2 fun c hc => by
          have hcn : c.name ≠ Sh.styleL := fun e => h1 (c.name, c.val) (List.mem_map.2 ⟨c, hc, rfl⟩) (by show b.name = c.name; rw [hb, e])
          unfold Sh.edA
          simp [hcn]
        rw [this, List.append_nil]
      · have hf : (b.name == Sh.styleL) = false := by simpa using hb
        rw [hf] at ha
        rw [List.flatMap_cons, ih h2 a ha]
        have : Sh.edA v b = [] := by unfold Sh.edA; simp [hb]
        rw [this, List.nil_append]
  unfold restyleB Sh.styEd ownV
  cases ho : ownA n with
  | none =>
    have hn : n.attrs.any (fun a => a.name == Sh.styleL) = false := by
      rw [Bool.eq_false_iff]
      intro h
      obtain ⟨a, ha, hs⟩ := List.any_eq_true.1 h
      exact List.find?_eq_none.1 ho a ha hs
    rw [hn]
    simp only [Bool.false_eq_true, if_false]
    by_cases hv : v = []
    · rw [hv]; rfl
    · rw [if_neg (fun e => hv e.symm), if_neg hv, if_neg hv]
  | some a =>
    have ha : a.name = Sh.styleL := by simpa using List.find?_some ho
    have hn : n.attrs.any (fun a => a.name == Sh.styleL) = true := List.any_eq_true.2 ⟨a, List.mem_of_find?_eq_some ho, by simpa using ha⟩
    rw [if_pos hn, hone n.attrs hp a ho]
    unfold Sh.edA
    simp only
    by_cases hv : a.val = v
    · simp [hv]
    · simp [hv, ha]
theorem flat_perm {α β : Type} (f g : α → List β) : ∀ l : List α, (l.flatMap fun x => f x ++ g x).Perm (l.flatMap f ++ l.flatMap g)
  | [] => List.Perm.refl _
  | a :: l => by
    rw [List.flatMap_cons, List.flatMap_cons, List.flatMap_cons]
    have ih := flat_perm f g l
    have h1 : (f a ++ g a ++ l.flatMap fun x => f x ++ g x).Perm (f a ++ g a ++ (l.flatMap f ++ l.flatMap g)) := ih.append_left _
    refine h1.trans ?_
    rw [List.append_assoc, List.append_assoc]
    refine List.Perm.append_left _ ?_
    rw [← List.append_assoc, ← List.append_assoc]
    exact List.perm_append_comm.append_right _
theorem ed_zip (o : Nat) (st : Sh.Rl → Bool) : ∀ A : List Sh.Rl, Sh.edR o (A.zip (A.map fun r => st (shift o r))) = ((A.map (shift o)).filter fun r => !st r).map fun r => (r.from_, r.to_, [32])
  | [] => rfl
  | a :: A => by
    have ih := ed_zip o st A
    rw [List.map_cons, List.map_cons, List.zip_cons_cons, List.filter_cons]
    unfold Sh.edR at ih ⊢
    rw [List.flatMap_cons, ih]
    cases st (shift o a)
    · show [(o + a.from_, o + a.to_, [32])] ++ _ = (a.from_ + o, a.to_ + o, [32]) :: _
      rw [Nat.add_comm o, Nat.add_comm o]
      rfl
    · rfl
theorem made_perm (h : Rd S L R) : (madeEds L R).Perm (edsB S L R) := by
  obtain ⟨t, ho, hS, hL, hc, hl⟩ := Sh.parse_tree h.page
  have e1 : (L.zipIdx.flatMap fun x => restyleB x.1 (newV (L.map ofN) (R.map ofR) x.2)) = L.zipIdx.flatMap fun x => Sh.styEd (newV (L.map ofN) (R.map ofR) x.2) x.1.nameEnd x.1.attrs := flat_congr fun x hx => by
    refine restyle_eq (views_apart t (-1) 0 1 ho _ ?_) _
    rw [← Sh.nodes_views t 0, ← hL]
    exact List.mem_map.2 ⟨_, List.mem_of_getElem? (zip_mem hx), rfl⟩
  have e2 : ruleEds L R = L.zipIdx.flatMap fun x => if x.1.name = Sh.styleL then (match L[x.2]? with | none => [] | some n => goneEd S (L.map ofN) (R.map ofR) n) else [] := by
    have e3 : ∀ st : Sh.Rl → Bool, ((flatR S L).filter fun r => !st r).map (fun r => ((r.from_, r.to_, [32]) : Sh.Ed)) = L.zipIdx.flatMap fun x => Sh.edR x.1.inFrom ((rulesAt S x.1).zip ((rulesAt S x.1).map fun r => st (shift x.1.inFrom r))) := fun st => by
      unfold flatR
      rw [List.filter_flatMap, List.map_flatMap, ← zip_flat _ L 0]
      exact flat_congr fun x _ => (ed_zip _ st _).symm
    unfold ruleEds
    have e4 : (R.filter fun r => !stayB (L.map ofN) (R.map ofR) (ofR r)) = (flatR S L).filter fun r => !stayB (L.map ofN) (R.map ofR) (ofR r) := by
      generalize (fun r => !stayB (L.map ofN) (R.map ofR) (ofR r)) = st
      rw [← h.flat]
    rw [e4, e3 (fun r => stayB (L.map ofN) (R.map ofR) (ofR r))]
    refine flat_congr fun x hx => ?_
    rw [zip_mem hx]
    by_cases hs : x.1.name = Sh.styleL
    · rw [if_pos hs]; rfl
    · rw [if_neg hs, rulesAt_not hs]; rfl
  unfold madeEds
  rw [e1, e2]
  refine List.perm_append_comm.trans ?_
  exact (flat_perm _ _ _).symm
/-- Sorted, what was made is the tree's edits. -/
theorem made_sorted (h : Rd S L R) {E : List Sh.Ed} (hs : E.Pairwise (fun x y => x.1 ≤ y.1)) (hp : E.Perm (madeEds L R)) : E = edsB S L R :=
  sorted_eq hs h.spread.1 (hp.trans (made_perm h))
end Go.Proofs.YtblkldfokeeaeacGreatDoor

namespace Go.Proofs.YtblkldfokeeaeacGreatDoor

structure NdBd (m : Nat) (n : Sh.Nd) : Prop where
  few : n.attrs.length ≤ 8
  ne : n.nameEnd ≤ m
  fr : n.inFrom ≤ n.inTo
  to : n.inTo ≤ m
  at_ : ∀ a ∈ n.attrs, a.name.length ≤ 20 ∧ a.val.length ≤ m ∧ a.from_ ≤ a.to_ ∧ a.to_ ≤ m
  nm : n.name.length ≤ 20
theorem atrs_bd : ∀ (l : List Sh.At2) (k m : Nat), k + (Sh.ats2 l).length ≤ m → (∀ a ∈ l, Sh.NmOk a.1) → ∀ a ∈ Sh.atrs k l, a.name.length ≤ 20 ∧ a.val.length ≤ m ∧ a.from_ ≤ a.to_ ∧ a.to_ ≤ m
  | [], _, _, _, _ => fun a ha => by cases ha
  | x :: l, k, m, h, hn => fun a ha => by
    have e : (Sh.ats2 (x :: l)).length = (Sh.at2 x).length + (Sh.ats2 l).length := by simp [Sh.ats2]
    have hx := Sh.at2_len x
    rcases List.mem_cons.1 ha with rfl | ha
    · refine ⟨(hn x (List.mem_cons_self ..)).len, ?_, ?_, ?_⟩
      · show x.2.length ≤ m; omega
      · show k ≤ k + (Sh.at2 x).length; omega
      · show k + (Sh.at2 x).length ≤ m; omega
    · exact atrs_bd l _ m (by omega) (fun y hy => hn y (List.mem_cons_of_mem _ hy)) a ha
theorem nodes_bd : ∀ (t : Sh.Tr) (k m : Nat) (p : Int) (i d : Nat), Sh.Ok d t → k + (Sh.text t).length ≤ m → ∀ n ∈ Sh.nodes k p i t, NdBd m n
  | .nil, _, _, _, _, _, _, _ => fun n hn => by cases hn
  | .txt b r, k, m, p, i, d, ho, h => nodes_bd r (k + 1) m p i d ho.2 (by have : (Sh.text (.txt b r)).length = (Sh.text r).length + 1 := rfl; omega)
  | .note c r, k, m, p, i, d, ho, h => nodes_bd r (k + 7 + c.length) m p i d ho.2 (by have : (Sh.text (.note c r)).length = 7 + c.length + (Sh.text r).length := by simp [Sh.text]; omega
                                                                                      omega)
  | .sty l s r, k, m, p, i, d, ho, h => fun n hn => by
    have hlen : (Sh.text (.sty l s r)).length = (Sh.first2 Sh.styleL l).length + s.length + 8 + (Sh.text r).length := by simp [Sh.text, Sh.lastTag, Sh.styleL]; omega
    have hf := first2_len Sh.styleL l
    have h5 : Sh.styleL.length = 5 := rfl
    rcases List.mem_cons.1 hn with rfl | hn
    · refine ⟨by rw [Sh.atrs_len]; exact ho.2.1.len, ?_, ?_, ?_, atrs_bd l _ m (by omega) ho.2.1.nms, by show (5 : Nat) ≤ 20; omega⟩
      · show k + 6 ≤ m; omega
      · show k + (Sh.first2 Sh.styleL l).length ≤ k + (Sh.first2 Sh.styleL l).length + s.length; omega
      · show k + (Sh.first2 Sh.styleL l).length + s.length ≤ m; omega
    · exact nodes_bd r _ m p (i + 1) d ho.2.2.2 (by omega) n hn
  | .el nm l u r, k, m, p, i, d, ho, h => fun n hn => by
    have hlen : (Sh.text (.el nm l u r)).length = (Sh.first2 nm l).length + (Sh.text u).length + (Sh.lastTag nm).length + (Sh.text r).length := by simp [Sh.text]; omega
    have hf := first2_len nm l
    rcases List.mem_cons.1 hn with rfl | hn
    · refine ⟨by rw [Sh.atrs_len]; exact ho.2.2.2.1.len, ?_, Nat.le_refl _, Nat.zero_le _, atrs_bd l _ m (by omega) ho.2.2.2.1.nms, ho.2.1.len⟩
      show k + 1 + nm.length ≤ m; omega
    · rcases List.mem_append.1 hn with hn | hn
      · exact nodes_bd u _ m i (i + 1) (d + 1) ho.2.2.2.2.1 (by omega) n hn
      · exact nodes_bd r _ m p (i + 1 + Sh.count u) d ho.2.2.2.2.2 (by omega) n hn
theorem page_bd {S : Bs} {L : List Sh.Nd} (h : Sh.parse S = .ok L) : L.length ≤ 120 ∧ S.length ≤ 6000 ∧ ∀ n ∈ L, NdBd S.length n := by
  obtain ⟨t, ho, hS, hL, hc, hl⟩ := Sh.parse_tree h
  refine ⟨by rw [hL, Sh.nodes_len]; exact hc, hl, fun n hn => ?_⟩
  rw [hL] at hn
  exact nodes_bd t 0 S.length (-1) 0 1 ho (by rw [hS]; omega) n hn
theorem own_find {n : Sh.Nd} {a : Sh.Atr} (h : ownA n = some a) : a ∈ n.attrs ∧ a.name = Sh.styleL := ⟨List.mem_of_find?_eq_some h, by simpa using List.find?_some h⟩
theorem sub_len_le (S : Bs) (a b : Nat) : (Sh.sub S a b).length ≤ S.length := by unfold Sh.sub; simp; omega
theorem sheet_bd {s : Bs} {A : List Sh.Rl} (h : Sh.sheetParse s = .ok A) : A.length ≤ 60 ∧ ∀ r ∈ A, r.from_ ≤ s.length ∧ r.to_ ≤ s.length := by
  obtain ⟨h1, h2, _⟩ := Sh.sheet_few h
  refine ⟨h1, fun r hr => ?_⟩
  obtain ⟨_, a, b, _⟩ := h2.mem r hr
  omega
/-- The parts of a rule, in numbers. -/
structure RlBd (r : Sh.Rl) : Prop where
  sels : r.sels.length ≤ 100
  decls : r.decls.length ≤ 20
  parts : ∀ s ∈ r.sels, s.length ≤ 100 ∧ ∀ t ∈ s, t.tests.length ≤ 100
  texts : ∀ d ∈ r.decls, d.name.length ≤ 20 ∧ d.val.length ≤ 60
theorem dcl_bd {d : Sh.Dcl} (h : Sh.DclOK d) : d.name.length ≤ 20 ∧ d.val.length ≤ 60 := by
  obtain ⟨⟨c, t, e, _, _, hn⟩, ws, _, _, _, hv⟩ := h
  exact ⟨hn, hv⟩
theorem sheet_rl {s : Bs} {A : List Sh.Rl} (h : Sh.sheetParse s = .ok A) : ∀ r ∈ A, RlBd r := fun r hr => by
  obtain ⟨_, _, h3⟩ := Sh.sheet_few h
  obtain ⟨a, _, b⟩ := h3 r hr
  have hk := sheet_ok h r hr
  exact ⟨a, hk.few, b, fun d hd => dcl_bd (hk.dcl d hd)⟩
end Go.Proofs.YtblkldfokeeaeacGreatDoor
