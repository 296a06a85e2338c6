/-
  What alive, word and style of the statements about the whole answer. Conditions: the tables hold what their texts say; texts are shorter than 2 to the 63.
-/
import Derived.Test.YtblkldfokeeaeacGreatDoorAxTB
import Derived.Laws.IdiomStrings
namespace Go.Proofs.YtblkldfokeeaeacGreatDoor
open Go.RowKit Go.Maps

/-! ### which rules stay -/
theorem stay_st {l : List Nd} {rs : List Ru} {st : Ru → Bool} (h1 : ∀ r ∈ rs, r.media.toList.isEmpty = false → st r = true) (h2 : ∀ r ∈ rs, ∀ q ∈ rs, st q = true → meetB l r q = true → st r = true) (h3 : ∀ r ∈ rs, st r = true → Stay l rs r) : ∀ r ∈ rs, stayB l rs r = st r := by
  have h4 : ∀ r, Stay l rs r → st r = true := fun r h => by
    induction h with
    | base hm hd => exact h1 _ hm hd
    | step hm hq hmt ih => exact h2 _ hm _ hq.mem ih hmt
  intro r hr
  cases hs : st r with
  | true => exact stay_iff.2 (h3 r hr hs)
  | false =>
    cases hb : stayB l rs r with
    | false => rfl
    | true => rw [h4 r (stay_iff.1 hb)] at hs; cases hs
def edsM (S : Bs) (L : List Sh.Nd) (R : List Sh.Rl) (st : Ru → Bool) : List Sh.Ed := Sh.eds (fun k => printD (lookOf (okCl (claimsB styF (L.map ofN) k ((R.map ofR).filter fun r => !st r) [])))) (fun j => match L[j]? with | none => [] | some n => Sh.edR n.inFrom ((rulesAt S n).zip ((rulesAt S n).map fun r => st (ofR (shift n.inFrom r))))) L 0
theorem foldM {S T : Bs} {L : List Sh.Nd} {R : List Sh.Rl} {st : Ru → Bool} (hr : readB S = .ok (L, R)) (hst : ∀ r ∈ R.map ofR, stayB (L.map ofN) (R.map ofR) r = st r) (hk : (L.zipIdx.any fun x => tooMany x.1 (lookOf (okCl (claimsB styF (L.map ofN) x.2 ((R.map ofR).filter fun r => !st r) [])))) = false) (hT : Sh.app S 0 (edsM S L R st) S.length = T) (hl : T.length ≤ 6000) : foldB S = .ok T := by
  have e1 : ∀ k, lookAt (L.map ofN) (R.map ofR) k = lookOf (okCl (claimsB styF (L.map ofN) k ((R.map ofR).filter fun r => !st r) [])) := fun k => by unfold lookAt; rw [goes_st hst]
  have e2 : manyAt L R = none := by
    unfold manyAt
    rw [Option.map_eq_none_iff, List.find?_eq_none]
    intro x hx
    rw [e1]
    rw [List.any_eq_false] at hk
    exact hk x hx
  have e3 : edsB S L R = edsM S L R st := by
    unfold edsB edsM goneEd flagsAt
    congr 1
    · funext k
      unfold newV
      rw [e1]
    · funext j
      cases hj : L[j]? with
      | none => rfl
      | some n =>
        simp only
        congr 2
        refine List.map_congr_left fun r h => hst _ (List.mem_map.2 ⟨_, ?_, rfl⟩)
        rw [(read_iff.1 hr).flat]
        exact rule_mem (List.mem_of_getElem? hj) h
  rw [fold_long hr e2, e3, hT, if_neg (by omega)]
def mdSt (r : Ru) : Bool := !r.media.toList.isEmpty
theorem md_closed {l : List Nd} {rs : List Ru} (h : (rs.all fun r => rs.all fun q => !(mdSt q && meetB l r q) || mdSt r) = true) : ∀ r ∈ rs, stayB l rs r = mdSt r := by
  refine stay_st (fun r _ hm => by unfold mdSt; rw [hm]; rfl) (fun r hr q hq h1 h2 => ?_) (fun r hr hs => .base hr ?_)
  · have := List.all_eq_true.1 (List.all_eq_true.1 h r hr) q hq
    rw [h1, h2] at this
    simpa using this
  · unfold mdSt at hs
    simpa using hs

/-! ### alive -/
def al2S : Bs := [60, 115, 116, 121, 108, 101, 62, 112, 123, 99, 111, 108, 111, 114, 58, 114, 101, 100, 125, 32, 64, 109, 101, 100, 105, 97, 32, 119, 105, 100, 101, 123, 112, 123, 115, 105, 122, 101, 58, 49, 50, 125, 125, 32, 98, 123, 115, 105, 122, 101, 58, 57, 125, 60, 47, 115, 116, 121, 108, 101, 62, 60, 112, 62, 60, 98, 62, 120, 60, 47, 98, 62, 60, 47, 112, 62]
def al2T : Bs := [60, 115, 116, 121, 108, 101, 62, 32, 32, 64, 109, 101, 100, 105, 97, 32, 119, 105, 100, 101, 123, 112, 123, 115, 105, 122, 101, 58, 49, 50, 125, 125, 32, 32, 60, 47, 115, 116, 121, 108, 101, 62, 60, 112, 32, 115, 116, 121, 108, 101, 61, 34, 99, 111, 108, 111, 114, 58, 32, 114, 101, 100, 34, 62, 60, 98, 32, 115, 116, 121, 108, 101, 61, 34, 115, 105, 122, 101, 58, 32, 57, 34, 62, 120, 60, 47, 98, 62, 60, 47, 112, 62]
def al2L : List Sh.Nd := match readB al2S with
  | .ok p => p.1
  | .error _ => []
def al2R : List Sh.Rl := match readB al2S with
  | .ok p => p.2
  | .error _ => []
theorem al2_fold : foldB al2S = .ok al2T :=
  foldM (L := al2L) (R := al2R) (st := mdSt) (by kernel_rfl) (md_closed (by kernel_rfl)) (by kernel_rfl) (by kernel_rfl) (by decide)
set_option maxRecDepth 100000 in
set_option maxHeartbeats 4000000 in
theorem alive2_any (w : World) (hT : Tab w) : Calls Tryz.prog 27 #[] w fun e w' => e = .returned (.bool true) ∧ Below w.heap.size w w' := by
  have FA := fold_any ⟨al2S.toArray⟩ w (by decide) hT
  have e1 : (⟨al2S.toArray⟩ : ByteArray).data.toList = al2S := rfl
  rw [e1, al2_fold] at FA
  simp only [FoldAns] at FA
  have HF := hid FA
  clear FA e1 hT
  go_enter Tryz.func27, Tryz.ntmps27
  go_wp2_with (go_at_call 16; refine HF.out.mono ?_; rintro e w2 ⟨rfl, hb2⟩; have HB := hid hb2; clear hb2; simp only [faultV])
  go_ret
  refine ⟨?_, HB.out.alloc HB.out.size _⟩
  have e : ((bsL al2T).toList == [60, 115, 116, 121, 108, 101, 62, 32, 32, 64, 109, 101, 100, 105, 97, 32, 119, 105, 100, 101, 123, 112, 123, 115, 105, 122, 101, 58, 49, 50, 125, 125, 32, 32, 60, 47, 115, 116, 121, 108, 101, 62, 60, 112, 32, 115, 116, 121, 108, 101, 61, 34, 99, 111, 108, 111, 114, 58, 32, 114, 101, 100, 34, 62, 60, 98, 32, 115, 116, 121, 108, 101, 61, 34, 115, 105, 122, 101, 58, 32, 57, 34, 62, 120, 60, 47, 98, 62, 60, 47, 112, 62]) = true := by
    rw [bsL_toList]
    rfl
  rw [e]
  rfl

/-! ### style -/
theorem get_own (n : Sh.Nd) : (getA ⟨#[115, 116, 121, 108, 101]⟩ (ofN n).attrs).getD ⟨#[]⟩ = bsL (ownV n) := by
  show (getA ⟨#[115, 116, 121, 108, 101]⟩ (n.attrs.map ofA)).getD ⟨#[]⟩ = _
  rw [getA_find]
  unfold ownV ownA
  have e : (⟨#[115, 116, 121, 108, 101]⟩ : ByteArray).data.toList = Sh.styleL := rfl
  rw [e]
  cases hq : n.attrs.find? fun a => a.name == Sh.styleL with
  | none => rfl
  | some a => rfl
set_option maxRecDepth 100000 in
set_option maxHeartbeats 4000000 in
theorem style_any (T : Bs) (L : List Sh.Nd) (k : Nat) (w : World) (hp : Sh.parse T = .ok L) (hk : k < L.length) (hT : Tab w) :
    Calls Tryz.prog 29 #[.string (bsL T), .int .i64 (k : Int)] w fun e w' => e = .returned (.tuple #[.string (bsL (ownV L[k])), .bool true]) ∧ Below w.heap.size w w' := by
  obtain ⟨mx, hmx⟩ := tab_mx hT
  obtain ⟨hL120, hS6, hNd⟩ := page_bd hp
  have HSn := hid (sm_nodes hL120 (fun n hn => ndBd_mono (hNd n hn) hS6))
  have HP := hid hp
  have HOw := hid (get_own L[k])
  generalize bsL (ownV L[k]) = bv at *
  have HLl : Hid ((L.map ofN).length = L.length) := List.length_map ..
  have hT6 : (bsL T).size ≤ 6000 := by rw [bsL_size]; exact hS6
  clear hp hNd hT
  have hlk : (k : Int) < (L.length : Int) := by omega
  go_enter Tryz.func29, Tryz.ntmps29
  go_wp2_with fail
  refine Sh.parse_any (bsL T) mx w _ hmx (by omega) (hid ?_) (hid ?_)
  rotate_left
  · intro x w2 he _
    rw [show (bsL T).data.toList = T from rfl, HP.out] at he
    cases he
  intro L' nv w2 he hn hb2 _
  rw [show (bsL T).data.toList = T from rfl, HP.out] at he
  obtain rfl : L = L' := by injection he
  obtain ⟨na, nc, rfl⟩ := nd_form hn
  have HN := hid ((nds_of hn).ext (Ext.below (below_al (o := .cells #[.int .i64 0, .int .i64 0] 25) (Below.refl _ _))))
  have HB := hid (below_al hb2 (o := .cells #[.int .i64 0, .int .i64 0] 25))
  clear he hn hb2
  obtain ⟨b, off, rfl, hel⟩ := Sl.at HN.out (i := k) (by rw [HLl.out]; exact hk)
  rw [List.getElem_map] at hel
  obtain ⟨aa, ac, c0, c1, c2, c3, c4, c5, hA⟩ := nd_cells hel
  have GA := hid (fun (w' : World) (hA' : AtsAt w' (.slice aa (L[k]'hk).attrs.length ac) (ofN (L[k]'hk)).attrs) => get_any (ofN (L[k]'hk)) (.slice aa (L[k]'hk).attrs.length ac) ⟨#[115, 116, 121, 108, 101]⟩ w' hA' (HSn.out.2 _ (List.mem_map.2 ⟨L[k]'hk, List.getElem_mem hk, rfl⟩)))
  have HA := hid hA
  have h120 : L.length ≤ 120 := hL120
  clear hel hA hL120
  generalize L[k] = n at *
  go_wp2_with (go_at_call 51; refine (GA.out _ HA.out).mono ?_; rintro e w4 ⟨rfl, hb4⟩; have HB4 := hid (below_trans HB.out hb4 (Nat.le_refl _)); clear hb4; simp only [getV]; rw [HOw.out])
  go_ret2
  exact ⟨rfl, HB4.out⟩

/-! ### word -/
def wdB (x : ByteArray) : Bool := x.data.toList.all wch && (!x.toList.isEmpty && decide (x.size ≤ 20))
theorem wd_of {x : ByteArray} (h : wdB x = true) : Wd x.data.toList ∧ x.size ≤ 20 := by
  unfold wdB at h
  obtain ⟨h1, h2⟩ := Bool.and_eq_true_iff.1 h
  obtain ⟨h3, h4⟩ := Bool.and_eq_true_iff.1 h2
  have h5 : x.size ≤ 20 := by simpa using h4
  refine ⟨⟨fun e => ?_, List.all_eq_true.1 h1, by rw [← Lib.size_eq]; exact h5⟩, h5⟩
  rw [Lib.toList_data, e] at h3
  cases h3
set_option maxRecDepth 100000 in
theorem low_any (z : Int) (w : World) : Calls Tryz.prog 50 #[.int .u8 z] w fun e w' => e = .returned (.bool (decide (97 ≤ z) && decide (z ≤ 122))) ∧ w' = w := by
  go_enter Tryz.func50, Tryz.ntmps50
  by_cases h1 : 97 ≤ z
  · have d1 : decide (97 ≤ z) = true := decide_eq_true h1
    go_wp2_with fail
    go_ret
    exact ⟨by rw [d1]; rfl, rfl⟩
  · have d1 : decide (97 ≤ z) = false := decide_eq_false h1
    go_wp2_with fail
    go_ret
    exact ⟨rfl, rfl⟩
theorem bytes_row (w : World) (x : ByteArray) : ∀ j, j < x.size → (w.drew.alloc (.cells (bytesRow x (grownCap w x.size 0 5)) 5 ((bytesRow x (grownCap w x.size 0 5)).size, (bytesRow x (grownCap w x.size 0 5)).size + 1))).cell? ⟨w.heap.size, j, none⟩ = some (.int .u8 ((x.data.toList.getD j 0).toNat : Int)) := fun j hj => by
  have hB : (w.drew.alloc (.cells (bytesRow x (grownCap w x.size 0 5)) 5 ((bytesRow x (grownCap w x.size 0 5)).size, (bytesRow x (grownCap w x.size 0 5)).size + 1))).heap[w.heap.size]? = some _ := heap_alloc_new w.drew _
  unfold World.cell?
  rw [hB]
  simp [bytesRow, Array.getElem?_append, hj, List.getD]
set_option maxRecDepth 100000 in
set_option maxHeartbeats 4000000 in
theorem word_any (x : ByteArray) (w : World) (hx : x.size ≤ 9223372036854775807) : Calls Tryz.prog 28 #[.string x] w fun e w' => e = .returned (.bool (wdB x)) ∧ Below w.heap.size w w' := by
  have hconv := run_bytes_of_string (P := Tryz.prog) w 9 109 5 x Tryz.underlying9 Tryz.underlying109 Tryz.underlying5
  have HR : Hid (∀ j, j < x.size → (w.alloc (.cells (bytesRow x (grownCap w x.size 0 5)) 5 ((bytesRow x (grownCap w x.size 0 5)).size, (bytesRow x (grownCap w x.size 0 5)).size + 1))).drew.cell? ⟨w.heap.size, j, none⟩ = some (.int .u8 ((x.data.toList.getD j 0).toNat : Int))) := bytes_row w x
  have HBc : Hid (Below w.heap.size w (w.alloc (.cells (bytesRow x (grownCap w x.size 0 5)) 5 ((bytesRow x (grownCap w x.size 0 5)).size, (bytesRow x (grownCap w x.size 0 5)).size + 1))).drew) := ((Below.refl _ _).alloc (Nat.le_refl _) _).drew
  have HAl : Hid (∀ j, j < x.size → wch (x.data.toList.getD j 0) = false → wdB x = false) := fun j hj hc => by
    have hj' : j < x.data.toList.length := by rw [← Lib.size_eq]; exact hj
    unfold wdB
    have : x.data.toList.all wch = false := by
      rw [List.all_eq_false]
      refine ⟨x.data.toList[j], List.getElem_mem hj', ?_⟩
      rw [List.getD_eq_getElem?_getD, List.getElem?_eq_getElem hj'] at hc
      rw [show wch x.data.toList[j] = false from hc]
      decide
    rw [this]; rfl
  have HYs : Hid ((∀ q, q < x.size → wch (x.data.toList.getD q 0) = true) → wdB x = (!x.toList.isEmpty && decide (x.size ≤ 20))) := fun h => by
    unfold wdB
    have : x.data.toList.all wch = true := List.all_eq_true.2 fun b hb => by
      obtain ⟨q, hq, rfl⟩ := List.getElem_of_mem hb
      have hq' : q < x.size := by rw [Lib.size_eq]; exact hq
      have := h q hq'
      rw [List.getD_eq_getElem?_getD, List.getElem?_eq_getElem hq] at this
      exact this
    rw [this]; rfl
  generalize wdB x = wb at *
  go_enter Tryz.func28, Tryz.ntmps28
  go_wp2_with fail
  clear hconv
  generalize (w.alloc (.cells (bytesRow x (grownCap w x.size 0 5)) 5 ((bytesRow x (grownCap w x.size 0 5)).size, (bytesRow x (grownCap w x.size 0 5)).size + 1))).drew = w2 at *
  generalize grownCap w x.size 0 5 = bcap at *
  go_loopg [8] x.size (fun n i wr => ∃ j : Nat, n = x.size - j ∧ j ≤ x.size ∧ i = .int .i64 (j : Int) ∧ (∀ q, q < j → wch (x.data.toList.getD q 0) = true) ∧ wr = w2)
  case atStart => exact ⟨0, rfl, Nat.zero_le _, rfl, fun q hq => absurd hq (Nat.not_lt_zero _), rfl⟩
  case round =>
    obtain ⟨j, hn, hj, rfl, hQ, rfl⟩ := hrel
    have GJ := hid hn
    have HQ := hid hQ
    clear hn hQ
    by_cases hjl : j < x.size
    · have hc := HR.out j hjl
      have HNx : Hid (wch (x.data.toList.getD j 0) = true → ∀ q, q < j + 1 → wch (x.data.toList.getD q 0) = true) := fun h q hq => by
        by_cases e : q = j
        · rw [e]; exact h
        · exact HQ.out q (by omega)
      have HNo := hid (HAl.out j hjl)
      have HJ := hid hjl
      generalize x.data.toList.getD j 0 = c at *
      have HW : Hid (wch c = ((decide (97 ≤ (c.toNat : Int)) && decide ((c.toNat : Int) ≤ 122)) || (decide (48 ≤ (c.toNat : Int)) && decide ((c.toNat : Int) ≤ 57)))) := by
        show _ = _
        unfold wch Sh.letterB
        rw [Bool.eq_iff_iff]
        simp
        omega
      generalize (c.toNat : Int) = z at *
      generalize wch c = wc at *
      have LA := hid (low_any z)
      cases hlo : (decide (97 ≤ z) && decide (z ≤ 122))
      · rw [hlo] at LA HW
        by_cases h48 : z < 48
        · have h1 : wc = false := by rw [HW.out, decide_eq_false (by omega : ¬ 48 ≤ z)]; rfl
          have h2 := HNo.out h1
          subst h2
          go_wp2_with (go_at_call 50; refine (LA.out _).mono ?_; rintro e w4 ⟨rfl, hw4⟩; subst hw4)
          go_ret
          exact ⟨rfl, HBc.out⟩
        · by_cases h57 : 57 < z
          · have h1 : wc = false := by rw [HW.out, decide_eq_false (by omega : ¬ z ≤ 57), Bool.and_false]; rfl
            have h2 := HNo.out h1
            subst h2
            go_wp2_with (go_at_call 50; refine (LA.out _).mono ?_; rintro e w4 ⟨rfl, hw4⟩; subst hw4)
            go_ret
            exact ⟨rfl, HBc.out⟩
          · have h1 : wc = true := by rw [HW.out, decide_eq_true (by omega : 48 ≤ z), decide_eq_true (by omega : z ≤ 57)]; rfl
            go_wp2_with (go_at_call 50; refine (LA.out _).mono ?_; rintro e w4 ⟨rfl, hw4⟩; subst hw4)
            go_roundg (x.size - (j + 1))
            case measure => have := GJ.out; have := HJ.out; omega
            case rel => exact ⟨j + 1, rfl, by have := HJ.out; omega, by go_num, HNx.out h1, rfl⟩
      · rw [hlo] at LA HW
        have h1 : wc = true := HW.out
        go_wp2_with (go_at_call 50; refine (LA.out _).mono ?_; rintro e w4 ⟨rfl, hw4⟩; subst hw4)
        go_roundg (x.size - (j + 1))
        case measure => have := GJ.out; have := HJ.out; omega
        case rel => exact ⟨j + 1, rfl, by have := HJ.out; omega, by go_num, HNx.out h1, rfl⟩
    · have hje : j = x.size := by omega
      subst hje
      have h1 := HYs.out HQ.out
      cases hxe : x.toList.isEmpty
      · rw [hxe] at h1
        by_cases h20 : x.size ≤ 20
        · rw [decide_eq_true h20] at h1
          subst h1
          have d20 : decide ((x.size : Int) ≤ 20) = true := decide_eq_true (by omega)
          go_wp2_with fail
          go_ret
          exact ⟨rfl, HBc.out⟩
        · rw [decide_eq_false h20] at h1
          subst h1
          have d20 : decide ((x.size : Int) ≤ 20) = false := decide_eq_false (by omega)
          go_wp2_with fail
          go_ret
          exact ⟨rfl, HBc.out⟩
      · rw [hxe] at h1
        subst h1
        go_wp2_with fail
        go_ret
        exact ⟨rfl, HBc.out⟩
end Go.Proofs.YtblkldfokeeaeacGreatDoor
