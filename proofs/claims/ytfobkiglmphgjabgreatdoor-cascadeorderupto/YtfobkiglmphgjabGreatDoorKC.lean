/-
  What winners, Declared and Value do: the plain answers. Conditions: the sizes that SmNs and SmRs name; the tables hold what their texts say.
-/
import Derived.Test.YtfobkiglmphgjabGreatDoorKB
import Derived.Sort.KeysCollected
namespace Go.Proofs.YtfobkiglmphgjabGreatDoor
open Go.RowKit Go.Maps

def AnsW (w : World) (M : Nat) (e : Ending) : Except Int (List Cl) → Prop
  | .ok cs => e = .returned (.tuple #[.map (some M), .int .i64 0]) ∧ MW w M cs
  | .error c => e = .returned (.tuple #[.map none, .int .i64 c]) ∧ c ≠ 0
theorem uponC_make {W : World} {o : Oper} {a : Act} {K : Act → World → Prop} {Q : Exit → Act → World → Prop} (hK : K (a.put o.dst (.map (some W.heap.size))) (W.alloc (.map #[] 0))) :
    Oper.upon Tryz.prog o a K Q (((Instr.makeMap 59 none).run Tryz.prog W).andThen fun v w' => .ok (.value v) w') := by
  rw [run_makeMap]
  exact hK
theorem claims_out {l : List Nd} {k : Int} {rules : List Ru} {media : List ByteArray} (h : inB l k = false) : claimsB styB l k rules media = .error 6 := by
  unfold claimsB
  rw [h]
  rfl
variable {l : List Nd} {rules : List Ru} {media : List ByteArray} {mv lv rv : Value}

set_option maxRecDepth 100000 in
set_option maxHeartbeats 4000000 in
theorem winners_any (k : Int) (w : World) (hl : NdsAt w lv l) (hs : SmNs l) (hr : RusAt w rv rules) (hrs : SmRs rules) (hm : BsAt w mv media) (hml : media.length ≤ 1099511627776) (hT : Tab w) :
    Calls Tryz.prog 19 #[lv, .int .i64 k, rv, mv] w fun e w' => AnsW w' w.heap.size e (claimsB styB l k rules media) ∧ Below w.heap.size w w' := by
  obtain ⟨la, lc, rfl⟩ := Sl.form hl
  obtain ⟨ra, rc, rfl⟩ := Sl.form hr
  obtain ⟨ma, mc, rfl⟩ := Sl.form hm
  by_cases h0 : k < 0
  · have HO := hid (claims_out (rules := rules) (media := media) (show inB l k = false by unfold inB; simp; omega))
    go_enter Tryz.func19, Tryz.ntmps19
    go_wp2_with fail
    go_ret2
    rw [HO.out]
    exact ⟨⟨rfl, by decide⟩, Below.refl _ _⟩
  by_cases h1 : (l.length : Int) ≤ k
  · have HO := hid (claims_out (rules := rules) (media := media) (show inB l k = false by unfold inB; simp; omega))
    go_enter Tryz.func19, Tryz.ntmps19
    go_wp2_with fail
    go_ret2
    rw [HO.out]
    exact ⟨⟨rfl, by decide⟩, Below.refl _ _⟩
  obtain ⟨j, rfl⟩ : ∃ j : Nat, k = (j : Int) := ⟨k.toNat, by omega⟩
  have hj : j < l.length := by omega
  have b1 := (Below.refl w.heap.size w).alloc (Nat.le_refl _) (.map #[] 0)
  have b2 := b1.alloc b1.size (.cells #[.map (some w.heap.size)] 59)
  have b2' : Below (w.alloc (.map #[] 0)).heap.size (w.alloc (.map #[] 0)) ((w.alloc (.map #[] 0)).alloc (.cells #[.map (some w.heap.size)] 59)) := (Below.refl _ _).alloc (Nat.le_refl _) _
  have x2 := Ext.below b2
  have z1 : (w.alloc (.map #[] 0)).heap.size = w.heap.size + 1 := by simp
  have cB := cell_new (w.alloc (.map #[] 0)) #[.map (some w.heap.size)] 59 0
  rw [z1] at cB
  have HC := hid (claims_any (w.heap.size + 1) w.heap.size ((w.alloc (.map #[] 0)).alloc (.cells #[.map (some w.heap.size)] 59)) (hl.ext x2) hs (hr.ext x2) hrs (hm.ext x2) hml (hT.ext x2) cB ((MW.made w).below b2') hj)
  have B2 := hid b2
  have HcB := hid cB
  simp only [tellV] at HC
  clear b1 b2 b2' x2 z1 hl hs hr hrs hm hml hT
  go_enter Tryz.func19, Tryz.ntmps19
  go_wp2_with fail
  refine uponC_make ?_
  go_wp2_with fail
  refine HC.out.mono ?_
  rintro e w3 ⟨hA, hf3⟩
  have U3 : Hid (Below w.heap.size w w3) := Fr.under B2.out hf3 B2.out.size (Nat.le_refl _)
  have X3 : w3.cell? ⟨w.heap.size + 1, 0, none⟩ = some (.map (some w.heap.size)) := by
    have h := hf3.block (w.heap.size + 1) (by simp) (by omega)
    unfold World.cell?
    rw [h]
    exact HcB.out
  clear hf3 cB HC
  cases hc : claimsB styB l j rules media with
  | ok cs =>
    rw [hc] at hA
    obtain ⟨rfl, hm3⟩ := hA
    have HM3 := hid hm3
    have HCc := hid hc
    clear hm3 hc
    go_wp2_with fail
    go_ret2
    rw [HCc.out]
    exact ⟨⟨rfl, HM3.out⟩, U3.out⟩
  | error c =>
    rw [hc] at hA
    obtain ⟨rfl, hc0⟩ := hA
    have HC0 := hid hc0
    have HCc := hid hc
    clear hc
    go_wp2_with fail
    go_ret2
    rw [HCc.out]
    exact ⟨⟨rfl, HC0.out⟩, U3.out⟩
end Go.Proofs.YtfobkiglmphgjabGreatDoor

namespace Go.Proofs.YtfobkiglmphgjabGreatDoor
open Go.RowKit Go.Maps Go.Sort Go.Shelf

/-! ### the keys of a map, sorted -/
theorem sorts_any (m : Nat) : AnyZ.SortsIn Tryz.prog Tryz.sorted20_ren Fence.wide m :=
  ⟨fun blk off cap ss W hH hblk hsz => callsIn_wide.2 (AnyM.slices_Sort_string Tryz.laysSlM6_f41 blk off cap ss W hH hblk hsz),
   fun p cap W => callsIn_wide.2 (AnyM.slices_Sort_string_none Tryz.laysSlM6_f41 p cap W)⟩
theorem keys_any (mb : Option Nat) (W : World) : Calls Tryz.prog 21 #[.map mb] W fun e w' => e = .returned (.func (.func 42) #[] #[.pointer (some ⟨W.heap.size, 0, none⟩)]) ∧ w' = W.alloc (.cells #[.map mb] 59) :=
  callsIn_wide.1 (AnyZ.keys_in Tryz.keys21 Fence.wide 5 trivial rfl mb W)
set_option maxHeartbeats 1000000 in
theorem sorted_any {H : Type} (b nn : Nat) (D0 : DataW H) (R : Value → Option (DataW H × List MemPlace)) (w : World) (hown : w.ownsMap Tryz.prog 9 R b nn D0) (hmax : Maps.size D0 ≤ maxLen) (hbytes : Maps.size D0 * 16 ≤ 140737488355328) :
    Calls Tryz.prog 20 #[.func (.func 42) #[] #[.pointer (some ⟨w.heap.size, 0, none⟩)]] (w.alloc (.cells #[.map (some b)] 59)) fun e w' => ∃ (v : Value) (ss : List (List UInt8)), e = .returned v ∧ ss.Perm (strKeys D0) ∧
      w'.ownsRow (w.alloc (.cells #[.map (some b)] 59)).heap.size 9 1 v ss.length ((ss.mergeSort (fun x y => decide (x ≤ y))).map encStr) ∧ Below (w.alloc (.cells #[.map (some b)] 59)).heap.size (w.alloc (.cells #[.map (some b)] 59)) w' := by
  have hbl := hown.lt
  have hseq : SeqGives Fence.wide 2 Tryz.prog 42 #[.pointer (some ⟨w.heap.size, 0, none⟩)] encStr (fun ss => ss.Perm (strKeys D0)) (Maps.size D0) (w.alloc (.cells #[.map (some b)] 59)) :=
    AnyZ.keys_gives (ρ := Tryz.keys21_ren) { Tryz.keys21 with } Fence.wide _ trivial rfl (by omega) w.heap.size b nn D0 _ (by simp) (by simp) (by
      obtain ⟨es, clock, hb, Ft, hs, hD⟩ := hown
      exact ⟨es, clock, (Below.heap_alloc _ _ b hbl).trans hb, Ft, hs, hD⟩)
  refine (callsIn_wide.1 (AnyZ.sorted_in Tryz.sorted20 Fence.wide 5 trivial trivial trivial trivial rfl (by omega) (sorts_any _) (enters_of Tryz.func41 (by kernel_rfl) rfl) 42 #[.pointer (some ⟨w.heap.size, 0, none⟩)] trivial (enters_of Tryz.func42 (by kernel_rfl) rfl) _ _ hmax hbytes _ hseq)).mono ?_
  rintro e w' ⟨v, ss, h1, h2, h3, _, h5⟩
  exact ⟨v, ss, h1, h2, h3, h5⟩

theorem key_spec {w : World} {M n : Nat} {D : DataW Unit} (hown : w.ownsMap Tryz.prog 9 clR M n D) : (strKeys D).Nodup ∧ (∀ x, x ∈ strKeys D ↔ has D (.string x) = true) ∧ (strKeys D).length = Maps.size D := by
  obtain ⟨es, hD, hpw, _⟩ := hown.entries keyS
  obtain ⟨es', hD', hko⟩ := hown.keysOf
  obtain rfl : es = es' := by rw [hD] at hD'; simpa using hD'
  subst hD
  have hk : ∀ p ∈ es, ∃ x, p.1 = .string x := fun p hp => by
    obtain ⟨v, hv⟩ := hko p hp
    obtain ⟨x, _, hx, _⟩ := Maps.keyOf_str Tryz.underlying9 hv
    exact ⟨x, hx⟩
  refine ⟨?_, fun x => ?_, ?_⟩
  · show (es.map fun p => strOf p.1).Nodup
    refine List.pairwise_map.2 (hpw.imp_of_mem fun {p q} hp' hq' hne e => hne ?_)
    obtain ⟨a, ha⟩ := hk p hp'
    obtain ⟨b, hb⟩ := hk q hq'
    rw [ha, hb] at e ⊢
    exact congrArg _ e
  · rw [has_eq, List.any_eq_true]
    show x ∈ es.map (fun p => strOf p.1) ↔ _
    rw [List.mem_map]
    constructor
    · rintro ⟨p, hp', rfl⟩
      obtain ⟨a, ha⟩ := hk p hp'
      exact ⟨p, hp', by rw [ha]; simp [Lit.sameKey, strOf]⟩
    · rintro ⟨p, hp', hs⟩
      obtain ⟨a, ha⟩ := hk p hp'
      rw [ha] at hs
      exact ⟨p, hp', by rw [ha]; simpa [Lit.sameKey, strOf] using hs⟩
  · show (es.map fun p => strOf p.1).length = _
    rw [List.length_map]
    rfl
theorem le_lt {x y : List UInt8} (h : x ≤ y) (hn : x ≠ y) : x < y := by
  by_cases hl : x < y
  · exact hl
  · exact absurd (List.le_antisymm h hl) hn
theorem fm_map {α β : Type} {f : α → Option β} {g : α → β} : ∀ {ks : List α}, (∀ q ∈ ks, f q = some (g q)) → ks.filterMap f = ks.map g
  | [], _ => rfl
  | q :: ks, h => by
    rw [List.filterMap_cons, h q (List.mem_cons_self ..), List.map_cons, fm_map fun x hx => h x (List.mem_cons_of_mem _ hx)]
/-- The claim that wins. -/
def cAt (cs : List Cl) (q : List UInt8) : Cl := (win q cs).getD cl0
theorem sort_look {w : World} {M n : Nat} {D : DataW Unit} {cs : List Cl} {ss : List (List UInt8)} (hown : w.ownsMap Tryz.prog 9 clR M n D) (hf : ∀ q z, D.atKey (.string q) z = (win q cs).elim z clD) (hp : ss.Perm (strKeys D)) :
    IsLook ((ss.mergeSort (fun x y => decide (x ≤ y))).map fun q => (cAt cs q).d) (lookF cs) ∧ (∀ q ∈ ss.mergeSort (fun x y => decide (x ≤ y)), win q cs = some (cAt cs q)) := by
  obtain ⟨h1, h2, _⟩ := key_spec hown
  have hks : (ss.mergeSort (fun x y => decide (x ≤ y))).Perm (strKeys D) := (List.mergeSort_perm ss _).trans hp
  have hmem : ∀ q, q ∈ ss.mergeSort (fun x y => decide (x ≤ y)) ↔ (lookF cs q).isSome = true := fun q => by
    rw [hks.mem_iff, h2]
    have := hf q
    unfold lookF
    cases hw : win q cs with
    | none => rw [hw] at this; rw [has_false_of_atKey this]; simp
    | some x => rw [hw] at this; rw [has_true_of_atKey this]; simp
  have hsome : ∀ q ∈ ss.mergeSort (fun x y => decide (x ≤ y)), win q cs = some (cAt cs q) := fun q hq => by
    have := (hmem q).1 hq
    unfold lookF at this
    unfold cAt
    cases hw : win q cs with
    | none => rw [hw] at this; cases this
    | some x => rfl
  have hpw : (ss.mergeSort (fun x y => decide (x ≤ y))).Pairwise (· < ·) := by
    have a1 : (ss.mergeSort (fun x y => decide (x ≤ y))).Pairwise (fun x y => decide (x ≤ y) = true) := List.pairwise_mergeSort (fun a b c h1 h2 => by
      simp only [decide_eq_true_eq] at *
      exact List.le_trans h1 h2) (fun a b => by
      simp only [Bool.or_eq_true, decide_eq_true_eq]
      exact List.le_total a b) ss
    have a2 : (ss.mergeSort (fun x y => decide (x ≤ y))).Nodup := hks.nodup_iff.2 h1
    exact (a1.and a2).imp fun {a b} h => le_lt (by simpa using h.1) h.2
  refine ⟨?_, hsome⟩
  have hl := look_of_keys (f := lookF cs) (fun n x h => lookF_name cs n x h) hpw (fun n => (hmem n).symm)
  have : (ss.mergeSort (fun x y => decide (x ≤ y))).filterMap (lookF cs) = (ss.mergeSort (fun x y => decide (x ≤ y))).map fun q => (cAt cs q).d := by
    refine fm_map fun q hq => ?_
    unfold lookF
    rw [hsome q hq]
    rfl
  rw [this] at hl
  exact hl

def AnsD (w : World) (e : Ending) : Except Int (List Cl) → Prop
  | .ok cs => ∃ a c L, e = .returned (.tuple #[.slice a L.length c, .int .i64 0]) ∧ DsAt w (.slice a L.length c) L ∧ IsLook L (lookF cs) ∧ L.length ≤ 2199023255700
  | .error x => e = .returned (.tuple #[.slice none 0 0, .int .i64 x]) ∧ x ≠ 0
theorem Tryz.infoW : (Tryz.prog.info? 50).map (fun i => (i.zero, i.size, i.bytes)) = some (some (.agg #[.string ⟨#[]⟩, .string ⟨#[]⟩, .bool false]), 3, 40) := by kernel_rfl
theorem ds_own {w : World} {base : Nat} {e : TypeId} {v : Value} {l : List Dc} (h : w.ownsRow base e 3 v l.length (l.flatMap encD)) : DsAt w v l := by
  obtain ⟨a, cap, rfl, hn, hc⟩ := own_at (sz := 3) (f := encD) (fun _ => rfl) (by decide) h
  refine ⟨a, cap, rfl, hn, fun i hi => ?_⟩
  obtain ⟨b, off, rfl, hh⟩ := hc i hi
  exact ⟨b, off, rfl, hh 0 (by decide), hh 1 (by decide), hh 2 (by decide)⟩
theorem one_E (d : Dc) : ∀ u ∈ encD d, u.oneCell' = true := fun u hu => one_D [d] u (by simpa using hu)
variable {l : List Nd} {rules : List Ru} {media : List ByteArray} {mv lv rv : Value}

set_option maxRecDepth 100000 in
set_option maxHeartbeats 8000000 in
theorem declared_any (k : Int) (w : World) (hl : NdsAt w lv l) (hs : SmNs l) (hr : RusAt w rv rules) (hrs : SmRs rules) (hm : BsAt w mv media) (hml : media.length ≤ 1099511627776) (hT : Tab w) :
    Calls Tryz.prog 9 #[lv, .int .i64 k, rv, mv] w fun e w' => AnsD w' e (claimsB styB l k rules media) ∧ Below w.heap.size w w' := by
  have HW := hid (winners_any k w hl hs hr hrs hm hml hT)
  have HCl := hid (fun cs h => claims_len (l := l) (k := k) (media := media) (cs := cs) hrs h)
  clear hl hs hr hrs hm hml hT
  go_enter Tryz.func9, Tryz.ntmps9
  go_wp2_with fail
  refine HW.out.mono ?_
  rintro e w1 ⟨hA, hb1⟩
  have HB1 := hid hb1
  cases hc : claimsB styB l k rules media with
  | error x =>
    rw [hc] at hA
    obtain ⟨rfl, hx⟩ := hA
    have HX := hid hx
    have HCc := hid hc
    clear hb1 hc
    go_wp2_with fail
    go_ret2
    rw [HCc.out]
    exact ⟨⟨rfl, HX.out⟩, HB1.out⟩
  | ok cs =>
    rw [hc] at hA
    obtain ⟨rfl, n, hn, D, hown, hf⟩ := hA
    have HCc := hid hc
    have hcl := HCl.out cs hc
    have hsz := hown.size_le
    have KA := hid (keys_any (some w.heap.size) w1)
    have SA := hid (sorted_any w.heap.size n D clR w1 hown (by unfold maxLen; omega) (by omega))
    have HOw := hid hown
    have Hf := hid hf
    have HKl := hid (strKeys_le hown Tryz.underlying9)
    have HKn := hid (key_spec hown).2.2
    have hN : Maps.size D ≤ 2199023255700 := by omega
    have HNn := hid hN
    clear hb1 hc hown hf hsz HW HCl
    go_wp2_with (first
      | (go_at_call 21; refine KA.out.mono ?_; rintro e w' ⟨rfl, rfl⟩)
      | (go_at_call 20; refine SA.out.mono ?_; rintro e w3 ⟨v, ss, rfl, hP, hrow, hb3⟩; have HRow := hid hrow; have HB3 := hid hb3; have HP := hid hP; obtain ⟨va, vc, rfl⟩ := own_form hrow; clear hrow hb3 hP))
    have HL := hid (sort_look (cs := cs) HOw.out (fun q z => by rw [Hf.out q z]; cases win q cs <;> rfl) HP.out)
    have hkl : (ss.mergeSort (fun x y => decide (x ≤ y))).length = ss.length := List.length_mergeSort ss
    have hsl : ss.length ≤ 2199023255700 := by
      have h1 := HP.out.length_eq
      have h2 := HKn.out
      have h3 := HNn.out
      omega
    have HKs : Hid (∀ x ∈ ss.mergeSort (fun x y => decide (x ≤ y)), x.length ≤ maxLen) := fun x hx => HKl.out x (((List.mergeSort_perm ss _).trans HP.out).mem_iff.1 hx)
    have hb13 : Below w1.heap.size w1 w3 := ((Below.refl _ w1).alloc (Nat.le_refl _) _).trans (HB3.out.mono (by simp))
    have HMp : Hid (Mpc w3 w.heap.size n (fun q => win q cs)) := (show Mpc w1 w.heap.size n (fun q => win q cs) from ⟨D, HOw.out, Hf.out⟩).below hb13
    have HBw := hid (below_trans HB1.out hb13 (Nat.le_refl _))
    clear hb13 HB3 HOw Hf HP HKl HKn HNn KA SA
    generalize (ss.mergeSort (fun x y => decide (x ≤ y))) = ks at *
    generalize ss.length = m at *
    subst hkl
    have ML := hid hsl
    go_loopg [12, 31] ks.length (fun g v i wr => ∃ j : Nat, g = ks.length - j ∧ j ≤ ks.length ∧ i = .int .i64 (j : Int) ∧ wr.ownsRow w3.heap.size 50 3 v j ((ks.take j).flatMap fun q => encD (cAt cs q).d) ∧ Below w3.heap.size w3 wr)
    case atStart => exact ⟨0, rfl, Nat.zero_le _, rfl, World.ownsRow_nil _ _ _ _, Below.refl _ _⟩
    case round =>
      obtain ⟨j, hg, hj, rfl, hO, hB⟩ := hrel
      rename World => wo
      have GK := hid hg
      have HO := hid hO
      have HB := hid hB
      obtain ⟨ya, yc, rfl⟩ := own_form hO
      clear hg hO hB
      by_cases hlt : j < ks.length
      · obtain ⟨g, rfl, hcell⟩ := own_cell HRow.out (j := j) (by omega)
        have c0 : wo.cell? ⟨g, j, none⟩ = some (.string ⟨ks[j].toArray⟩) := by
          refine Ext.below HB.out _ _ _ (hcell.trans ?_)
          simp [hlt, encStr]
        have hlk := (HMp.out.below HB.out).look (en := clV) Tryz.underlying59 cl0 (zero67 wo) (clR_mk _) clR_inv ⟨ks[j].toArray⟩ (by
          rw [Lib.size_eq]
          exact HKs.out ks[j] (List.getElem_mem hlt))
        have HN : Hid ((ks.take (j + 1)).flatMap (fun q => encD (cAt cs q).d) = (ks.take j).flatMap (fun q => encD (cAt cs q).d) ++ encD (cAt cs ks[j]).d) := by
          show _ = _
          rw [List.take_succ_eq_append_getElem hlt, List.flatMap_append]
          simp
        have e1 : ((fun q => win q cs) (⟨ks[j].toArray⟩ : ByteArray).data.toList).getD cl0 = cAt cs ks[j] := rfl
        rw [e1] at hlk
        clear e1 hcell
        generalize (⟨ks[j].toArray⟩ : ByteArray) = kb at *
        generalize cAt cs ks[j] = c at *
        obtain ⟨⟨dn, dl, ds⟩, ow, ⟨xa, xb, xc⟩⟩ := c
        simp only [clV] at hlk
        have HO2 := hid ((HO.out.alloc (.cells #[.string dn, .string dl, .bool ds, .bool ow, .int .i64 xa, .int .i64 xb, .int .i64 xc] 67)).alloc (.cells #[.string dn, .string dl, .bool ds] 50))
        have b2 := (HB.out.alloc HB.out.size (.cells #[.string dn, .string dl, .bool ds, .bool ow, .int .i64 xa, .int .i64 xb, .int .i64 xc] 67)).alloc (by have := HB.out.size; simp; omega) (.cells #[.string dn, .string dl, .bool ds] 50)
        have HB2 := hid b2
        have HSR := hid (src_one (d := ⟨dn, dl, ds⟩) (cell_new (wo.alloc (.cells #[.string dn, .string dl, .bool ds, .bool ow, .int .i64 xa, .int .i64 xb, .int .i64 xc] 67)) #[.string dn, .string dl, .bool ds] 50 0) (cell_new (wo.alloc (.cells #[.string dn, .string dl, .bool ds, .bool ow, .int .i64 xa, .int .i64 xb, .int .i64 xc] 67)) #[.string dn, .string dl, .bool ds] 50 1) (cell_new (wo.alloc (.cells #[.string dn, .string dl, .bool ds, .bool ow, .int .i64 xa, .int .i64 xb, .int .i64 xc] 67)) #[.string dn, .string dl, .bool ds] 50 2) 1)
        have z1 : (wo.alloc (.cells #[.string dn, .string dl, .bool ds, .bool ow, .int .i64 xa, .int .i64 xb, .int .i64 xc] 67)).heap.size = wo.heap.size + 1 := by simp
        rw [z1] at HSR
        clear b2 z1
        go_wp2_with (at_builtin; refine wpList_app rfl (.tmp 38) (.tmp 49) 26 rfl w3.heap.size 50 _ 3 40 Tryz.underlying26 Tryz.infoW rfl (by decide) (.slice ya j yc) j _ rfl HO2.out _ 1 (encD ⟨dn, dl, ds⟩) rfl HSR.out rfl (one_E _) (by unfold maxLen; omega) (by omega) HB2.out.size ?_; intro v4 w4 hv4 hg4)
        have HB4 : Hid (Below w3.heap.size w3 w4) := HB2.out.grown hg4 HB2.out.size (fun i hi => (HO2.out.lt i hi).1)
        have HO4 : Hid (w4.ownsRow w3.heap.size 50 3 v4 (j + 1) ((ks.take (j + 1)).flatMap fun q => encD (cAt cs q).d)) := by
          show World.ownsRow _ _ _ _ _ _ _
          rw [HN.out]
          exact hv4
        clear hv4 hg4
        go_roundg (ks.length - (j + 1))
        case measure => have := GK.out; omega
        case rel => exact ⟨j + 1, rfl, by omega, by go_num, HO4.out, HB4.out⟩
      · obtain rfl : j = ks.length := by omega
        go_wp2_with fail
        go_ret2
        rw [HCc.out]
        have hfin : wo.ownsRow w3.heap.size 50 3 (.slice ya ks.length yc) (ks.map fun q => (cAt cs q).d).length ((ks.map fun q => (cAt cs q).d).flatMap encD) := by
          have := HO.out
          rw [List.take_length] at this
          rw [List.length_map, List.flatMap_map]
          exact this
        refine ⟨⟨ya, yc, ks.map fun q => (cAt cs q).d, by rw [List.length_map]; rfl, ?_, HL.out.1, by rw [List.length_map]; exact ML.out⟩, below_trans HBw.out HB.out (Nat.le_refl _)⟩
        have h2 := ds_own hfin
        rw [List.length_map]
        exact h2
end Go.Proofs.YtfobkiglmphgjabGreatDoor

namespace Go.Proofs.YtfobkiglmphgjabGreatDoor
open Go.RowKit Go.Maps

def AnsV (e : Ending) : Except Int ByteArray → Prop
  | .ok v => e = .returned (.tuple #[.string v, .int .i64 0])
  | .error c => e = .returned (.tuple #[.string ⟨#[]⟩, .int .i64 c]) ∧ c ≠ 0
theorem claims_in {l : List Nd} {k : Nat} {rules : List Ru} {media : List ByteArray} {cs : List Cl} (h : claimsB styB l k rules media = .ok cs) : k < l.length := by
  unfold claimsB at h
  split at h
  · rename_i hi
    unfold inB at hi
    simp at hi
    omega
  · cases h
theorem par_get {l : List Nd} {k : Nat} (h : k < l.length) : par l k = l[k].parent := by
  unfold par ndAt
  simp [h]
variable {l : List Nd} {rules : List Ru} {media : List ByteArray} {mv lv rv : Value}

set_option maxRecDepth 100000 in
set_option maxHeartbeats 8000000 in
theorem value_any (k : Nat) (name : ByteArray) (w : World) (hl : NdsAt w lv l) (hs : SmNs l) (hr : RusAt w rv rules) (hrs : SmRs rules) (hm : BsAt w mv media) (hml : media.length ≤ 1099511627776) (hT : Tab w) (hn : name.size ≤ lim) :
    Calls Tryz.prog 12 #[lv, .int .i64 (k : Int), rv, mv, .string name] w fun e w' => AnsV e (valueB styB inhB iniB l rules media name k) ∧ Below w.heap.size w w' := by
  obtain ⟨la, lc, rfl⟩ := Sl.form hl
  obtain ⟨ra, rc, rfl⟩ := Sl.form hr
  obtain ⟨ma, mc, rfl⟩ := Sl.form hm
  have HL := hid hl
  have HN := hid hs
  have HR := hid hr
  have HRs := hid hrs
  have HM := hid hm
  have HML := hid hml
  have HT := hid hT
  have HNm := hid hn
  have HNk : Hid (name.size ≤ maxLen) := Nat.le_trans hn (show lim ≤ maxLen by decide)
  clear hl hs hr hrs hm hml hT hn
  go_enter Tryz.func12, Tryz.ntmps12
  go_wp2_with fail
  go_loopg [1] k (fun n kv wr => ∃ j : Nat, n = j ∧ kv = .int .i64 (j : Int) ∧ valueB styB inhB iniB l rules media name j = valueB styB inhB iniB l rules media name k ∧ Below w.heap.size w wr)
  case atStart => exact ⟨k, rfl, rfl, rfl, Below.refl _ _⟩
  case round =>
    obtain ⟨j, hj, rfl, hE, hB⟩ := hrel
    rename World => wo
    have GK := hid hj
    have HE := hid hE
    have HB := hid hB
    have X0 := hid (Ext.below hB)
    clear hj hE hB
    have HW := hid (winners_any (rules := rules) (media := media) (j : Int) wo (HL.out.ext X0.out) HN.out (HR.out.ext X0.out) HRs.out (HM.out.ext X0.out) HML.out (HT.out.ext X0.out))
    go_wp2_with fail
    refine HW.out.mono ?_
    rintro e w1 ⟨hA, hb1⟩
    have HB1 := hid (below_trans HB.out hb1 (Nat.le_refl _))
    have X1 : Hid (Ext w w1) := X0.out.trans (Ext.below hb1)
    clear hb1 X0 HW
    cases hc : claimsB styB l j rules media with
    | error x =>
      rw [hc] at hA
      obtain ⟨rfl, hx⟩ := hA
      have HX := hid hx
      have HV : Hid (valueB styB inhB iniB l rules media name k = .error x) := HE.out.symm.trans (value_err styB inhB iniB hc)
      clear hc
      go_wp2_with fail
      go_ret2
      rw [HV.out]
      exact ⟨⟨rfl, HX.out⟩, HB1.out⟩
    | ok cs =>
      rw [hc] at hA
      obtain ⟨rfl, n, hn, hmp⟩ := hA
      have hin := claims_in hc
      have HCc := hid hc
      have hlk := hmp.look2 (en := clV) Tryz.underlying59 cl0 (zero67 _) (clR_mk _) clR_inv name HNk.out
      clear hmp hn hc
      cases ho : win name.data.toList cs with
      | some c =>
        have HV : Hid (valueB styB inhB iniB l rules media name k = .ok c.d.val) := HE.out.symm.trans (value_there styB inhB iniB HCc.out (show lookF cs name.data.toList = some c.d by unfold lookF; rw [ho]; rfl))
        rw [ho] at hlk
        obtain ⟨⟨cn, cv, cst⟩, co, ⟨xa, xb, xc⟩⟩ := c
        simp only [Option.getD, Option.isSome, clV] at hlk
        have HB2 := hid (HB1.out.alloc HB1.out.size (.cells #[.string cn, .string cv, .bool cst, .bool co, .int .i64 xa, .int .i64 xb, .int .i64 xc] 67))
        clear ho
        go_wp2_with fail
        go_ret2
        rw [HV.out]
        exact ⟨rfl, HB2.out⟩
      | none =>
        have HO : Hid (lookF cs name.data.toList = none) := by
          show _ = _
          unfold lookF
          rw [ho]
          rfl
        rw [ho] at hlk
        simp only [Option.getD, Option.isSome, clV, cl0] at hlk
        have b2 := HB1.out.alloc HB1.out.size (.cells #[.string ⟨#[]⟩, .string ⟨#[]⟩, .bool false, .bool false, .int .i64 0, .int .i64 0, .int .i64 0] 67)
        have X2 : Hid (Ext w (w1.alloc (.cells #[.string ⟨#[]⟩, .string ⟨#[]⟩, .bool false, .bool false, .int .i64 0, .int .i64 0, .int .i64 0] 67))) := X1.out.trans (ext_alloc _ _)
        have HB2 := hid b2
        obtain ⟨b, off, rfl, he⟩ := Sl.at (HL.out.ext X2.out) hin
        obtain ⟨aa, ac, d0, d1, d2, d3, d4, d5, hA⟩ := eN.cells he
        have HP := hid (par_get hin)
        have hin' : (j : Int) < l.length := by omega
        have IN := hid hin
        clear b2 ho he hA d0 d2 d3 d4 d5
        generalize hup : l[j].parent = up at *
        clear hup hin
        have IH := hid (inherits_any name (w1.alloc (.cells #[.string ⟨#[]⟩, .string ⟨#[]⟩, .bool false, .bool false, .int .i64 0, .int .i64 0, .int .i64 0] 67)) HNm.out (HT.out.ext X2.out))
        have II := hid (fun (w3 : World) (h : Ext w w3) => initial_any name w3 HNm.out (HT.out.ext h))
        cases hi : inhB name
        · have HV : Hid (valueB styB inhB iniB l rules media name k = .ok (iniB name)) := HE.out.symm.trans (value_end styB inhB iniB HCc.out HO.out (by rw [hi]; simp))
          rw [hi] at IH
          go_wp2_with (first
            | (go_at_call 17; refine IH.out.mono ?_; rintro e w3 ⟨rfl, hb3⟩; have X3 := hid (X2.out.trans (Ext.below hb3)); have HB3 := hid (below_trans HB2.out hb3 (Nat.le_refl _)); clear hb3)
            | (go_at_call 18; refine (II.out _ X3.out).mono ?_; rintro e w4 ⟨rfl, hb4⟩; have HB4 := hid (below_trans HB3.out hb4 (Nat.le_refl _)); clear hb4))
          go_ret2
          rw [HV.out]
          exact ⟨rfl, HB4.out⟩
        · rw [hi] at IH
          by_cases h0 : up < 0
          · have HV : Hid (valueB styB inhB iniB l rules media name k = .ok (iniB name)) := HE.out.symm.trans (value_end styB inhB iniB HCc.out HO.out (by rw [HP.out]; omega))
            go_wp2_with (first
              | (go_at_call 17; refine IH.out.mono ?_; rintro e w3 ⟨rfl, hb3⟩; have X3 := hid (X2.out.trans (Ext.below hb3)); have HB3 := hid (below_trans HB2.out hb3 (Nat.le_refl _)); clear hb3)
              | (go_at_call 18; refine (II.out _ X3.out).mono ?_; rintro e w4 ⟨rfl, hb4⟩; have HB4 := hid (below_trans HB3.out hb4 (Nat.le_refl _)); clear hb4))
            go_ret2
            rw [HV.out]
            exact ⟨rfl, HB4.out⟩
          by_cases h1 : (j : Int) ≤ up
          · have HV : Hid (valueB styB inhB iniB l rules media name k = .ok (iniB name)) := HE.out.symm.trans (value_end styB inhB iniB HCc.out HO.out (by rw [HP.out]; omega))
            go_wp2_with (first
              | (go_at_call 17; refine IH.out.mono ?_; rintro e w3 ⟨rfl, hb3⟩; have X3 := hid (X2.out.trans (Ext.below hb3)); have HB3 := hid (below_trans HB2.out hb3 (Nat.le_refl _)); clear hb3)
              | (go_at_call 18; refine (II.out _ X3.out).mono ?_; rintro e w4 ⟨rfl, hb4⟩; have HB4 := hid (below_trans HB3.out hb4 (Nat.le_refl _)); clear hb4))
            go_ret2
            rw [HV.out]
            exact ⟨rfl, HB4.out⟩
          · have HV : Hid (valueB styB inhB iniB l rules media name up.toNat = valueB styB inhB iniB l rules media name k) := by
              show _ = _
              rw [← HE.out, value_up styB inhB iniB HCc.out HO.out hi (by rw [HP.out]; omega) (by rw [HP.out]; omega), HP.out]
            obtain ⟨u, rfl⟩ : ∃ u : Nat, up = (u : Int) := ⟨up.toNat, by omega⟩
            have HU : Hid (u < j) := by show _ < _; omega
            have HV2 : Hid (valueB styB inhB iniB l rules media name u = valueB styB inhB iniB l rules media name k) := HV.out
            clear HV
            go_wp2_with (first
              | (go_at_call 17; refine IH.out.mono ?_; rintro e w3 ⟨rfl, hb3⟩; have X3 := hid (X2.out.trans (Ext.below hb3)); have HB3 := hid (below_trans HB2.out hb3 (Nat.le_refl _)); clear hb3)
              | (go_at_call 18; refine (II.out _ X3.out).mono ?_; rintro e w4 ⟨rfl, hb4⟩; have HB4 := hid (below_trans HB3.out hb4 (Nat.le_refl _)); clear hb4))
            go_roundg u
            case measure => have := GK.out; have := HU.out; omega
            case rel => exact ⟨u, rfl, rfl, HV2.out, HB3.out⟩
end Go.Proofs.YtfobkiglmphgjabGreatDoor
