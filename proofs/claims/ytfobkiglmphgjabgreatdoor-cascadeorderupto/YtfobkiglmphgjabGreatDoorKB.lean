/-
  How rules lie in memory; what claims does: it tells each claim in turn, or the first error. Conditions: the sizes that SmNs and SmRs name; the tables hold what their texts say.
-/
import Derived.Test.YtfobkiglmphgjabGreatDoorK7
import Derived.Test.YtfobkiglmphgjabGreatDoorK9
import Derived.Test.YtfobkiglmphgjabGreatDoorKA
namespace Go.Proofs.YtfobkiglmphgjabGreatDoor
open Go.RowKit Go.Maps

def eR (w : World) (c : Nat → Option Value) (x : Ru) : Prop := c 0 = some (.string x.media) ∧ (∃ v, c 1 = some v ∧ SsAt w v x.sels) ∧ (∃ v, c 2 = some v ∧ DsAt w v x.decls) ∧ c 3 = some (.int .i64 x.rf) ∧ c 4 = some (.int .i64 x.rt)
def RusAt (w : World) (v : Value) (l : List Ru) : Prop := Sl w 5 (eR w) v l
theorem RusAt.ext {w w' : World} {v : Value} {l : List Ru} (h : RusAt w v l) (e : Ext w w') : RusAt w' v l :=
  Sl.mono h fun _ _ _ ⟨h0, ⟨x, h1, h1'⟩, ⟨y, h2, h2'⟩, h3, h4⟩ => ⟨e _ _ _ h0, ⟨x, e _ _ _ h1, h1'.ext e⟩, ⟨y, e _ _ _ h2, h2'.ext e⟩, e _ _ _ h3, e _ _ _ h4⟩
theorem eR.cells {w : World} {b o : Nat} {x : Ru} (h : eR w (fun j => w.cell? ⟨b, o + j, none⟩) x) : ∃ sa sn sc da dn dc, w.cell? ⟨b, o, none⟩ = some (.string x.media) ∧ w.cell? ⟨b, o + 1, none⟩ = some (.slice sa sn sc) ∧ w.cell? ⟨b, o + 2, none⟩ = some (.slice da dn dc) ∧
    w.cell? ⟨b, o + 3, none⟩ = some (.int .i64 x.rf) ∧ w.cell? ⟨b, o + 4, none⟩ = some (.int .i64 x.rt) ∧ SsAt w (.slice sa sn sc) x.sels ∧ DsAt w (.slice da dn dc) x.decls := by
  obtain ⟨h0, ⟨v, h1, h1'⟩, ⟨u, h2, h2'⟩, h3, h4⟩ := h
  obtain ⟨sa, sc, rfl⟩ := Sl.form h1'
  obtain ⟨da, dc, rfl⟩ := Sl.form h2'
  exact ⟨sa, _, sc, da, _, dc, h0, h1, h2, h3, h4, h1', h2'⟩
structure SmR (r : Ru) : Prop where
  sels : SmSs r.sels
  decls : SmDs r.decls
structure SmRs (l : List Ru) : Prop where
  len : l.length ≤ 1099511627776
  sum : (l.flatMap (·.decls)).length ≤ 549755813888
  each : ∀ r ∈ l, SmR r

theorem any_mem (media : List ByteArray) (x : ByteArray) : Lib.containsS media x = media.any fun m => m.toList == x.toList := by
  rw [Bool.eq_iff_iff, Lib.containsS_iff, List.any_eq_true]
  constructor
  · intro h
    exact ⟨x, h, by simp⟩
  · rintro ⟨y, hy, e⟩
    have : y.toList = x.toList := by simpa using e
    rw [Lib.toList_data, Lib.toList_data] at this
    rw [← ba_ext this]
    exact hy
theorem cont_any (mv : Value) (media : List ByteArray) (x : ByteArray) (w : World) (h : BsAt w mv media) (hl : media.length ≤ 9223372036854775807) :
    Calls Tryz.prog 54 #[mv, .string x] w fun e w' => e = .returned (.bool (media.any fun m => m.toList == x.toList)) ∧ w' = w := by
  obtain ⟨a, cap, rfl, hn, hc⟩ := h
  by_cases h0 : media.length = 0
  · obtain rfl := List.length_eq_zero_iff.1 h0
    exact Tryz.slices_Contains_string_empty a cap x w
  · obtain ⟨b, off, rfl, _⟩ := hc 0 (by omega)
    rw [← any_mem]
    have := Tryz.slices_Contains_string b off media.length cap media x w (Nat.le_refl _) hl (fun j hj => by
      obtain ⟨b', off', e, he⟩ := hc j hj
      injection e with e
      injection e with e1 e2
      subst e1 e2
      have he' : w.cell? ⟨b, off + j * 1 + 0, none⟩ = some (.string media[j]) := he
      rw [Nat.mul_one, Nat.add_zero] at he'
      rw [he']
      simp [hj])
    rw [List.take_length] at this
    exact this

/-! ### an element's own style -/
def ofD (d : Sh.Dcl) : Dc := ⟨Sh.bs d.name, Sh.bs d.val, d.strong⟩
def styB (s : ByteArray) : Except Int (List Dc) := match Sh.declsParse s.data.toList with
  | .error x => .error x.1
  | .ok L => .ok (L.map ofD)
theorem flat_ofD : ∀ L : List Sh.Dcl, (L.map ofD).flatMap encD = L.flatMap Sh.encD
  | [] => rfl
  | d :: L => by
    rw [List.map_cons, List.flatMap_cons, List.flatMap_cons, flat_ofD L]
    rfl
theorem ds_of {w : World} {v : Value} {L : List Sh.Dcl} (h : Sh.DsAt w v L) : DsAt w v (L.map ofD) := by
  have h' : w.ownsRow 0 49 3 v (L.map ofD).length ((L.map ofD).flatMap encD) := by
    rw [flat_ofD, List.length_map]
    exact h
  exact DsAt.own h'
theorem sty_sm {s : ByteArray} {L : List Sh.Dcl} (h : Sh.declsParse s.data.toList = .ok L) : SmDs (L.map ofD) ∧ L.length ≤ 20 := by
  obtain ⟨h1, h2⟩ := Sh.declsParse_ok h
  refine ⟨⟨by rw [List.length_map]; unfold lim; omega, fun x hx => ?_⟩, h1⟩
  obtain ⟨d, hd, rfl⟩ := List.mem_map.1 hx
  obtain ⟨⟨c, t, e, _, _, hn⟩, ws, _, _, _, hv⟩ := h2 d hd
  constructor
  · show (Sh.bs d.name).size ≤ lim
    rw [Lib.size_eq]
    show d.name.toArray.toList.length ≤ lim
    unfold lim
    simp
    omega
  · show (Sh.bs d.val).size ≤ lim
    rw [Lib.size_eq]
    show d.val.toArray.toList.length ≤ lim
    unfold lim
    simp
    omega

/-! ### how many claims, and one rule more -/
variable {l : List Nd} {k : Int} {media : List ByteArray}
theorem ruleC_len {r : Ru} {x : List Cl} (h : ruleC l k media r = some x) : x.length ≤ 4 * r.decls.length := by
  unfold ruleC at h
  split at h
  · cases ha : allB r.decls with
    | none => rw [ha] at h; cases h
    | some A =>
      rw [ha] at h
      injection h with h
      rw [← h, asC_len]
      exact allB_len ha
  · injection h with h
    rw [← h]
    exact Nat.zero_le _
theorem rulesC_len : ∀ {rules : List Ru} {cs : List Cl}, rulesC l k media rules = some cs → cs.length ≤ 4 * (rules.flatMap (·.decls)).length
  | [], cs, h => by
    injection h with h
    rw [← h]
    exact Nat.zero_le _
  | r :: rs, cs, h => by
    change (ruleC l k media r).bind (fun x => (rulesC l k media rs).map (x ++ ·)) = some cs at h
    cases hr : ruleC l k media r with
    | none => rw [hr] at h; cases h
    | some x =>
      cases hs : rulesC l k media rs with
      | none => rw [hr, hs] at h; cases h
      | some y =>
        rw [hr, hs] at h
        injection h with h
        have h1 := ruleC_len hr
        have h2 := rulesC_len hs
        rw [← h, List.flatMap_cons, List.length_append, List.length_append]
        omega
theorem take_sum (rules : List Ru) (i : Nat) : ((rules.take i).flatMap (·.decls)).length ≤ (rules.flatMap (·.decls)).length := by
  have : (rules.flatMap (·.decls)).length = ((rules.take i).flatMap (·.decls)).length + ((rules.drop i).flatMap (·.decls)).length := by
    rw [← List.length_append, ← List.flatMap_append, List.take_append_drop]
  omega
theorem rulesC_one (r : Ru) : rulesC l k media [r] = ruleC l k media r := by
  show (ruleC l k media r).bind (fun x => (some []).map (x ++ ·)) = _
  cases ruleC l k media r <;> simp
theorem rulesC_next {rules : List Ru} {cs : List Cl} {i : Nat} (hi : i < rules.length) (h : rulesC l k media (rules.take i) = some cs) : rulesC l k media (rules.take (i + 1)) = (ruleC l k media rules[i]).map (cs ++ ·) := by
  rw [List.take_succ_eq_append_getElem hi, rulesC_append, h, rulesC_one]
  rfl
theorem rulesC_none {rules : List Ru} {cs : List Cl} {i : Nat} (hi : i < rules.length) (h : rulesC l k media (rules.take i) = some cs) (hr : ruleC l k media rules[i] = none) : rulesC l k media rules = none := by
  have e : rules = rules.take (i + 1) ++ rules.drop (i + 1) := (List.take_append_drop _ _).symm
  rw [e, rulesC_append, rulesC_next hi h, hr]
  rfl
theorem ruleC_no {r : Ru} (h : counts r.media media = false) : ruleC l k media r = some [] := by unfold ruleC; rw [h]; rfl
theorem ruleC_not {r : Ru} (h : (bestB l k r.sels).2 = false) : ruleC l k media r = some [] := by unfold ruleC; rw [h]; simp
theorem ruleC_yes {r : Ru} (h : counts r.media media = true) (hb : (bestB l k r.sels).2 = true) : ruleC l k media r = (allB r.decls).map (asC false (bestB l k r.sels).1) := by unfold ruleC; rw [h, hb]; rfl
theorem claims_len {rules : List Ru} {cs : List Cl} (hs : SmRs rules) (h : claimsB styB l k rules media = .ok cs) : cs.length ≤ 2199023255700 := by
  unfold claimsB at h
  split at h
  · cases hr : rulesC l k media rules with
    | none => rw [hr] at h; cases h
    | some a =>
      rw [hr] at h
      simp only at h
      have h1 := rulesC_len hr
      have h2 := hs.sum
      cases ho : ownC styB (ndAt l k.toNat) with
      | error e => rw [ho] at h; cases h
      | ok b =>
        rw [ho] at h
        injection h with h
        have hb : b.length ≤ 80 := by
          unfold ownC styB at ho
          cases hp : Sh.declsParse ((getA styleN (ndAt l k.toNat).attrs).getD ⟨#[]⟩).data.toList with
          | error x => rw [hp] at ho; cases ho
          | ok L =>
            rw [hp] at ho
            simp only at ho
            cases ha : allB (L.map ofD) with
            | none => rw [ha] at ho; cases ho
            | some A =>
              rw [ha] at ho
              injection ho with ho
              have h3 := allB_len ha
              have h4 := (sty_sm hp).2
              rw [List.length_map] at h3
              rw [← ho, asC_len]
              omega
        rw [← h, List.length_append]
        omega
  · cases h
end Go.Proofs.YtfobkiglmphgjabGreatDoor

namespace Go.Proofs.YtfobkiglmphgjabGreatDoor
open Go.RowKit Go.Maps

def AnsC (w : World) (M : Nat) (e : Ending) : Except Int (List Cl) → Prop
  | .ok cs => e = .returned (.int .i64 0) ∧ MW w M cs
  | .error c => e = .returned (.int .i64 c) ∧ c ≠ 0
theorem get_size (n : ByteArray) : ∀ {ys : List At}, (∀ a ∈ ys, a.val.size ≤ lim) → ((getA n ys).getD ⟨#[]⟩).size ≤ lim
  | [], _ => by show (0 : Nat) ≤ lim; exact Nat.zero_le _
  | a :: ys, h => by
    unfold getA
    split
    · exact h a (List.mem_cons_self ..)
    · exact get_size n (fun x hx => h x (List.mem_cons_of_mem _ hx))
theorem in_nat {l : List Nd} {k : Nat} (h : k < l.length) : inB l (k : Int) = true := by
  unfold inB
  simp
  omega
theorem nd_get {l : List Nd} {k : Nat} (h : k < l.length) : ndAt l ((k : Int).toNat) = l[k] := by
  unfold ndAt
  simp [h]
variable {l : List Nd} {k : Nat} {rules : List Ru} {media : List ByteArray}
theorem claims_none (hk : k < l.length) (h : rulesC l k media rules = none) : claimsB styB l k rules media = .error 5 := by
  unfold claimsB
  rw [if_pos (in_nat hk), h]
theorem claims_own (hk : k < l.length) {a : List Cl} (h : rulesC l k media rules = some a) : claimsB styB l k rules media = match ownC styB l[k] with
    | .error e => .error e
    | .ok b => .ok (a ++ b) := by
  unfold claimsB
  rw [if_pos (in_nat hk), h, nd_get hk]
  rfl
theorem claims_bad (hk : k < l.length) {a : List Cl} (h : rulesC l k media rules = some a) {x : Nat × Nat} (hp : Sh.declsParse ((getA styleN l[k].attrs).getD ⟨#[]⟩).data.toList = .error x) : claimsB styB l k rules media = .error x.1 := by
  rw [claims_own hk h]
  unfold ownC styB
  rw [hp]
theorem claims_sty (hk : k < l.length) {a : List Cl} (h : rulesC l k media rules = some a) {L : List Sh.Dcl} (hp : Sh.declsParse ((getA styleN l[k].attrs).getD ⟨#[]⟩).data.toList = .ok L) : claimsB styB l k rules media = match allB (L.map ofD) with
    | none => .error 5
    | some A => .ok (a ++ asC true w00 A) := by
  rw [claims_own hk h]
  unfold ownC styB
  rw [hp]
  simp only
  cases allB (L.map ofD) <;> rfl
theorem ret_int' {a b : Int} (h : a = b) : Ending.returned (.int .i64 a) = .returned (.int .i64 b) := by rw [h]
variable {mv lv rv : Value}

set_option maxRecDepth 100000 in
set_option maxHeartbeats 8000000 in
theorem claims_any (B M : Nat) (w : World) (hl : NdsAt w lv l) (hs : SmNs l) (hr : RusAt w rv rules) (hrs : SmRs rules) (hm : BsAt w mv media) (hml : media.length ≤ 1099511627776) (hT : Tab w) (hB : w.cell? ⟨B, 0, none⟩ = some (.map (some M))) (hM : MW w M []) (hk : k < l.length) :
    Calls Tryz.prog 37 #[lv, .int .i64 (k : Int), rv, mv, tellV B] w fun e w' => AnsC w' M e (claimsB styB l k rules media) ∧ Fr M w w' := by
  obtain ⟨la, lc, rfl⟩ := Sl.form hl
  obtain ⟨ra, rc, rfl⟩ := Sl.form hr
  obtain ⟨ma, mc, rfl⟩ := Sl.form hm
  have e0 := ext_alloc w (.cells #[tellV B] 94)
  have b0 : Below w.heap.size w (w.alloc (.cells #[tellV B] 94)) := (Below.refl _ _).alloc (Nat.le_refl _) _
  have HL := hid (hl.ext e0)
  have HN := hid hs
  have HR := hid (hr.ext e0)
  have HRs := hid hrs
  have HMd := hid (hm.ext e0)
  have HT := hid (hT.ext e0)
  have HB := hid (e0 _ _ _ hB)
  have HM := hid (hM.below b0)
  have HF0 := hid (cell_new w #[tellV B] 94 0)
  have HFr := hid (Fr.below b0 M)
  have HLl := hid hs.1
  have hrl := hrs.len
  have HML := hid hml
  have HK := hid hk
  clear e0 b0 hl hs hr hrs hm hml hT hB hM
  have hk63 : k < 9223372036854775807 := by have := HLl.out; unfold lim at this; omega
  simp only [tellV] at HL HR HMd HT HB HM HF0 HFr ⊢
  go_enter Tryz.func37, Tryz.ntmps37
  go_wp2_with fail
  have HF : Hid ((w.alloc (.cells #[.func (.func 38) #[] #[.pointer (some ⟨B, 0, none⟩)]] 94)).cell? ⟨w.heap.size, 0, none⟩ = some (tellV B)) := HF0.out
  clear HF0
  generalize w.alloc (.cells #[.func (.func 38) #[] #[.pointer (some ⟨B, 0, none⟩)]] 94) = w0 at *
  go_loopg [22] rules.length (fun n i wr => ∃ (j : Nat) (cs : List Cl), n = rules.length - j ∧ j ≤ rules.length ∧ i = .int .i64 (j : Int) ∧ rulesC l k media (rules.take j) = some cs ∧ MW wr M cs ∧ Fr M w0 wr)
  case atStart => exact ⟨0, [], rfl, Nat.zero_le _, rfl, by simp [rulesC], HM.out, Fr.refl _ _⟩
  case round =>
    obtain ⟨j, cs, hn', hj, rfl, hC, hm', hf'⟩ := hrel
    rename World => wo
    have GK := hid hn'
    have HC := hid hC
    have MM := hid hm'
    have FF := hid hf'
    obtain ⟨es, cl, hmap⟩ := HM.out.map
    have XX := hid (hf'.ext hmap)
    have HCl : Hid (cs.length ≤ 1152921504606846976) := by
      show _ ≤ _
      have h1 := rulesC_len hC
      have h2 := take_sum rules j
      have h3 := HRs.out.sum
      omega
    clear hn' hC hm' hf' hmap
    by_cases hlt : j < rules.length
    · obtain ⟨b, off, rfl, he⟩ := Sl.at (HR.out.ext XX.out) hlt
      obtain ⟨sa, sn, sc, da, dn, dc, c0, c1, c2, c3, c4, hS, hD⟩ := eR.cells he
      have HSm := hid (HRs.out.each rules[j] (List.getElem_mem hlt))
      have HNx := hid (rulesC_next hlt HC.out)
      have HNn := hid (fun h => claims_none HK.out (rulesC_none hlt HC.out h))
      have HS := hid hS
      have HD := hid hD
      have HJ := hid hlt
      clear he hS hD
      generalize rules[j] = r at *
      obtain ⟨md, ss, dd, rf, rt⟩ := r
      simp only at c0 c1 c2 c3 c4 HS HD
      have e1 := ext_alloc wo (.cells #[.string md, .slice sa sn sc, .slice da dn dc, .int .i64 rf, .int .i64 rt] 40)
      have b1 : Below wo.heap.size wo (wo.alloc (.cells #[.string md, .slice sa sn sc, .slice da dn dc, .int .i64 rf, .int .i64 rt] 40)) := (Below.refl _ _).alloc (Nat.le_refl _) _
      have E1 : Hid (Ext w0 (wo.alloc (.cells #[.string md, .slice sa sn sc, .slice da dn dc, .int .i64 rf, .int .i64 rt] 40))) := XX.out.trans e1
      have F1 : Hid (Fr M w0 (wo.alloc (.cells #[.string md, .slice sa sn sc, .slice da dn dc, .int .i64 rf, .int .i64 rt] 40))) := FF.out.trans (Fr.below b1 M)
      have M1 := hid (MM.out.below b1)
      have S1 := hid (HS.out.ext e1)
      have D1 := hid (HD.out.ext e1)
      have k2 : Hid ((wo.alloc (.cells #[.string md, .slice sa sn sc, .slice da dn dc, .int .i64 rf, .int .i64 rt] 40)).cell? ⟨wo.heap.size, 2, none⟩ = some (.slice da dn dc)) := cell_new wo _ _ 2
      have kz : Hid (wo.heap.size < (wo.alloc (.cells #[.string md, .slice sa sn sc, .slice da dn dc, .int .i64 rf, .int .i64 rt] 40)).heap.size) := by show _ < _; simp
      clear e1 b1 MM HS HD
      by_cases hmd : md = ⟨#[]⟩
      · have HCt : Hid (counts md media = true) := by
          show _ = _
          subst hmd
          unfold counts
          rw [Lib.toList_data]
          rfl
        subst hmd
        go_wp2_with fail
        generalize wo.alloc (.cells #[.string ⟨#[]⟩, .slice sa sn sc, .slice da dn dc, .int .i64 rf, .int .i64 rt] 40) = w1 at *
        refine (best_any _ l k ⟨#[]⟩ ss _ da dn dc rf rt w1 (HL.out.ext E1.out) HN.out (HT.out.mx.imp fun _ h => E1.out _ _ _ h) S1.out HSm.out.sels).mono ?_
        rintro e w2 ⟨rfl, hb2⟩
        have HBB : Hid (bestB l k ss = bestTo l k ss (w00, false)) := rfl
        have x2 := Ext.below hb2
        have E2 : Hid (Ext w0 w2) := E1.out.trans x2
        have F2 : Hid (Fr M w0 w2) := F1.out.trans (Fr.below hb2 M)
        have M2 := hid (M1.out.below hb2)
        have D2 := hid (D1.out.ext x2)
        have l2 := x2 _ _ _ k2.out
        have z2 : wo.heap.size < w2.heap.size := Nat.lt_of_lt_of_le kz.out hb2.size
        clear hb2 x2 k2 kz E1 F1 M1 D1 S1
        generalize bestTo l k ss (w00, false) = bb at *
        obtain ⟨⟨xa, xb, xc⟩, fd⟩ := bb
        simp only [bestV, wtV]
        cases fd
        · have HNo : Hid (rulesC l k media (rules.take (j + 1)) = some cs) := by
            show _ = _
            rw [HNx.out, ruleC_not (by rw [HBB.out])]
            simp
          have b3 := (Below.refl w2.heap.size w2).alloc (Nat.le_refl _) (.cells #[.int .i64 xa, .int .i64 xb, .int .i64 xc] 42)
          have M3 := hid (M2.out.below b3)
          have F3 := hid (F2.out.trans (Fr.below b3 M))
          clear b3
          go_wp2_with fail
          go_roundg (rules.length - (j + 1))
          case measure => have := GK.out; have := HJ.out; omega
          case rel => exact ⟨j + 1, cs, rfl, by have := HJ.out; omega, by go_num, HNo.out, M3.out, F3.out⟩
        · have b3 := (Below.refl w2.heap.size w2).alloc (Nat.le_refl _) (.cells #[.int .i64 xa, .int .i64 xb, .int .i64 xc] 42)
          have x3 := Ext.below b3
          have l3 := x3 _ _ _ l2
          have W3 : Hid (WC (w2.alloc (.cells #[.int .i64 xa, .int .i64 xb, .int .i64 xc] 42)) w2.heap.size ⟨xa, xb, xc⟩) := ⟨cell_new w2 _ _ 0, cell_new w2 _ _ 1, cell_new w2 _ _ 2⟩
          have EX := hid (exp1_any (.slice da dn dc) dd w.heap.size w2.heap.size B M ⟨xa, xb, xc⟩ cs (w2.alloc (.cells #[.int .i64 xa, .int .i64 xb, .int .i64 xc] 42)) (D2.out.ext x3) HSm.out.decls (HT.out.ext (E2.out.trans x3)) (x3 _ _ _ (E2.out _ _ _ HF.out)) W3.out (x3 _ _ _ (E2.out _ _ _ HB.out)) (M2.out.below b3) HCl.out)
          have F3 := hid (F2.out.trans (Fr.below b3 M))
          have HNy : Hid (rulesC l k media (rules.take (j + 1)) = ((allB dd).map (asC false ⟨xa, xb, xc⟩)).map (cs ++ ·)) := by
            show _ = _
            rw [HNx.out, ruleC_yes HCt.out (by rw [HBB.out]), HBB.out]
          have HNz : Hid (allB dd = none → claimsB styB l k rules media = .error 5) := fun h => HNn.out (by rw [ruleC_yes HCt.out (by rw [HBB.out]), h]; rfl)
          clear b3 x3 l2 HNx HNn
          cases ha : allB dd with
          | none =>
            have HZ := hid (HNz.out ha)
            rw [ha] at EX
            simp only [codeA, Option.isSome] at EX
            go_wp2_with (go_at_call 55; refine EX.out.mono ?_; rintro e w4 ⟨rfl, hm4, hf4⟩; have F4 := hid (F3.out.trans hf4); clear hm4 hf4)
            go_ret
            rw [HZ.out]
            exact ⟨⟨rfl, by decide⟩, HFr.out.trans F4.out⟩
          | some A =>
            have HZ : Hid (rulesC l k media (rules.take (j + 1)) = some (cs ++ asC false ⟨xa, xb, xc⟩ A)) := by
              show _ = _
              rw [HNy.out, ha]
              rfl
            rw [ha] at EX
            simp only [codeA, Option.isSome, Option.getD] at EX
            go_wp2_with (go_at_call 55; refine EX.out.mono ?_; rintro e w4 ⟨rfl, hm4, hf4⟩; have F4 := hid (F3.out.trans hf4); have M4 := hid hm4; clear hm4 hf4)
            go_roundg (rules.length - (j + 1))
            case measure => have := GK.out; have := HJ.out; omega
            case rel => exact ⟨j + 1, _, rfl, by have := HJ.out; omega, by go_num, HZ.out, M4.out, F4.out⟩
      · have hne : (md.toList == []) = false := by
          rw [Bool.eq_false_iff]
          intro h
          exact hmd (ba_ext (by rw [← Lib.toList_data]; simpa using h))
        have HCn : Hid (counts md media = media.any fun m => m.toList == md.toList) := by
          show _ = _
          unfold counts
          have : md.toList.isEmpty = false := by
            rw [Bool.eq_false_iff] at hne ⊢
            intro h
            exact hne (by simpa using h)
          rw [this]
          rfl
        have CA := hid (cont_any (.slice ma media.length mc) media md (wo.alloc (.cells #[.string md, .slice sa sn sc, .slice da dn dc, .int .i64 rf, .int .i64 rt] 40)) (HMd.out.ext E1.out) (by have := HML.out; omega))
        clear hmd
        generalize (media.any fun m => m.toList == md.toList) = q at *
        cases q
        · have HNo : Hid (rulesC l k media (rules.take (j + 1)) = some cs) := by
            show _ = _
            rw [HNx.out, ruleC_no HCn.out]
            simp
          go_wp2_with (go_at_call 54; refine CA.out.mono ?_; rintro e w' ⟨rfl, rfl⟩)
          go_roundg (rules.length - (j + 1))
          case measure => have := GK.out; have := HJ.out; omega
          case rel => exact ⟨j + 1, cs, rfl, by have := HJ.out; omega, by go_num, HNo.out, M1.out, F1.out⟩
        · have HCt : Hid (counts md media = true) := HCn.out
          clear HCn
          go_wp2_with (go_at_call 54; refine CA.out.mono ?_; rintro e w' ⟨rfl, rfl⟩)
          generalize wo.alloc (.cells #[.string md, .slice sa sn sc, .slice da dn dc, .int .i64 rf, .int .i64 rt] 40) = w1 at *
          refine (best_any _ l k md ss _ da dn dc rf rt w1 (HL.out.ext E1.out) HN.out (HT.out.mx.imp fun _ h => E1.out _ _ _ h) S1.out HSm.out.sels).mono ?_
          rintro e w2 ⟨rfl, hb2⟩
          have HBB : Hid (bestB l k ss = bestTo l k ss (w00, false)) := rfl
          have x2 := Ext.below hb2
          have E2 : Hid (Ext w0 w2) := E1.out.trans x2
          have F2 : Hid (Fr M w0 w2) := F1.out.trans (Fr.below hb2 M)
          have M2 := hid (M1.out.below hb2)
          have D2 := hid (D1.out.ext x2)
          have l2 := x2 _ _ _ k2.out
          have z2 : wo.heap.size < w2.heap.size := Nat.lt_of_lt_of_le kz.out hb2.size
          clear hb2 x2 k2 kz E1 F1 M1 D1 S1
          generalize bestTo l k ss (w00, false) = bb at *
          obtain ⟨⟨xa, xb, xc⟩, fd⟩ := bb
          simp only [bestV, wtV]
          cases fd
          · have HNo : Hid (rulesC l k media (rules.take (j + 1)) = some cs) := by
              show _ = _
              rw [HNx.out, ruleC_not (by rw [HBB.out])]
              simp
            have b3 := (Below.refl w2.heap.size w2).alloc (Nat.le_refl _) (.cells #[.int .i64 xa, .int .i64 xb, .int .i64 xc] 42)
            have M3 := hid (M2.out.below b3)
            have F3 := hid (F2.out.trans (Fr.below b3 M))
            clear b3
            go_wp2_with fail
            go_roundg (rules.length - (j + 1))
            case measure => have := GK.out; have := HJ.out; omega
            case rel => exact ⟨j + 1, cs, rfl, by have := HJ.out; omega, by go_num, HNo.out, M3.out, F3.out⟩
          · have b3 := (Below.refl w2.heap.size w2).alloc (Nat.le_refl _) (.cells #[.int .i64 xa, .int .i64 xb, .int .i64 xc] 42)
            have x3 := Ext.below b3
            have l3 := x3 _ _ _ l2
            have W3 : Hid (WC (w2.alloc (.cells #[.int .i64 xa, .int .i64 xb, .int .i64 xc] 42)) w2.heap.size ⟨xa, xb, xc⟩) := ⟨cell_new w2 _ _ 0, cell_new w2 _ _ 1, cell_new w2 _ _ 2⟩
            have EX := hid (exp1_any (.slice da dn dc) dd w.heap.size w2.heap.size B M ⟨xa, xb, xc⟩ cs (w2.alloc (.cells #[.int .i64 xa, .int .i64 xb, .int .i64 xc] 42)) (D2.out.ext x3) HSm.out.decls (HT.out.ext (E2.out.trans x3)) (x3 _ _ _ (E2.out _ _ _ HF.out)) W3.out (x3 _ _ _ (E2.out _ _ _ HB.out)) (M2.out.below b3) HCl.out)
            have F3 := hid (F2.out.trans (Fr.below b3 M))
            have HNy : Hid (rulesC l k media (rules.take (j + 1)) = ((allB dd).map (asC false ⟨xa, xb, xc⟩)).map (cs ++ ·)) := by
              show _ = _
              rw [HNx.out, ruleC_yes HCt.out (by rw [HBB.out]), HBB.out]
            have HNz : Hid (allB dd = none → claimsB styB l k rules media = .error 5) := fun h => HNn.out (by rw [ruleC_yes HCt.out (by rw [HBB.out]), h]; rfl)
            clear b3 x3 l2 HNx HNn
            cases ha : allB dd with
            | none =>
              have HZ := hid (HNz.out ha)
              rw [ha] at EX
              simp only [codeA, Option.isSome] at EX
              go_wp2_with (go_at_call 55; refine EX.out.mono ?_; rintro e w4 ⟨rfl, hm4, hf4⟩; have F4 := hid (F3.out.trans hf4); clear hm4 hf4)
              go_ret
              rw [HZ.out]
              exact ⟨⟨rfl, by decide⟩, HFr.out.trans F4.out⟩
            | some A =>
              have HZ : Hid (rulesC l k media (rules.take (j + 1)) = some (cs ++ asC false ⟨xa, xb, xc⟩ A)) := by
                show _ = _
                rw [HNy.out, ha]
                rfl
              rw [ha] at EX
              simp only [codeA, Option.isSome, Option.getD] at EX
              go_wp2_with (go_at_call 55; refine EX.out.mono ?_; rintro e w4 ⟨rfl, hm4, hf4⟩; have F4 := hid (F3.out.trans hf4); have M4 := hid hm4; clear hm4 hf4)
              go_roundg (rules.length - (j + 1))
              case measure => have := GK.out; have := HJ.out; omega
              case rel => exact ⟨j + 1, _, rfl, by have := HJ.out; omega, by go_num, HZ.out, M4.out, F4.out⟩
    · have HCa : Hid (rulesC l k media rules = some cs) := by
        have := HC.out
        rw [List.take_of_length_le (by omega)] at this
        exact this
      obtain ⟨b, off, rfl, he⟩ := Sl.at (HL.out.ext XX.out) HK.out
      obtain ⟨aa, ac, d0, d1, d2, d3, d4, d5, hA⟩ := eN.cells he
      have HSn := hid (HN.out.2 l[k] (List.getElem_mem HK.out))
      have HBd := hid (fun x hp => claims_bad (x := x) HK.out HCa.out hp)
      have HSt := hid (fun L hp => claims_sty (L := L) HK.out HCa.out hp)
      have HA := hid hA
      have KK := hid hk
      have HGs := hid (get_size styleN HSn.out.vals)
      clear he hA HC
      generalize hnd : l[k]'KK.out = x at *
      clear hnd
      have hkl : (k : Int) < l.length := by have := KK.out; omega
      obtain ⟨nn, pp, ats, ne, fr, tt⟩ := x
      simp only at d0 d1 d2 d3 d4 d5 HA HGs HBd HSt
      have GA := hid (get_any ⟨nn, pp, ats, ne, fr, tt⟩ (.slice aa ats.length ac) styleN wo HA.out HSn.out)
      simp only [nodeV, getV, styleN] at GA
      have HBd' : Hid (∀ x, Sh.declsParse ((getA ⟨#[115, 116, 121, 108, 101]⟩ ats).getD ⟨#[]⟩).data.toList = .error x → claimsB styB l k rules media = .error x.1) := HBd.out
      have HSt' : Hid (∀ L, Sh.declsParse ((getA ⟨#[115, 116, 121, 108, 101]⟩ ats).getD ⟨#[]⟩).data.toList = .ok L → claimsB styB l k rules media = match allB (L.map ofD) with
        | none => .error 5
        | some A => .ok (cs ++ asC true w00 A)) := HSt.out
      have HGs' : Hid (((getA ⟨#[115, 116, 121, 108, 101]⟩ ats).getD ⟨#[]⟩).size ≤ lim) := HGs.out
      clear HBd HSt HGs
      generalize getA ⟨#[115, 116, 121, 108, 101]⟩ ats = o at *
      generalize o.getD ⟨#[]⟩ = sv at *
      generalize o.isSome = so at *
      go_wp2_with (go_at_call 57; refine GA.out.mono ?_; rintro e w1 ⟨rfl, hb1⟩; have B1 := hid hb1; clear hb1)
      have x1 := Ext.below B1.out
      have E1 : Hid (Ext w0 w1) := XX.out.trans x1
      have F1 : Hid (Fr M w0 w1) := FF.out.trans (Fr.below B1.out M)
      have M1 := hid (MM.out.below B1.out)
      clear x1 XX FF MM B1 d0 d1 d2 d3 d4 d5
      refine Sh.dparse_any sv w1 _ (by have := HGs'.out; unfold lim at this; omega) (HT.out.mx.imp fun _ h => E1.out _ _ _ h) (hid ?_) (hid ?_)
      · intro L nv w2 hp hd hb2
        have HSt2 := hid (HSt'.out L hp)
        obtain ⟨na, nc, rfl⟩ := Sl.form (ds_of hd)
        have b3 := hb2.alloc hb2.size (.cells #[.int .i64 0, .int .i64 0] 75)
        have x3 := Ext.below b3
        have EX := hid (exp2_any (.slice na (L.map ofD).length nc) (L.map ofD) w.heap.size B M cs (w2.alloc (.cells #[.int .i64 0, .int .i64 0] 75)) ((ds_of hd).ext (ext_alloc _ _)) (sty_sm hp).1 (HT.out.ext (E1.out.trans x3)) (x3 _ _ _ (E1.out _ _ _ HF.out)) (x3 _ _ _ (E1.out _ _ _ HB.out)) (M1.out.below b3) HCl.out)
        have F3 := hid (F1.out.trans (Fr.below b3 M))
        clear hp hd hb2 b3 x3 HSt' HBd'
        generalize L.map ofD = ll at *
        cases ha : allB ll with
        | none =>
          rw [ha] at EX HSt2
          simp only [codeA, Option.isSome] at EX
          go_wp2_with (go_at_call 55; refine EX.out.mono ?_; rintro e w4 ⟨rfl, hm4, hf4⟩; have F4 := hid (F3.out.trans hf4); clear hm4 hf4)
          go_ret
          rw [HSt2.out]
          exact ⟨⟨rfl, by decide⟩, HFr.out.trans F4.out⟩
        | some A =>
          rw [ha] at EX HSt2
          simp only [codeA, Option.isSome, Option.getD] at EX
          go_wp2_with (go_at_call 55; refine EX.out.mono ?_; rintro e w4 ⟨rfl, hm4, hf4⟩; have F4 := hid (F3.out.trans hf4); have M4 := hid hm4; clear hm4 hf4)
          go_ret
          rw [HSt2.out]
          exact ⟨⟨rfl, M4.out⟩, HFr.out.trans F4.out⟩
      · intro y w2 hp hb2
        have HBd2 := hid (HBd'.out y hp)
        have hy := Sh.decls_fault hp
        have hy' : ¬ ((y.1 : Int) = 0) := by omega
        have HY := hid hy'
        have F3 := hid (F1.out.trans (Fr.below (hb2.alloc hb2.size (.cells #[.int .i64 y.1, .int .i64 y.2] 75)) M))
        clear hp hb2 HBd' HSt' hy
        go_wp2_with fail
        go_ret
        rw [HBd2.out]
        exact ⟨⟨rfl, HY.out⟩, HFr.out.trans F3.out⟩
end Go.Proofs.YtfobkiglmphgjabGreatDoor
