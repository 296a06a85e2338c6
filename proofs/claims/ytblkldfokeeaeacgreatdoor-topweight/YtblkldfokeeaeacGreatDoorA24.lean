/- Texts that the statement's proof stands on: C6, C7, C8. -/
import Derived.Test.YtblkldfokeeaeacGreatDoorA23
import Derived.Sort.KeysCollected
namespace Go.Proofs.YtblkldfokeeaeacGreatDoor
open Go.RowKit Go.Maps
def AnsC (w : World) (M : Nat) (e : Ending) : Except Int (List Cl) → Prop
  | .ok cs => e = .returned (.int .i64 0) ∧ MW w M cs
  | .error c => e = .returned (.int .i64 c) ∧ c ≠ 0
theorem get_size (n : ByteArray) : ∀ {ys : List At}, (∀ a ∈ ys, a.val.size ≤ lim) → ((getA n ys).getD ⟨#[]⟩).size ≤ lim
  | [], _ => by show (0 : Nat) ≤ lim; exact Nat.zero_le _
  | a :: ys, h => by
    unfold getA
    split
    · exact h a (List.mem_cons_self ..)
    · exact get_size n (fun x hx => h x (List.mem_cons_of_mem _ hx))
theorem in_nat {l : List Nd} {k : Nat} (h : k < l.length) : inB l (k : Int) = true := by
  unfold inB
  simp
  omega
theorem nd_get {l : List Nd} {k : Nat} (h : k < l.length) : ndAt l ((k : Int).toNat) = l[k] := by
  unfold ndAt
  simp [h]
variable {l : List Nd} {k : Nat} {rules : List Ru} {media : List ByteArray}
theorem claims_none (hk : k < l.length) (h : rulesC l k media rules = none) : claimsB styB l k rules media = .error 5 := by
  unfold claimsB
  rw [if_pos (in_nat hk), h]
theorem claims_own (hk : k < l.length) {a : List Cl} (h : rulesC l k media rules = some a) : claimsB styB l k rules media = match ownC styB l[k] with
    | .error e => .error e
    | .ok b => .ok (a ++ b) := by
  unfold claimsB
  rw [if_pos (in_nat hk), h, nd_get hk]
  rfl
theorem claims_bad (hk : k < l.length) {a : List Cl} (h : rulesC l k media rules = some a) {x : Nat × Nat} (hp : Sh.declsParse ((getA styleN l[k].attrs).getD ⟨#[]⟩).data.toList = .error x) : claimsB styB l k rules media = .error x.1 := by
  rw [claims_own hk h]
  unfold ownC styB
  rw [hp]
theorem claims_sty (hk : k < l.length) {a : List Cl} (h : rulesC l k media rules = some a) {L : List Sh.Dcl} (hp : Sh.declsParse ((getA styleN l[k].attrs).getD ⟨#[]⟩).data.toList = .ok L) : claimsB styB l k rules media = match allB (L.map ofD) with
    | none => .error 5
    | some A => .ok (a ++ asC true w00 A) := by
  rw [claims_own hk h]
  unfold ownC styB
  rw [hp]
  simp only
  cases allB (L.map ofD) <;> rfl
variable {mv lv rv : Value}
set_option maxRecDepth 100000 in
set_option maxHeartbeats 8000000 in
theorem claims_any (B M : Nat) (w : World) (hl : NdsAt w lv l) (hs : SmNs l) (hr : RusAt w rv rules) (hrs : SmRs rules) (hm : BsAt w mv media) (hml : media.length ≤ 1099511627776) (hT : Tab w) (hB : w.cell? ⟨B, 0, none⟩ = some (.map (some M))) (hM : MW w M []) (hk : k < l.length) :
    Calls Tryz.prog 65 #[lv, .int .i64 (k : Int), rv, mv, tellV B] w fun e w' => AnsC w' M e (claimsB styB l k rules media) ∧ Fr M w w' := by
  obtain ⟨la, lc, rfl⟩ := Sl.form hl
  obtain ⟨ra, rc, rfl⟩ := Sl.form hr
  obtain ⟨ma, mc, rfl⟩ := Sl.form hm
  have e0 := ext_alloc w (.cells #[tellV B] 135)
  have b0 : Below w.heap.size w (w.alloc (.cells #[tellV B] 135)) := (Below.refl _ _).alloc (Nat.le_refl _) _
  have HL := hid (hl.ext e0)
  have HN := hid hs
  have HR := hid (hr.ext e0)
  have HRs := hid hrs
  have HMd := hid (hm.ext e0)
  have HT := hid (hT.ext e0)
  have HB := hid (e0 _ _ _ hB)
  have HM := hid (hM.below b0)
  have HF0 := hid (cell_new w #[tellV B] 135 0)
  have HFr := hid (Fr.below b0 M)
  have HLl := hid hs.1
  have hrl := hrs.len
  have HML := hid hml
  have HK := hid hk
  clear e0 b0 hl hs hr hrs hm hml hT hB hM
  have hk63 : k < 9223372036854775807 := by have := HLl.out; unfold lim at this; omega
  simp only [tellV] at HL HR HMd HT HB HM HF0 HFr ⊢
  go_enter Tryz.func65, Tryz.ntmps65
  go_wp2_with fail
  have HF : Hid ((w.alloc (.cells #[.func (.func 66) #[] #[.pointer (some ⟨B, 0, none⟩)]] 135)).cell? ⟨w.heap.size, 0, none⟩ = some (tellV B)) := HF0.out
  clear HF0
  generalize w.alloc (.cells #[.func (.func 66) #[] #[.pointer (some ⟨B, 0, none⟩)]] 135) = w0 at *
  go_loopg [22] rules.length (fun n i wr => ∃ (j : Nat) (cs : List Cl), n = rules.length - j ∧ j ≤ rules.length ∧ i = .int .i64 (j : Int) ∧ rulesC l k media (rules.take j) = some cs ∧ MW wr M cs ∧ Fr M w0 wr)
  case atStart => exact ⟨0, [], rfl, Nat.zero_le _, rfl, by simp [rulesC], HM.out, Fr.refl _ _⟩
  case round =>
    obtain ⟨j, cs, hn', hj, rfl, hC, hm', hf'⟩ := hrel
    rename World => wo
    have GK := hid hn'
    have HC := hid hC
    have MM := hid hm'
    have FF := hid hf'
    obtain ⟨es, cl, hmap⟩ := HM.out.map
    have XX := hid (hf'.ext hmap)
    have HCl : Hid (cs.length ≤ 1152921504606846976) := by
      show _ ≤ _
      have h1 := rulesC_len hC
      have h2 := take_sum rules j
      have h3 := HRs.out.sum
      omega
    clear hn' hC hm' hf' hmap
    by_cases hlt : j < rules.length
    · obtain ⟨b, off, rfl, he⟩ := Sl.at (HR.out.ext XX.out) hlt
      obtain ⟨sa, sn, sc, da, dn, dc, c0, c1, c2, c3, c4, hS, hD⟩ := eR.cells he
      have HSm := hid (HRs.out.each rules[j] (List.getElem_mem hlt))
      have HNx := hid (rulesC_next hlt HC.out)
      have HNn := hid (fun h => claims_none HK.out (rulesC_none hlt HC.out h))
      have HS := hid hS
      have HD := hid hD
      have HJ := hid hlt
      clear he hS hD
      generalize rules[j] = r at *
      obtain ⟨md, ss, dd, rf, rt⟩ := r
      simp only at c0 c1 c2 c3 c4 HS HD
      have e1 := ext_alloc wo (.cells #[.string md, .slice sa sn sc, .slice da dn dc, .int .i64 rf, .int .i64 rt] 38)
      have b1 : Below wo.heap.size wo (wo.alloc (.cells #[.string md, .slice sa sn sc, .slice da dn dc, .int .i64 rf, .int .i64 rt] 38)) := (Below.refl _ _).alloc (Nat.le_refl _) _
      have E1 : Hid (Ext w0 (wo.alloc (.cells #[.string md, .slice sa sn sc, .slice da dn dc, .int .i64 rf, .int .i64 rt] 38))) := XX.out.trans e1
      have F1 : Hid (Fr M w0 (wo.alloc (.cells #[.string md, .slice sa sn sc, .slice da dn dc, .int .i64 rf, .int .i64 rt] 38))) := FF.out.trans (Fr.below b1 M)
      have M1 := hid (MM.out.below b1)
      have S1 := hid (HS.out.ext e1)
      have D1 := hid (HD.out.ext e1)
      have k2 : Hid ((wo.alloc (.cells #[.string md, .slice sa sn sc, .slice da dn dc, .int .i64 rf, .int .i64 rt] 38)).cell? ⟨wo.heap.size, 2, none⟩ = some (.slice da dn dc)) := cell_new wo _ _ 2
      have kz : Hid (wo.heap.size < (wo.alloc (.cells #[.string md, .slice sa sn sc, .slice da dn dc, .int .i64 rf, .int .i64 rt] 38)).heap.size) := by show _ < _; simp
      clear e1 b1 MM HS HD
      by_cases hmd : md = ⟨#[]⟩
      · have HCt : Hid (counts md media = true) := by
          show _ = _
          subst hmd
          unfold counts
          rw [Lib.toList_data]
          rfl
        subst hmd
        go_wp2_with fail
        generalize wo.alloc (.cells #[.string ⟨#[]⟩, .slice sa sn sc, .slice da dn dc, .int .i64 rf, .int .i64 rt] 38) = w1 at *
        refine (best_any _ l k ⟨#[]⟩ ss _ da dn dc rf rt w1 (HL.out.ext E1.out) HN.out (HT.out.mx.imp fun _ h => E1.out _ _ _ h) S1.out HSm.out.sels).mono ?_
        rintro e w2 ⟨rfl, hb2⟩
        have HBB : Hid (bestB l k ss = bestTo l k ss (w00, false)) := rfl
        have x2 := Ext.below hb2
        have E2 : Hid (Ext w0 w2) := E1.out.trans x2
        have F2 : Hid (Fr M w0 w2) := F1.out.trans (Fr.below hb2 M)
        have M2 := hid (M1.out.below hb2)
        have D2 := hid (D1.out.ext x2)
        have l2 := x2 _ _ _ k2.out
        have z2 : wo.heap.size < w2.heap.size := Nat.lt_of_lt_of_le kz.out hb2.size
        clear hb2 x2 k2 kz E1 F1 M1 D1 S1
        generalize bestTo l k ss (w00, false) = bb at *
        obtain ⟨⟨xa, xb, xc⟩, fd⟩ := bb
        simp only [bestV, wtV]
        cases fd
        · have HNo : Hid (rulesC l k media (rules.take (j + 1)) = some cs) := by
            show _ = _
            rw [HNx.out, ruleC_not (by rw [HBB.out])]
            simp
          have b3 := (Below.refl w2.heap.size w2).alloc (Nat.le_refl _) (.cells #[.int .i64 xa, .int .i64 xb, .int .i64 xc] 86)
          have M3 := hid (M2.out.below b3)
          have F3 := hid (F2.out.trans (Fr.below b3 M))
          clear b3
          go_wp2_with fail
          go_roundg (rules.length - (j + 1))
          case measure => have := GK.out; have := HJ.out; omega
          case rel => exact ⟨j + 1, cs, rfl, by have := HJ.out; omega, by go_num, HNo.out, M3.out, F3.out⟩
        · have b3 := (Below.refl w2.heap.size w2).alloc (Nat.le_refl _) (.cells #[.int .i64 xa, .int .i64 xb, .int .i64 xc] 86)
          have x3 := Ext.below b3
          have l3 := x3 _ _ _ l2
          have W3 : Hid (WC (w2.alloc (.cells #[.int .i64 xa, .int .i64 xb, .int .i64 xc] 86)) w2.heap.size ⟨xa, xb, xc⟩) := ⟨cell_new w2 _ _ 0, cell_new w2 _ _ 1, cell_new w2 _ _ 2⟩
          have EX := hid (exp1_any (.slice da dn dc) dd w.heap.size w2.heap.size B M ⟨xa, xb, xc⟩ cs (w2.alloc (.cells #[.int .i64 xa, .int .i64 xb, .int .i64 xc] 86)) (D2.out.ext x3) HSm.out.decls (HT.out.ext (E2.out.trans x3)) (x3 _ _ _ (E2.out _ _ _ HF.out)) W3.out (x3 _ _ _ (E2.out _ _ _ HB.out)) (M2.out.below b3) HCl.out)
          have F3 := hid (F2.out.trans (Fr.below b3 M))
          have HNy : Hid (rulesC l k media (rules.take (j + 1)) = ((allB dd).map (asC false ⟨xa, xb, xc⟩)).map (cs ++ ·)) := by
            show _ = _
            rw [HNx.out, ruleC_yes HCt.out (by rw [HBB.out]), HBB.out]
          have HNz : Hid (allB dd = none → claimsB styB l k rules media = .error 5) := fun h => HNn.out (by rw [ruleC_yes HCt.out (by rw [HBB.out]), h]; rfl)
          clear b3 x3 l2 HNx HNn
          cases ha : allB dd with
          | none =>
            have HZ := hid (HNz.out ha)
            rw [ha] at EX
            simp only [codeA, Option.isSome] at EX
            go_wp2_with (go_at_call 98; refine EX.out.mono ?_; rintro e w4 ⟨rfl, hm4, hf4⟩; have F4 := hid (F3.out.trans hf4); clear hm4 hf4)
            go_ret
            rw [HZ.out]
            exact ⟨⟨rfl, by decide⟩, HFr.out.trans F4.out⟩
          | some A =>
            have HZ : Hid (rulesC l k media (rules.take (j + 1)) = some (cs ++ asC false ⟨xa, xb, xc⟩ A)) := by
              show _ = _
              rw [HNy.out, ha]
              rfl
            rw [ha] at EX
            simp only [codeA, Option.isSome, Option.getD] at EX
            go_wp2_with (go_at_call 98; refine EX.out.mono ?_; rintro e w4 ⟨rfl, hm4, hf4⟩; have F4 := hid (F3.out.trans hf4); have M4 := hid hm4; clear hm4 hf4)
            go_roundg (rules.length - (j + 1))
            case measure => have := GK.out; have := HJ.out; omega
            case rel => exact ⟨j + 1, _, rfl, by have := HJ.out; omega, by go_num, HZ.out, M4.out, F4.out⟩
      · have hne : (md.toList == []) = false := by
          rw [Bool.eq_false_iff]
          intro h
          exact hmd (ba_ext (by rw [← Lib.toList_data]; simpa using h))
        have HCn : Hid (counts md media = media.any fun m => m.toList == md.toList) := by
          show _ = _
          unfold counts
          have : md.toList.isEmpty = false := by
            rw [Bool.eq_false_iff] at hne ⊢
            intro h
            exact hne (by simpa using h)
          rw [this]
          rfl
        have CA := hid (cont_any (.slice ma media.length mc) media md (wo.alloc (.cells #[.string md, .slice sa sn sc, .slice da dn dc, .int .i64 rf, .int .i64 rt] 38)) (HMd.out.ext E1.out) (by have := HML.out; omega))
        clear hmd
        generalize (media.any fun m => m.toList == md.toList) = q at *
        cases q
        · have HNo : Hid (rulesC l k media (rules.take (j + 1)) = some cs) := by
            show _ = _
            rw [HNx.out, ruleC_no HCn.out]
            simp
          go_wp2_with (go_at_call 96; refine CA.out.mono ?_; rintro e w' ⟨rfl, rfl⟩)
          go_roundg (rules.length - (j + 1))
          case measure => have := GK.out; have := HJ.out; omega
          case rel => exact ⟨j + 1, cs, rfl, by have := HJ.out; omega, by go_num, HNo.out, M1.out, F1.out⟩
        · have HCt : Hid (counts md media = true) := HCn.out
          clear HCn
          go_wp2_with (go_at_call 96; refine CA.out.mono ?_; rintro e w' ⟨rfl, rfl⟩)
          generalize wo.alloc (.cells #[.string md, .slice sa sn sc, .slice da dn dc, .int .i64 rf, .int .i64 rt] 38) = w1 at *
          refine (best_any _ l k md ss _ da dn dc rf rt w1 (HL.out.ext E1.out) HN.out (HT.out.mx.imp fun _ h => E1.out _ _ _ h) S1.out HSm.out.sels).mono ?_
          rintro e w2 ⟨rfl, hb2⟩
          have HBB : Hid (bestB l k ss = bestTo l k ss (w00, false)) := rfl
          have x2 := Ext.below hb2
          have E2 : Hid (Ext w0 w2) := E1.out.trans x2
          have F2 : Hid (Fr M w0 w2) := F1.out.trans (Fr.below hb2 M)
          have M2 := hid (M1.out.below hb2)
          have D2 := hid (D1.out.ext x2)
          have l2 := x2 _ _ _ k2.out
          have z2 : wo.heap.size < w2.heap.size := Nat.lt_of_lt_of_le kz.out hb2.size
          clear hb2 x2 k2 kz E1 F1 M1 D1 S1
          generalize bestTo l k ss (w00, false) = bb at *
          obtain ⟨⟨xa, xb, xc⟩, fd⟩ := bb
          simp only [bestV, wtV]
          cases fd
          · have HNo : Hid (rulesC l k media (rules.take (j + 1)) = some cs) := by
              show _ = _
              rw [HNx.out, ruleC_not (by rw [HBB.out])]
              simp
            have b3 := (Below.refl w2.heap.size w2).alloc (Nat.le_refl _) (.cells #[.int .i64 xa, .int .i64 xb, .int .i64 xc] 86)
            have M3 := hid (M2.out.below b3)
            have F3 := hid (F2.out.trans (Fr.below b3 M))
            clear b3
            go_wp2_with fail
            go_roundg (rules.length - (j + 1))
            case measure => have := GK.out; have := HJ.out; omega
            case rel => exact ⟨j + 1, cs, rfl, by have := HJ.out; omega, by go_num, HNo.out, M3.out, F3.out⟩
          · have b3 := (Below.refl w2.heap.size w2).alloc (Nat.le_refl _) (.cells #[.int .i64 xa, .int .i64 xb, .int .i64 xc] 86)
            have x3 := Ext.below b3
            have l3 := x3 _ _ _ l2
            have W3 : Hid (WC (w2.alloc (.cells #[.int .i64 xa, .int .i64 xb, .int .i64 xc] 86)) w2.heap.size ⟨xa, xb, xc⟩) := ⟨cell_new w2 _ _ 0, cell_new w2 _ _ 1, cell_new w2 _ _ 2⟩
            have EX := hid (exp1_any (.slice da dn dc) dd w.heap.size w2.heap.size B M ⟨xa, xb, xc⟩ cs (w2.alloc (.cells #[.int .i64 xa, .int .i64 xb, .int .i64 xc] 86)) (D2.out.ext x3) HSm.out.decls (HT.out.ext (E2.out.trans x3)) (x3 _ _ _ (E2.out _ _ _ HF.out)) W3.out (x3 _ _ _ (E2.out _ _ _ HB.out)) (M2.out.below b3) HCl.out)
            have F3 := hid (F2.out.trans (Fr.below b3 M))
            have HNy : Hid (rulesC l k media (rules.take (j + 1)) = ((allB dd).map (asC false ⟨xa, xb, xc⟩)).map (cs ++ ·)) := by
              show _ = _
              rw [HNx.out, ruleC_yes HCt.out (by rw [HBB.out]), HBB.out]
            have HNz : Hid (allB dd = none → claimsB styB l k rules media = .error 5) := fun h => HNn.out (by rw [ruleC_yes HCt.out (by rw [HBB.out]), h]; rfl)
            clear b3 x3 l2 HNx HNn
            cases ha : allB dd with
            | none =>
              have HZ := hid (HNz.out ha)
              rw [ha] at EX
              simp only [codeA, Option.isSome] at EX
              go_wp2_with (go_at_call 98; refine EX.out.mono ?_; rintro e w4 ⟨rfl, hm4, hf4⟩; have F4 := hid (F3.out.trans hf4); clear hm4 hf4)
              go_ret
              rw [HZ.out]
              exact ⟨⟨rfl, by decide⟩, HFr.out.trans F4.out⟩
            | some A =>
              have HZ : Hid (rulesC l k media (rules.take (j + 1)) = some (cs ++ asC false ⟨xa, xb, xc⟩ A)) := by
                show _ = _
                rw [HNy.out, ha]
                rfl
              rw [ha] at EX
              simp only [codeA, Option.isSome, Option.getD] at EX
              go_wp2_with (go_at_call 98; refine EX.out.mono ?_; rintro e w4 ⟨rfl, hm4, hf4⟩; have F4 := hid (F3.out.trans hf4); have M4 := hid hm4; clear hm4 hf4)
              go_roundg (rules.length - (j + 1))
              case measure => have := GK.out; have := HJ.out; omega
              case rel => exact ⟨j + 1, _, rfl, by have := HJ.out; omega, by go_num, HZ.out, M4.out, F4.out⟩
    · have HCa : Hid (rulesC l k media rules = some cs) := by
        have := HC.out
        rw [List.take_of_length_le (by omega)] at this
        exact this
      obtain ⟨b, off, rfl, he⟩ := Sl.at (HL.out.ext XX.out) HK.out
      obtain ⟨aa, ac, d0, d1, d2, d3, d4, d5, hA⟩ := eN.cells he
      have HSn := hid (HN.out.2 l[k] (List.getElem_mem HK.out))
      have HBd := hid (fun x hp => claims_bad (x := x) HK.out HCa.out hp)
      have HSt := hid (fun L hp => claims_sty (L := L) HK.out HCa.out hp)
      have HA := hid hA
      have KK := hid hk
      have HGs := hid (get_size styleN HSn.out.vals)
      clear he hA HC
      generalize hnd : l[k]'KK.out = x at *
      clear hnd
      have hkl : (k : Int) < l.length := by have := KK.out; omega
      obtain ⟨nn, pp, ats, ne, fr, tt⟩ := x
      simp only at d0 d1 d2 d3 d4 d5 HA HGs HBd HSt
      have GA := hid (get_any ⟨nn, pp, ats, ne, fr, tt⟩ (.slice aa ats.length ac) styleN wo HA.out HSn.out)
      simp only [nodeV, getV, styleN] at GA
      have HBd' : Hid (∀ x, Sh.declsParse ((getA ⟨#[115, 116, 121, 108, 101]⟩ ats).getD ⟨#[]⟩).data.toList = .error x → claimsB styB l k rules media = .error x.1) := HBd.out
      have HSt' : Hid (∀ L, Sh.declsParse ((getA ⟨#[115, 116, 121, 108, 101]⟩ ats).getD ⟨#[]⟩).data.toList = .ok L → claimsB styB l k rules media = match allB (L.map ofD) with
        | none => .error 5
        | some A => .ok (cs ++ asC true w00 A)) := HSt.out
      have HGs' : Hid (((getA ⟨#[115, 116, 121, 108, 101]⟩ ats).getD ⟨#[]⟩).size ≤ lim) := HGs.out
      clear HBd HSt HGs
      generalize getA ⟨#[115, 116, 121, 108, 101]⟩ ats = o at *
      generalize o.getD ⟨#[]⟩ = sv at *
      generalize o.isSome = so at *
      go_wp2_with (go_at_call 51; refine GA.out.mono ?_; rintro e w1 ⟨rfl, hb1⟩; have B1 := hid hb1; clear hb1)
      have x1 := Ext.below B1.out
      have E1 : Hid (Ext w0 w1) := XX.out.trans x1
      have F1 : Hid (Fr M w0 w1) := FF.out.trans (Fr.below B1.out M)
      have M1 := hid (MM.out.below B1.out)
      clear x1 XX FF MM B1 d0 d1 d2 d3 d4 d5
      refine Sh.dparse_any sv w1 _ (by have := HGs'.out; unfold lim at this; omega) (HT.out.mx.imp fun _ h => E1.out _ _ _ h) (hid ?_) (hid ?_)
      · intro L nv w2 hp hd hb2
        have HSt2 := hid (HSt'.out L hp)
        obtain ⟨na, nc, rfl⟩ := Sl.form (ds_of hd)
        have b3 := hb2.alloc hb2.size (.cells #[.int .i64 0, .int .i64 0] 25)
        have x3 := Ext.below b3
        have EX := hid (exp2_any (.slice na (L.map ofD).length nc) (L.map ofD) w.heap.size B M cs (w2.alloc (.cells #[.int .i64 0, .int .i64 0] 25)) ((ds_of hd).ext (ext_alloc _ _)) (sty_sm hp).1 (HT.out.ext (E1.out.trans x3)) (x3 _ _ _ (E1.out _ _ _ HF.out)) (x3 _ _ _ (E1.out _ _ _ HB.out)) (M1.out.below b3) HCl.out)
        have F3 := hid (F1.out.trans (Fr.below b3 M))
        clear hp hd hb2 b3 x3 HSt' HBd'
        generalize L.map ofD = ll at *
        cases ha : allB ll with
        | none =>
          rw [ha] at EX HSt2
          simp only [codeA, Option.isSome] at EX
          go_wp2_with (go_at_call 98; refine EX.out.mono ?_; rintro e w4 ⟨rfl, hm4, hf4⟩; have F4 := hid (F3.out.trans hf4); clear hm4 hf4)
          go_ret
          rw [HSt2.out]
          exact ⟨⟨rfl, by decide⟩, HFr.out.trans F4.out⟩
        | some A =>
          rw [ha] at EX HSt2
          simp only [codeA, Option.isSome, Option.getD] at EX
          go_wp2_with (go_at_call 98; refine EX.out.mono ?_; rintro e w4 ⟨rfl, hm4, hf4⟩; have F4 := hid (F3.out.trans hf4); have M4 := hid hm4; clear hm4 hf4)
          go_ret
          rw [HSt2.out]
          exact ⟨⟨rfl, M4.out⟩, HFr.out.trans F4.out⟩
      · intro y w2 hp hb2
        have HBd2 := hid (HBd'.out y hp)
        have hy := Sh.decls_fault hp
        have hy' : ¬ ((y.1 : Int) = 0) := by omega
        have HY := hid hy'
        have F3 := hid (F1.out.trans (Fr.below (hb2.alloc hb2.size (.cells #[.int .i64 y.1, .int .i64 y.2] 25)) M))
        clear hp hb2 HBd' HSt' hy
        go_wp2_with fail
        go_ret
        rw [HBd2.out]
        exact ⟨⟨rfl, HY.out⟩, HFr.out.trans F3.out⟩
end Go.Proofs.YtblkldfokeeaeacGreatDoor
namespace Go.Proofs.YtblkldfokeeaeacGreatDoor
open Go.RowKit Go.Maps
def AnsW (w : World) (M : Nat) (e : Ending) : Except Int (List Cl) → Prop
  | .ok cs => e = .returned (.tuple #[.map (some M), .int .i64 0]) ∧ MW w M cs
  | .error c => e = .returned (.tuple #[.map none, .int .i64 c]) ∧ c ≠ 0
theorem uponC_make {W : World} {o : Oper} {a : Act} {K : Act → World → Prop} {Q : Exit → Act → World → Prop} (hK : K (a.put o.dst (.map (some W.heap.size))) (W.alloc (.map #[] 0))) :
    Oper.upon Tryz.prog o a K Q (((Instr.makeMap 82 none).run Tryz.prog W).andThen fun v w' => .ok (.value v) w') := by
  rw [run_makeMap]
  exact hK
theorem claims_out {l : List Nd} {k : Int} {rules : List Ru} {media : List ByteArray} (h : inB l k = false) : claimsB styB l k rules media = .error 6 := by
  unfold claimsB
  rw [h]
  rfl
variable {l : List Nd} {rules : List Ru} {media : List ByteArray} {mv lv rv : Value}
set_option maxRecDepth 100000 in
set_option maxHeartbeats 4000000 in
theorem winners_any (k : Int) (w : World) (hl : NdsAt w lv l) (hs : SmNs l) (hr : RusAt w rv rules) (hrs : SmRs rules) (hm : BsAt w mv media) (hml : media.length ≤ 1099511627776) (hT : Tab w) :
    Calls Tryz.prog 37 #[lv, .int .i64 k, rv, mv] w fun e w' => AnsW w' w.heap.size e (claimsB styB l k rules media) ∧ Below w.heap.size w w' := by
  obtain ⟨la, lc, rfl⟩ := Sl.form hl
  obtain ⟨ra, rc, rfl⟩ := Sl.form hr
  obtain ⟨ma, mc, rfl⟩ := Sl.form hm
  by_cases h0 : k < 0
  · have HO := hid (claims_out (rules := rules) (media := media) (show inB l k = false by unfold inB; simp; omega))
    go_enter Tryz.func37, Tryz.ntmps37
    go_wp2_with fail
    go_ret2
    rw [HO.out]
    exact ⟨⟨rfl, by decide⟩, Below.refl _ _⟩
  by_cases h1 : (l.length : Int) ≤ k
  · have HO := hid (claims_out (rules := rules) (media := media) (show inB l k = false by unfold inB; simp; omega))
    go_enter Tryz.func37, Tryz.ntmps37
    go_wp2_with fail
    go_ret2
    rw [HO.out]
    exact ⟨⟨rfl, by decide⟩, Below.refl _ _⟩
  obtain ⟨j, rfl⟩ : ∃ j : Nat, k = (j : Int) := ⟨k.toNat, by omega⟩
  have hj : j < l.length := by omega
  have b1 := (Below.refl w.heap.size w).alloc (Nat.le_refl _) (.map #[] 0)
  have b2 := b1.alloc b1.size (.cells #[.map (some w.heap.size)] 82)
  have b2' : Below (w.alloc (.map #[] 0)).heap.size (w.alloc (.map #[] 0)) ((w.alloc (.map #[] 0)).alloc (.cells #[.map (some w.heap.size)] 82)) := (Below.refl _ _).alloc (Nat.le_refl _) _
  have x2 := Ext.below b2
  have z1 : (w.alloc (.map #[] 0)).heap.size = w.heap.size + 1 := by simp
  have cB := cell_new (w.alloc (.map #[] 0)) #[.map (some w.heap.size)] 82 0
  rw [z1] at cB
  have HC := hid (claims_any (w.heap.size + 1) w.heap.size ((w.alloc (.map #[] 0)).alloc (.cells #[.map (some w.heap.size)] 82)) (hl.ext x2) hs (hr.ext x2) hrs (hm.ext x2) hml (hT.ext x2) cB ((MW.made w).below b2') hj)
  have B2 := hid b2
  have HcB := hid cB
  simp only [tellV] at HC
  clear b1 b2 b2' x2 z1 hl hs hr hrs hm hml hT
  go_enter Tryz.func37, Tryz.ntmps37
  go_wp2_with fail
  refine uponC_make ?_
  go_wp2_with fail
  refine HC.out.mono ?_
  rintro e w3 ⟨hA, hf3⟩
  have U3 : Hid (Below w.heap.size w w3) := Fr.under B2.out hf3 B2.out.size (Nat.le_refl _)
  have X3 : w3.cell? ⟨w.heap.size + 1, 0, none⟩ = some (.map (some w.heap.size)) := by
    have h := hf3.block (w.heap.size + 1) (by simp) (by omega)
    unfold World.cell?
    rw [h]
    exact HcB.out
  clear hf3 cB HC
  cases hc : claimsB styB l j rules media with
  | ok cs =>
    rw [hc] at hA
    obtain ⟨rfl, hm3⟩ := hA
    have HM3 := hid hm3
    have HCc := hid hc
    clear hm3 hc
    go_wp2_with fail
    go_ret2
    rw [HCc.out]
    exact ⟨⟨rfl, HM3.out⟩, U3.out⟩
  | error c =>
    rw [hc] at hA
    obtain ⟨rfl, hc0⟩ := hA
    have HC0 := hid hc0
    have HCc := hid hc
    clear hc
    go_wp2_with fail
    go_ret2
    rw [HCc.out]
    exact ⟨⟨rfl, HC0.out⟩, U3.out⟩
end Go.Proofs.YtblkldfokeeaeacGreatDoor
namespace Go.Proofs.YtblkldfokeeaeacGreatDoor
open Go.RowKit Go.Maps Go.Sort Go.Shelf
theorem sorts_any (m : Nat) : AnyZ.SortsIn Tryz.prog Tryz.sorted45_ren Fence.wide m :=
  ⟨fun blk off cap ss W hH hblk hsz => callsIn_wide.2 (AnyM.slices_Sort_string Tryz.laysSlM6_f77 blk off cap ss W hH hblk hsz),
   fun p cap W => callsIn_wide.2 (AnyM.slices_Sort_string_none Tryz.laysSlM6_f77 p cap W)⟩
theorem keys_any (mb : Option Nat) (W : World) : Calls Tryz.prog 46 #[.map mb] W fun e w' => e = .returned (.func (.func 78) #[] #[.pointer (some ⟨W.heap.size, 0, none⟩)]) ∧ w' = W.alloc (.cells #[.map mb] 82) :=
  callsIn_wide.1 (AnyZ.keys_in Tryz.keys46 Fence.wide 5 trivial rfl mb W)
set_option maxRecDepth 100000 in
set_option maxHeartbeats 1000000 in
theorem sorted_any {H : Type} (b nn : Nat) (D0 : DataW H) (R : Value → Option (DataW H × List MemPlace)) (w : World) (hown : w.ownsMap Tryz.prog 9 R b nn D0) (hmax : Maps.size D0 ≤ maxLen) (hbytes : Maps.size D0 * 16 ≤ 140737488355328) :
    Calls Tryz.prog 45 #[.func (.func 78) #[] #[.pointer (some ⟨w.heap.size, 0, none⟩)]] (w.alloc (.cells #[.map (some b)] 82)) fun e w' => ∃ (v : Value) (ss : List (List UInt8)), e = .returned v ∧ ss.Perm (strKeys D0) ∧
      w'.ownsRow (w.alloc (.cells #[.map (some b)] 82)).heap.size 9 1 v ss.length ((ss.mergeSort (fun x y => decide (x ≤ y))).map encStr) ∧ Below (w.alloc (.cells #[.map (some b)] 82)).heap.size (w.alloc (.cells #[.map (some b)] 82)) w' := by
  have hbl := hown.lt
  have hseq : SeqGives Fence.wide 2 Tryz.prog 78 #[.pointer (some ⟨w.heap.size, 0, none⟩)] encStr (fun ss => ss.Perm (strKeys D0)) (Maps.size D0) (w.alloc (.cells #[.map (some b)] 82)) :=
    AnyZ.keys_gives (ρ := Tryz.keys46_ren) { Tryz.keys46 with } Fence.wide _ trivial rfl (by omega) w.heap.size b nn D0 _ (by simp) (by simp) (by
      obtain ⟨es, clock, hb, Ft, hs, hD⟩ := hown
      exact ⟨es, clock, (Below.heap_alloc _ _ b hbl).trans hb, Ft, hs, hD⟩)
  refine (callsIn_wide.1 (AnyZ.sorted_in Tryz.sorted45 Fence.wide 5 trivial trivial trivial trivial rfl (by omega) (sorts_any _) (enters_of Tryz.func77 (by kernel_rfl) rfl) 78 #[.pointer (some ⟨w.heap.size, 0, none⟩)] trivial (enters_of Tryz.func78 (by kernel_rfl) rfl) _ _ hmax hbytes _ hseq)).mono ?_
  rintro e w' ⟨v, ss, h1, h2, h3, _, h5⟩
  exact ⟨v, ss, h1, h2, h3, h5⟩
theorem key_spec {w : World} {M n : Nat} {D : DataW Unit} (hown : w.ownsMap Tryz.prog 9 clR M n D) : (strKeys D).Nodup ∧ (∀ x, x ∈ strKeys D ↔ has D (.string x) = true) ∧ (strKeys D).length = Maps.size D := by
  obtain ⟨es, hD, hpw, _⟩ := hown.entries keyS
  obtain ⟨es', hD', hko⟩ := hown.keysOf
  obtain rfl : es = es' := by rw [hD] at hD'; simpa using hD'
  subst hD
  have hk : ∀ p ∈ es, ∃ x, p.1 = .string x := fun p hp => by
    obtain ⟨v, hv⟩ := hko p hp
    obtain ⟨x, _, hx, _⟩ := Maps.keyOf_str Tryz.underlying9 hv
    exact ⟨x, hx⟩
  refine ⟨?_, fun x => ?_, ?_⟩
  · show (es.map fun p => strOf p.1).Nodup
    refine List.pairwise_map.2 (hpw.imp_of_mem fun {p q} hp' hq' hne e => hne ?_)
    obtain ⟨a, ha⟩ := hk p hp'
    obtain ⟨b, hb⟩ := hk q hq'
    rw [ha, hb] at e ⊢
    exact congrArg _ e
  · rw [has_eq, List.any_eq_true]
    show x ∈ es.map (fun p => strOf p.1) ↔ _
    rw [List.mem_map]
    constructor
    · rintro ⟨p, hp', rfl⟩
      obtain ⟨a, ha⟩ := hk p hp'
      exact ⟨p, hp', by rw [ha]; simp [Lit.sameKey, strOf]⟩
    · rintro ⟨p, hp', hs⟩
      obtain ⟨a, ha⟩ := hk p hp'
      rw [ha] at hs
      exact ⟨p, hp', by rw [ha]; simpa [Lit.sameKey, strOf] using hs⟩
  · show (es.map fun p => strOf p.1).length = _
    rw [List.length_map]
    rfl
theorem le_lt {x y : List UInt8} (h : x ≤ y) (hn : x ≠ y) : x < y := by
  by_cases hl : x < y
  · exact hl
  · exact absurd (List.le_antisymm h hl) hn
theorem fm_map {α β : Type} {f : α → Option β} {g : α → β} : ∀ {ks : List α}, (∀ q ∈ ks, f q = some (g q)) → ks.filterMap f = ks.map g
  | [], _ => rfl
  | q :: ks, h => by
    rw [List.filterMap_cons, h q (List.mem_cons_self ..), List.map_cons, fm_map fun x hx => h x (List.mem_cons_of_mem _ hx)]
def cAt (cs : List Cl) (q : List UInt8) : Cl := (win q cs).getD cl0
theorem sort_look {w : World} {M n : Nat} {D : DataW Unit} {cs : List Cl} {ss : List (List UInt8)} (hown : w.ownsMap Tryz.prog 9 clR M n D) (hf : ∀ q z, D.atKey (.string q) z = (win q cs).elim z clD) (hp : ss.Perm (strKeys D)) :
    IsLook ((ss.mergeSort (fun x y => decide (x ≤ y))).map fun q => (cAt cs q).d) (lookF cs) ∧ (∀ q ∈ ss.mergeSort (fun x y => decide (x ≤ y)), win q cs = some (cAt cs q)) := by
  obtain ⟨h1, h2, _⟩ := key_spec hown
  have hks : (ss.mergeSort (fun x y => decide (x ≤ y))).Perm (strKeys D) := (List.mergeSort_perm ss _).trans hp
  have hmem : ∀ q, q ∈ ss.mergeSort (fun x y => decide (x ≤ y)) ↔ (lookF cs q).isSome = true := fun q => by
    rw [hks.mem_iff, h2]
    have := hf q
    unfold lookF
    cases hw : win q cs with
    | none => rw [hw] at this; rw [has_false_of_atKey this]; simp
    | some x => rw [hw] at this; rw [has_true_of_atKey this]; simp
  have hsome : ∀ q ∈ ss.mergeSort (fun x y => decide (x ≤ y)), win q cs = some (cAt cs q) := fun q hq => by
    have := (hmem q).1 hq
    unfold lookF at this
    unfold cAt
    cases hw : win q cs with
    | none => rw [hw] at this; cases this
    | some x => rfl
  have hpw : (ss.mergeSort (fun x y => decide (x ≤ y))).Pairwise (· < ·) := by
    have a1 : (ss.mergeSort (fun x y => decide (x ≤ y))).Pairwise (fun x y => decide (x ≤ y) = true) := List.pairwise_mergeSort (fun a b c h1 h2 => by
      simp only [decide_eq_true_eq] at *
      exact List.le_trans h1 h2) (fun a b => by
      simp only [Bool.or_eq_true, decide_eq_true_eq]
      exact List.le_total a b) ss
    have a2 : (ss.mergeSort (fun x y => decide (x ≤ y))).Nodup := hks.nodup_iff.2 h1
    exact (a1.and a2).imp fun {a b} h => le_lt (by simpa using h.1) h.2
  refine ⟨?_, hsome⟩
  have hl := look_of_keys (f := lookF cs) (fun n x h => lookF_name cs n x h) hpw (fun n => (hmem n).symm)
  have : (ss.mergeSort (fun x y => decide (x ≤ y))).filterMap (lookF cs) = (ss.mergeSort (fun x y => decide (x ≤ y))).map fun q => (cAt cs q).d := by
    refine fm_map fun q hq => ?_
    unfold lookF
    rw [hsome q hq]
    rfl
  rw [this] at hl
  exact hl
def AnsD (w : World) (e : Ending) : Except Int (List Cl) → Prop
  | .ok cs => ∃ a c L, e = .returned (.tuple #[.slice a L.length c, .int .i64 0]) ∧ DsAt w (.slice a L.length c) L ∧ IsLook L (lookF cs) ∧ L.length ≤ 2199023255700
  | .error x => e = .returned (.tuple #[.slice none 0 0, .int .i64 x]) ∧ x ≠ 0
theorem Tryz.infoW : (Tryz.prog.info? 60).map (fun i => (i.zero, i.size, i.bytes)) = some (some (.agg #[.string ⟨#[]⟩, .string ⟨#[]⟩, .bool false]), 3, 40) := by kernel_rfl
theorem ds_own {w : World} {base : Nat} {e : TypeId} {v : Value} {l : List Dc} (h : w.ownsRow base e 3 v l.length (l.flatMap encD)) : DsAt w v l := by
  obtain ⟨a, cap, rfl, hn, hc⟩ := own_at (sz := 3) (f := encD) (fun _ => rfl) (by decide) h
  refine ⟨a, cap, rfl, hn, fun i hi => ?_⟩
  obtain ⟨b, off, rfl, hh⟩ := hc i hi
  exact ⟨b, off, rfl, hh 0 (by decide), hh 1 (by decide), hh 2 (by decide)⟩
theorem one_E (d : Dc) : ∀ u ∈ encD d, u.oneCell' = true := fun u hu => one_D [d] u (by simpa using hu)
variable {l : List Nd} {rules : List Ru} {media : List ByteArray} {mv lv rv : Value}
set_option maxRecDepth 100000 in
set_option maxHeartbeats 8000000 in
theorem declared_any (k : Int) (w : World) (hl : NdsAt w lv l) (hs : SmNs l) (hr : RusAt w rv rules) (hrs : SmRs rules) (hm : BsAt w mv media) (hml : media.length ≤ 1099511627776) (hT : Tab w) :
    Calls Tryz.prog 23 #[lv, .int .i64 k, rv, mv] w fun e w' => AnsD w' e (claimsB styB l k rules media) ∧ Below w.heap.size w w' := by
  have HW := hid (winners_any k w hl hs hr hrs hm hml hT)
  have HCl := hid (fun cs h => claims_len (l := l) (k := k) (media := media) (cs := cs) hrs h)
  clear hl hs hr hrs hm hml hT
  go_enter Tryz.func23, Tryz.ntmps23
  go_wp2_with fail
  refine HW.out.mono ?_
  rintro e w1 ⟨hA, hb1⟩
  have HB1 := hid hb1
  cases hc : claimsB styB l k rules media with
  | error x =>
    rw [hc] at hA
    obtain ⟨rfl, hx⟩ := hA
    have HX := hid hx
    have HCc := hid hc
    clear hb1 hc
    go_wp2_with fail
    go_ret2
    rw [HCc.out]
    exact ⟨⟨rfl, HX.out⟩, HB1.out⟩
  | ok cs =>
    rw [hc] at hA
    obtain ⟨rfl, n, hn, D, hown, hf⟩ := hA
    have HCc := hid hc
    have hcl := HCl.out cs hc
    have hsz := hown.size_le
    have KA := hid (keys_any (some w.heap.size) w1)
    have SA := hid (sorted_any w.heap.size n D clR w1 hown (by unfold maxLen; omega) (by omega))
    have HOw := hid hown
    have Hf := hid hf
    have HKl := hid (strKeys_le hown Tryz.underlying9)
    have HKn := hid (key_spec hown).2.2
    have hN : Maps.size D ≤ 2199023255700 := by omega
    have HNn := hid hN
    clear hb1 hc hown hf hsz HW HCl
    go_wp2_with (first
      | (go_at_call 46; refine KA.out.mono ?_; rintro e w' ⟨rfl, rfl⟩)
      | (go_at_call 45; refine SA.out.mono ?_; rintro e w3 ⟨v, ss, rfl, hP, hrow, hb3⟩; have HRow := hid hrow; have HB3 := hid hb3; have HP := hid hP; obtain ⟨va, vc, rfl⟩ := own_form hrow; clear hrow hb3 hP))
    have HL := hid (sort_look (cs := cs) HOw.out (fun q z => by rw [Hf.out q z]; cases win q cs <;> rfl) HP.out)
    have hkl : (ss.mergeSort (fun x y => decide (x ≤ y))).length = ss.length := List.length_mergeSort ss
    have hsl : ss.length ≤ 2199023255700 := by
      have h1 := HP.out.length_eq
      have h2 := HKn.out
      have h3 := HNn.out
      omega
    have HKs : Hid (∀ x ∈ ss.mergeSort (fun x y => decide (x ≤ y)), x.length ≤ maxLen) := fun x hx => HKl.out x (((List.mergeSort_perm ss _).trans HP.out).mem_iff.1 hx)
    have hb13 : Below w1.heap.size w1 w3 := ((Below.refl _ w1).alloc (Nat.le_refl _) _).trans (HB3.out.mono (by simp))
    have HMp : Hid (Mpc w3 w.heap.size n (fun q => win q cs)) := (show Mpc w1 w.heap.size n (fun q => win q cs) from ⟨D, HOw.out, Hf.out⟩).below hb13
    have HBw := hid (below_trans HB1.out hb13 (Nat.le_refl _))
    clear hb13 HB3 HOw Hf HP HKl HKn HNn KA SA
    generalize (ss.mergeSort (fun x y => decide (x ≤ y))) = ks at *
    generalize ss.length = m at *
    subst hkl
    have ML := hid hsl
    go_loopg [12, 31] ks.length (fun g v i wr => ∃ j : Nat, g = ks.length - j ∧ j ≤ ks.length ∧ i = .int .i64 (j : Int) ∧ wr.ownsRow w3.heap.size 60 3 v j ((ks.take j).flatMap fun q => encD (cAt cs q).d) ∧ Below w3.heap.size w3 wr)
    case atStart => exact ⟨0, rfl, Nat.zero_le _, rfl, World.ownsRow_nil _ _ _ _, Below.refl _ _⟩
    case round =>
      obtain ⟨j, hg, hj, rfl, hO, hB⟩ := hrel
      rename World => wo
      have GK := hid hg
      have HO := hid hO
      have HB := hid hB
      obtain ⟨ya, yc, rfl⟩ := own_form hO
      clear hg hO hB
      by_cases hlt : j < ks.length
      · obtain ⟨g, rfl, hcell⟩ := own_cell HRow.out (j := j) (by omega)
        have c0 : wo.cell? ⟨g, j, none⟩ = some (.string ⟨ks[j].toArray⟩) := by
          refine Ext.below HB.out _ _ _ (hcell.trans ?_)
          simp [hlt, encStr]
        have hlk := (HMp.out.below HB.out).look (en := clV) Tryz.underlying82 cl0 (zero88 wo) (clR_mk _) clR_inv ⟨ks[j].toArray⟩ (by
          rw [Lib.size_eq]
          exact HKs.out ks[j] (List.getElem_mem hlt))
        have HN : Hid ((ks.take (j + 1)).flatMap (fun q => encD (cAt cs q).d) = (ks.take j).flatMap (fun q => encD (cAt cs q).d) ++ encD (cAt cs ks[j]).d) := by
          show _ = _
          rw [List.take_succ_eq_append_getElem hlt, List.flatMap_append]
          simp
        have e1 : ((fun q => win q cs) (⟨ks[j].toArray⟩ : ByteArray).data.toList).getD cl0 = cAt cs ks[j] := rfl
        rw [e1] at hlk
        clear e1 hcell
        generalize (⟨ks[j].toArray⟩ : ByteArray) = kb at *
        generalize cAt cs ks[j] = c at *
        obtain ⟨⟨dn, dl, ds⟩, ow, ⟨xa, xb, xc⟩⟩ := c
        simp only [clV] at hlk
        have HO2 := hid ((HO.out.alloc (.cells #[.string dn, .string dl, .bool ds, .bool ow, .int .i64 xa, .int .i64 xb, .int .i64 xc] 88)).alloc (.cells #[.string dn, .string dl, .bool ds] 60))
        have b2 := (HB.out.alloc HB.out.size (.cells #[.string dn, .string dl, .bool ds, .bool ow, .int .i64 xa, .int .i64 xb, .int .i64 xc] 88)).alloc (by have := HB.out.size; simp; omega) (.cells #[.string dn, .string dl, .bool ds] 60)
        have HB2 := hid b2
        have HSR := hid (src_one (d := ⟨dn, dl, ds⟩) (cell_new (wo.alloc (.cells #[.string dn, .string dl, .bool ds, .bool ow, .int .i64 xa, .int .i64 xb, .int .i64 xc] 88)) #[.string dn, .string dl, .bool ds] 60 0) (cell_new (wo.alloc (.cells #[.string dn, .string dl, .bool ds, .bool ow, .int .i64 xa, .int .i64 xb, .int .i64 xc] 88)) #[.string dn, .string dl, .bool ds] 60 1) (cell_new (wo.alloc (.cells #[.string dn, .string dl, .bool ds, .bool ow, .int .i64 xa, .int .i64 xb, .int .i64 xc] 88)) #[.string dn, .string dl, .bool ds] 60 2) 1)
        have z1 : (wo.alloc (.cells #[.string dn, .string dl, .bool ds, .bool ow, .int .i64 xa, .int .i64 xb, .int .i64 xc] 88)).heap.size = wo.heap.size + 1 := by simp
        rw [z1] at HSR
        clear b2 z1
        go_wp2_with (at_builtin; refine wpList_app rfl (.tmp 38) (.tmp 49) 57 rfl w3.heap.size 60 _ 3 40 Tryz.underlying57 Tryz.infoW rfl (by decide) (.slice ya j yc) j _ rfl HO2.out _ 1 (encD ⟨dn, dl, ds⟩) rfl HSR.out rfl (one_E _) (by unfold maxLen; omega) (by omega) HB2.out.size ?_; intro v4 w4 hv4 hg4)
        have HB4 : Hid (Below w3.heap.size w3 w4) := HB2.out.grown hg4 HB2.out.size (fun i hi => (HO2.out.lt i hi).1)
        have HO4 : Hid (w4.ownsRow w3.heap.size 60 3 v4 (j + 1) ((ks.take (j + 1)).flatMap fun q => encD (cAt cs q).d)) := by
          show World.ownsRow _ _ _ _ _ _ _
          rw [HN.out]
          exact hv4
        clear hv4 hg4
        go_roundg (ks.length - (j + 1))
        case measure => have := GK.out; omega
        case rel => exact ⟨j + 1, rfl, by omega, by go_num, HO4.out, HB4.out⟩
      · obtain rfl : j = ks.length := by omega
        go_wp2_with fail
        go_ret2
        rw [HCc.out]
        have hfin : wo.ownsRow w3.heap.size 60 3 (.slice ya ks.length yc) (ks.map fun q => (cAt cs q).d).length ((ks.map fun q => (cAt cs q).d).flatMap encD) := by
          have := HO.out
          rw [List.take_length] at this
          rw [List.length_map, List.flatMap_map]
          exact this
        refine ⟨⟨ya, yc, ks.map fun q => (cAt cs q).d, by rw [List.length_map]; rfl, ?_, HL.out.1, by rw [List.length_map]; exact ML.out⟩, below_trans HBw.out HB.out (Nat.le_refl _)⟩
        have h2 := ds_own hfin
        rw [List.length_map]
        exact h2
end Go.Proofs.YtblkldfokeeaeacGreatDoor
