/-
  What the closure of the law FoldPlaces answers: the plain text. Conditions: the page is read; MaxLen's cell holds some int.
-/
import Derived.Test.YtblkldfokeeaeacGreatDoorAxFN
namespace Go.Proofs.YtblkldfokeeaeacGreatDoor
open Go.RowKit Go.Maps
set_option maxRecDepth 100000 in
set_option maxHeartbeats 8000000 in
theorem rest_any (s : ByteArray) (L : List Sh.Nd) (w : World) (hs : s.size ≤ 6000) (hT : Tab w) (hp : Sh.parse s.data.toList = .ok L) (hW : Sh.Within 0 (L.map Sh.cutN) s.data.toList.length) (hR : ∀ n ∈ L, Sh.Row s.data.toList n.nameEnd n) :
    Calls Tryz.prog 25 #[.string s] w fun e w' => e = .returned (.string (bsL (Sh.app s.data.toList 0 (L.map Sh.cutN) s.data.toList.length))) ∧ Below w.heap.size w w' := by
  obtain ⟨mx, hmx⟩ := tab_mx hT
  have HP := hid hp
  have HW := hid hW
  have HR := hid hR
  have HSz : Hid (s.size = s.data.toList.length) := Lib.size_eq s
  generalize hZ : bsL (Sh.app s.data.toList 0 (L.map Sh.cutN) s.data.toList.length) = Z at *
  have HZ := hid hZ
  obtain ⟨hL120, _, hNd⟩ := page_bd hp
  have HNd := hid hNd
  clear hp hW hR hT hZ hNd
  go_enter Tryz.func25, Tryz.ntmps25
  go_wp2_with fail
  refine Sh.parse_any s mx w _ hmx (by omega) (hid ?_) (hid ?_)
  rotate_left
  · intro x w2 he _
    rw [HP.out] at he
    cases he
  intro L' nv w2 he hn hb2 _
  rw [HP.out] at he
  obtain rfl : L = L' := by injection he
  obtain ⟨na, nc, rfl⟩ := nd_form hn
  have HN := hid ((nds_of hn).ext (Ext.below (below_al (o := .cells #[.int .i64 0, .int .i64 0] 25) (Below.refl _ _))))
  have HB := hid (below_al hb2 (o := .cells #[.int .i64 0, .int .i64 0] 25))
  clear he hn hb2
  go_wp2_with fail
  generalize w2.alloc (.cells #[.int .i64 0, .int .i64 0] 25) = w3 at *
  generalize hS : s.data.toList = S at *
  have HS := hid hS
  clear hS
  have HLl : Hid ((L.map ofN).length = L.length) := List.length_map ..
  generalize hT : Sh.app S 0 (L.map Sh.cutN) S.length = T at *
  have HT := hid hT
  have HTl : Hid (T.length ≤ 6000) := by
    have := app_len (S := S) (t := 0) HW.out (fun e he => by
      obtain ⟨n, _, rfl⟩ := List.mem_map.1 he
      exact Nat.le_refl _)
    rw [HT.out] at this
    have h6 := HSz.out
    show T.length ≤ 6000
    omega
  clear hT
  go_loopg [5, 6, 19] L.length (fun g ov a i wr => ∃ (j k : Nat) (o : ByteArray), g = L.length - j ∧ j ≤ L.length ∧ i = .int .i64 (j : Int) ∧ a = .int .i64 (k : Int) ∧ ov = .string o ∧ T = o.data.toList ++ Sh.app S k ((L.drop j).map Sh.cutN) S.length ∧ Sh.Within k ((L.drop j).map Sh.cutN) S.length ∧ Below w3.heap.size w3 wr)
  case atStart => exact ⟨0, 0, ⟨#[]⟩, rfl, Nat.zero_le _, rfl, rfl, rfl, HT.out.symm, HW.out, Below.refl _ _⟩
  case round =>
    obtain ⟨j, k, o, hg, hj, rfl, rfl, rfl, hTa, hWk, hB⟩ := hrel
    rename World => wr
    have GK := hid hg
    have HBr := hid hB
    have HTa := hid hTa
    have hol : o.size ≤ 6000 := by
      have := HTl.out
      rw [hTa, List.length_append] at this
      rw [Lib.size_eq o]
      omega
    have h6 := HSz.out
    clear hg hB hTa
    by_cases hlt : j < L.length
    · obtain ⟨b, off, rfl, he⟩ := Sl.at (HN.out.ext (Ext.below HBr.out)) (i := j) (by rw [HLl.out]; exact hlt)
      rw [List.getElem_map] at he
      obtain ⟨aa, ac, c0, c1, c2, c3, c4, c5, hA⟩ := nd_cells he
      rw [List.drop_eq_getElem_cons hlt, List.map_cons] at hWk
      have hk1 : k ≤ L[j].nameEnd := hWk.1
      have hk2 : L[j].nameEnd ≤ (Sh.cutN L[j]).2.1 := hWk.2.1
      have HWn := hid hWk.2.2
      have hk3 := hWk.2.2.le
      have HTn : Hid (T = (o ++ s.extract k L[j].nameEnd).data.toList ++ Sh.app S (Sh.cutN L[j]).2.1 ((L.drop (j + 1)).map Sh.cutN) S.length) := by
        show T = _
        rw [HTa.out, List.drop_eq_getElem_cons hlt, List.map_cons, ByteArray.data_append, Array.toList_append, sub_str, HS.out]
        show _ ++ (Sh.sub S k (Sh.cutN L[j]).1 ++ (Sh.cutN L[j]).2.2 ++ _) = _
        show _ ++ (Sh.sub S k L[j].nameEnd ++ [] ++ _) = _
        simp
      have HCu : Hid ((Sh.cutN L[j]).2.1 = if L[j].name = Sh.styleL then L[j].inTo else Sh.endA L[j].nameEnd L[j].attrs) := rfl
      obtain ⟨l, Q, _, hat, hrow⟩ := HR.out L[j] (List.getElem_mem hlt)
      have HAt := hid hat
      have HEn : Hid (Sh.endA L[j].nameEnd L[j].attrs = L[j].nameEnd + (Sh.ats2 l).length) := by show _ = _; rw [hat, Sh.endA_atrs]
      have hal : L[j].attrs.length = l.length := by rw [hat, Sh.atrs_len]
      have HBy := hid (Sh.row_byte hrow)
      have hl8 := (HNd.out L[j] (List.getElem_mem hlt)).few
      have hSty : Hid (∀ x : Bs, ((bsL x).toList == [115, 116, 121, 108, 101]) = decide (x = Sh.styleL)) := fun x => by rw [sty_bytes]; exact Bool.eq_iff_iff.2 (by simp)
      have HJ := hid hlt
      have hbox := heap_alloc_new wr (.cells #[.string (bsL L[j].name), .int .i64 L[j].parent, .slice aa L[j].attrs.length ac, .int .i64 L[j].nameEnd, .int .i64 L[j].inFrom, .int .i64 L[j].inTo] 49)
      have e1 : Below wr.heap.size wr (wr.alloc (.cells #[.string (bsL L[j].name), .int .i64 L[j].parent, .slice aa L[j].attrs.length ac, .int .i64 L[j].nameEnd, .int .i64 L[j].inFrom, .int .i64 L[j].inTo] 49)) := (Below.refl _ _).alloc (Nat.le_refl _) _
      have HA4 := hid (hA.ext (Ext.below e1))
      have HB4 := hid (below_trans HBr.out e1 (Nat.le_refl _))
      clear he hA e1 hWk hat hrow
      generalize L[j] = n at *
      have HAl := hid hal
      clear hal
      have hk4 : n.nameEnd ≤ S.length := Nat.le_trans hk2 hk3
      have i1 : (k : Int) ≤ (n.nameEnd : Int) := by omega
      have i2 : (n.nameEnd : Int) ≤ (s.size : Int) := by omega
      have n1 : n.nameEnd ≤ s.size := by omega
      have n2 : ¬ (9223372036854775807 < o.size + (n.nameEnd - k)) := by omega
      have H6 := hid h6
      clear h6
      go_wp2_with fail
      have HX := hid hbox
      clear hbox c0 c1 c2 c3 c4 c5
      generalize wr.alloc (.cells #[.string (bsL n.name), .int .i64 n.parent, .slice aa n.attrs.length ac, .int .i64 n.nameEnd, .int .i64 n.inFrom, .int .i64 n.inTo] 49) = wb at *
      go_loopg [6] l.length (fun g a wi => ∃ i : Nat, g = l.length - i ∧ i ≤ l.length ∧ a = .int .i64 ((n.nameEnd + Sh.offA l i : Nat) : Int) ∧ Below wb.heap.size wb wi)
      case atStart => exact ⟨0, rfl, Nat.zero_le _, rfl, Below.refl _ _⟩
      case round =>
        obtain ⟨i, hg2, hi, rfl, hBi⟩ := hrel
        rename World => wi
        have GK2 := hid hg2
        have HBi := hid hBi
        have HXi := hid ((hBi.block _ (lt_heap HX.out)).trans HX.out)
        obtain ⟨g0, g1, g2, g3, g4, g5⟩ := six_of HXi.out
        clear hg2 hBi
        by_cases hil : i < l.length
        · have hby := HBy.out.1 i hil
          obtain ⟨hlt3, hbv⟩ := List.getElem?_eq_some_iff.1 hby
          have hpl : n.nameEnd + Sh.offA l i < s.size := by have := H6.out; omega
          have hb2 : s[n.nameEnd + Sh.offA l i]'hpl = 32 := by
            have h1 : s.data[n.nameEnd + Sh.offA l i]? = some 32 := by rw [← Array.getElem?_toList, HS.out]; exact hby
            exact (Array.getElem?_eq_some_iff.1 h1).2
          have HOt : Hid (∀ (q : Nat), q < i → n.nameEnd + Sh.offA l q ≠ n.nameEnd + Sh.offA l i) := fun q hq => by have := Sh.offA_lt hq hi; omega
          clear hby hlt3 hbv
          generalize hpp : n.nameEnd + Sh.offA l i = pp at *
          have HPp := hid hpp
          clear hpp
          go_wp2_with fail
          go_loopg [6, 45] i (fun g a q wj => ∃ q' : Nat, g = i - q' ∧ q' ≤ i ∧ a = .int .i64 (pp : Int) ∧ q = .int .i64 (q' : Int) ∧ Below wb.heap.size wb wj)
          case atStart => exact ⟨0, rfl, Nat.zero_le _, rfl, rfl, HBi.out⟩
          case round =>
            obtain ⟨q, hg3, hq, rfl, rfl, hBj⟩ := hrel
            rename World => wj
            have GK3 := hid hg3
            have HBj := hid hBj
            clear hg3 hBj
            have hqa : q < n.attrs.length := by have := HAl.out; omega
            have hql : q < l.length := by omega
            obtain ⟨ab, ao, rfl, hae⟩ := Sl.at (HA4.out.ext (Ext.below HBj.out)) (i := q) (by rw [List.length_map]; exact hqa)
            rw [List.getElem_map] at hae
            obtain ⟨m0, m1, m2, m3⟩ := eA.cells hae
            have hft := Sh.atrs_at (k := n.nameEnd) hql (by rw [Sh.atrs_len]; exact hql)
            have ef : n.attrs[q].from_ = n.nameEnd + Sh.offA l q ∧ n.attrs[q].to_ = n.nameEnd + Sh.offA l (q + 1) := by
              have := HAt.out
              simp only [this]
              exact hft
            have m2' : wj.cell? ⟨ab, ao + q * 4 + 2, none⟩ = some (.int .i64 ((n.nameEnd + Sh.offA l q : Nat) : Int)) := by rw [m2]; show some (Value.int .i64 (n.attrs[q].from_ : Int)) = _; rw [ef.1]
            have m3' : wj.cell? ⟨ab, ao + q * 4 + 3, none⟩ = some (.int .i64 ((n.nameEnd + Sh.offA l (q + 1) : Nat) : Int)) := by rw [m3]; show some (Value.int .i64 (n.attrs[q].to_ : Int)) = _; rw [ef.2]
            have HB6 := hid (HBj.out.alloc HBj.out.size (.cells #[.string (ofA n.attrs[q]).name, .string (ofA n.attrs[q]).val, .int .i64 ((n.nameEnd + Sh.offA l q : Nat) : Int), .int .i64 ((n.nameEnd + Sh.offA l (q + 1) : Nat) : Int)] 51))
            clear hae m2 m3 hft ef
            generalize (ofA n.attrs[q]).name = an at *
            generalize (ofA n.attrs[q]).val = av at *
            by_cases hqi : q = i
            · subst hqi
              rw [HPp.out] at m2' HB6
              obtain ⟨tt, htt⟩ : ∃ tt, tt = n.nameEnd + Sh.offA l (q + 1) := ⟨_, rfl⟩
              rw [← htt] at m3' HB6
              have HTt := hid htt
              clear htt
              go_wp2_with fail
              go_roundg (l.length - (q + 1))
              case measure => have := GK2.out; omega
              case rel => exact ⟨q + 1, rfl, by omega, by rw [HTt.out], HB6.out⟩
            · have hne := HOt.out q (by omega)
              generalize n.nameEnd + Sh.offA l q = ff at *
              generalize n.nameEnd + Sh.offA l (q + 1) = tt at *
              have hne' : ¬ ((ff : Int) = (pp : Int)) := by omega
              go_wp2_with fail
              go_roundg (i - (q + 1))
              case measure => have := GK3.out; omega
              case rel => exact ⟨q + 1, rfl, by omega, rfl, by go_num, HB6.out⟩
        · have hie : i = l.length := by omega
          subst hie
          have hby := HBy.out.2
          obtain ⟨hlt3, hbv⟩ := List.getElem?_eq_some_iff.1 hby
          have hpl : n.nameEnd + Sh.offA l l.length < s.size := by have := H6.out; omega
          have hb2 : s[n.nameEnd + Sh.offA l l.length]'hpl = 62 := by
            have h1 : s.data[n.nameEnd + Sh.offA l l.length]? = some 62 := by rw [← Array.getElem?_toList, HS.out]; exact hby
            exact (Array.getElem?_eq_some_iff.1 h1).2
          have HPp : Hid (Sh.endA n.nameEnd n.attrs = n.nameEnd + Sh.offA l l.length) := by show _ = _; rw [HEn.out, Sh.offA_all]
          have HB7 := hid (below_trans HB4.out HBi.out (Nat.le_refl _))
          clear hby hlt3 hbv
          generalize n.nameEnd + Sh.offA l l.length = pp at *
          by_cases hst : n.name = Sh.styleL
          · have hsn : ((bsL n.name).toList == [115, 116, 121, 108, 101]) = true := by rw [hSty.out]; simpa using hst
            have HCe : Hid ((Sh.cutN n).2.1 = n.inTo) := by show _ = _; rw [HCu.out, if_pos hst]
            clear hst
            go_wp2_with fail
            go_roundg (L.length - (j + 1))
            case measure => have := GK.out; have := HJ.out; omega
            case rel => exact ⟨j + 1, n.inTo, _, rfl, by have := HJ.out; omega, by go_num, rfl, rfl, by rw [← HCe.out]; exact HTn.out, by rw [← HCe.out]; exact HWn.out, HB7.out⟩
          · have hsn : ((bsL n.name).toList == [115, 116, 121, 108, 101]) = false := by rw [hSty.out]; simpa using hst
            have HCe : Hid ((Sh.cutN n).2.1 = pp) := by show _ = _; rw [HCu.out, if_neg hst, HPp.out]
            clear hst
            go_wp2_with fail
            go_roundg (L.length - (j + 1))
            case measure => have := GK.out; have := HJ.out; omega
            case rel => exact ⟨j + 1, pp, _, rfl, by have := HJ.out; omega, by go_num, rfl, rfl, by rw [← HCe.out]; exact HTn.out, by rw [← HCe.out]; exact HWn.out, HB7.out⟩
    · have hjl : j = L.length := by omega
      subst hjl
      rw [List.drop_length] at hWk
      have hk : k ≤ S.length := hWk
      have HTe : Hid (bsL T = o ++ s.extract k s.size) := by
        show bsL T = _
        apply ba_ext
        rw [bsL_data, HTa.out, List.drop_length, ByteArray.data_append, Array.toList_append, drop_str, HS.out]
        rfl
      have i1 : (k : Int) ≤ (s.size : Int) := by omega
      have n1 : k ≤ s.size := by omega
      have n2 : ¬ (9223372036854775807 < o.size + (s.size - k)) := by omega
      have H6 := hid h6
      clear h6 hWk
      go_wp2_with fail
      go_ret
      exact ⟨by rw [← HZ.out, HTe.out]; rfl, below_trans HB.out HBr.out (Nat.le_refl _)⟩
end Go.Proofs.YtblkldfokeeaeacGreatDoor
