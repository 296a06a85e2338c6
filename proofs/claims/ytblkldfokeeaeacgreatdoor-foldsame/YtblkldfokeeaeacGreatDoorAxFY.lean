/-
  The law FoldSame returns true. Conditions: the tables hold what their texts say; the page and the name are shorter than 2 to the 63.
-/
import Derived.Test.YtblkldfokeeaeacGreatDoorAxFX
import Derived.Test.YtblkldfokeeaeacGreatDoorAxC9
namespace Go.Proofs.YtblkldfokeeaeacGreatDoor
open Go.RowKit Go.Maps
theorem names_new (w : World) (a b c : ByteArray) {P : Nat} (hP : w.heap.size = P) : (w.alloc (.cells #[.string a, .string b, .string c] 9)).ownsRow w.heap.size 9 1 (.slice (some ⟨P, 0, none⟩) 3 3) [a, b, c].length ([a, b, c].flatMap encB) := by
  subst hP
  exact ⟨rfl, .inr ⟨w.heap.size, 3, _, rfl, Nat.le_refl _, heap_alloc_new w _, Nat.le_refl _, by unfold maxLen; omega, rfl, rfl⟩⟩
theorem names_push {w : World} {B : Nat} {v : Value} {m : List ByteArray} {x y z : ByteArray} (h : w.ownsRow B 9 1 v (m.length + 3) (m.flatMap encB ++ [.string x, .string y, .string z])) : w.ownsRow B 9 1 v (m ++ [x, y, z]).length ((m ++ [x, y, z]).flatMap encB) := by
  simpa [encB] using h
theorem rs_dec {w : World} {b off : Nat} {r : Ru} (h : eR w (fun j => w.cell? ⟨b, off + j, none⟩) r) : ∃ sa sn sc da dc, w.cell? ⟨b, off, none⟩ = some (.string r.media) ∧ w.cell? ⟨b, off + 1, none⟩ = some (.slice sa sn sc) ∧ w.cell? ⟨b, off + 2, none⟩ = some (.slice da r.decls.length dc) ∧ w.cell? ⟨b, off + 3, none⟩ = some (.int .i64 r.rf) ∧ w.cell? ⟨b, off + 4, none⟩ = some (.int .i64 r.rt) ∧ DsAt w (.slice da r.decls.length dc) r.decls := by
  obtain ⟨sa, sn, sc, da, dn, dc, c0, c1, c2, c3, c4, hS, hD⟩ := eR.cells h
  obtain ⟨a, c, e⟩ := Sl.form hD
  rw [e] at c2 hD
  exact ⟨sa, sn, sc, a, c, c0, c1, c2, c3, c4, hD⟩
set_option maxRecDepth 100000 in
set_option maxHeartbeats 16000000 in
theorem foldSame_any (s name : ByteArray) (w : World) (hs : s.size ≤ 9223372036854775807) (hn : name.size ≤ 9223372036854775807) (hT : Tab w) : Calls Tryz.prog 3 #[.string s, .string name] w fun e w' => e = .returned (.bool true) ∧ Below w.heap.size w w' := by
  have AL := hid (alive_any w hT)
  have HT := hid hT
  have FA := hid (fun w' hT' => fold_any s w' hs hT')
  clear hT
  cases hf : foldB s.data.toList with
  | error x =>
    rw [hf] at FA
    simp only [FoldAns] at FA
    obtain ⟨xe, xa⟩ := x
    go_enter Tryz.func3, Tryz.ntmps3
    go_wp2_with (first
      | (go_at_call 15; refine AL.out.mono ?_; rintro e w1 ⟨rfl, hb1⟩; have HB1 := hid hb1; clear hb1)
      | (go_at_call 16; refine (FA.out w1 (HT.out.ext (Ext.below HB1.out))).mono ?_; rintro e w2 ⟨⟨rfl, hx⟩, hb2⟩; have HB2 := hid (below_trans HB1.out hb2 (Nat.le_refl _)); have hx' : ¬ ((xe : Int) = 0) := Int.natCast_ne_zero.2 hx; clear hb2 hx; simp only [faultV]))
    go_ret
    exact ⟨rfl, below_al HB2.out⟩
  | ok T =>
    rw [hf] at FA
    simp only [FoldAns] at FA
    obtain ⟨L, R, L', R', t, h1, _, _⟩ := fold_ok hf
    have RA := hid (fun w' hT' => read_any s w' hs hT')
    rw [read_iff.2 h1.read] at RA
    simp only [ReadAns] at RA
    have RB := hid (fun w' hT' => read_any (bsL T) w' (by rw [bsL_size]; have := fold_len hf; omega) hT')
    rw [show (bsL T).data.toList = T from rfl, read_iff.2 h1.again] at RB
    simp only [ReadAns] at RB
    have HLen := hid h1.len
    have hR60 := h1.read.few
    obtain ⟨hL120, hS6, hNd⟩ := page_bd h1.read.page
    obtain ⟨hL120', hS6', hNd'⟩ := page_bd h1.again.page
    have HSn := hid (sm_nodes hL120 (fun n hn => ndBd_mono (hNd n hn) hS6))
    have HSn' := hid (sm_nodes hL120' (fun n hn => ndBd_mono (hNd' n hn) hS6'))
    have HSr := hid (sm_rules (R := R) (by have := h1.read.few; omega) h1.read.bd)
    have HSr' := hid (sm_rules (R := R') (by have := h1.again.few; omega) h1.again.bd)
    have HDc : Hid (∀ r ∈ R, r.decls.length ≤ 20 ∧ ∀ d ∈ r.decls.map Sh.ofL, d.name.size ≤ 20) := fun r hr => ⟨(h1.read.bd r hr).decls, fun d hd => by
      obtain ⟨x, hx, rfl⟩ := List.mem_map.1 hd
      have := ((h1.read.bd r hr).texts x hx).1
      show (bsL x.name).size ≤ 20
      rw [bsL_size]; exact this⟩
    have HVl : Hid (∀ (media : List ByteArray) (nm : ByteArray) (k : Nat), k < L.length → ∃ v, valueB styB inhB iniB (L.map ofN) (R.map ofR) media nm k = .ok v ∧ valueB styB inhB iniB (L'.map ofN) (R'.map ofR) media nm k = .ok v) := fun media nm k hk => by
      rw [sty_eq]
      exact h1.value inhB iniB media nm k hk
    have HRl : Hid ((R.map ofR).length = R.length) := List.length_map ..
    clear h1 hf hNd hNd' hS6 hS6' hL120'
    generalize bsL T = bt at *
    go_enter Tryz.func3, Tryz.ntmps3
    go_wp2_with (first
      | (go_at_call 15; refine AL.out.mono ?_; rintro e w1 ⟨rfl, hb1⟩; have HB1 := hid hb1; clear hb1)
      | (go_at_call 16; refine (FA.out w1 (HT.out.ext (Ext.below HB1.out))).mono ?_; rintro e w2 ⟨rfl, hb2⟩; have HB2 := hid (below_trans HB1.out hb2 (Nat.le_refl _)); have HF2 := hid (FaB.new w2 0 0); have HB3 := hid (below_al HB2.out (o := .cells #[.int .i64 0, .int .i64 0] 25)); clear hb2; simp only [faultV])
      | (go_at_call 17; refine (RB.out _ (HT.out.ext (Ext.below HB5.out))).mono ?_; rintro e w6 ⟨⟨lv', rv', rfl, hlv', hrv'⟩, hb6⟩; have HB6 := hid (below_trans HB5.out hb6 (Nat.le_refl _)); obtain ⟨ma, mc, rfl⟩ := nd_form hlv'; obtain ⟨qa, qc, rfl⟩ := rs_form hrv'; have bA := below_al (o := .cells #[.int .i64 0, .int .i64 0] 25) (Below.refl w6.heap.size w6); have HB7 := hid (below_al HB6.out (o := .cells #[.int .i64 0, .int .i64 0] 25)); have HN7 := hid (nds_of (nd_below (nd_below HN5.out hb6) bA)); have HM7 := hid (nds_of (nd_below hlv' bA)); have HR7 := hid (rus_of (rs_keeps (rs_keeps HR5.out hb6) bA)); have HQ7 := hid (rus_of (rs_keeps hrv' bA)); have F7 := (HF5.out.below hb6).below bA; have u0 := F7.cell0; have u1 := F7.cell1; clear hb6 hlv' hrv' bA F7; simp only [faultV, HLen.out])
      | (go_at_call 17; refine (RA.out _ (HT.out.ext (Ext.below HB3.out))).mono ?_; rintro e w4 ⟨⟨lv, rv, rfl, hlv, hrv⟩, hb4⟩; obtain ⟨la, lc, rfl⟩ := nd_form hlv; obtain ⟨ra, rc, rfl⟩ := rs_form hrv; have F4 := HF2.out.below hb4; have z0 := F4.fz 0; have z1 := F4.fz 1; have y0 := F4.cell0; have y1 := F4.cell1; have HF5 := hid (F4.set 0 0); have HN5 := hid (nd_keeps hlv (F4.keep25 0 0) ⟨by decide, by decide⟩); have HR5 := hid (Sh.RsIn.keeps hrv (F4.keep25 0 0) ⟨by decide, by decide, by decide, by decide, by decide⟩); have HB5 := hid (below_setF (below_trans HB3.out hb4 (Nat.le_refl _)) HB2.out.size 0 0); clear hb4 hlv hrv F4; simp only [faultV]))
    clear z0 z1 y0 y1 u0 u1
    have HZ7 : Hid ((w6.alloc (.cells #[.int .i64 0, .int .i64 0] 25)).heap.size = w6.heap.size + 1) := by show _ = _; simp
    generalize w6.alloc (.cells #[.int .i64 0, .int .i64 0] 25) = w7 at *
    have HT7 := hid (HT.out.ext (Ext.below HB7.out))
    rw [HLen.out] at HM7
    clear HB1 HB2 HF2 HB3 HF5 HN5 HR5 HB5 HB6 FA RA RB AL HT
    have hc1 : (⟨#[99, 111, 108, 111, 114]⟩ : ByteArray).size ≤ 9223372036854775807 := by decide
    have hc2 : (⟨#[115, 105, 122, 101]⟩ : ByteArray).size ≤ 9223372036854775807 := by decide
    have HNw := hid (names_new w7 name ⟨#[99, 111, 108, 111, 114]⟩ ⟨#[115, 105, 122, 101]⟩ HZ7.out)
    have HBw := hid (below_al (o := .cells #[.string name, .string ⟨#[99, 111, 108, 111, 114]⟩, .string ⟨#[115, 105, 122, 101]⟩] 9) (Below.refl w7.heap.size w7))
    have HN3 : Hid (∀ x ∈ [name, ⟨#[99, 111, 108, 111, 114]⟩, ⟨#[115, 105, 122, 101]⟩], x.size ≤ 9223372036854775807) := fun x hx => by
      rcases List.mem_cons.1 hx with rfl | hx
      · exact hn
      rcases List.mem_cons.1 hx with rfl | hx
      · exact hc1
      · rw [List.mem_singleton.1 hx]; exact hc2
    go_loopg [12, 69] R.length (fun g v i wr => ∃ (j : Nat) (NS : List ByteArray), g = R.length - j ∧ j ≤ R.length ∧ i = .int .i64 (j : Int) ∧ NS.length ≤ 3 + 60 * j ∧ (∀ x ∈ NS, x.size ≤ 9223372036854775807) ∧ wr.ownsRow w7.heap.size 9 1 v NS.length (NS.flatMap encB) ∧ Below w7.heap.size w7 wr)
    case atStart => exact ⟨0, _, rfl, Nat.zero_le _, rfl, by simp, HN3.out, HNw.out, HBw.out⟩
    case round =>
      clear HN3 HNw HBw
      obtain ⟨j, NS, hg, hj, rfl, hnl, hns, ho, hB⟩ := hrel
      rename World => wr
      obtain ⟨na, nc, rfl⟩ := own_form ho
      have GK := hid hg
      have HO := hid ho
      have HB := hid hB
      have HNs := hid hns
      clear hg ho hB hns
      by_cases hlt : j < R.length
      · obtain ⟨b, off, rfl, he⟩ := Sl.at HR7.out (i := j) (by rw [HRl.out]; exact hlt)
        rw [List.getElem_map] at he
        obtain ⟨sa, sn, sc, da, dc, c0, c1, c2, c3, c4, hD⟩ := rs_dec he
        have xx := Ext.below HB.out
        replace c0 := xx _ _ _ c0
        replace c1 := xx _ _ _ c1
        replace c2 := xx _ _ _ c2
        replace c3 := xx _ _ _ c3
        replace c4 := xx _ _ _ c4
        obtain ⟨hd20, hdn⟩ := HDc.out R[j] (List.getElem_mem hlt)
        have HD := hid hD
        have HO1 := hid (own_ext HO.out (below_al (o := .cells #[.string (ofR R[j]).media, .slice sa sn sc, .slice da (ofR R[j]).decls.length dc, .int .i64 (ofR R[j]).rf, .int .i64 (ofR R[j]).rt] 38) (Below.refl _ _)))
        have HB1 := hid (below_al (o := .cells #[.string (ofR R[j]).media, .slice sa sn sc, .slice da (ofR R[j]).decls.length dc, .int .i64 (ofR R[j]).rf, .int .i64 (ofR R[j]).rt] 38) HB.out)
        have HDn : Hid (∀ d ∈ (ofR R[j]).decls, d.name.size ≤ 20) := hdn
        have hdl : (ofR R[j]).decls.length ≤ 20 := by show (R[j].decls.map Sh.ofL).length ≤ 20; rw [List.length_map]; exact hd20
        have HJ := hid hlt
        clear he hD hdn hd20 xx
        generalize (ofR R[j]).decls = ds at *
        generalize (ofR R[j]).media = md at *
        generalize (ofR R[j]).rf = rf at *
        generalize (ofR R[j]).rt = rt at *
        go_wp2_with fail
        clear c0 c1 c2 c3 c4
        generalize wr.alloc (.cells #[.string md, .slice sa sn sc, .slice da ds.length dc, .int .i64 rf, .int .i64 rt] 38) = wb at *
        go_loopg [12, 76] ds.length (fun g v i wi => ∃ (q : Nat) (MS : List ByteArray), g = ds.length - q ∧ q ≤ ds.length ∧ i = .int .i64 (q : Int) ∧ MS.length ≤ NS.length + 3 * q ∧ (∀ x ∈ MS, x.size ≤ 9223372036854775807) ∧ wi.ownsRow w7.heap.size 9 1 v MS.length (MS.flatMap encB) ∧ Below w7.heap.size w7 wi)
        case atStart => exact ⟨0, NS, rfl, Nat.zero_le _, rfl, by omega, HNs.out, HO1.out, HB1.out⟩
        case round =>
          obtain ⟨q, MS, hg, hq, rfl, hml, hms, ho, hB2⟩ := hrel
          rename World => wi
          obtain ⟨xa, xc, rfl⟩ := own_form ho
          have GK2 := hid hg
          have HO2 := hid ho
          have HB2 := hid hB2
          have HMs := hid hms
          clear hg ho hB2 hms
          by_cases hlq : q < ds.length
          · obtain ⟨db, dof, rfl, he⟩ := Sl.at (HD.out.ext (Ext.below HB2.out)) hlq
            obtain ⟨c0, c1, c2⟩ := he.cells
            have hdz := HDn.out ds[q] (List.getElem_mem hlq)
            have HJ2 := hid hlq
            clear he
            generalize ds[q] = d at *
            have HM3 : Hid (∀ x ∈ MS ++ [d.name, d.name ++ ⟨#[45, 116, 111, 112]⟩, d.name ++ ⟨#[45, 108, 101, 102, 116]⟩], x.size ≤ 9223372036854775807) := fun x hx => by
              have z4 : (⟨#[45, 116, 111, 112]⟩ : ByteArray).size = 4 := rfl
              have z5 : (⟨#[45, 108, 101, 102, 116]⟩ : ByteArray).size = 5 := rfl
              rcases List.mem_append.1 hx with hx | hx
              · exact HMs.out x hx
              rcases List.mem_cons.1 hx with rfl | hx
              · omega
              rcases List.mem_cons.1 hx with rfl | hx
              · rw [ByteArray.size_append, z4]; omega
              · rw [List.mem_singleton.1 hx, ByteArray.size_append, z5]; omega
            have n4 : ¬ (9223372036854775807 < d.name.size + 4) := by omega
            have n5 : ¬ (9223372036854775807 < d.name.size + 5) := by omega
            go_wp2_with (at_builtin; refine wpList_app rfl (.tmp 80) (.tmp 89) 32 rfl w7.heap.size 9 _ 1 16 Tryz.underlying32 Tryz.infoS rfl (by decide) (.slice xa MS.length xc) MS.length (MS.flatMap encB) rfl (own_ext HO2.out (below_al (below_al (Below.refl _ _)))) _ 3 [.string d.name, .string (d.name ++ ⟨#[45, 116, 111, 112]⟩), .string (d.name ++ ⟨#[45, 108, 101, 102, 116]⟩)] rfl (.inr ⟨_, 3, rfl, World.news_of_block (hW_new (by simp))⟩) rfl (by simp [Value.oneCell']) (by unfold maxLen; omega) (by omega) (below_al (below_al HB2.out)).size ?_; intro v5 w5 hv5 hg5; have HO5 := hid (names_push hv5); have HB5 := hid ((below_al (below_al HB2.out)).grown hg5 (below_al (below_al HB2.out)).size (fun i hi => (HO2.out.lt i hi).1)); clear hv5 hg5)
            go_roundg (ds.length - (q + 1))
            case measure => have := GK2.out; have := HJ2.out; omega
            case rel => exact ⟨q + 1, _, rfl, by have := HJ2.out; omega, by go_num, by simp; omega, HM3.out, HO5.out, HB5.out⟩
          · go_wp2_with fail
            go_roundg (R.length - (j + 1))
            case measure => have := GK.out; have := HJ.out; omega
            case rel => exact ⟨j + 1, MS, rfl, by have := HJ.out; omega, by go_num, by omega, HMs.out, HO2.out, HB2.out⟩
      · have SA := hid (sets_any (R.map ofR) (.slice ra R.length rc) wr (HR7.out.ext (Ext.below HB.out)) (by rw [HRl.out]; exact hR60))
        have hns4 : NS.length ≤ 3603 := by omega
        go_wp2_with (go_at_call 18; refine SA.out.mono ?_; rintro e w8 ⟨⟨kv, K, rfl, hko, hkl, hkg⟩, hb8⟩; obtain ⟨ka, kc, rfl⟩ := own_form hko; have HB8 := hid (below_trans HB.out hb8 (Nat.le_refl _)); have HO8 := hid (BsAt.own (own_ext HO.out hb8)); have HK := hid hko; have HG := hid hkg; clear hko hkg hb8)
        have HN8 := hid (HN7.out.ext (Ext.below HB8.out))
        have HM8 := hid (HM7.out.ext (Ext.below HB8.out))
        have HR8 := hid (HR7.out.ext (Ext.below HB8.out))
        have HQ8 := hid (HQ7.out.ext (Ext.below HB8.out))
        have HT8 := hid (HT7.out.ext (Ext.below HB8.out))
        have HBe := hid (below_trans HB7.out HB8.out (Nat.le_refl _))
        clear HN7 HM7 HR7 HQ7 HT7 HB7 HB8 SA HO HB GK hj hlt HDc
        go_loopg [96] K.length (fun g i wr => ∃ j : Nat, g = K.length - j ∧ j ≤ K.length ∧ i = .int .i64 (j : Int) ∧ Below w8.heap.size w8 wr)
        case atStart => exact ⟨0, rfl, Nat.zero_le _, rfl, Below.refl _ _⟩
        case round =>
          obtain ⟨i, hg, hi, rfl, hB⟩ := hrel
          rename World => wx
          have GK := hid hg
          have HBx := hid hB
          clear hg hB
          by_cases hli : i < K.length
          · obtain ⟨g, rfl, cg⟩ := own_cell (own_ext HK.out HBx.out) (j := i) (by omega)
            rw [List.getElem?_eq_getElem hli] at cg
            obtain ⟨m, hm1, hm2⟩ := HG.out K[i] (List.getElem_mem hli)
            obtain ⟨xa, xc, hxe⟩ := own_form hm1
            rw [hxe] at cg hm1
            have HMd := hid (BsAt.own hm1)
            have hml : m.length ≤ 1099511627776 := by omega
            have HMl := hid hml
            have HJ := hid hli
            clear hm1 hm2 hxe hml
            go_wp2_with fail
            clear cg
            go_loopg [102] L.length (fun g i wr => ∃ j : Nat, g = L.length - j ∧ j ≤ L.length ∧ i = .int .i64 (j : Int) ∧ Below w8.heap.size w8 wr)
            case atStart => exact ⟨0, rfl, Nat.zero_le _, rfl, HBx.out⟩
            case round =>
              obtain ⟨k, hg, hk, rfl, hB⟩ := hrel
              rename World => wk
              have GK2 := hid hg
              have HBk := hid hB
              clear hg hB
              by_cases hlk : k < L.length
              · have HJ2 := hid hlk
                go_wp2_with fail
                go_loopg [107] NS.length (fun g i wr => ∃ j : Nat, g = NS.length - j ∧ j ≤ NS.length ∧ i = .int .i64 (j : Int) ∧ Below w8.heap.size w8 wr)
                case atStart => exact ⟨0, rfl, Nat.zero_le _, rfl, HBk.out⟩
                case round =>
                  obtain ⟨q, hg, hq, rfl, hB⟩ := hrel
                  rename World => wq
                  have GK3 := hid hg
                  have HBq := hid hB
                  clear hg hB
                  by_cases hlq : q < NS.length
                  · have xq := Ext.below HBq.out
                    obtain ⟨nb, no, rfl, he⟩ := Sl.at (HO8.out.ext xq) hlq
                    have c0 := he.cells
                    rw [Nat.mul_one] at c0
                    have hz : NS[q].size ≤ maxLen := HNs.out NS[q] (List.getElem_mem hlq)
                    obtain ⟨vv, e1, e2⟩ := HVl.out m NS[q] k hlk
                    have V1 := value_any (lv := .slice la L.length lc) (rv := .slice ra R.length rc) (mv := .slice xa m.length xc) k NS[q] wq (HN8.out.ext xq) HSn.out (HR8.out.ext xq) HSr.out (HMd.out.ext xq) HMl.out (HT8.out.ext xq) hz
                    rw [e1] at V1
                    have V2 := fun w' (hb : Below w8.heap.size w8 w') => value_any (lv := .slice ma L.length mc) (rv := .slice qa R'.length qc) (mv := .slice xa m.length xc) k NS[q] w' (HM8.out.ext (Ext.below hb)) HSn'.out (HQ8.out.ext (Ext.below hb)) HSr'.out (HMd.out.ext (Ext.below hb)) HMl.out (HT8.out.ext (Ext.below hb)) hz
                    simp only [e2] at V2
                    simp only [AnsV] at V1 V2
                    have HV1 := hid V1
                    have HV2 := hid V2
                    have HJ3 := hid hlq
                    clear V1 V2 e1 e2 hz xq he
                    generalize NS[q] = nn at *
                    go_wp2_with (first
                      | (go_at_call 19; refine (HV2.out w9 HB9.out).mono ?_; rintro e w10 ⟨rfl, hb10⟩; have HB10 := hid (below_trans HB9.out hb10 (Nat.le_refl _)); clear hb10)
                      | (go_at_call 19; refine HV1.out.mono ?_; rintro e w9 ⟨rfl, hb9⟩; have HB9 := hid (below_trans HBq.out hb9 (Nat.le_refl _)); clear hb9))
                    go_roundg (NS.length - (q + 1))
                    case measure => have := GK3.out; have := HJ3.out; omega
                    case rel => exact ⟨q + 1, rfl, by have := HJ3.out; omega, by go_num, HB10.out⟩
                  · go_wp2_with fail
                    go_roundg (L.length - (k + 1))
                    case measure => have := GK2.out; have := HJ2.out; omega
                    case rel => exact ⟨k + 1, rfl, by have := HJ2.out; omega, by go_num, HBq.out⟩
              · go_wp2_with fail
                go_roundg (K.length - (i + 1))
                case measure => have := GK.out; have := HJ.out; omega
                case rel => exact ⟨i + 1, rfl, by have := HJ.out; omega, by go_num, HBk.out⟩
          · go_wp2_with fail
            go_ret
            exact ⟨rfl, below_trans HBe.out HBx.out (Nat.le_refl _)⟩
end Go.Proofs.YtblkldfokeeaeacGreatDoor
