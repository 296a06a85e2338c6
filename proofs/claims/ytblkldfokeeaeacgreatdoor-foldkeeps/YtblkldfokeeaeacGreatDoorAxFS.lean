/-
  The law FoldKeeps returns true. Conditions: the tables hold what their texts say; the page is shorter than 2 to the 63.
-/
import Derived.Test.YtblkldfokeeaeacGreatDoorA32
import Derived.Test.YtblkldfokeeaeacGreatDoorAxSame
namespace Go.Proofs.YtblkldfokeeaeacGreatDoor
open Go.RowKit Go.Maps
def bareA (a : Sh.Atr) : Sh.Atr := ⟨a.name, a.val, 0, 0⟩
def plA (l : List Sh.Atr) : List Sh.Atr := (l.filter fun a => !(a.name == Sh.styleL)).map bareA
def noSty (l : List Sh.Atr) : Bool := l.all fun a => !(a.name == Sh.styleL)
def medAll (R : List Sh.Rl) : Bool := R.all fun r => !r.media.isEmpty
theorem plA_yes {l : List Sh.Atr} {q : Nat} (hq : q < l.length) (h : (l[q].name == Sh.styleL) = true) : plA (l.take (q + 1)) = plA (l.take q) ∧ noSty (l.take (q + 1)) = false := by
  unfold plA noSty
  rw [List.take_succ_eq_append_getElem hq, List.filter_append, List.all_append]
  constructor
  · rw [List.filter_cons_of_neg (by simpa using h)]
    simp
  · simp only [List.all_cons, h, Bool.not_true, Bool.false_and, Bool.and_false]
theorem plA_no {l : List Sh.Atr} {q : Nat} (hq : q < l.length) (h : (l[q].name == Sh.styleL) = false) : plA (l.take (q + 1)) = plA (l.take q) ++ [bareA l[q]] ∧ noSty (l.take (q + 1)) = noSty (l.take q) := by
  unfold plA noSty
  rw [List.take_succ_eq_append_getElem hq, List.filter_append, List.all_append]
  constructor
  · rw [List.filter_cons_of_pos (by simpa using h)]
    simp
  · simp only [List.all_cons, h, Bool.not_false, List.all_nil, Bool.and_true]
theorem plA_len (l : List Sh.Atr) : (plA l).length ≤ l.length := by
  unfold plA
  rw [List.length_map]
  exact List.length_filter_le _ _
theorem plA_to {l : List Sh.Atr} {q : Nat} (h : l.length ≤ 8) : (plA (l.take q)).length ≤ 8 := by
  have h1 := plA_len (l.take q)
  have h2 := List.length_take_le' q l
  omega
theorem medAll_next {R : List Sh.Rl} {j : Nat} (hj : j < R.length) : medAll (R.take (j + 1)) = (medAll (R.take j) && !R[j].media.isEmpty) := by
  unfold medAll
  rw [List.take_succ_eq_append_getElem hj, List.all_append]
  simp
theorem noAll_next {L : List Sh.Nd} {k : Nat} (hk : k < L.length) : ((L.take (k + 1)).all fun n => noSty n.attrs) = (((L.take k).all fun n => noSty n.attrs) && noSty L[k].attrs) := by
  rw [List.take_succ_eq_append_getElem hk, List.all_append]
  simp
theorem plA_vw (n : Sh.Nd) : plA n.attrs = ((Sh.vw n).ats.filter fun a => !Sh.isSty a).map fun a => (⟨a.1, a.2, 0, 0⟩ : Sh.Atr) := by
  unfold plA Sh.vw
  simp only [List.filter_map, List.map_map]
  rfl
section
variable {S T : Bs} {L L' : List Sh.Nd} {R R' : List Sh.Rl} {t : Sh.Tr}
theorem Fd.rest_same (h : Fd S T L R L' R' t) {k : Nat} (hk : k < L.length) : (L'[k]'(by rw [h.len]; exact hk)).name = L[k].name ∧ (L'[k]'(by rw [h.len]; exact hk)).parent = L[k].parent ∧ plA (L'[k]'(by rw [h.len]; exact hk)).attrs = plA L[k].attrs := by
  have hv := h.vw hk
  refine ⟨congrArg Sh.Vw.name hv, congrArg Sh.Vw.parent hv, ?_⟩
  rw [plA_vw, plA_vw, hv]
  show (List.filter _ (Sh.editAts _ _)).map _ = _
  rw [Sh.editAts_rest]
theorem Fd.still_same (h : Fd S T L R L' R' t) (hT : T = Sh.app S 0 (edsB S L R) S.length) (hm : medAll R = true) (hs : (L.all fun n => noSty n.attrs) = true) : T = S := by
  refine h.still hT (fun r hr e => ?_) (fun n hn => ?_)
  · have := List.all_eq_true.1 hm r hr
    rw [e] at this
    cases this
  · have := List.all_eq_true.1 hs n hn
    unfold noSty at this
    rw [List.any_eq_false]
    intro a ha
    have := List.all_eq_true.1 this a ha
    simpa using this
end
def ndB (A : List Sh.Atr) : Sh.Nd := ⟨[], 0, A, 0, 0, 0⟩
theorem reads_one {X : World} {P : Nat} {A : List Sh.Atr} {av : Value} (h : X.heap[P]? = some (.cells #[.string ⟨#[]⟩, .int .i64 0, av, .int .i64 0, .int .i64 0, .int .i64 0] 49 (0, 0))) (ha : Sh.AtAt X av A) : Sh.Reads X (.slice (some ⟨P, 0, none⟩) 1 1) [ndB A] :=
  ⟨_, _, rfl, fun _ => ⟨P, _, [(ndB A, av)], rfl, h, rfl, rfl, fun p hp => by rw [List.mem_singleton.1 hp]; exact ha⟩⟩
theorem at_below {w w' : World} {v : Value} {l : List Sh.Atr} (h : Sh.AtAt w v l) (hb : Below w.heap.size w w') : Sh.AtAt w' v l := at_keeps h (Sh.Keeps.below (Ts := fun _ => True) hb) trivial
theorem Tryz.infoAt : (Tryz.prog.info? 51).map (fun i => (i.zero, i.size, i.bytes)) = some (some (.agg #[.string ⟨#[]⟩, .string ⟨#[]⟩, .int .i64 0, .int .i64 0]), 4, 48) := by kernel_rfl
theorem src_at {w : World} {P : Nat} {a : Sh.Atr} (hP : w.heap.size = P) : Src (w.alloc (.cells #[.string (bsL a.name), .string (bsL a.val), .int .i64 0, .int .i64 0] 51)) (.slice (some ⟨P, 0, none⟩) 1 1) 1 (Sh.encA (bareA a)) := by
  subst hP
  exact .inr ⟨_, 1, rfl, World.news_of_block (heap_alloc_new w _)⟩
theorem one_at (a : Sh.Atr) : ∀ u ∈ Sh.encA a, u.oneCell' = true := by
  intro u hd
  simp [Sh.encA] at hd
  rcases hd with rfl | rfl | rfl | rfl <;> rfl
theorem at_push {w : World} {B : Nat} {v : Value} {X : List Sh.Atr} {a : Sh.Atr} (h : w.ownsRow B 51 4 v (X.length + 1) (X.flatMap Sh.encA ++ Sh.encA a)) : w.ownsRow B 51 4 v (X ++ [a]).length ((X ++ [a]).flatMap Sh.encA) := by
  simpa using h
theorem hN_new {X : World} {T : TypeId} {P : Nat} {cs : Array Value} (h : X.heap.size = P) : (X.alloc (.cells cs T)).heap[P]? = some (.cells cs T (0, 0)) := h ▸ heap_alloc_new X _
theorem hN_al {X : World} {P : Nat} {o o' : Obj} (h : X.heap[P]? = some o) : (X.alloc o').heap[P]? = some o := (Below.heap_alloc _ _ _ (lt_heap h)).trans h
theorem hN_dr {X : World} {P : Nat} {o : Obj} (h : X.heap[P]? = some o) : X.drew.heap[P]? = some o := h
theorem own_nil {w : World} {B T z : Nat} : w.ownsRow B T z (.slice none 0 0) 0 [] := World.ownsRow_nil _ _ _ _
set_option maxRecDepth 100000 in
set_option maxHeartbeats 16000000 in
theorem foldKeeps_any (s : ByteArray) (w : World) (hs : s.size ≤ 9223372036854775807) (hT : Tab w) : Calls Tryz.prog 5 #[.string s] w fun e w' => e = .returned (.bool true) ∧ Below w.heap.size w w' := by
  have AL := hid (alive_any w hT)
  have HT := hid hT
  have FA := hid (fun w' hT' => fold_any s w' hs hT')
  clear hT
  cases hf : foldB s.data.toList with
  | error x =>
    rw [hf] at FA
    simp only [FoldAns] at FA
    obtain ⟨xe, xa⟩ := x
    go_enter Tryz.func5, Tryz.ntmps5
    go_wp2_with (first
      | (go_at_call 15; refine AL.out.mono ?_; rintro e w1 ⟨rfl, hb1⟩; have HB1 := hid hb1; clear hb1)
      | (go_at_call 16; refine (FA.out w1 (HT.out.ext (Ext.below HB1.out))).mono ?_; rintro e w2 ⟨⟨rfl, hx⟩, hb2⟩; have HB2 := hid (below_trans HB1.out hb2 (Nat.le_refl _)); have hx' : ¬ ((xe : Int) = 0) := Int.natCast_ne_zero.2 hx; clear hb2 hx; simp only [faultV]))
    go_ret
    exact ⟨rfl, below_al HB2.out⟩
  | ok T =>
    rw [hf] at FA
    simp only [FoldAns] at FA
    obtain ⟨L, R, L', R', t, h1, _, hTT⟩ := fold_ok hf
    have RA := hid (fun w' hT' => read_any s w' hs hT')
    rw [read_iff.2 h1.read] at RA
    simp only [ReadAns] at RA
    have RB := hid (fun w' hT' => read_any (bsL T) w' (by rw [bsL_size]; have := fold_len hf; omega) hT')
    rw [show (bsL T).data.toList = T from rfl, read_iff.2 h1.again] at RB
    simp only [ReadAns] at RB
    have HSm : Hid (∀ (k : Nat) (hk : k < L.length) (hk' : k < L'.length), L'[k].name = L[k].name ∧ L'[k].parent = L[k].parent ∧ plA L'[k].attrs = plA L[k].attrs) := fun k hk _ => h1.rest_same hk
    have HSt : Hid (medAll R = true → (L.all fun n => noSty n.attrs) = true → bsL T = s) := fun a b => by
      have := h1.still_same hTT a b
      apply ba_ext
      rw [bsL_data, this]
    have HLen := hid h1.len
    have hR60 := h1.read.few
    obtain ⟨hL120, _, hNd⟩ := page_bd h1.read.page
    obtain ⟨_, _, hNd'⟩ := page_bd h1.again.page
    have HF8 : Hid (∀ n ∈ L, n.attrs.length ≤ 8) := fun n hn => (hNd n hn).few
    have HF8' : Hid (∀ n ∈ L', n.attrs.length ≤ 8) := fun n hn => (hNd' n hn).few
    clear h1 hf hTT hNd hNd'
    generalize bsL T = bt at *
    go_enter Tryz.func5, Tryz.ntmps5
    go_wp2_with (first
      | (go_at_call 15; refine AL.out.mono ?_; rintro e w1 ⟨rfl, hb1⟩; have HB1 := hid hb1; clear hb1)
      | (go_at_call 16; refine (FA.out w1 (HT.out.ext (Ext.below HB1.out))).mono ?_; rintro e w2 ⟨rfl, hb2⟩; have HB2 := hid (below_trans HB1.out hb2 (Nat.le_refl _)); have HF2 := hid (FaB.new w2 0 0); have HB3 := hid (below_al HB2.out (o := .cells #[.int .i64 0, .int .i64 0] 25)); clear hb2; simp only [faultV])
      | (go_at_call 17; refine (RB.out _ (HT.out.ext (Ext.below HB5.out))).mono ?_; rintro e w6 ⟨⟨lv', rv', rfl, hlv', hrv'⟩, hb6⟩; have HB6 := hid (below_trans HB5.out hb6 (Nat.le_refl _)); obtain ⟨ma, mc, rfl⟩ := nd_form hlv'; obtain ⟨qa, qc, rfl⟩ := rs_form hrv'; have bA := below_al (o := .cells #[.int .i64 0, .int .i64 0] 25) (Below.refl w6.heap.size w6); have HB7 := hid (below_al HB6.out (o := .cells #[.int .i64 0, .int .i64 0] 25)); have HN7 := hid (nd_below (nd_below HN5.out hb6) bA); have HM7 := hid (nd_below hlv' bA); have HR7 := hid (rs_keeps (rs_keeps HR5.out hb6) bA); have F7 := (HF5.out.below hb6).below bA; have u0 := F7.cell0; have u1 := F7.cell1; clear hb6 hlv' hrv' bA F7; simp only [faultV, HLen.out])
      | (go_at_call 17; refine (RA.out _ (HT.out.ext (Ext.below HB3.out))).mono ?_; rintro e w4 ⟨⟨lv, rv, rfl, hlv, hrv⟩, hb4⟩; obtain ⟨la, lc, rfl⟩ := nd_form hlv; obtain ⟨ra, rc, rfl⟩ := rs_form hrv; have F4 := HF2.out.below hb4; have z0 := F4.fz 0; have z1 := F4.fz 1; have y0 := F4.cell0; have y1 := F4.cell1; have HF5 := hid (F4.set 0 0); have HN5 := hid (nd_keeps hlv (F4.keep25 0 0) ⟨by decide, by decide⟩); have HR5 := hid (Sh.RsIn.keeps hrv (F4.keep25 0 0) ⟨by decide, by decide, by decide, by decide, by decide⟩); have HB5 := hid (below_setF (below_trans HB3.out hb4 (Nat.le_refl _)) HB2.out.size 0 0); clear hb4 hlv hrv F4; simp only [faultV]))
    clear z0 z1 y0 y1 u0 u1
    generalize w6.alloc (.cells #[.int .i64 0, .int .i64 0] 25) = w7 at *
    clear HB1 HB2 HF2 HB3 HF5 HN5 HR5 HB5 HB6 FA RA RB AL
    go_loopg [10, 59] R.length (fun g sv i wr => ∃ j : Nat, g = R.length - j ∧ j ≤ R.length ∧ i = .int .i64 (j : Int) ∧ sv = .bool (medAll (R.take j)) ∧ Below w7.heap.size w7 wr)
    case atStart => exact ⟨0, rfl, Nat.zero_le _, rfl, rfl, Below.refl _ _⟩
    case round =>
      obtain ⟨j, hg, hj, rfl, rfl, hB⟩ := hrel
      rename World => wr
      have GK := hid hg
      have HBr := hid hB
      clear hg hB
      by_cases hlt : j < R.length
      · obtain ⟨g, sv, dv, cur, rfl, _, _, hS, hD, c0, c1, c2, c3, c4⟩ := (rs_keeps HR7.out HBr.out).cells rfl hlt
        obtain ⟨sa, sc, rfl⟩ := Sh.NAt.form (show Sh.SsIn wr 0 sv R[j].sels from hS)
        obtain ⟨da, dc, rfl⟩ := Sh.own_form hD
        have HMd := hid (medAll_next hlt)
        have hme : (Sh.bs R[j].media).toList.isEmpty = R[j].media.isEmpty := by
          have : (Sh.bs R[j].media).toList = R[j].media := bsL_toList _
          rw [this]
        have HJ := hid hlt
        clear hS hD
        generalize R[j] = r at *
        generalize Sh.bs r.media = bm at *
        generalize r.media.isEmpty = me at *
        generalize medAll (R.take j) = md at *
        cases md <;> cases me
        all_goals
          go_wp2_with fail
          go_roundg (R.length - (j + 1))
          case measure => have := GK.out; have := HJ.out; omega
          case rel => exact ⟨j + 1, rfl, by have := HJ.out; omega, by go_num, by rw [HMd.out]; rfl, below_al HBr.out⟩
      · have hjl : j = R.length := by omega
        subst hjl
        rw [List.take_length]
        have HB8 := hid (below_trans HB7.out HBr.out (Nat.le_refl _))
        have HN8 := hid (nds_of (nd_below HN7.out HBr.out))
        have HM8 := hid (nds_of (nd_below HM7.out HBr.out))
        clear HN7 HM7 HR7 HB7 HBr
        generalize medAll R = md at *
        go_wp2_with fail
        go_loopg [10, 72] L.length (fun g sv i wk => ∃ k : Nat, g = L.length - k ∧ k ≤ L.length ∧ i = .int .i64 (k : Int) ∧ sv = .bool (md && (L.take k).all fun n => noSty n.attrs) ∧ Below wr.heap.size wr wk)
        case atStart => exact ⟨0, rfl, Nat.zero_le _, rfl, by simp, Below.refl _ _⟩
        case round =>
          obtain ⟨k, hg, hk, rfl, rfl, hB⟩ := hrel
          rename World => wk
          have GK2 := hid hg
          have HBk := hid hB
          clear hg hB
          by_cases hlk : k < L.length
          · have hlk' : k < L'.length := by rw [HLen.out]; exact hlk
            obtain ⟨lb, lo, rfl, he⟩ := Sl.at (HN8.out.ext (Ext.below HBk.out)) (i := k) (by rw [List.length_map]; exact hlk)
            rw [List.getElem_map] at he
            obtain ⟨aa, ac, c0, c1, c2, c3, c4, c5, hA⟩ := nd_cells he
            obtain ⟨mb, mo, rfl, he'⟩ := Sl.at (HM8.out.ext (Ext.below HBk.out)) (i := k) (by rw [List.length_map]; exact hlk')
            rw [List.getElem_map] at he'
            obtain ⟨ba, bc, d0, d1, d2, d3, d4, d5, hA'⟩ := nd_cells he'
            obtain ⟨e1, e2, e3⟩ := HSm.out k hlk hlk'
            rw [e1] at d0
            rw [e2] at d1
            have HPl := hid e3
            have HNx : Hid ((md && (L.take (k + 1)).all fun n => noSty n.attrs) = ((md && (L.take k).all fun n => noSty n.attrs) && noSty L[k].attrs)) := by show _ = _; rw [noAll_next hlk, Bool.and_assoc]
            have h8 := HF8.out L[k] (List.getElem_mem hlk)
            have h8' := HF8'.out L'[k] (List.getElem_mem hlk')
            have HA := hid hA
            have HA' := hid hA'
            have HJ := hid hlk
            have HC := hid (And.intro c0 (And.intro c1 (And.intro d0 (And.intro d1 d2))))
            clear he he' hA hA' e1 e2 e3
            generalize L[k] = n at *
            generalize L'[k] = n' at *
            generalize (md && (L.take k).all fun n => noSty n.attrs) = st at *
            clear c3 c4 c5 d0 d1 d2 d3 d4 d5 hlk'
            go_wp2_with fail
            clear c0 c1 c2
            go_loopg [10, 14, 81] n.attrs.length (fun g sv av i wi => ∃ q : Nat, g = n.attrs.length - q ∧ q ≤ n.attrs.length ∧ i = .int .i64 (q : Int) ∧ sv = .bool (st && noSty (n.attrs.take q)) ∧ wi.ownsRow wk.heap.size 51 4 av (plA (n.attrs.take q)).length ((plA (n.attrs.take q)).flatMap Sh.encA) ∧ Below wk.heap.size wk wi)
            case atStart => exact ⟨0, rfl, Nat.zero_le _, rfl, by simp [noSty], own_nil, Below.refl _ _⟩
            case round =>
              obtain ⟨q, hg, hq, rfl, rfl, ho, hB⟩ := hrel
              rename World => wi
              obtain ⟨xa, xc, rfl⟩ := own_form ho
              have GK3 := hid hg
              have HO := hid ho
              have HBi := hid hB
              clear hg ho hB
              obtain ⟨b, hb⟩ : ∃ b, b = (st && noSty (n.attrs.take q)) := ⟨_, rfl⟩
              rw [← hb]
              have HSb := hid hb
              clear hb
              by_cases hql : q < n.attrs.length
              · obtain ⟨ab, ao, rfl, hae⟩ := Sl.at (HA.out.ext (Ext.below HBi.out)) (i := q) (by rw [List.length_map]; exact hql)
                rw [List.getElem_map] at hae
                obtain ⟨m0, m1, m2, m3⟩ := eA.cells hae
                have hx8 := plA_to (q := q) h8
                have HJ3 := hid hql
                clear hae
                cases hsn : (n.attrs[q].name == Sh.styleL)
                · have HP := hid (plA_no hql hsn)
                  have hnn : ((bsL n.attrs[q].name).toList == [115, 116, 121, 108, 101]) = false := (sty_bytes _).trans hsn
                  have m0' : wi.cell? ⟨ab, ao + q * 4, none⟩ = some (.string (bsL n.attrs[q].name)) := m0
                  have m1' : wi.cell? ⟨ab, ao + q * 4 + 1, none⟩ = some (.string (bsL n.attrs[q].val)) := m1
                  clear hsn m0 m1
                  generalize n.attrs[q] = a0 at *
                  generalize (ofA a0).fr = f0 at *
                  generalize (ofA a0).to = t0 at *
                  generalize plA (n.attrs.take q) = X at *
                  cases b
                  all_goals
                    go_wp2_with (at_builtin; refine wpList_app rfl (.tmp 94) (.tmp 100) 47 rfl wk.heap.size 51 _ 4 48 Tryz.underlying47 Tryz.infoAt rfl (by decide) (.slice xa X.length xc) X.length (X.flatMap Sh.encA) rfl (own_ext HO.out (below_al (below_al (Below.refl _ _)))) _ 1 (Sh.encA (bareA a0)) rfl (src_at (by simp)) rfl (one_at _) (by unfold maxLen; omega) (by omega) (below_al (below_al HBi.out)).size ?_; intro v5 w5 hv5 hg5; have HO5 := hid (at_push hv5); have HB5 := hid ((below_al (below_al HBi.out)).grown hg5 (below_al (below_al HBi.out)).size (fun i hi => (HO.out.lt i hi).1)); clear hv5 hg5)
                    go_roundg (n.attrs.length - (q + 1))
                    case measure => have := GK3.out; have := HJ3.out; omega
                    case rel => exact ⟨q + 1, rfl, by have := HJ3.out; omega, by go_num, by rw [HP.out.2, ← HSb.out], by rw [HP.out.1]; exact HO5.out, HB5.out⟩
                · have HP := hid (plA_yes hql hsn)
                  have hnn : ((bsL n.attrs[q].name).toList == [115, 116, 121, 108, 101]) = true := (sty_bytes _).trans hsn
                  have m0' : wi.cell? ⟨ab, ao + q * 4, none⟩ = some (.string (bsL n.attrs[q].name)) := m0
                  have m1' : wi.cell? ⟨ab, ao + q * 4 + 1, none⟩ = some (.string (bsL n.attrs[q].val)) := m1
                  clear hsn m0 m1
                  generalize n.attrs[q] = a0 at *
                  generalize (ofA a0).fr = f0 at *
                  generalize (ofA a0).to = t0 at *
                  generalize plA (n.attrs.take q) = X at *
                  cases b
                  all_goals
                    go_wp2_with fail
                    go_roundg (n.attrs.length - (q + 1))
                    case measure => have := GK3.out; have := HJ3.out; omega
                    case rel => exact ⟨q + 1, rfl, by have := HJ3.out; omega, by go_num, by rw [HP.out.2, Bool.and_false], by rw [HP.out.1]; exact own_ext HO.out (below_al (Below.refl _ _)), below_al HBi.out⟩
              · have hqe : q = n.attrs.length := by omega
                subst hqe
                rw [List.take_length] at HO HSb ⊢
                have HA2 := hid (HA'.out.ext (Ext.below HBi.out))
                have xx := Ext.below HBi.out
                have d2 := xx _ _ _ HC.out.2.2.2.2
                have hx8 := plA_len n.attrs
                generalize plA n.attrs = X at *
                clear xx HA HA'
                go_wp2_with fail
                clear d2
                go_loopg [15, 109] n'.attrs.length (fun g bv i wj => ∃ q : Nat, g = n'.attrs.length - q ∧ q ≤ n'.attrs.length ∧ i = .int .i64 (q : Int) ∧ wj.ownsRow wi.heap.size 51 4 bv (plA (n'.attrs.take q)).length ((plA (n'.attrs.take q)).flatMap Sh.encA) ∧ Below wi.heap.size wi wj)
                case atStart => exact ⟨0, rfl, Nat.zero_le _, rfl, own_nil, Below.refl _ _⟩
                case round =>
                  obtain ⟨q, hg, hq', rfl, ho, hB⟩ := hrel
                  rename World => wj
                  obtain ⟨ya, yc, rfl⟩ := own_form ho
                  have GK4 := hid hg
                  have HO2 := hid ho
                  have HBj := hid hB
                  clear hg ho hB
                  by_cases hql : q < n'.attrs.length
                  · obtain ⟨ab, ao, rfl, hae⟩ := Sl.at (HA2.out.ext (Ext.below HBj.out)) (i := q) (by rw [List.length_map]; exact hql)
                    rw [List.getElem_map] at hae
                    obtain ⟨m0, m1, m2, m3⟩ := eA.cells hae
                    have hy8 := plA_to (q := q) h8'
                    have HJ3 := hid hql
                    clear hae
                    cases hsn : (n'.attrs[q].name == Sh.styleL)
                    · have HP := hid (plA_no hql hsn)
                      have hnn : ((bsL n'.attrs[q].name).toList == [115, 116, 121, 108, 101]) = false := (sty_bytes _).trans hsn
                      have m0' : wj.cell? ⟨ab, ao + q * 4, none⟩ = some (.string (bsL n'.attrs[q].name)) := m0
                      have m1' : wj.cell? ⟨ab, ao + q * 4 + 1, none⟩ = some (.string (bsL n'.attrs[q].val)) := m1
                      clear hsn m0 m1
                      generalize n'.attrs[q] = a0 at *
                      generalize (ofA a0).fr = f0 at *
                      generalize (ofA a0).to = t0 at *
                      generalize plA (n'.attrs.take q) = Y at *
                      go_wp2_with (at_builtin; refine wpList_app rfl (.tmp 116) (.tmp 122) 47 rfl wi.heap.size 51 _ 4 48 Tryz.underlying47 Tryz.infoAt rfl (by decide) (.slice ya Y.length yc) Y.length (Y.flatMap Sh.encA) rfl (own_ext HO2.out (below_al (below_al (Below.refl _ _)))) _ 1 (Sh.encA (bareA a0)) rfl (src_at (by simp)) rfl (one_at _) (by unfold maxLen; omega) (by omega) (below_al (below_al HBj.out)).size ?_; intro v5 w5 hv5 hg5; have HO5 := hid (at_push hv5); have HB5 := hid ((below_al (below_al HBj.out)).grown hg5 (below_al (below_al HBj.out)).size (fun i hi => (HO2.out.lt i hi).1)); clear hv5 hg5)
                      go_roundg (n'.attrs.length - (q + 1))
                      case measure => have := GK4.out; have := HJ3.out; omega
                      case rel => exact ⟨q + 1, rfl, by have := HJ3.out; omega, by go_num, by rw [HP.out.1]; exact HO5.out, HB5.out⟩
                    · have HP := hid (plA_yes hql hsn)
                      have hnn : ((bsL n'.attrs[q].name).toList == [115, 116, 121, 108, 101]) = true := (sty_bytes _).trans hsn
                      have m0' : wj.cell? ⟨ab, ao + q * 4, none⟩ = some (.string (bsL n'.attrs[q].name)) := m0
                      have m1' : wj.cell? ⟨ab, ao + q * 4 + 1, none⟩ = some (.string (bsL n'.attrs[q].val)) := m1
                      clear hsn m0 m1
                      generalize n'.attrs[q] = a0 at *
                      generalize (ofA a0).fr = f0 at *
                      generalize (ofA a0).to = t0 at *
                      generalize plA (n'.attrs.take q) = Y at *
                      go_wp2_with fail
                      go_roundg (n'.attrs.length - (q + 1))
                      case measure => have := GK4.out; have := HJ3.out; omega
                      case rel => exact ⟨q + 1, rfl, by have := HJ3.out; omega, by go_num, by rw [HP.out.1]; exact own_ext HO2.out (below_al (Below.refl _ _)), below_al HBj.out⟩
                  · have hqe : q = n'.attrs.length := by omega
                    subst hqe
                    rw [List.take_length, HPl.out] at HO2
                    have hpe : plA (n'.attrs.take n'.attrs.length) = X := by rw [List.take_length, HPl.out]
                    rw [hpe]
                    have HAa := hid (Sh.AtAt.ofOwn (own_ext HO.out HBj.out))
                    have HAb := hid (Sh.AtAt.ofOwn HO2.out)
                    have HBe := hid (below_trans HBk.out (below_trans HBi.out HBj.out (Nat.le_refl _)) (Nat.le_refl _))
                    have HX8 : Hid (X.length ≤ 8) := by show X.length ≤ 8; omega
                    clear hpe hx8 HO HO2 HA2
                    have MS : ∀ {w' : World}, Below wj.heap.size wj w' → w'.cell? ⟨lb, lo + k * 6, none⟩ = some (.string (bsL n.name)) ∧ w'.cell? ⟨lb, lo + k * 6 + 1, none⟩ = some (.int .i64 n.parent) ∧ w'.cell? ⟨mb, mo + k * 6, none⟩ = some (.string (bsL n.name)) ∧ w'.cell? ⟨mb, mo + k * 6 + 1, none⟩ = some (.int .i64 n.parent) := fun hb => by
                      have hx := fun a b c h => Ext.below hb a b c (Ext.below HBj.out a b c (Ext.below HBi.out a b c h))
                      exact ⟨hx _ _ _ HC.out.1, hx _ _ _ HC.out.2.1, hx _ _ _ HC.out.2.2.1, hx _ _ _ HC.out.2.2.2.1⟩
                    have hS0 := MS (Below.refl _ _)
                    go_upto_region 33 with fail
                    generalize bsL n.name = nn at *
                    generalize n.parent = pa at *
                    go_region_held3 (fun w' => w'.cell? ⟨lb, lo + k * 6, none⟩ = some (.string nn) ∧ w'.cell? ⟨lb, lo + k * 6 + 1, none⟩ = some (.int .i64 pa) ∧ w'.cell? ⟨mb, mo + k * 6, none⟩ = some (.string nn) ∧ w'.cell? ⟨mb, mo + k * 6 + 1, none⟩ = some (.int .i64 pa)) (first | assumption | exact hS0 | (with_reducible refine MS ?_; repeat' (with_reducible first | refine below_al ?_ | refine below_dr ?_ | exact HBd6.out | exact Below.refl _ _))) (first
                      | (go_at_call 20; refine have_of (?_ : Below wj.heap.size wj _) (fun hb0 => (Sh.same_any [ndB X] _ _ _ (by show 1 ≤ 120; decide) (fun x hx => by rw [List.mem_singleton.1 hx]; exact HX8.out) (reads_one (A := X) (av := .slice xa X.length xc) ?_ (at_below HAa.out hb0)) (reads_one (A := X) (av := .slice ya X.length yc) ?_ (at_below HAb.out hb0))).mono ?_); (· repeat' (with_reducible first | refine below_al ?_ | refine below_dr ?_ | exact Below.refl _ _)); (· repeat' (with_reducible first | exact hN_new rfl | (refine hN_new ?_; simp; done) | refine hN_al ?_ | refine hN_dr ?_)); (· repeat' (with_reducible first | exact hN_new rfl | (refine hN_new ?_; simp; done) | refine hN_al ?_ | refine hN_dr ?_)); rintro e w9 ⟨rfl, n9, hw9⟩; have HBd6 : Hid (Below wj.heap.size wj w9) := hw9 ▸ below_dN hb0 n9; clear hw9))
                    all_goals
                      go_wp2_with fail
                      go_roundg (L.length - (k + 1))
                      case measure => have := GK2.out; have := HJ.out; omega
                      case rel => exact ⟨k + 1, rfl, by have := HJ.out; omega, by go_num, by rw [HNx.out, ← HSb.out], below_trans HBe.out HBd6.out (Nat.le_refl _)⟩
          · have hke : k = L.length := by omega
            subst hke
            rw [List.take_length]
            have HBe := hid (below_trans HB8.out HBk.out (Nat.le_refl _))
            cases hq : (md && L.all fun n => noSty n.attrs)
            · go_wp2_with fail
              go_ret
              exact ⟨rfl, HBe.out⟩
            · obtain ⟨q1, q2⟩ := Bool.and_eq_true_iff.1 hq
              have hbt := HSt.out q1 q2
              clear hq q1 q2 HSt
              subst hbt
              go_wp2_with fail
              go_ret
              exact ⟨rfl, HBe.out⟩
end Go.Proofs.YtblkldfokeeaeacGreatDoor
