/-
  What wrongRule, ownStyle, wrongDecls and wrongOwn of package fold answer: the plain answers. Conditions: the sizes that a page that was read has; the tables hold what their texts say.
  Where the elements of a page stand, by the plain answer of the Spec text: each name and attribute stands where it says, a parent ahead of its elements, a fault within the page. No condition.
-/
import Derived.Test.YtblkldfokeeaeacGreatDoorG23
import Derived.Test.YtblkldfokeeaeacGreatDoorG09
import Derived.Test.YtblkldfokeeaeacGreatDoorG24
import Derived.Test.YtblkldfokeeaeacGreatDoorG16
namespace Go.Proofs.YtblkldfokeeaeacGreatDoor
open Go.RowKit

/-! ### sizes -/
theorem bsL_size (l : Bs) : (bsL l).size = l.length := by
  rw [Lib.size_eq]; rfl
theorem sm_decls {l : List Sh.Dcl} (hl : l.length ≤ 20) (h : ∀ d ∈ l, d.name.length ≤ 20 ∧ d.val.length ≤ 60) : SmDs (l.map Sh.ofL) := by
  refine ⟨by rw [List.length_map]; unfold lim; omega, fun x hx => ?_⟩
  obtain ⟨d, hd, rfl⟩ := List.mem_map.1 hx
  obtain ⟨h1, h2⟩ := h d hd
  constructor
  · show (bsL d.name).size ≤ lim
    rw [bsL_size]; unfold lim; omega
  · show (bsL d.val).size ≤ lim
    rw [bsL_size]; unfold lim; omega
theorem flat_le {α β : Type} {f : α → List β} {m : Nat} : ∀ {l : List α}, (∀ x ∈ l, (f x).length ≤ m) → (l.flatMap f).length ≤ l.length * m
  | [], _ => by simp
  | a :: l, h => by
    have h1 := h a (List.mem_cons_self ..)
    have h2 := flat_le (l := l) (f := f) (m := m) fun x hx => h x (List.mem_cons_of_mem _ hx)
    rw [List.flatMap_cons, List.length_append, List.length_cons, Nat.add_mul]
    omega
theorem sm_rule {r : Sh.Rl} (h : RlBd r) : SmR (ofR r) := by
  refine ⟨⟨by show (r.sels.map _).length ≤ lim; rw [List.length_map]; have := h.sels; unfold lim; omega, fun s hs => ?_⟩, sm_decls h.decls h.texts⟩
  obtain ⟨q, hq, rfl⟩ := List.mem_map.1 hs
  obtain ⟨h1, h2⟩ := h.parts q hq
  refine ⟨by rw [List.length_map]; unfold lim; omega, ?_⟩
  have h3 := flat_le (l := q.map ofP) (f := (·.tests)) (m := 100) fun p hp => by
    obtain ⟨t, ht, rfl⟩ := List.mem_map.1 hp
    show (t.tests.map ofT).length ≤ 100
    rw [List.length_map]; exact h2 t ht
  rw [List.length_map] at h3
  unfold lim
  omega
theorem sm_rules {R : List Sh.Rl} (hl : R.length ≤ 7200) (h : ∀ r ∈ R, RlBd r) : SmRs (R.map ofR) := by
  refine ⟨by rw [List.length_map]; omega, ?_, fun r hr => ?_⟩
  · have h3 := flat_le (l := R.map ofR) (f := (·.decls)) (m := 20) fun p hp => by
      obtain ⟨t, ht, rfl⟩ := List.mem_map.1 hp
      show (t.decls.map Sh.ofL).length ≤ 20
      rw [List.length_map]; exact (h t ht).decls
    rw [List.length_map] at h3
    omega
  · obtain ⟨q, hq, rfl⟩ := List.mem_map.1 hr
    exact sm_rule (h q hq)
theorem sm_nodes {L : List Sh.Nd} (hl : L.length ≤ 120) (h : ∀ n ∈ L, NdBd 6000 n) : SmNs (L.map ofN) := by
  refine ⟨by rw [List.length_map]; unfold lim; omega, fun x hx => ?_⟩
  obtain ⟨n, hn, rfl⟩ := List.mem_map.1 hx
  have hb := h n hn
  refine ⟨by show (n.attrs.map ofA).length ≤ lim; rw [List.length_map]; have := hb.few; unfold lim; omega, fun a ha => ?_⟩
  obtain ⟨b, hb', rfl⟩ := List.mem_map.1 ha
  show (bsL b.val).size ≤ lim
  rw [bsL_size]
  have := (hb.at_ b hb').2.1
  unfold lim; omega

/-! ### a fault in a block -/
def faultV (x : Nat × Nat) : Value := .agg #[.int .i64 x.1, .int .i64 x.2]
def FaB (w : World) (q : Nat) (e a : Int) : Prop := w.heap[q]? = some (.cells #[.int .i64 e, .int .i64 a] 25 (0, 0))
theorem FaB.cell0 {w : World} {q : Nat} {e a : Int} (h : FaB w q e a) : w.cell? ⟨q, 0, none⟩ = some (.int .i64 e) := Sh.cell_of h 0
theorem FaB.cell1 {w : World} {q : Nat} {e a : Int} (h : FaB w q e a) : w.cell? ⟨q, 1, none⟩ = some (.int .i64 a) := Sh.cell_of h 1
theorem FaB.fz {w : World} {q : Nat} {e a : Int} (h : FaB w q e a) (o : Nat) : w.frozen? ⟨q, o, none⟩ = false := Sh.fz_of h o
theorem FaB.lt {w : World} {q : Nat} {e a : Int} (h : FaB w q e a) : q < w.heap.size := (Array.getElem?_eq_some_iff.1 h).1
theorem FaB.below {w w' : World} {q : Nat} {e a : Int} (h : FaB w q e a) (hb : Below w.heap.size w w') : FaB w' q e a := (hb.block q h.lt).trans h
theorem FaB.alloc {w : World} {q : Nat} {e a : Int} (h : FaB w q e a) (o : Obj) : FaB (w.alloc o) q e a := h.below ((Below.refl _ _).alloc (Nat.le_refl _) _)
theorem FaB.new (w : World) (e a : Int) : FaB (w.alloc (.cells #[.int .i64 e, .int .i64 a] 25)) w.heap.size e a := heap_alloc_new w _
theorem FaB.set {w : World} {q : Nat} {e a : Int} (h : FaB w q e a) (x y : Int) : FaB ((w.setCell ⟨q, 0, none⟩ (.int .i64 x)).setCell ⟨q, 1, none⟩ (.int .i64 y)) q x y := by
  have h1 := Sh.heap_set h 0 (.int .i64 x)
  have h2 := Sh.heap_set h1 1 (.int .i64 y)
  show _ = _
  simpa using h2

/-! ### wrongRule -/
def wrongX (o : Option Nat) : Nat × Nat := match o with
  | none => (0, 0)
  | some k => (5, k)
set_option maxRecDepth 100000 in
set_option maxHeartbeats 4000000 in
theorem wrongRule_any (R : List Sh.Rl) (rv : Value) (w : World) (hR : RusAt w rv (R.map ofR)) (hl : R.length ≤ 7200) (hb : ∀ r ∈ R, RlBd r) (hT : Tab w) :
    Calls Tryz.prog 34 #[rv] w fun e w' => e = .returned (faultV (wrongX (wrongR R))) ∧ Below w.heap.size w w' := by
  obtain ⟨ra, rc, rfl⟩ := Sl.form hR
  have HR := hid hR
  have HB := hid hb
  have HT := hid hT
  have HL : Hid ((R.map ofR).length = R.length) := List.length_map ..
  clear hR hb hT
  rw [HL.out]
  go_enter Tryz.func34, Tryz.ntmps34
  go_wp2_with fail
  go_loopg [9] R.length (fun n i wr => ∃ j : Nat, n = R.length - j ∧ j ≤ R.length ∧ i = .int .i64 (j : Int) ∧ wrongR R = wrongR (R.drop j) ∧ FaB wr w.heap.size 0 0 ∧ Below w.heap.size w wr)
  case atStart => exact ⟨0, rfl, Nat.zero_le _, rfl, rfl, FaB.new _ _ _, (Below.refl _ _).alloc (Nat.le_refl _) _⟩
  case round =>
    obtain ⟨j, hn, hj, rfl, hw, hf, hB⟩ := hrel
    rename World => wo
    have GK := hid hn
    have HW := hid hw
    have HF := hid hf
    have HBw := hid hB
    clear hn hw hf hB
    by_cases hlt : j < R.length
    · obtain ⟨b, off, rfl, he⟩ := Sl.at (HR.out.ext (Ext.below HBw.out)) (i := j) (by rw [HL.out]; exact hlt)
      rw [List.getElem_map] at he
      obtain ⟨sa, sn, sc, da, dn, dc, c0, c1, c2, c3, c4, hS, hD⟩ := eR.cells he
      have HSm := hid (sm_rule (HB.out R[j] (List.getElem_mem hlt))).decls
      have HN : Hid (wrongR R = if (allB (R[j].decls.map Sh.ofL)).isNone then some R[j].from_ else wrongR (R.drop (j + 1))) := by
        show wrongR R = _
        rw [HW.out, List.drop_eq_getElem_cons hlt]; rfl
      have HJ := hid hlt
      have e1 := ext_alloc wo (.cells #[.string (ofR R[j]).media, .slice sa sn sc, .slice da dn dc, .int .i64 (ofR R[j]).rf, .int .i64 (ofR R[j]).rt] 38)
      have AA := hid (all_any (.slice da dn dc) (ofR R[j]).decls _ (hD.ext e1) HSm.out ((HT.out.ext (Ext.below HBw.out)).ext e1))
      have HB1 : Hid (Below w.heap.size w (wo.alloc (.cells #[.string (ofR R[j]).media, .slice sa sn sc, .slice da dn dc, .int .i64 (ofR R[j]).rf, .int .i64 (ofR R[j]).rt] 38))) := HBw.out.alloc HBw.out.size _
      have HF1 := hid (HF.out.alloc (.cells #[.string (ofR R[j]).media, .slice sa sn sc, .slice da dn dc, .int .i64 (ofR R[j]).rf, .int .i64 (ofR R[j]).rt] 38))
      have K3 := hid (cell_new wo #[.string (ofR R[j]).media, .slice sa sn sc, .slice da dn dc, .int .i64 (ofR R[j]).rf, .int .i64 (ofR R[j]).rt] 38 3)
      clear he hS hD HSm e1
      have EA : Hid ((ofR R[j]).decls = R[j].decls.map Sh.ofL) := rfl
      have EF : Hid ((ofR R[j]).rf = (R[j].from_ : Int)) := rfl
      rw [EA.out] at AA
      generalize R[j].decls.map Sh.ofL = ds at *
      generalize R[j].from_ = fr at *
      generalize (ofR R[j]).media = md at *
      generalize (ofR R[j]).rt = rt at *
      generalize (ofR R[j]).rf = rf at *
      obtain rfl := EF.out
      clear EF
      cases ha : allB ds with
      | none =>
        have HN2 : Hid (wrongR R = some fr) := by have := HN.out; rw [ha] at this; exact this
        rw [ha] at AA
        simp only [Ans, badV] at AA
        clear HN ha EA
        go_wp2_with (go_at_call 62; refine AA.out.mono ?_; rintro e w2 ⟨rfl, hb2⟩; have F2 := hid (HF1.out.below hb2); have B2 := hid (below_trans HB1.out hb2 (Nat.le_refl _)); have k3 := Ext.below hb2 _ _ _ K3.out; have z0 := F2.out.fz 0; have z1 := F2.out.fz 1; have y0 := F2.out.cell0; have y1 := F2.out.cell1; clear hb2)
        have FS := F2.out.set 5 fr
        have q0 := FS.cell0
        have q1 := FS.cell1
        refine bodyPost_ret (v := faultV (5, fr)) (by simp [results, Tryz.results34, go_sem, q0, q1, faultV]) rfl ⟨by rw [HN2.out]; rfl, (B2.out.setCell (Nat.le_refl _) _).setCell (Nat.le_refl _) _⟩
      | some A =>
        have HN2 : Hid (wrongR R = wrongR (R.drop (j + 1))) := by have := HN.out; rw [ha] at this; exact this
        rw [ha] at AA
        simp only [Ans] at AA
        clear HN ha EA
        go_wp2_with (go_at_call 62; refine AA.out.mono ?_; rintro e w2 ⟨⟨aa, ac, rfl, _⟩, hb2⟩; have F2 := hid (HF1.out.below hb2); have B2 := hid (below_trans HB1.out hb2 (Nat.le_refl _)); clear hb2)
        go_roundg (R.length - (j + 1))
        case measure => have := GK.out; have := HJ.out; omega
        case rel => exact ⟨j + 1, rfl, by have := HJ.out; omega, by go_num, HN2.out, F2.out, B2.out⟩
    · have HN2 : Hid (wrongR R = none) := by
        show wrongR R = none
        rw [HW.out, List.drop_eq_nil_of_le (by omega)]; rfl
      have z0 := HF.out.fz 0
      have z1 := HF.out.fz 1
      have y0 := HF.out.cell0
      have y1 := HF.out.cell1
      go_wp2_with fail
      have FS := HF.out.set 0 0
      have q0 := FS.cell0
      have q1 := FS.cell1
      refine bodyPost_ret (v := faultV (0, 0)) (by simp [results, Tryz.results34, go_sem, q0, q1, faultV]) rfl ⟨by rw [HN2.out]; rfl, (HBw.out.setCell (Nat.le_refl _) _).setCell (Nat.le_refl _) _⟩

/-! ### ownStyle -/
def atrV : Option Sh.Atr → Value
  | none => .agg #[.string ⟨#[]⟩, .string ⟨#[]⟩, .int .i64 0, .int .i64 0]
  | some a => .agg #[.string (bsL a.name), .string (bsL a.val), .int .i64 a.from_, .int .i64 a.to_]
def AtB (w : World) (q : Nat) (n v : ByteArray) (f t : Int) : Prop := w.heap[q]? = some (.cells #[.string n, .string v, .int .i64 f, .int .i64 t] 51 (0, 0))
theorem AtB.cells {w : World} {q : Nat} {n v : ByteArray} {f t : Int} (h : AtB w q n v f t) : w.cell? ⟨q, 0, none⟩ = some (.string n) ∧ w.cell? ⟨q, 1, none⟩ = some (.string v) ∧ w.cell? ⟨q, 2, none⟩ = some (.int .i64 f) ∧ w.cell? ⟨q, 3, none⟩ = some (.int .i64 t) := ⟨Sh.cell_of h 0, Sh.cell_of h 1, Sh.cell_of h 2, Sh.cell_of h 3⟩
theorem AtB.fz {w : World} {q : Nat} {n v : ByteArray} {f t : Int} (h : AtB w q n v f t) (o : Nat) : w.frozen? ⟨q, o, none⟩ = false := Sh.fz_of h o
theorem AtB.lt {w : World} {q : Nat} {n v : ByteArray} {f t : Int} (h : AtB w q n v f t) : q < w.heap.size := (Array.getElem?_eq_some_iff.1 h).1
theorem AtB.alloc {w : World} {q : Nat} {n v : ByteArray} {f t : Int} (h : AtB w q n v f t) (o : Obj) : AtB (w.alloc o) q n v f t := (Below.heap_alloc _ _ _ h.lt).trans h
theorem AtB.set {w : World} {q : Nat} {n v : ByteArray} {f t : Int} (h : AtB w q n v f t) (n' v' : ByteArray) (f' t' : Int) : AtB ((((w.setCell ⟨q, 0, none⟩ (.string n')).setCell ⟨q, 1, none⟩ (.string v')).setCell ⟨q, 2, none⟩ (.int .i64 f')).setCell ⟨q, 3, none⟩ (.int .i64 t')) q n' v' f' t' := by
  have h1 := Sh.heap_set h 0 (.string n')
  have h2 := Sh.heap_set h1 1 (.string v')
  have h3 := Sh.heap_set h2 2 (.int .i64 f')
  have h4 := Sh.heap_set h3 3 (.int .i64 t')
  show _ = _
  simpa using h4
theorem sty_bytes (l : Bs) : ((bsL l).toList == [115, 116, 121, 108, 101]) = (l == Sh.styleL) := by rw [bsL_toList]; rfl
set_option maxRecDepth 100000 in
set_option maxHeartbeats 4000000 in
theorem ownStyle_any (n : Sh.Nd) (av : Value) (w : World) (hA : AtsAt w av (n.attrs.map ofA)) (hl : n.attrs.length ≤ 8) :
    Calls Tryz.prog 63 #[nodeV (ofN n) av] w fun e w' => e = .returned (.tuple #[atrV (ownA n), .bool (ownA n).isSome]) ∧ Below w.heap.size w w' := by
  obtain ⟨a, cap, rfl⟩ := Sl.form hA
  have HL := hid hA
  have HLn : Hid ((n.attrs.map ofA).length = n.attrs.length) := List.length_map ..
  clear hA
  rw [HLn.out]
  have HO : Hid (ownA n = n.attrs.find? fun a => a.name == Sh.styleL) := rfl
  simp only [nodeV, ofN]
  generalize n.attrs = l at *
  generalize ownA n = o at *
  generalize bsL n.name = nn at *
  have b1 := (Below.refl w.heap.size w).alloc (Nat.le_refl _) (.cells #[.string nn, .int .i64 n.parent, .slice a l.length cap, .int .i64 n.nameEnd, .int .i64 n.inFrom, .int .i64 n.inTo] 49)
  have HB0 : Hid (Below w.heap.size w ((w.alloc (.cells #[.string nn, .int .i64 n.parent, .slice a l.length cap, .int .i64 n.nameEnd, .int .i64 n.inFrom, .int .i64 n.inTo] 49)).alloc (.cells #[.string ⟨#[]⟩, .string ⟨#[]⟩, .int .i64 0, .int .i64 0] 51))) := b1.alloc b1.size _
  have hz : (w.alloc (.cells #[.string nn, .int .i64 n.parent, .slice a l.length cap, .int .i64 n.nameEnd, .int .i64 n.inFrom, .int .i64 n.inTo] 49)).heap.size = w.heap.size + 1 := by simp
  have HA0 : Hid (AtB ((w.alloc (.cells #[.string nn, .int .i64 n.parent, .slice a l.length cap, .int .i64 n.nameEnd, .int .i64 n.inFrom, .int .i64 n.inTo] 49)).alloc (.cells #[.string ⟨#[]⟩, .string ⟨#[]⟩, .int .i64 0, .int .i64 0] 51)) (w.heap.size + 1) ⟨#[]⟩ ⟨#[]⟩ 0 0) := by
    show AtB _ _ _ _ _ _
    rw [← hz]
    exact heap_alloc_new _ _
  clear b1 hz
  go_enter Tryz.func63, Tryz.ntmps63
  go_wp2_with fail
  go_loopg [9] l.length (fun n i wr => ∃ j : Nat, n = l.length - j ∧ j ≤ l.length ∧ i = .int .i64 (j : Int) ∧ o = (l.drop j).find? (fun a => a.name == Sh.styleL) ∧ AtB wr (w.heap.size + 1) ⟨#[]⟩ ⟨#[]⟩ 0 0 ∧ Below w.heap.size w wr)
  case atStart => exact ⟨0, rfl, Nat.zero_le _, rfl, HO.out, HA0.out, HB0.out⟩
  case round =>
    obtain ⟨j, hn, hj, rfl, hw, hf, hB⟩ := hrel
    rename World => wo
    have GK := hid hn
    have HW := hid hw
    have HF := hid hf
    have HBw := hid hB
    clear hn hw hf hB HB0 HA0
    by_cases hlt : j < l.length
    · obtain ⟨b, off, rfl, he⟩ := Sl.at (HL.out.ext (Ext.below HBw.out)) (i := j) (by rw [HLn.out]; exact hlt)
      rw [List.getElem_map] at he
      obtain ⟨c0, c1, c2, c3⟩ := he.cells
      have HN : Hid (o = if l[j].name == Sh.styleL then some l[j] else (l.drop (j + 1)).find? (fun a => a.name == Sh.styleL)) := by
        show o = _
        rw [HW.out, List.drop_eq_getElem_cons hlt, List.find?_cons]
        cases l[j].name == Sh.styleL <;> rfl
      have HJ := hid hlt
      have HSt := hid (sty_bytes l[j].name)
      clear he
      generalize l[j] = x at *
      obtain ⟨xn, xv, xf, xt⟩ := x
      simp only [ofA] at c0 c1 c2 c3 HN HSt
      have HB1 : Hid (Below w.heap.size w (wo.alloc (.cells #[.string (bsL xn), .string (bsL xv), .int .i64 xf, .int .i64 xt] 51))) := HBw.out.alloc HBw.out.size _
      have HF1 := hid (HF.out.alloc (.cells #[.string (bsL xn), .string (bsL xv), .int .i64 xf, .int .i64 xt] 51))
      cases hq : (xn == Sh.styleL)
      · have HN2 : Hid (o = (l.drop (j + 1)).find? (fun a => a.name == Sh.styleL)) := by have := HN.out; rw [hq] at this; exact this
        have hqq : ((bsL xn).toList == [115, 116, 121, 108, 101]) = false := by rw [HSt.out]; exact hq
        clear HN HSt hq
        go_wp2_with fail
        go_roundg (l.length - (j + 1))
        case measure => have := GK.out; have := HJ.out; omega
        case rel => exact ⟨j + 1, rfl, by have := HJ.out; omega, by go_num, HN2.out, HF1.out, HB1.out⟩
      · have HN2 : Hid (o = some ⟨xn, xv, xf, xt⟩) := by have := HN.out; rw [hq] at this; exact this
        have hqq : ((bsL xn).toList == [115, 116, 121, 108, 101]) = true := by rw [HSt.out]; exact hq
        clear HN HSt hq
        obtain ⟨y0, y1, y2, y3⟩ := HF.out.cells
        have z0 := HF.out.fz 0
        have z1 := HF.out.fz 1
        have z2 := HF.out.fz 2
        have z3 := HF.out.fz 3
        have hne : w.heap.size + 1 < wo.heap.size := HF.out.lt
        go_wp2_with fail
        have FS := (HF.out.set (bsL xn) (bsL xv) xf xt).alloc (.cells #[.string (bsL xn), .string (bsL xv), .int .i64 xf, .int .i64 xt] 51)
        obtain ⟨q0, q1, q2, q3⟩ := FS.cells
        have b4 : Below w.heap.size w ((((wo.setCell ⟨w.heap.size + 1, 0, none⟩ (.string (bsL xn))).setCell ⟨w.heap.size + 1, 1, none⟩ (.string (bsL xv))).setCell ⟨w.heap.size + 1, 2, none⟩ (.int .i64 xf)).setCell ⟨w.heap.size + 1, 3, none⟩ (.int .i64 xt)) := (((HBw.out.setCell (by simp) _).setCell (by simp) _).setCell (by simp) _).setCell (by simp) _
        refine bodyPost_ret (v := .tuple #[atrV (some ⟨xn, xv, xf, xt⟩), .bool true]) (by simp [results, Tryz.results63, go_sem, q0, q1, q2, q3, atrV]) rfl ⟨by rw [HN2.out]; rfl, b4.alloc b4.size _⟩
    · have HN2 : Hid (o = none) := by
        show o = none
        rw [HW.out, List.drop_eq_nil_of_le (by omega)]; rfl
      obtain ⟨y0, y1, y2, y3⟩ := HF.out.cells
      have z0 := HF.out.fz 0
      have z1 := HF.out.fz 1
      have z2 := HF.out.fz 2
      have z3 := HF.out.fz 3
      go_wp2_with fail
      have FS := HF.out.set ⟨#[]⟩ ⟨#[]⟩ 0 0
      obtain ⟨q0, q1, q2, q3⟩ := FS.cells
      refine bodyPost_ret (v := .tuple #[atrV none, .bool false]) (by simp [results, Tryz.results63, go_sem, q0, q1, q2, q3, atrV]) rfl ⟨by rw [HN2.out]; rfl, (((HBw.out.setCell (by simp) _).setCell (by simp) _).setCell (by simp) _).setCell (by simp) _⟩
end Go.Proofs.YtblkldfokeeaeacGreatDoor

namespace Go.Proofs.YtblkldfokeeaeacGreatDoor.Sh.Pl

def AtrOk (S : List UInt8) (ne : Nat) (a : Atr) : Prop := ne ≤ a.from_ ∧ a.from_ ≤ a.to_ ∧ a.to_ ≤ S.length ∧ sub S a.from_ a.to_ = [32] ++ a.name ++ [61, 34] ++ a.val ++ [34]
def NdOk (S : List UInt8) (i : Nat) (n : Nd) : Prop :=
  -1 ≤ n.parent ∧ n.parent < i ∧ n.nameEnd ≤ S.length ∧ n.name.length + 1 ≤ n.nameEnd ∧ sub S (n.nameEnd - n.name.length - 1) n.nameEnd = [60] ++ n.name ∧ (∀ a ∈ n.attrs, AtrOk S n.nameEnd a) ∧ n.inFrom ≤ n.inTo ∧ n.inTo ≤ S.length ∧ n.attrs.length ≤ 8
def Good (S : List UInt8) (L : List Nd) : Prop := ∀ (i : Nat) (h : i < L.length), NdOk S i L[i]

theorem has_sub {S : List UInt8} {k : Nat} {t : List UInt8} (h : has S k t = true) : sub S k (k + t.length) = t := by
  unfold has at h
  have := List.prefix_iff_eq_take.1 (List.isPrefixOf_iff_prefix.1 h)
  unfold sub
  rw [show k + t.length - k = t.length by omega]
  exact this.symm
theorem sub_split (S : List UInt8) {a b c : Nat} (h1 : a ≤ b) (h2 : b ≤ c) : sub S a c = sub S a b ++ sub S b c := by
  unfold sub
  have e : S.drop b = (S.drop a).drop (b - a) := by rw [List.drop_drop]; congr 1; omega
  rw [e, show c - a = (b - a) + (c - b) by omega, List.take_add]
theorem sub_len (S : List UInt8) {a b : Nat} (h1 : a ≤ b) (h2 : b ≤ S.length) : (sub S a b).length = b - a := by
  unfold sub
  rw [List.length_take, List.length_drop]
  omega
theorem nameTo_err {S : List UInt8} {k : Nat} {x : Nat × Nat} (h : nameTo S k = .error x) : (2, k) = x := by
  unfold nameTo at h
  split at h
  · cases h
  · injection h
theorem need_at {S : List UInt8} {k : Nat} {x : Nat × Nat} {t : List UInt8} (h : need S k t = .error x) (hk : k ≤ S.length) : x.2 ≤ S.length := by
  obtain ⟨_, rfl⟩ := need_err h
  exact hk

theorem attrName_ok {S : List UInt8} {k m : Nat} {l : List Atr} {nm : List UInt8} (h : attrName S k l = .ok (nm, m)) : nameTo S k = .ok m ∧ nm = sub S k m ∧ l.length < 8 := by
  unfold attrName at h
  split at h
  · cases h
  · rename_i e hn
    split at h
    · cases h
    split at h
    · cases h
    split at h
    · cases h
    injection h with h
    injection h with h1 h2
    subst h2
    exact ⟨hn, h1.symm, by omega⟩
theorem attrName_at {S : List UInt8} {k : Nat} {l : List Atr} {x : Nat × Nat} (h : attrName S k l = .error x) (hk : k ≤ S.length) : x.2 ≤ S.length := by
  unfold attrName at h
  split at h
  · rename_i hn
    injection h with h
    subst h
    have := nameTo_err hn
    rw [← this]; exact hk
  · split at h
    · injection h with h; rw [← h]; exact hk
    split at h
    · injection h with h; rw [← h]; exact hk
    split at h
    · injection h with h; rw [← h]; exact hk
    cases h

theorem attr_good {S : List UInt8} {k m : Nat} {l : List Atr} {a : Atr} (h : attr S k l = .ok (a, m)) (hk : k ≤ S.length) : k < m ∧ m ≤ S.length ∧ l.length < 8 ∧ AtrOk S k a := by
  unfold attr at h
  split at h
  · cases h
  rename_i k1 e1
  split at h
  · cases h
  rename_i nm k2 e2
  split at h
  · cases h
  rename_i k3 e3
  split at h
  · cases h
  rename_i k5 e5
  injection h with h
  injection h with ha hm
  subst hm
  subst ha
  obtain ⟨t1, rfl⟩ := need_ok e1
  obtain ⟨t3, rfl⟩ := need_ok e3
  obtain ⟨t5, rfl⟩ := need_ok e5
  obtain ⟨hn, rfl, h8⟩ := attrName_ok e2
  have l1 := has_le t1 hk
  have l2 := nameTo_le hn
  have l3 := has_le t3 l2.2
  have l4 := whileEnd_le valueB l3
  have l5 := has_le t5 l4.2
  have s1 := has_sub t1
  have s3 := has_sub t3
  have s5 := has_sub t5
  simp only [List.length_cons, List.length_nil, Nat.zero_add] at *
  refine ⟨by omega, l5, h8, Nat.le_refl _, by simp only; omega, l5, ?_⟩
  simp only
  rw [sub_split S (b := k + 1) (by omega) (by omega), sub_split S (a := k + 1) (b := k2) (by omega) (by omega), sub_split S (a := k2) (b := k2 + (1 + 1)) (by omega) (by omega), sub_split S (a := k2 + (1 + 1)) (b := whileEnd S (k2 + (1 + 1)) valueB) (by omega) (by omega), s1, s3, s5]
  simp
theorem attr_at {S : List UInt8} {k : Nat} {l : List Atr} {x : Nat × Nat} (h : attr S k l = .error x) (hk : k ≤ S.length) : x.2 ≤ S.length := by
  unfold attr at h
  split at h
  · rename_i e1
    injection h with h; subst h; exact need_at e1 hk
  rename_i k1 e1
  obtain ⟨t1, rfl⟩ := need_ok e1
  have l1 := has_le t1 hk
  split at h
  · rename_i e2
    injection h with h; subst h; exact attrName_at e2 l1
  rename_i nm k2 e2
  obtain ⟨hn, rfl, h8⟩ := attrName_ok e2
  have l2 := nameTo_le hn
  split at h
  · rename_i e3
    injection h with h; subst h; exact need_at e3 l2.2
  rename_i k3 e3
  obtain ⟨t3, rfl⟩ := need_ok e3
  have l3 := has_le t3 l2.2
  have l4 := whileEnd_le valueB l3
  split at h
  · rename_i e5
    injection h with h; subst h; exact need_at e5 l4.2
  cases h

theorem AtrOk.mono {S : List UInt8} {a b : Nat} {x : Atr} (h : AtrOk S b x) (hab : a ≤ b) : AtrOk S a x := ⟨Nat.le_trans hab h.1, h.2⟩

theorem attrsTo_good {S : List UInt8} (ne : Nat) : ∀ (f k : Nat) (l : List Atr), ne ≤ k → k ≤ S.length → l.length ≤ 8 → (∀ a ∈ l, AtrOk S ne a) → f + l.length = 10 →
    match attrsTo f S k l with | .ok (l', m) => ne ≤ m ∧ m ≤ S.length ∧ l'.length ≤ 8 ∧ (∀ a ∈ l', AtrOk S ne a) | .error x => x.2 ≤ S.length
  | 0, k, l, _, _, h8, _, hf => by omega
  | f + 1, k, l, hne, hk, h8, hl, hf => by
    rw [attrsTo]
    by_cases hh : has S k [32] = true
    · rw [if_pos hh]
      cases ea : attr S k l with
      | error x => exact attr_at ea hk
      | ok p =>
        obtain ⟨a, k1⟩ := p
        obtain ⟨g1, g2, g3, g4⟩ := attr_good ea hk
        refine attrsTo_good ne f k1 (l ++ [a]) (by omega) g2 (by simp; omega) ?_ (by simp; omega)
        intro c hc
        rcases List.mem_append.1 hc with hc | hc
        · exact hl c hc
        · rw [List.mem_singleton.1 hc]; exact g4.mono hne
    · rw [if_neg hh]
      exact ⟨hne, hk, h8, hl⟩

theorem firstTag_good {S : List UInt8} {k : Nat} (hk : k ≤ S.length) :
    match firstTag S k with | .ok (n, m) => k < m ∧ m ≤ S.length ∧ n.inFrom = 0 ∧ n.inTo = 0 ∧ (∀ i (p : Int), -1 ≤ p → p < (i : Nat) → NdOk S i { n with parent := p }) | .error x => x.2 ≤ S.length := by
  unfold firstTag
  cases e1 : need S k [60] with
  | error x => exact need_at e1 hk
  | ok k1 =>
  obtain ⟨t1, h1⟩ := need_ok e1
  have l1 := has_le t1 hk
  have s1 := has_sub t1
  simp only [List.length_cons, List.length_nil, Nat.zero_add] at h1 l1 s1
  subst h1
  simp only
  cases e2 : nameTo S (k + 1) with
  | error x => rw [← nameTo_err e2]; exact l1
  | ok k2 =>
  have l2 := nameTo_le e2
  simp only
  by_cases h20 : 20 < (sub S (k + 1) k2).length
  · rw [if_pos h20]; exact l1
  rw [if_neg h20]
  have hg := attrsTo_good (S := S) k2 10 k2 [] (Nat.le_refl _) l2.2 (by simp) (by simp) rfl
  cases e3 : attrsTo 10 S k2 [] with
  | error x => rw [e3] at hg; exact hg
  | ok p =>
  obtain ⟨l, k3⟩ := p
  rw [e3] at hg
  obtain ⟨g1, g2, g3, g4⟩ := hg
  simp only
  cases e4 : need S k3 [62] with
  | error x => exact need_at e4 g2
  | ok k4 =>
  obtain ⟨t4, h4⟩ := need_ok e4
  have l4 := has_le t4 g2
  simp only [List.length_cons, List.length_nil, Nat.zero_add] at h4 l4
  subst h4
  have n1 := sub_len S (a := k + 1) (b := k2) (by omega) l2.2
  refine ⟨by omega, l4, rfl, rfl, fun i p hp1 hp2 => ⟨hp1, hp2, l2.2, by simp only; omega, ?_, g4, Nat.le_refl _, Nat.zero_le _, g3⟩⟩
  simp only
  rw [n1, show k2 - (k2 - (k + 1)) - 1 = k by omega, sub_split S (b := k + 1) (by omega) (by omega), s1]

theorem Good.push {S : List UInt8} {L : List Nd} {n : Nd} (h : Good S L) (hn : NdOk S L.length n) : Good S (L ++ [n]) := by
  intro i hi
  by_cases hlt : i < L.length
  · rw [List.getElem_append_left hlt]; exact h i hlt
  · have : i = L.length := by simp at hi; omega
    subst this
    simpa using hn

/-- What a reader of items keeps. -/
def Keeps (S : List UInt8) (L : List Nd) (r : Res (Nat × List Nd)) : Prop := match r with | .ok (k', L') => k' ≤ S.length ∧ L.length ≤ L'.length ∧ Good S L' | .error x => x.2 ≤ S.length

theorem element_good {S : List UInt8} (rec : Nat → Int → Nat → List Nd → Res (Nat × List Nd)) (hrec : ∀ (k : Nat) (parent : Int) (deep : Nat) (L : List Nd), k ≤ S.length → -1 ≤ parent → parent < (L.length : Nat) → Good S L → Keeps S L (rec k parent deep L))
    {k : Nat} {parent : Int} {deep : Nat} {L : List Nd} (hk : k ≤ S.length) (hp1 : -1 ≤ parent) (hp2 : parent < (L.length : Nat)) (hL : Good S L) : Keeps S L (element rec S k parent deep L) := by
  unfold element
  split
  · exact hk
  have hf := firstTag_good (S := S) hk
  cases e1 : firstTag S k with
  | error x => rw [e1] at hf; exact hf
  | ok p =>
  obtain ⟨n, k1⟩ := p
  rw [e1] at hf
  obtain ⟨f1, f2, f3, f4, f5⟩ := hf
  have ok1 := f5 L.length parent hp1 hp2
  simp only
  split
  · cases e2 : pastAt S k1 (lastTag styleL) with
    | none => exact Nat.le_refl _
    | some m =>
      have lm := pastAt_le e2 f2
      have h8 : (lastTag styleL).length = 8 := by decide
      rw [h8] at lm
      refine ⟨lm.2, by simp, hL.push ?_⟩
      obtain ⟨o1, o2, o3, o4, o5, o6, o7, o8, o9⟩ := ok1
      exact ⟨o1, o2, o3, o4, o5, o6, lm.1, by simp only; omega, o9⟩
  · have hr := hrec k1 L.length (deep + 1) (L ++ [{ n with parent := parent }]) f2 (by omega) (by simp; omega) (hL.push ok1)
    cases e2 : rec k1 L.length (deep + 1) (L ++ [{ n with parent := parent }]) with
    | error x => rw [e2] at hr; exact hr
    | ok q =>
      obtain ⟨k2, L2⟩ := q
      rw [e2] at hr
      obtain ⟨r1, r2, r3⟩ := hr
      simp only
      cases e3 : need S k2 (lastTag n.name) with
      | error x => exact need_at e3 r1
      | ok k3 =>
        obtain ⟨t3, rfl⟩ := need_ok e3
        refine ⟨has_le t3 r1, ?_, r3⟩
        simp at r2; omega

theorem items_good {S : List UInt8} : ∀ (f k : Nat) (parent : Int) (deep : Nat) (L : List Nd), k ≤ S.length → -1 ≤ parent → parent < (L.length : Nat) → Good S L → Keeps S L (items f S k parent deep L)
  | 0, k, parent, deep, L, _, _, _, _ => Nat.zero_le _
  | f + 1, k, parent, deep, L, hk, hp1, hp2, hL => by
    rw [items]
    by_cases h1 : S.length ≤ k ∨ has S k [60, 47] = true
    · rw [if_pos h1]; exact ⟨hk, Nat.le_refl _, hL⟩
    rw [if_neg h1]
    by_cases h2 : has S k [60, 33, 45, 45] = true
    · rw [if_pos h2]
      have l2 := has_le h2 hk
      cases e : pastAt S (k + 4) [45, 45, 62] with
      | none => exact Nat.le_refl _
      | some m => exact items_good f (m + 3) parent deep L (pastAt_le e l2).2 hp1 hp2 hL
    rw [if_neg h2]
    by_cases h3 : has S k [60] = true
    · rw [if_pos h3]
      have he := element_good (S := S) (items f S) (fun k parent deep L a b c d => items_good f k parent deep L a b c d) (deep := deep) hk hp1 hp2 hL
      cases e : element (items f S) S k parent deep L with
      | error x => rw [e] at he; exact he
      | ok q =>
        obtain ⟨k1, L1⟩ := q
        rw [e] at he
        obtain ⟨r1, r2, r3⟩ := he
        have hi := items_good f k1 parent deep L1 r1 hp1 (by omega) r3
        simp only
        cases e2 : items f S k1 parent deep L1 with
        | error x => rw [e2] at hi; exact hi
        | ok q =>
          obtain ⟨k2, L2⟩ := q
          rw [e2] at hi
          exact ⟨hi.1, Nat.le_trans r2 hi.2.1, hi.2.2⟩
    rw [if_neg h3]
    by_cases h4 : fitsAt S k textB = true
    · rw [if_pos h4]
      exact items_good f (k + 1) parent deep L (by omega) hp1 hp2 hL
    rw [if_neg h4]
    exact hk

theorem parse_good (S : List UInt8) : match parse S with | .ok L => Good S L | .error x => x.2 ≤ S.length := by
  unfold parse
  by_cases h : 6000 < S.length
  · rw [if_pos h]; exact Nat.zero_le _
  rw [if_neg h]
  unfold readAll
  have hi := items_good (S := S) 6001 0 (-1) 1 [] (Nat.zero_le _) (by omega) (by simp) (fun i hi => by simp at hi)
  cases e : items 6001 S 0 (-1) 1 [] with
  | error x => rw [e] at hi; exact hi
  | ok q =>
    obtain ⟨k, L⟩ := q
    rw [e] at hi
    simp only
    by_cases hk : k < S.length
    · rw [if_pos hk]; exact hi.1
    · rw [if_neg hk]; exact hi.2.2
end Go.Proofs.YtblkldfokeeaeacGreatDoor.Sh.Pl
