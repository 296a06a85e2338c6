/- Texts that the statement's proof stands on: F2, Places, Shift, Faults. -/
import Derived.Test.YtblkldfokeeaeacGreatDoorA23
import Derived.Test.YtblkldfokeeaeacGreatDoorA09
import Derived.Test.YtblkldfokeeaeacGreatDoorA24
import Derived.Test.YtblkldfokeeaeacGreatDoorA16
namespace Go.Proofs.YtblkldfokeeaeacGreatDoor
open Go.RowKit
theorem bsL_size (l : Bs) : (bsL l).size = l.length := by
  rw [Lib.size_eq]; rfl
theorem sm_decls {l : List Sh.Dcl} (hl : l.length ≤ 20) (h : ∀ d ∈ l, d.name.length ≤ 20 ∧ d.val.length ≤ 60) : SmDs (l.map Sh.ofL) := by
  refine ⟨by rw [List.length_map]; unfold lim; omega, fun x hx => ?_⟩
  obtain ⟨d, hd, rfl⟩ := List.mem_map.1 hx
  obtain ⟨h1, h2⟩ := h d hd
  constructor
  · show (bsL d.name).size ≤ lim
    rw [bsL_size]; unfold lim; omega
  · show (bsL d.val).size ≤ lim
    rw [bsL_size]; unfold lim; omega
theorem flat_le {α β : Type} {f : α → List β} {m : Nat} : ∀ {l : List α}, (∀ x ∈ l, (f x).length ≤ m) → (l.flatMap f).length ≤ l.length * m
  | [], _ => by simp
  | a :: l, h => by
    have h1 := h a (List.mem_cons_self ..)
    have h2 := flat_le (l := l) (f := f) (m := m) fun x hx => h x (List.mem_cons_of_mem _ hx)
    rw [List.flatMap_cons, List.length_append, List.length_cons, Nat.add_mul]
    omega
theorem sm_rule {r : Sh.Rl} (h : RlBd r) : SmR (ofR r) := by
  refine ⟨⟨by show (r.sels.map _).length ≤ lim; rw [List.length_map]; have := h.sels; unfold lim; omega, fun s hs => ?_⟩, sm_decls h.decls h.texts⟩
  obtain ⟨q, hq, rfl⟩ := List.mem_map.1 hs
  obtain ⟨h1, h2⟩ := h.parts q hq
  refine ⟨by rw [List.length_map]; unfold lim; omega, ?_⟩
  have h3 := flat_le (l := q.map ofP) (f := (·.tests)) (m := 100) fun p hp => by
    obtain ⟨t, ht, rfl⟩ := List.mem_map.1 hp
    show (t.tests.map ofT).length ≤ 100
    rw [List.length_map]; exact h2 t ht
  rw [List.length_map] at h3
  unfold lim
  omega
theorem sm_rules {R : List Sh.Rl} (hl : R.length ≤ 7200) (h : ∀ r ∈ R, RlBd r) : SmRs (R.map ofR) := by
  refine ⟨by rw [List.length_map]; omega, ?_, fun r hr => ?_⟩
  · have h3 := flat_le (l := R.map ofR) (f := (·.decls)) (m := 20) fun p hp => by
      obtain ⟨t, ht, rfl⟩ := List.mem_map.1 hp
      show (t.decls.map Sh.ofL).length ≤ 20
      rw [List.length_map]; exact (h t ht).decls
    rw [List.length_map] at h3
    omega
  · obtain ⟨q, hq, rfl⟩ := List.mem_map.1 hr
    exact sm_rule (h q hq)
theorem sm_nodes {L : List Sh.Nd} (hl : L.length ≤ 120) (h : ∀ n ∈ L, NdBd 6000 n) : SmNs (L.map ofN) := by
  refine ⟨by rw [List.length_map]; unfold lim; omega, fun x hx => ?_⟩
  obtain ⟨n, hn, rfl⟩ := List.mem_map.1 hx
  have hb := h n hn
  refine ⟨by show (n.attrs.map ofA).length ≤ lim; rw [List.length_map]; have := hb.few; unfold lim; omega, fun a ha => ?_⟩
  obtain ⟨b, hb', rfl⟩ := List.mem_map.1 ha
  show (bsL b.val).size ≤ lim
  rw [bsL_size]
  have := (hb.at_ b hb').2.1
  unfold lim; omega
def faultV (x : Nat × Nat) : Value := .agg #[.int .i64 x.1, .int .i64 x.2]
def FaB (w : World) (q : Nat) (e a : Int) : Prop := w.heap[q]? = some (.cells #[.int .i64 e, .int .i64 a] 25 (0, 0))
theorem FaB.cell0 {w : World} {q : Nat} {e a : Int} (h : FaB w q e a) : w.cell? ⟨q, 0, none⟩ = some (.int .i64 e) := Sh.cell_of h 0
theorem FaB.cell1 {w : World} {q : Nat} {e a : Int} (h : FaB w q e a) : w.cell? ⟨q, 1, none⟩ = some (.int .i64 a) := Sh.cell_of h 1
theorem FaB.fz {w : World} {q : Nat} {e a : Int} (h : FaB w q e a) (o : Nat) : w.frozen? ⟨q, o, none⟩ = false := Sh.fz_of h o
theorem FaB.lt {w : World} {q : Nat} {e a : Int} (h : FaB w q e a) : q < w.heap.size := (Array.getElem?_eq_some_iff.1 h).1
theorem FaB.below {w w' : World} {q : Nat} {e a : Int} (h : FaB w q e a) (hb : Below w.heap.size w w') : FaB w' q e a := (hb.block q h.lt).trans h
theorem FaB.alloc {w : World} {q : Nat} {e a : Int} (h : FaB w q e a) (o : Obj) : FaB (w.alloc o) q e a := h.below ((Below.refl _ _).alloc (Nat.le_refl _) _)
theorem FaB.new (w : World) (e a : Int) : FaB (w.alloc (.cells #[.int .i64 e, .int .i64 a] 25)) w.heap.size e a := heap_alloc_new w _
theorem FaB.set {w : World} {q : Nat} {e a : Int} (h : FaB w q e a) (x y : Int) : FaB ((w.setCell ⟨q, 0, none⟩ (.int .i64 x)).setCell ⟨q, 1, none⟩ (.int .i64 y)) q x y := by
  have h1 := Sh.heap_set h 0 (.int .i64 x)
  have h2 := Sh.heap_set h1 1 (.int .i64 y)
  show _ = _
  simpa using h2
def wrongX (o : Option Nat) : Nat × Nat := match o with
  | none => (0, 0)
  | some k => (5, k)
set_option maxRecDepth 100000 in
set_option maxHeartbeats 4000000 in
theorem wrongRule_any (R : List Sh.Rl) (rv : Value) (w : World) (hR : RusAt w rv (R.map ofR)) (hl : R.length ≤ 7200) (hb : ∀ r ∈ R, RlBd r) (hT : Tab w) :
    Calls Tryz.prog 34 #[rv] w fun e w' => e = .returned (faultV (wrongX (wrongR R))) ∧ Below w.heap.size w w' := by
  obtain ⟨ra, rc, rfl⟩ := Sl.form hR
  have HR := hid hR
  have HB := hid hb
  have HT := hid hT
  have HL : Hid ((R.map ofR).length = R.length) := List.length_map ..
  clear hR hb hT
  rw [HL.out]
  go_enter Tryz.func34, Tryz.ntmps34
  go_wp2_with fail
  go_loopg [9] R.length (fun n i wr => ∃ j : Nat, n = R.length - j ∧ j ≤ R.length ∧ i = .int .i64 (j : Int) ∧ wrongR R = wrongR (R.drop j) ∧ FaB wr w.heap.size 0 0 ∧ Below w.heap.size w wr)
  case atStart => exact ⟨0, rfl, Nat.zero_le _, rfl, rfl, FaB.new _ _ _, (Below.refl _ _).alloc (Nat.le_refl _) _⟩
  case round =>
    obtain ⟨j, hn, hj, rfl, hw, hf, hB⟩ := hrel
    rename World => wo
    have GK := hid hn
    have HW := hid hw
    have HF := hid hf
    have HBw := hid hB
    clear hn hw hf hB
    by_cases hlt : j < R.length
    · obtain ⟨b, off, rfl, he⟩ := Sl.at (HR.out.ext (Ext.below HBw.out)) (i := j) (by rw [HL.out]; exact hlt)
      rw [List.getElem_map] at he
      obtain ⟨sa, sn, sc, da, dn, dc, c0, c1, c2, c3, c4, hS, hD⟩ := eR.cells he
      have HSm := hid (sm_rule (HB.out R[j] (List.getElem_mem hlt))).decls
      have HN : Hid (wrongR R = if (allB (R[j].decls.map Sh.ofL)).isNone then some R[j].from_ else wrongR (R.drop (j + 1))) := by
        show wrongR R = _
        rw [HW.out, List.drop_eq_getElem_cons hlt]; rfl
      have HJ := hid hlt
      have e1 := ext_alloc wo (.cells #[.string (ofR R[j]).media, .slice sa sn sc, .slice da dn dc, .int .i64 (ofR R[j]).rf, .int .i64 (ofR R[j]).rt] 38)
      have AA := hid (all_any (.slice da dn dc) (ofR R[j]).decls _ (hD.ext e1) HSm.out ((HT.out.ext (Ext.below HBw.out)).ext e1))
      have HB1 : Hid (Below w.heap.size w (wo.alloc (.cells #[.string (ofR R[j]).media, .slice sa sn sc, .slice da dn dc, .int .i64 (ofR R[j]).rf, .int .i64 (ofR R[j]).rt] 38))) := HBw.out.alloc HBw.out.size _
      have HF1 := hid (HF.out.alloc (.cells #[.string (ofR R[j]).media, .slice sa sn sc, .slice da dn dc, .int .i64 (ofR R[j]).rf, .int .i64 (ofR R[j]).rt] 38))
      have K3 := hid (cell_new wo #[.string (ofR R[j]).media, .slice sa sn sc, .slice da dn dc, .int .i64 (ofR R[j]).rf, .int .i64 (ofR R[j]).rt] 38 3)
      clear he hS hD HSm e1
      have EA : Hid ((ofR R[j]).decls = R[j].decls.map Sh.ofL) := rfl
      have EF : Hid ((ofR R[j]).rf = (R[j].from_ : Int)) := rfl
      rw [EA.out] at AA
      generalize R[j].decls.map Sh.ofL = ds at *
      generalize R[j].from_ = fr at *
      generalize (ofR R[j]).media = md at *
      generalize (ofR R[j]).rt = rt at *
      generalize (ofR R[j]).rf = rf at *
      obtain rfl := EF.out
      clear EF
      cases ha : allB ds with
      | none =>
        have HN2 : Hid (wrongR R = some fr) := by have := HN.out; rw [ha] at this; exact this
        rw [ha] at AA
        simp only [Ans, badV] at AA
        clear HN ha EA
        go_wp2_with (go_at_call 62; refine AA.out.mono ?_; rintro e w2 ⟨rfl, hb2⟩; have F2 := hid (HF1.out.below hb2); have B2 := hid (below_trans HB1.out hb2 (Nat.le_refl _)); have k3 := Ext.below hb2 _ _ _ K3.out; have z0 := F2.out.fz 0; have z1 := F2.out.fz 1; have y0 := F2.out.cell0; have y1 := F2.out.cell1; clear hb2)
        have FS := F2.out.set 5 fr
        have q0 := FS.cell0
        have q1 := FS.cell1
        refine bodyPost_ret (v := faultV (5, fr)) (by simp [results, Tryz.results34, go_sem, q0, q1, faultV]) rfl ⟨by rw [HN2.out]; rfl, (B2.out.setCell (Nat.le_refl _) _).setCell (Nat.le_refl _) _⟩
      | some A =>
        have HN2 : Hid (wrongR R = wrongR (R.drop (j + 1))) := by have := HN.out; rw [ha] at this; exact this
        rw [ha] at AA
        simp only [Ans] at AA
        clear HN ha EA
        go_wp2_with (go_at_call 62; refine AA.out.mono ?_; rintro e w2 ⟨⟨aa, ac, rfl, _⟩, hb2⟩; have F2 := hid (HF1.out.below hb2); have B2 := hid (below_trans HB1.out hb2 (Nat.le_refl _)); clear hb2)
        go_roundg (R.length - (j + 1))
        case measure => have := GK.out; have := HJ.out; omega
        case rel => exact ⟨j + 1, rfl, by have := HJ.out; omega, by go_num, HN2.out, F2.out, B2.out⟩
    · have HN2 : Hid (wrongR R = none) := by
        show wrongR R = none
        rw [HW.out, List.drop_eq_nil_of_le (by omega)]; rfl
      have z0 := HF.out.fz 0
      have z1 := HF.out.fz 1
      have y0 := HF.out.cell0
      have y1 := HF.out.cell1
      go_wp2_with fail
      have FS := HF.out.set 0 0
      have q0 := FS.cell0
      have q1 := FS.cell1
      refine bodyPost_ret (v := faultV (0, 0)) (by simp [results, Tryz.results34, go_sem, q0, q1, faultV]) rfl ⟨by rw [HN2.out]; rfl, (HBw.out.setCell (Nat.le_refl _) _).setCell (Nat.le_refl _) _⟩
def atrV : Option Sh.Atr → Value
  | none => .agg #[.string ⟨#[]⟩, .string ⟨#[]⟩, .int .i64 0, .int .i64 0]
  | some a => .agg #[.string (bsL a.name), .string (bsL a.val), .int .i64 a.from_, .int .i64 a.to_]
def AtB (w : World) (q : Nat) (n v : ByteArray) (f t : Int) : Prop := w.heap[q]? = some (.cells #[.string n, .string v, .int .i64 f, .int .i64 t] 51 (0, 0))
theorem AtB.cells {w : World} {q : Nat} {n v : ByteArray} {f t : Int} (h : AtB w q n v f t) : w.cell? ⟨q, 0, none⟩ = some (.string n) ∧ w.cell? ⟨q, 1, none⟩ = some (.string v) ∧ w.cell? ⟨q, 2, none⟩ = some (.int .i64 f) ∧ w.cell? ⟨q, 3, none⟩ = some (.int .i64 t) := ⟨Sh.cell_of h 0, Sh.cell_of h 1, Sh.cell_of h 2, Sh.cell_of h 3⟩
theorem AtB.fz {w : World} {q : Nat} {n v : ByteArray} {f t : Int} (h : AtB w q n v f t) (o : Nat) : w.frozen? ⟨q, o, none⟩ = false := Sh.fz_of h o
theorem AtB.lt {w : World} {q : Nat} {n v : ByteArray} {f t : Int} (h : AtB w q n v f t) : q < w.heap.size := (Array.getElem?_eq_some_iff.1 h).1
theorem AtB.alloc {w : World} {q : Nat} {n v : ByteArray} {f t : Int} (h : AtB w q n v f t) (o : Obj) : AtB (w.alloc o) q n v f t := (Below.heap_alloc _ _ _ h.lt).trans h
theorem AtB.set {w : World} {q : Nat} {n v : ByteArray} {f t : Int} (h : AtB w q n v f t) (n' v' : ByteArray) (f' t' : Int) : AtB ((((w.setCell ⟨q, 0, none⟩ (.string n')).setCell ⟨q, 1, none⟩ (.string v')).setCell ⟨q, 2, none⟩ (.int .i64 f')).setCell ⟨q, 3, none⟩ (.int .i64 t')) q n' v' f' t' := by
  have h1 := Sh.heap_set h 0 (.string n')
  have h2 := Sh.heap_set h1 1 (.string v')
  have h3 := Sh.heap_set h2 2 (.int .i64 f')
  have h4 := Sh.heap_set h3 3 (.int .i64 t')
  show _ = _
  simpa using h4
theorem sty_bytes (l : Bs) : ((bsL l).toList == [115, 116, 121, 108, 101]) = (l == Sh.styleL) := by rw [bsL_toList]; rfl
set_option maxRecDepth 100000 in
set_option maxHeartbeats 4000000 in
theorem ownStyle_any (n : Sh.Nd) (av : Value) (w : World) (hA : AtsAt w av (n.attrs.map ofA)) (hl : n.attrs.length ≤ 8) :
    Calls Tryz.prog 63 #[nodeV (ofN n) av] w fun e w' => e = .returned (.tuple #[atrV (ownA n), .bool (ownA n).isSome]) ∧ Below w.heap.size w w' := by
  obtain ⟨a, cap, rfl⟩ := Sl.form hA
  have HL := hid hA
  have HLn : Hid ((n.attrs.map ofA).length = n.attrs.length) := List.length_map ..
  clear hA
  rw [HLn.out]
  have HO : Hid (ownA n = n.attrs.find? fun a => a.name == Sh.styleL) := rfl
  simp only [nodeV, ofN]
  generalize n.attrs = l at *
  generalize ownA n = o at *
  generalize bsL n.name = nn at *
  have b1 := (Below.refl w.heap.size w).alloc (Nat.le_refl _) (.cells #[.string nn, .int .i64 n.parent, .slice a l.length cap, .int .i64 n.nameEnd, .int .i64 n.inFrom, .int .i64 n.inTo] 49)
  have HB0 : Hid (Below w.heap.size w ((w.alloc (.cells #[.string nn, .int .i64 n.parent, .slice a l.length cap, .int .i64 n.nameEnd, .int .i64 n.inFrom, .int .i64 n.inTo] 49)).alloc (.cells #[.string ⟨#[]⟩, .string ⟨#[]⟩, .int .i64 0, .int .i64 0] 51))) := b1.alloc b1.size _
  have hz : (w.alloc (.cells #[.string nn, .int .i64 n.parent, .slice a l.length cap, .int .i64 n.nameEnd, .int .i64 n.inFrom, .int .i64 n.inTo] 49)).heap.size = w.heap.size + 1 := by simp
  have HA0 : Hid (AtB ((w.alloc (.cells #[.string nn, .int .i64 n.parent, .slice a l.length cap, .int .i64 n.nameEnd, .int .i64 n.inFrom, .int .i64 n.inTo] 49)).alloc (.cells #[.string ⟨#[]⟩, .string ⟨#[]⟩, .int .i64 0, .int .i64 0] 51)) (w.heap.size + 1) ⟨#[]⟩ ⟨#[]⟩ 0 0) := by
    show AtB _ _ _ _ _ _
    rw [← hz]
    exact heap_alloc_new _ _
  clear b1 hz
  go_enter Tryz.func63, Tryz.ntmps63
  go_wp2_with fail
  go_loopg [9] l.length (fun n i wr => ∃ j : Nat, n = l.length - j ∧ j ≤ l.length ∧ i = .int .i64 (j : Int) ∧ o = (l.drop j).find? (fun a => a.name == Sh.styleL) ∧ AtB wr (w.heap.size + 1) ⟨#[]⟩ ⟨#[]⟩ 0 0 ∧ Below w.heap.size w wr)
  case atStart => exact ⟨0, rfl, Nat.zero_le _, rfl, HO.out, HA0.out, HB0.out⟩
  case round =>
    obtain ⟨j, hn, hj, rfl, hw, hf, hB⟩ := hrel
    rename World => wo
    have GK := hid hn
    have HW := hid hw
    have HF := hid hf
    have HBw := hid hB
    clear hn hw hf hB HB0 HA0
    by_cases hlt : j < l.length
    · obtain ⟨b, off, rfl, he⟩ := Sl.at (HL.out.ext (Ext.below HBw.out)) (i := j) (by rw [HLn.out]; exact hlt)
      rw [List.getElem_map] at he
      obtain ⟨c0, c1, c2, c3⟩ := he.cells
      have HN : Hid (o = if l[j].name == Sh.styleL then some l[j] else (l.drop (j + 1)).find? (fun a => a.name == Sh.styleL)) := by
        show o = _
        rw [HW.out, List.drop_eq_getElem_cons hlt, List.find?_cons]
        cases l[j].name == Sh.styleL <;> rfl
      have HJ := hid hlt
      have HSt := hid (sty_bytes l[j].name)
      clear he
      generalize l[j] = x at *
      obtain ⟨xn, xv, xf, xt⟩ := x
      simp only [ofA] at c0 c1 c2 c3 HN HSt
      have HB1 : Hid (Below w.heap.size w (wo.alloc (.cells #[.string (bsL xn), .string (bsL xv), .int .i64 xf, .int .i64 xt] 51))) := HBw.out.alloc HBw.out.size _
      have HF1 := hid (HF.out.alloc (.cells #[.string (bsL xn), .string (bsL xv), .int .i64 xf, .int .i64 xt] 51))
      cases hq : (xn == Sh.styleL)
      · have HN2 : Hid (o = (l.drop (j + 1)).find? (fun a => a.name == Sh.styleL)) := by have := HN.out; rw [hq] at this; exact this
        have hqq : ((bsL xn).toList == [115, 116, 121, 108, 101]) = false := by rw [HSt.out]; exact hq
        clear HN HSt hq
        go_wp2_with fail
        go_roundg (l.length - (j + 1))
        case measure => have := GK.out; have := HJ.out; omega
        case rel => exact ⟨j + 1, rfl, by have := HJ.out; omega, by go_num, HN2.out, HF1.out, HB1.out⟩
      · have HN2 : Hid (o = some ⟨xn, xv, xf, xt⟩) := by have := HN.out; rw [hq] at this; exact this
        have hqq : ((bsL xn).toList == [115, 116, 121, 108, 101]) = true := by rw [HSt.out]; exact hq
        clear HN HSt hq
        obtain ⟨y0, y1, y2, y3⟩ := HF.out.cells
        have z0 := HF.out.fz 0
        have z1 := HF.out.fz 1
        have z2 := HF.out.fz 2
        have z3 := HF.out.fz 3
        have hne : w.heap.size + 1 < wo.heap.size := HF.out.lt
        go_wp2_with fail
        have FS := (HF.out.set (bsL xn) (bsL xv) xf xt).alloc (.cells #[.string (bsL xn), .string (bsL xv), .int .i64 xf, .int .i64 xt] 51)
        obtain ⟨q0, q1, q2, q3⟩ := FS.cells
        have b4 : Below w.heap.size w ((((wo.setCell ⟨w.heap.size + 1, 0, none⟩ (.string (bsL xn))).setCell ⟨w.heap.size + 1, 1, none⟩ (.string (bsL xv))).setCell ⟨w.heap.size + 1, 2, none⟩ (.int .i64 xf)).setCell ⟨w.heap.size + 1, 3, none⟩ (.int .i64 xt)) := (((HBw.out.setCell (by simp) _).setCell (by simp) _).setCell (by simp) _).setCell (by simp) _
        refine bodyPost_ret (v := .tuple #[atrV (some ⟨xn, xv, xf, xt⟩), .bool true]) (by simp [results, Tryz.results63, go_sem, q0, q1, q2, q3, atrV]) rfl ⟨by rw [HN2.out]; rfl, b4.alloc b4.size _⟩
    · have HN2 : Hid (o = none) := by
        show o = none
        rw [HW.out, List.drop_eq_nil_of_le (by omega)]; rfl
      obtain ⟨y0, y1, y2, y3⟩ := HF.out.cells
      have z0 := HF.out.fz 0
      have z1 := HF.out.fz 1
      have z2 := HF.out.fz 2
      have z3 := HF.out.fz 3
      go_wp2_with fail
      have FS := HF.out.set ⟨#[]⟩ ⟨#[]⟩ 0 0
      obtain ⟨q0, q1, q2, q3⟩ := FS.cells
      refine bodyPost_ret (v := .tuple #[atrV none, .bool false]) (by simp [results, Tryz.results63, go_sem, q0, q1, q2, q3, atrV]) rfl ⟨by rw [HN2.out]; rfl, (((HBw.out.setCell (by simp) _).setCell (by simp) _).setCell (by simp) _).setCell (by simp) _⟩
end Go.Proofs.YtblkldfokeeaeacGreatDoor
namespace Go.Proofs.YtblkldfokeeaeacGreatDoor.Sh.Pl
def AtrOk (S : List UInt8) (ne : Nat) (a : Atr) : Prop := ne ≤ a.from_ ∧ a.from_ ≤ a.to_ ∧ a.to_ ≤ S.length ∧ sub S a.from_ a.to_ = [32] ++ a.name ++ [61, 34] ++ a.val ++ [34]
def NdOk (S : List UInt8) (i : Nat) (n : Nd) : Prop :=
  -1 ≤ n.parent ∧ n.parent < i ∧ n.nameEnd ≤ S.length ∧ n.name.length + 1 ≤ n.nameEnd ∧ sub S (n.nameEnd - n.name.length - 1) n.nameEnd = [60] ++ n.name ∧ (∀ a ∈ n.attrs, AtrOk S n.nameEnd a) ∧ n.inFrom ≤ n.inTo ∧ n.inTo ≤ S.length ∧ n.attrs.length ≤ 8
def Good (S : List UInt8) (L : List Nd) : Prop := ∀ (i : Nat) (h : i < L.length), NdOk S i L[i]
theorem nameTo_err {S : List UInt8} {k : Nat} {x : Nat × Nat} (h : nameTo S k = .error x) : (2, k) = x := by
  unfold nameTo at h
  split at h
  · cases h
  · injection h
theorem AtrOk.mono {S : List UInt8} {a b : Nat} {x : Atr} (h : AtrOk S b x) (hab : a ≤ b) : AtrOk S a x := ⟨Nat.le_trans hab h.1, h.2⟩
theorem Good.push {S : List UInt8} {L : List Nd} {n : Nd} (h : Good S L) (hn : NdOk S L.length n) : Good S (L ++ [n]) := by
  intro i hi
  by_cases hlt : i < L.length
  · rw [List.getElem_append_left hlt]; exact h i hlt
  · have : i = L.length := by simp at hi; omega
    subst this
    simpa using hn
def Keeps (S : List UInt8) (L : List Nd) (r : Res (Nat × List Nd)) : Prop := match r with | .ok (k', L') => k' ≤ S.length ∧ L.length ≤ L'.length ∧ Good S L' | .error x => x.2 ≤ S.length
end Go.Proofs.YtblkldfokeeaeacGreatDoor.Sh.Pl
namespace Go.Proofs.YtblkldfokeeaeacGreatDoor.Sh.Pl
def shA (d : Nat) (a : Atr) : Atr := ⟨a.name, a.val, a.from_ + d, a.to_ + d⟩
def shN (d : Nat) (c : Int → Int) (n : Nd) : Nd :=
  ⟨n.name, c n.parent, n.attrs.map (shA d), n.nameEnd + d, if n.name = styleL then n.inFrom + d else n.inFrom, if n.name = styleL then n.inTo + d else n.inTo⟩
section
variable {P S T : List UInt8}
theorem drop_sh (P S T : List UInt8) {k : Nat} (hk : k ≤ S.length) : (P ++ S ++ T).drop (k + P.length) = S.drop k ++ T := by
  rw [List.append_assoc, Nat.add_comm, ← List.drop_drop, List.drop_left, List.drop_append_of_le_length hk]
theorem has_sh (P S T : List UInt8) {t : List UInt8} {k : Nat} (hk : k + t.length ≤ S.length) : has (P ++ S ++ T) (k + P.length) t = has S k t := by
  unfold has
  rw [drop_sh P S T (by omega), Bool.eq_iff_iff, List.isPrefixOf_iff_prefix, List.isPrefixOf_iff_prefix]
  constructor
  · intro h
    exact List.prefix_of_prefix_length_le h (List.prefix_append _ _) (by rw [List.length_drop]; omega)
  · intro h
    exact h.trans (List.prefix_append _ _)
theorem has_up (P S T : List UInt8) {t : List UInt8} {k : Nat} (hk : k ≤ S.length) (h : has S k t = true) : has (P ++ S ++ T) (k + P.length) t = true := by
  rw [has_sh P S T (has_le h hk)]; exact h
theorem get_sh (P S T : List UInt8) {k : Nat} (hk : k < S.length) : (P ++ S ++ T)[k + P.length]? = S[k]? := by
  rw [List.append_assoc, List.getElem?_append_right (by omega), List.getElem?_append_left (by omega)]
  congr 1
  omega
theorem fitsAt_sh (P S T : List UInt8) (p : UInt8 → Bool) {k : Nat} (hk : k < S.length) : fitsAt (P ++ S ++ T) (k + P.length) p = fitsAt S k p := by
  unfold fitsAt
  rw [get_sh P S T hk]
theorem fitsAt_lt' {p : UInt8 → Bool} {k : Nat} (h : fitsAt S k p = true) : k < S.length := by
  by_cases hk : k < S.length
  · exact hk
  · rw [fitsAt_ge p (by omega)] at h; cases h
theorem sub_sh (P S T : List UInt8) {a b : Nat} (h1 : a ≤ b) (h2 : b ≤ S.length) : sub (P ++ S ++ T) (a + P.length) (b + P.length) = sub S a b := by
  unfold sub
  rw [drop_sh P S T (by omega), show b + P.length - (a + P.length) = b - a by omega, List.take_append_of_le_length (by rw [List.length_drop]; omega)]
theorem takeWhile_app {p : UInt8 → Bool} : ∀ (l m : List UInt8), (l.takeWhile p).length < l.length → (l ++ m).takeWhile p = l.takeWhile p
  | [], m, h => by simp at h
  | a :: l, m, h => by
    simp only [List.cons_append, List.takeWhile_cons] at h ⊢
    split
    · rename_i ha
      rw [if_pos ha] at h
      rw [takeWhile_app l m (by simpa using h)]
    · rfl
theorem whileEnd_sh (P S T : List UInt8) (p : UInt8 → Bool) {k : Nat} (hk : k ≤ S.length) (h : whileEnd S k p < S.length) : whileEnd (P ++ S ++ T) (k + P.length) p = whileEnd S k p + P.length := by
  unfold whileEnd at h ⊢
  rw [drop_sh P S T hk, takeWhile_app _ _ (by rw [List.length_drop]; omega)]
  omega
theorem nameTo_sh (P S T : List UInt8) {k m : Nat} (h : nameTo S k = .ok m) (hm : m < S.length) : nameTo (P ++ S ++ T) (k + P.length) = .ok (m + P.length) := by
  unfold nameTo at h ⊢
  split at h
  · rename_i hf
    injection h with h
    subst h
    have hk := fitsAt_lt' hf
    rw [fitsAt_sh P S T letterB hk, if_pos hf, show k + P.length + 1 = (k + 1) + P.length by omega, whileEnd_sh P S T nameB (by omega) hm]
  · cases h
theorem index_app : ∀ (l m t : List UInt8) (i : Nat), Lib.index l t = i → i + t.length ≤ l.length → Lib.index (l ++ m) t = i := by
  intro l m t i h hl
  obtain ⟨h1, h2, h3⟩ := index_spec l t i h
  have sh : ∀ j, j + t.length ≤ l.length → t.isPrefixOf ((l ++ m).drop j) = t.isPrefixOf (l.drop j) := fun j hj => by
    have := has_sh [] l m (t := t) (k := j) hj
    simpa [has] using this
  refine Lib.index_first (by simp; omega) ?_ ?_
  · unfold Lib.occAt; rw [sh i hl]; exact h1
  · intro j hj
    unfold Lib.occAt; rw [sh j (by omega)]; exact h3 j hj
theorem pastAt_sh (P S T : List UInt8) {k m : Nat} {t : List UInt8} (h : pastAt S k t = some m) (hk : k ≤ S.length) : pastAt (P ++ S ++ T) (k + P.length) t = some (m + P.length) := by
  have hl := pastAt_le h hk
  unfold pastAt at h ⊢
  split at h
  · cases h
  · rename_i hge
    injection h with h
    have hi : Lib.index (S.drop k) t = ((m - k : Nat) : Int) := by omega
    have := index_app (S.drop k) T t (m - k) hi (by rw [List.length_drop]; omega)
    rw [drop_sh P S T hk, this, if_neg (by omega)]
    congr 1
    simp
    omega
theorem need_sh (P S T : List UInt8) {k m : Nat} {t : List UInt8} (h : need S k t = .ok m) (hk : k ≤ S.length) : need (P ++ S ++ T) (k + P.length) t = .ok (m + P.length) := by
  obtain ⟨h1, rfl⟩ := need_ok h
  unfold need
  rw [if_pos (has_up P S T hk h1)]
  congr 1
  omega
theorem any_sh (d : Nat) (l : List Atr) (x : List UInt8) : (l.map (shA d)).any (fun a => a.name == x) = l.any (fun a => a.name == x) := by
  induction l with
  | nil => rfl
  | cons a l ih => simp only [List.map_cons, List.any_cons, ih, shA]
theorem attrName_sh (P S T : List UInt8) {k m : Nat} {l : List Atr} {nm : List UInt8} (h : attrName S k l = .ok (nm, m)) (hm : m < S.length) : attrName (P ++ S ++ T) (k + P.length) (l.map (shA P.length)) = .ok (nm, m + P.length) := by
  unfold attrName at h ⊢
  split at h
  · cases h
  rename_i e hn
  have ll := nameTo_le hn
  split at h
  · cases h
  rename_i h8
  split at h
  · cases h
  rename_i h20
  split at h
  · cases h
  rename_i hany
  injection h with h
  injection h with h1 h2
  subst h2
  rw [nameTo_sh P S T hn hm]
  simp only
  rw [sub_sh P S T (by omega) (by omega), List.length_map, any_sh, if_neg h8, if_neg h20, if_neg hany, h1]
theorem attr_sh (P S T : List UInt8) {k m : Nat} {l : List Atr} {a : Atr} (h : attr S k l = .ok (a, m)) (hk : k ≤ S.length) : attr (P ++ S ++ T) (k + P.length) (l.map (shA P.length)) = .ok (shA P.length a, m + P.length) := by
  unfold attr at h
  split at h
  · cases h
  rename_i k1 e1
  split at h
  · cases h
  rename_i nm k2 e2
  split at h
  · cases h
  rename_i k3 e3
  split at h
  · cases h
  rename_i k5 e5
  injection h with h
  injection h with ha hm
  subst hm
  subst ha
  have o1 := need_ok e1
  have o3 := need_ok e3
  have o5 := need_ok e5
  have l1 := has_le o1.1 hk
  have l2 := attrName_le e2
  have l3 := has_le o3.1 l2.2
  rw [o1.2] at l1
  rw [o3.2] at l3
  have l4 := whileEnd_le valueB l3
  have l5 := has_le o5.1 l4.2
  have q3 := o3.2
  simp only [List.length_cons, List.length_nil] at q3 l5
  unfold attr
  rw [need_sh P S T e1 hk]
  simp only
  rw [attrName_sh P S T e2 (by omega)]
  simp only
  rw [need_sh P S T e3 l2.2]
  simp only
  rw [whileEnd_sh P S T valueB l3 (by omega), need_sh P S T e5 l4.2]
  simp only
  rw [sub_sh P S T l4.1 l4.2]
  rfl
theorem attrsTo_sh (P S T : List UInt8) : ∀ (f k : Nat) (l l' : List Atr) (m : Nat), attrsTo f S k l = .ok (l', m) → k ≤ S.length → m < S.length → attrsTo f (P ++ S ++ T) (k + P.length) (l.map (shA P.length)) = .ok (l'.map (shA P.length), m + P.length)
  | 0, _, _, _, _, h, _, _ => by simp [attrsTo] at h
  | f + 1, k, l, l', m, h, hk, hm => by
    rw [attrsTo] at h ⊢
    split at h
    · rename_i hh
      rw [if_pos (has_up P S T hk hh)]
      split at h
      · cases h
      · rename_i a k1 ea
        have la := attr_le ea hk
        rw [attr_sh P S T ea hk]
        simp only
        have := attrsTo_sh P S T f k1 _ _ _ h la.2.1 hm
        simpa using this
    · rename_i hh
      injection h with h
      injection h with h1 h2
      subst h1 h2
      rw [has_sh P S T (by simp; omega), if_neg hh]
theorem firstTag_sh (P S T : List UInt8) {k m : Nat} {n : Nd} (h : firstTag S k = .ok (n, m)) (hk : k ≤ S.length) :
    firstTag (P ++ S ++ T) (k + P.length) = .ok (⟨n.name, 0, n.attrs.map (shA P.length), n.nameEnd + P.length, 0, 0⟩, m + P.length) ∧ n.parent = 0 ∧ n.inFrom = 0 ∧ n.inTo = 0 ∧ fitsAt S (k + 1) letterB = true := by
  unfold firstTag at h
  split at h
  · cases h
  rename_i k1 e1
  split at h
  · cases h
  rename_i k2 e2
  split at h
  · cases h
  rename_i h20
  split at h
  · cases h
  rename_i l k3 e3
  split at h
  · cases h
  rename_i k4 e4
  injection h with h
  injection h with ha hm
  subst hm
  subst ha
  have o1 := need_ok e1
  have o4 := need_ok e4
  have l1 := has_le o1.1 hk
  have q1 := o1.2
  simp only [List.length_cons, List.length_nil] at q1 l1
  have l2 := nameTo_le e2
  have l3 := attrsTo_le 10 _ _ _ _ e3 l2.2
  have l4 := has_le o4.1 l3.2
  simp only [List.length_cons, List.length_nil] at l4
  refine ⟨?_, rfl, rfl, rfl, ?_⟩
  · unfold firstTag
    rw [need_sh P S T e1 hk]
    simp only
    rw [nameTo_sh P S T e2 (by omega)]
    simp only
    have e3' := attrsTo_sh P S T 10 _ _ _ _ e3 l2.2 (by omega)
    simp only [List.map_nil] at e3'
    rw [sub_sh P S T (by omega) l2.2, if_neg h20, e3']
    simp only
    rw [need_sh P S T e4 l3.2]
  · unfold nameTo at e2
    split at e2
    · rename_i hf
      rw [← q1] at hf
      simpa using hf
    · cases e2
end
theorem has_head {S : List UInt8} {k : Nat} {b : UInt8} {t : List UInt8} (h : has S k (b :: t) = true) : S[k]? = some b := by
  unfold has at h
  obtain ⟨r, hr⟩ := List.isPrefixOf_iff_prefix.1 h
  have : (S.drop k)[0]? = some b := by rw [← hr]; rfl
  simpa using this
theorem has_second {S : List UInt8} {k : Nat} {a b : UInt8} {t : List UInt8} (h : has S k (a :: b :: t) = true) : S[k + 1]? = some b := by
  unfold has at h
  obtain ⟨r, hr⟩ := List.isPrefixOf_iff_prefix.1 h
  have : (S.drop k)[1]? = some b := by rw [← hr]; rfl
  simpa using this
theorem fits_get {S : List UInt8} {k : Nat} {p : UInt8 → Bool} {b : UInt8} (h : fitsAt S k p = true) (hb : S[k]? = some b) : p b = true := by
  unfold fitsAt at h
  rw [hb] at h
  exact h
def ItemsSh (P S T : List UInt8) (E : List Nd) (c : Int → Int) (δ f : Nat) : Prop :=
  ∀ (k : Nat) (parent : Int) (deep : Nat) (L : List Nd) (k' : Nat) (L' : List Nd), items f S k parent deep L = .ok (k', L') → k ≤ S.length →
    k ≤ k' ∧ k' ≤ S.length ∧ L.length ≤ L'.length ∧ (k' = S.length ∨ has S k' [60, 47] = true) ∧
    ((∃ x, items f (P ++ S ++ T) (k + P.length) (c parent) (deep + δ) (E ++ L.map (shN P.length c)) = .error (4, x) ∧ (0 < δ ∨ 120 < L'.length + E.length)) ∨
     (∃ r, 1 ≤ r ∧ f ≤ r + (k' - k) ∧ items f (P ++ S ++ T) (k + P.length) (c parent) (deep + δ) (E ++ L.map (shN P.length c)) = items r (P ++ S ++ T) (k' + P.length) (c parent) (deep + δ) (E ++ L'.map (shN P.length c))))
theorem has_pre {S : List UInt8} {k : Nat} {t u : List UInt8} (h : has S k (t ++ u) = true) : has S k t = true := by
  unfold has at h ⊢
  exact List.isPrefixOf_iff_prefix.2 ((List.prefix_append t u).trans (List.isPrefixOf_iff_prefix.1 h))
theorem element_sh {P S T : List UInt8} {E : List Nd} {c : Int → Int} {δ f : Nat} (hc : ∀ n : Nat, c n = n + E.length) (H : ItemsSh P S T E c δ f) {k : Nat} {parent : Int} {deep : Nat} {L : List Nd} {k1 : Nat} {L1 : List Nd}
    (h : element (items f S) S k parent deep L = .ok (k1, L1)) (hk : k ≤ S.length) :
    k < k1 ∧ k1 ≤ S.length ∧ L.length < L1.length ∧ fitsAt S (k + 1) letterB = true ∧
    ((∃ x, element (items f (P ++ S ++ T)) (P ++ S ++ T) (k + P.length) (c parent) (deep + δ) (E ++ L.map (shN P.length c)) = .error (4, x) ∧ (0 < δ ∨ 120 < L1.length + E.length)) ∨
     element (items f (P ++ S ++ T)) (P ++ S ++ T) (k + P.length) (c parent) (deep + δ) (E ++ L.map (shN P.length c)) = .ok (k1 + P.length, E ++ L1.map (shN P.length c))) := by
  unfold element at h
  split at h
  · cases h
  rename_i hg
  split at h
  · cases h
  rename_i n k2 e1
  have lf := firstTag_le e1 hk
  obtain ⟨sh1, sh2, sh3, sh4, sh5⟩ := firstTag_sh P S T e1 hk
  obtain ⟨nm, p0, ats, ne, i0, t0⟩ := n
  simp only at sh1 sh2 sh3 sh4 lf
  subst sh2 sh3 sh4
  simp only at h
  have hlen : (E ++ L.map (shN P.length c)).length = L.length + E.length := by simp; omega
  split at h
  · rename_i hst
    subst hst
    split at h
    · cases h
    rename_i m e2
    have lm := pastAt_le e2 lf.2.1
    have h8 : (lastTag styleL).length = 8 := by decide
    rw [h8] at lm
    injection h with h
    injection h with h1 h2
    subst h1 h2
    refine ⟨by omega, lm.2, by simp, sh5, ?_⟩
    by_cases hg2 : 20 < deep + δ ∨ 120 ≤ (E ++ L.map (shN P.length c)).length
    · refine .inl ⟨k + P.length, ?_, ?_⟩
      · unfold element; rw [if_pos hg2]
      · rw [hlen] at hg2; simp; omega
    · right
      unfold element
      rw [if_neg hg2, sh1]
      simp only
      rw [if_pos trivial, pastAt_sh P S T e2 lf.2.1]
      simp only [List.map_append, List.map_cons, List.map_nil, shN, List.append_assoc]
      rw [if_pos trivial, if_pos trivial]
      congr 2
      omega
  · rename_i hst
    split at h
    · cases h
    rename_i k3 L2 e2
    split at h
    · cases h
    rename_i k4 e3
    injection h with h
    injection h with h1 h2
    subst h1 h2
    obtain ⟨a1, a2, a3, a4, a5⟩ := H _ _ _ _ _ _ e2 lf.2.1
    have o3 := need_ok e3
    have l3 := has_le o3.1 a2
    simp at a3
    refine ⟨by omega, by omega, by omega, sh5, ?_⟩
    have hp : (((E ++ L.map (shN P.length c)).length : Nat) : Int) = c (L.length : Nat) := by rw [hc, hlen]; omega
    have hnode : E ++ L.map (shN P.length c) ++ [(⟨nm, c parent, ats.map (shA P.length), ne + P.length, 0, 0⟩ : Nd)] = E ++ (L ++ [(⟨nm, parent, ats, ne, 0, 0⟩ : Nd)]).map (shN P.length c) := by
      simp [shN, hst]
    by_cases hg2 : 20 < deep + δ ∨ 120 ≤ (E ++ L.map (shN P.length c)).length
    · refine .inl ⟨k + P.length, ?_, ?_⟩
      · unfold element; rw [if_pos hg2]
      · rw [hlen] at hg2; omega
    · have hrec : items f (P ++ S ++ T) (k2 + P.length) ((E ++ L.map (shN P.length c)).length : Nat) (deep + δ + 1) (E ++ L.map (shN P.length c) ++ [(⟨nm, c parent, ats.map (shA P.length), ne + P.length, 0, 0⟩ : Nd)]) = items f (P ++ S ++ T) (k2 + P.length) (c (L.length : Nat)) (deep + 1 + δ) (E ++ (L ++ [(⟨nm, parent, ats, ne, 0, 0⟩ : Nd)]).map (shN P.length c)) := by
        rw [hp, hnode, show deep + δ + 1 = deep + 1 + δ by omega]
      rcases a5 with ⟨x, hx, hcond⟩ | ⟨r, hr1, hr2, hr3⟩
      · refine .inl ⟨x, ?_, hcond⟩
        unfold element
        rw [if_neg hg2, sh1]
        simp only
        rw [if_neg hst, hrec, hx]
      · right
        obtain ⟨r', rfl⟩ : ∃ r', r = r' + 1 := ⟨r - 1, by omega⟩
        have hstop : items (r' + 1) (P ++ S ++ T) (k3 + P.length) (c (L.length : Nat)) (deep + 1 + δ) (E ++ L2.map (shN P.length c)) = .ok (k3 + P.length, E ++ L2.map (shN P.length c)) := by
          rw [items, if_pos (Or.inr (has_up P S T a2 (has_pre (t := [60, 47]) (u := nm ++ [62]) (by simpa [lastTag] using o3.1))))]
        unfold element
        rw [if_neg hg2, sh1]
        simp only
        rw [if_neg hst, hrec, hr3, hstop]
        simp only
        rw [need_sh P S T e3 a2]
theorem items_sh {P S T : List UInt8} {E : List Nd} {c : Int → Int} {δ : Nat} (hc : ∀ n : Nat, c n = n + E.length) : ∀ f, ItemsSh P S T E c δ f
  | 0 => by intro k parent deep L k' L' h; simp [items] at h
  | f + 1 => by
    intro k parent deep L k' L' h hk
    have IH := items_sh (P := P) (S := S) (T := T) (δ := δ) hc f
    rw [items] at h
    by_cases h1 : S.length ≤ k ∨ has S k [60, 47] = true
    · rw [if_pos h1] at h
      injection h with h
      injection h with h2 h3
      subst h2 h3
      refine ⟨Nat.le_refl _, hk, Nat.le_refl _, ?_, .inr ⟨f + 1, by omega, by omega, rfl⟩⟩
      rcases h1 with h1 | h1
      · left; omega
      · exact .inr h1
    rw [if_neg h1] at h
    have hlt : k < S.length := by omega
    have hX : ¬ (P ++ S ++ T).length ≤ k + P.length := by simp; omega
    by_cases h2 : has S k [60, 33, 45, 45] = true
    · rw [if_pos h2] at h
      have l2 := has_le h2 hk
      have hn47 : ¬ has (P ++ S ++ T) (k + P.length) [60, 47] = true := by
        intro hh
        have e1 := has_second hh
        have e2 := has_second h2
        simp only [List.length_cons, List.length_nil] at l2
        rw [show k + P.length + 1 = k + 1 + P.length by omega, get_sh P S T (by omega), e2] at e1
        simp at e1
      split at h
      · cases h
      · rename_i m e
        have lm := pastAt_le e l2
        obtain ⟨a1, a2, a3, a4, a5⟩ := IH _ _ _ _ _ _ h lm.2
        have step : ∀ (p : Int) (dd : Nat) (LL : List Nd), items (f + 1) (P ++ S ++ T) (k + P.length) p dd LL = items f (P ++ S ++ T) (m + 3 + P.length) p dd LL := fun p dd LL => by
          rw [items, if_neg (not_or.2 ⟨hX, hn47⟩), if_pos (has_up P S T hk h2), show k + P.length + 4 = k + 4 + P.length by omega, pastAt_sh P S T e l2]
          simp only
          rw [show m + P.length + 3 = m + 3 + P.length by omega]
        simp only [List.length_cons, List.length_nil] at lm
        refine ⟨by omega, a2, a3, a4, ?_⟩
        rcases a5 with ⟨x, hx, hcond⟩ | ⟨r, hr1, hr2, hr3⟩
        · exact .inl ⟨x, by rw [step]; exact hx, hcond⟩
        · exact .inr ⟨r, hr1, by omega, by rw [step]; exact hr3⟩
    rw [if_neg h2] at h
    by_cases h3 : has S k [60] = true
    · rw [if_pos h3] at h
      split at h
      · cases h
      · rename_i k1 L1 e
        obtain ⟨b1, b2, b3, b4, b5⟩ := element_sh hc IH e hk
        have hk1 := fitsAt_lt' b4
        have hno : ∀ (b : UInt8) (t : List UInt8), letterB b = false → ¬ has (P ++ S ++ T) (k + P.length) (60 :: b :: t) = true := fun b t hb hh => by
          have e1 := has_second hh
          rw [show k + P.length + 1 = k + 1 + P.length by omega, get_sh P S T hk1] at e1
          have := fits_get b4 e1
          rw [hb] at this
          cases this
        have step : ∀ (p : Int) (dd : Nat) (LL : List Nd), items (f + 1) (P ++ S ++ T) (k + P.length) p dd LL = (match element (items f (P ++ S ++ T)) (P ++ S ++ T) (k + P.length) p dd LL with | .error x => .error x | .ok (k1, L1) => items f (P ++ S ++ T) k1 p dd L1) := fun p dd LL => by
          rw [items, if_neg (not_or.2 ⟨hX, hno 47 [] (by decide)⟩), if_neg (hno 33 [45, 45] (by decide)), if_pos (has_up P S T hk h3)]
          cases element (items f (P ++ S ++ T)) (P ++ S ++ T) (k + P.length) p dd LL <;> rfl
        obtain ⟨a1, a2, a3, a4, a5⟩ := IH _ _ _ _ _ _ h b2
        refine ⟨by omega, a2, by omega, a4, ?_⟩
        rcases b5 with ⟨x, hx, hcond⟩ | hx
        · exact .inl ⟨x, by rw [step, hx], by omega⟩
        · rcases a5 with ⟨y, hy, hcond⟩ | ⟨r, hr1, hr2, hr3⟩
          · exact .inl ⟨y, by rw [step, hx]; exact hy, hcond⟩
          · exact .inr ⟨r, hr1, by omega, by rw [step, hx]; exact hr3⟩
    rw [if_neg h3] at h
    by_cases h4 : fitsAt S k textB = true
    · rw [if_pos h4] at h
      have hno : ∀ t : List UInt8, ¬ has (P ++ S ++ T) (k + P.length) (60 :: t) = true := fun t hh => by
        have e1 := has_head hh
        rw [get_sh P S T hlt] at e1
        have := fits_get h4 e1
        revert this
        decide
      have step : ∀ (p : Int) (dd : Nat) (LL : List Nd), items (f + 1) (P ++ S ++ T) (k + P.length) p dd LL = items f (P ++ S ++ T) (k + 1 + P.length) p dd LL := fun p dd LL => by
        rw [items, if_neg (not_or.2 ⟨hX, hno [47]⟩), if_neg (hno [33, 45, 45]), if_neg (hno []), if_pos (by rw [fitsAt_sh P S T textB hlt]; exact h4), show k + P.length + 1 = k + 1 + P.length by omega]
      obtain ⟨a1, a2, a3, a4, a5⟩ := IH _ _ _ _ _ _ h (by omega)
      refine ⟨by omega, a2, a3, a4, ?_⟩
      rcases a5 with ⟨x, hx, hcond⟩ | ⟨r, hr1, hr2, hr3⟩
      · exact .inl ⟨x, by rw [step]; exact hx, hcond⟩
      · exact .inr ⟨r, hr1, by omega, by rw [step]; exact hr3⟩
    · rw [if_neg h4] at h
      cases h
theorem element_go {S : List UInt8} {f k : Nat} {parent : Int} {deep : Nat} {L : List Nd} {k1 : Nat} {L1 : List Nd} (h : element (items f S) S k parent deep L = .ok (k1, L1)) (hk : k ≤ S.length) : k < k1 ∧ k1 ≤ S.length := by
  have := element_sh (P := []) (T := []) (E := []) (c := id) (δ := 0) (fun n => by simp) (items_sh (fun n => by simp) f) h hk
  exact ⟨this.1, this.2.1⟩
end Go.Proofs.YtblkldfokeeaeacGreatDoor.Sh.Pl
namespace Go.Proofs.YtblkldfokeeaeacGreatDoor.Sh.Pl
theorem need_nz {S : List UInt8} {k : Nat} {x : Nat × Nat} {t : List UInt8} (h : need S k t = .error x) : x.1 ≠ 0 := by
  obtain ⟨_, rfl⟩ := need_err h
  simp
theorem nameTo_nz {S : List UInt8} {k : Nat} {x : Nat × Nat} (h : nameTo S k = .error x) : x.1 ≠ 0 := by
  rw [← nameTo_err h]; simp
theorem attrName_nz {S : List UInt8} {k : Nat} {l : List Atr} {x : Nat × Nat} (h : attrName S k l = .error x) : x.1 ≠ 0 := by
  unfold attrName at h
  split at h
  · rename_i hn
    injection h with h
    subst h
    exact nameTo_nz hn
  · split at h
    · injection h with h; rw [← h]; simp
    split at h
    · injection h with h; rw [← h]; simp
    split at h
    · injection h with h; rw [← h]; simp
    cases h
theorem attr_nz {S : List UInt8} {k : Nat} {l : List Atr} {x : Nat × Nat} (h : attr S k l = .error x) : x.1 ≠ 0 := by
  unfold attr at h
  split at h
  · rename_i e1
    injection h with h; subst h; exact need_nz e1
  split at h
  · rename_i e2
    injection h with h; subst h; exact attrName_nz e2
  split at h
  · rename_i e3
    injection h with h; subst h; exact need_nz e3
  split at h
  · rename_i e5
    injection h with h; subst h; exact need_nz e5
  cases h
theorem attrsTo_nz {S : List UInt8} : ∀ (f k : Nat) (l : List Atr) (x : Nat × Nat), f + l.length = 10 → l.length ≤ 8 → k ≤ S.length → attrsTo f S k l = .error x → x.1 ≠ 0
  | 0, _, _, _, h1, h2, _, _ => by omega
  | f + 1, k, l, x, h1, h2, hk, h => by
    rw [attrsTo] at h
    split at h
    · split at h
      · rename_i e
        injection h with h; subst h; exact attr_nz e
      · rename_i a k1 ea
        have la := attr_le ea hk
        exact attrsTo_nz f k1 _ x (by simp; omega) (by simp; omega) la.2.1 h
    · cases h
theorem firstTag_nz {S : List UInt8} {k : Nat} {x : Nat × Nat} (h : firstTag S k = .error x) : x.1 ≠ 0 := by
  unfold firstTag at h
  split at h
  · rename_i e1
    injection h with h; subst h; exact need_nz e1
  split at h
  · rename_i e2
    injection h with h; subst h; exact nameTo_nz e2
  rename_i k2 e2
  have l2 := nameTo_le e2
  split at h
  · injection h with h; rw [← h]; simp
  split at h
  · rename_i e3
    injection h with h; subst h; exact attrsTo_nz 10 _ _ _ rfl (by simp) l2.2 e3
  split at h
  · rename_i e4
    injection h with h; subst h; exact need_nz e4
  cases h
theorem element_nz {S : List UInt8} {f k : Nat} (IH : ∀ (k : Nat) (parent : Int) (deep : Nat) (L : List Nd) (x : Nat × Nat), k ≤ S.length → S.length - k < f → items f S k parent deep L = .error x → x.1 ≠ 0)
    {parent : Int} {deep : Nat} {L : List Nd} {x : Nat × Nat} (hk : k ≤ S.length) (hf : S.length - k < f + 1) (h : element (items f S) S k parent deep L = .error x) : x.1 ≠ 0 := by
  unfold element at h
  split at h
  · injection h with h; rw [← h]; simp
  split at h
  · rename_i e1
    injection h with h; subst h; exact firstTag_nz e1
  rename_i n k1 e1
  have lf := firstTag_le e1 hk
  split at h
  · split at h
    · injection h with h; rw [← h]; simp
    · cases h
  · split at h
    · rename_i e2
      injection h with h; subst h; exact IH _ _ _ _ _ lf.2.1 (by omega) e2
    · split at h
      · rename_i e3
        injection h with h; subst h; exact need_nz e3
      · cases h
theorem items_nz {S : List UInt8} : ∀ (f k : Nat) (parent : Int) (deep : Nat) (L : List Nd) (x : Nat × Nat), k ≤ S.length → S.length - k < f → items f S k parent deep L = .error x → x.1 ≠ 0
  | 0, _, _, _, _, _, _, h, _ => by omega
  | f + 1, k, parent, deep, L, x, hk, hf, h => by
    rw [items] at h
    by_cases h1 : S.length ≤ k ∨ has S k [60, 47] = true
    · rw [if_pos h1] at h; cases h
    rw [if_neg h1] at h
    by_cases h2 : has S k [60, 33, 45, 45] = true
    · rw [if_pos h2] at h
      have l2 := has_le h2 hk
      split at h
      · injection h with h; rw [← h]; simp
      · rename_i m e
        have lm := pastAt_le e l2
        simp only [List.length_cons, List.length_nil] at lm
        exact items_nz f _ _ _ _ _ (by omega) (by omega) h
    rw [if_neg h2] at h
    by_cases h3 : has S k [60] = true
    · rw [if_pos h3] at h
      split at h
      · rename_i e
        injection h with h; subst h
        exact element_nz (fun k p d L x a b c => items_nz f k p d L x a b c) hk hf e
      · rename_i k1 L1 e
        have := element_go e hk
        exact items_nz f _ _ _ _ _ this.2 (by omega) h
    rw [if_neg h3] at h
    by_cases h4 : fitsAt S k textB = true
    · rw [if_pos h4] at h
      have := fitsAt_lt' h4
      exact items_nz f _ _ _ _ _ (by omega) (by omega) h
    rw [if_neg h4] at h
    injection h with h; rw [← h]; simp
theorem parse_nz {S : List UInt8} {x : Nat × Nat} (h : parse S = .error x) : x.1 ≠ 0 := by
  unfold parse at h
  split at h
  · injection h with h; rw [← h]; simp
  rename_i hl
  unfold readAll at h
  split at h
  · rename_i e
    injection h with h; subst h
    exact items_nz 6001 _ _ _ _ _ (Nat.zero_le _) (by omega) e
  · split at h
    · injection h with h; rw [← h]; simp
    · cases h
end Go.Proofs.YtblkldfokeeaeacGreatDoor.Sh.Pl
