/-
  What the document's own All answers: the plain answer. Conditions: at most 2^20 declarations, texts of at most 2^20 bytes.
-/
import Derived.Test.YtnigckmaklbiaabDoorW1
namespace Go.Proofs.YtnigckmaklbiaabDoor
open Go.RowKit

/-- Four pairs of texts in a block. -/
def PB (w : World) (T : Nat) (a b c d : ByteArray) : Prop := w.heap[T]? = some (.cells #[.string sd0, .string a, .string sd1, .string b, .string sd2, .string c, .string sd3, .string d] 70 (0, 0))
theorem PB.cell {w : World} {T : Nat} {a b c d : ByteArray} (h : PB w T a b c d) (j : Nat) : w.cell? ⟨T, j, none⟩ = (#[.string sd0, .string a, .string sd1, .string b, .string sd2, .string c, .string sd3, .string d] : Array Value)[j]? := by
  unfold PB at h
  unfold World.cell?
  rw [h]
  rfl
theorem PB.lt {w : World} {T : Nat} {a b c d : ByteArray} (h : PB w T a b c d) : T < w.heap.size := (Array.getElem?_eq_some_iff.1 h).1
theorem PB.keep {w w' : World} {T : Nat} {a b c d : ByteArray} (h : PB w T a b c d) (e : w'.heap[T]? = w.heap[T]?) : PB w' T a b c d := by
  unfold PB at h ⊢; rw [e]; exact h
theorem PB.alloc {w : World} {T : Nat} {a b c d : ByteArray} (h : PB w T a b c d) (o : Obj) : PB (w.alloc o) T a b c d := h.keep (Below.heap_alloc _ _ _ h.lt)
theorem PB.new (w : World) (a b c d : ByteArray) : PB (w.alloc (.cells #[.string sd0, .string a, .string sd1, .string b, .string sd2, .string c, .string sd3, .string d] 70)) w.heap.size a b c d := heap_alloc_new _ _

def four4 (st : Bool) (t0 t1 t2 t3 : ByteArray) : List Dc := [⟨sd0, t0, st⟩, ⟨sd1, t1, st⟩, ⟨sd2, t2, st⟩, ⟨sd3, t3, st⟩]
/-- What the inner rounds keep. -/
structure In (w wr : World) (T E : Nat) (d : Dc) (t0 t1 t2 t3 : ByteArray) (A : List Dc) (q : Nat) (v : Value) : Prop where
  own : wr.ownsRow w.heap.size 52 3 v (A.length + q) ((A ++ (four4 d.strong t0 t1 t2 t3).take q).flatMap encD)
  db : DB wr T d
  pb : PB wr E t0 t1 t2 t3
  nT : v.ownBlock ≠ some T
  nE : v.ownBlock ≠ some E
  bel : Below w.heap.size w wr
theorem blk_new (w : World) (o : Obj) {n : Nat} (h : n = w.heap.size) : (w.alloc o).heap[n]? = some o := by
  subst h; exact heap_alloc_new w o
theorem In.alloc {w wr : World} {T E : Nat} {d : Dc} {t0 t1 t2 t3 : ByteArray} {A : List Dc} {q : Nat} {v : Value} (h : In w wr T E d t0 t1 t2 t3 A q v) (o : Obj) : In w (wr.alloc o) T E d t0 t1 t2 t3 A q v :=
  ⟨h.own.alloc o, h.db.alloc o, h.pb.alloc o, h.nT, h.nE, h.bel.alloc h.bel.size o⟩
theorem grown_block {w w' : World} {g : Option Nat} (h : w.grownBy w' g) {i : Nat} (hi : i < w.heap.size) (hne : g ≠ some i) : w'.heap[i]? = w.heap[i]? := h.block i hi (fun e => hne e.symm)

theorem In.next {w wa : World} {T E : Nat} {d : Dc} {t0 t1 t2 t3 : ByteArray} {A : List Dc} {q : Nat} {v : Value} (h : In w wa T E d t0 t1 t2 t3 A q v) (x : Dc) (hx : (four4 d.strong t0 t1 t2 t3)[q]? = some x) {g cap : Nat} {w' : World}
    (hown : w'.ownsRow w.heap.size 52 3 (.slice (some ⟨g, 0, none⟩) (A.length + q + 1) cap) (A.length + q + 1) ((A ++ (four4 d.strong t0 t1 t2 t3).take q).flatMap encD ++ encD x)) (hg : wa.grownBy w' v.ownBlock) (hat : v.ownBlock = some g ∨ g = wa.heap.size) :
    In w w' T E d t0 t1 t2 t3 A (q + 1) (.slice (some ⟨g, 0, none⟩) (A.length + q + 1) cap) := by
  obtain ⟨hq, hxq⟩ := List.getElem?_eq_some_iff.1 hx
  refine ⟨?_, h.db.keep (grown_block hg h.db.lt h.nT), h.pb.keep (grown_block hg h.pb.lt h.nE), ?_, ?_, h.bel.grown hg h.bel.size (fun j hj => (h.own.lt j hj).1)⟩
  · rw [List.take_succ_eq_append_getElem hq, hxq, ← List.append_assoc, List.flatMap_append]
    rw [show [x].flatMap encD = encD x by simp]
    exact hown
  · show some g ≠ some T
    rcases hat with e | e
    · rw [← e]; exact h.nT
    · have := h.db.lt; intro c; injection c with c; omega
  · show some g ≠ some E
    rcases hat with e | e
    · rw [← e]; exact h.nE
    · have := h.pb.lt; intro c; injection c with c; omega

set_option maxRecDepth 100000 in
set_option maxHeartbeats 20000000 in
theorem rall_any (lv : Value) (l : List Dc) (w : World) (hl : DsAt w lv l) (hs : SmDs l) :
    Calls Tryd.prog 15 #[lv] w fun e w' => Ans w' e (allB l) ∧ Below w.heap.size w w' := by
  obtain ⟨sa, sc, rfl⟩ := Sl.form hl
  have HL := hid hl
  have HS := hid hs.2
  have hll := hs.1
  unfold lim at hll
  clear hl hs
  have HINF := info_parts Tryd.infoD
  go_enter Tryd.func15, Tryd.ntmps15
  go_wp2_with fail
  go_loopg [4, 16] l.length (fun n v i wr => ∃ (k : Nat) (A : List Dc), n = l.length - k ∧ k ≤ l.length ∧ i = .int .i64 (k : Int) ∧ allB (l.take k) = some A ∧ wr.ownsRow w.heap.size 52 3 v A.length (A.flatMap encD) ∧ Below w.heap.size w wr)
  case atStart => exact ⟨0, [], rfl, Nat.zero_le _, rfl, rfl, World.ownsRow_nil _ _ _ _, Below.refl _ _⟩
  case round =>
    obtain ⟨k, A, hn, hk, rfl, hA, hO, hB⟩ := hrel
    have GK := hid hn
    have HO := hid hO
    have HB := hid hB
    have HA := hid hA
    have hAl := allB_len hA
    have HL' := HL.out.ext (Ext.below hB)
    rename World => wo
    obtain ⟨va, vc, rfl⟩ := own_form hO
    clear hn hO hB hA
    have hAs : A.length ≤ 4194304 := by simp at hAl; omega
    clear hAl
    by_cases hlt : k < l.length
    · obtain ⟨b, off, rfl, he⟩ := Sl.at HL' hlt
      obtain ⟨c0, c1, c2⟩ := he.cells
      have HSk := hid (HS.out l[k] (List.getElem_mem hlt))
      have HN1 := hid (allB_next hlt HA.out)
      have HN2 := hid (fun h => allB_none hlt HA.out h)
      clear he HL'
      generalize l[k] = d at *
      have HE := hid (isE_eq d)
      have HX : Hid (expB d = if isE d then (if 4 < (cutB d.val).length then none else some (fourB d.strong (cutB d.val))) else some [d]) := rfl
      have HD := hid (DB.new wo d)
      have HBa : Hid (Below w.heap.size w (wo.alloc (.cells #[.string d.name, .string d.val, .bool d.strong] 52))) := HB.out.alloc HB.out.size _
      have HOa := hid (HO.out.alloc (.cells #[.string d.name, .string d.val, .bool d.strong] 52))
      obtain ⟨nm, vl, st⟩ := d
      simp only at c0 c1 c2 HE HX HD HBa HOa
      cases hq : (nm.toList == [101, 100, 103, 101])
      · have HXX : Hid (expB ⟨nm, vl, st⟩ = some [⟨nm, vl, st⟩]) := by
          show _ = _
          rw [HX.out, HE.out, hq]
          rfl
        have HF : Hid (allB (l.take (k + 1)) = some (A ++ [⟨nm, vl, st⟩])) := by
          show _ = _
          rw [HN1.out, HXX.out]; rfl
        go_wp2_with (at_builtin; refine wpList_app rfl (.tmp 23) (.tmp 25) 33 rfl w.heap.size 52 _ 3 40 Tryd.underlying33 Tryd.infoD rfl (by decide) (.slice va A.length vc) A.length (A.flatMap encD) rfl (HOa.out.alloc _) _ 1 (encD ⟨nm, vl, st⟩) rfl (.inr ⟨_, 1, rfl, World.news_of_block (blk_new _ _ (by simp))⟩) rfl (one_d _) (by unfold maxLen; omega) (by omega) (HBa.out.alloc HBa.out.size _).size ?_; intro v3 w3 hv3 hg3)
        have HB3 : Hid (Below w.heap.size w w3) := (HBa.out.alloc HBa.out.size _).grown hg3 (HBa.out.alloc HBa.out.size _).size (fun j hj => (HO.out.lt j hj).1)
        have HO3 : Hid (w3.ownsRow w.heap.size 52 3 v3 (A ++ [(⟨nm, vl, st⟩ : Dc)]).length ((A ++ [(⟨nm, vl, st⟩ : Dc)]).flatMap encD)) := by
          show World.ownsRow _ _ _ _ _ _ _
          rw [List.length_append, List.flatMap_append]
          simpa using hv3
        clear hv3 hg3
        go_roundg (l.length - (k + 1))
        case measure => have := GK.out; omega
        case rel => exact ⟨k + 1, A ++ [⟨nm, vl, st⟩], rfl, by omega, by go_num, HF.out, HO3.out, HB3.out⟩
      · have HXX : Hid (expB ⟨nm, vl, st⟩ = if 4 < (cutB vl).length then none else some (fourB st (cutB vl))) := by
          show _ = _
          rw [HX.out, HE.out, hq]
          rfl
        go_wp2_with fail
        have HLT : Hid (∀ j, (Value.slice va A.length vc).ownBlock = some j → j < wo.heap.size) := fun j hj => (HO.out.lt j hj).2
        generalize wo.alloc (.cells #[.string nm, .string vl, .bool st] 52) = w1 at *
        generalize wo.heap.size = T at *
        refine (words_any vl w1 HSk.out.2).mono ?_
        rintro e w2 ⟨wa, wc, ws, rfl, hWS, hws, hb2⟩
        obtain ⟨hc1, hc2⟩ := cut_eq hws
        have HB2 := hid (below_trans HBa.out hb2 (Nat.le_refl _))
        have HO2 := hid (own_ext HOa.out hb2)
        have HD2 := hid (HD.out.below hb2)
        have HW2 := hid hWS
        clear hb2 hWS hws HOa HBa HD
        by_cases h4 : 4 < ws.length
        · have HF : Hid (allB l = none) := HN2.out (by rw [HXX.out, if_pos (hc1.1 h4)])
          clear hc1 hc2
          go_wp2_with fail
          go_ret2
          rw [HF.out]
          exact ⟨rfl, HB2.out⟩
        · have HF : Hid (allB (l.take (k + 1)) = some (A ++ fourB st ws)) := by
            show _ = _
            rw [HN1.out, HXX.out, if_neg (fun h => h4 (hc1.2 h)), hc2 h4]; rfl
          have hpos : 0 < ws.length := by rw [← hc2 h4]; exact cut_pos vl
          clear hc1 hc2
          match ws, h4, hpos with
          | [x0], _, _ =>
            obtain ⟨xb, xo, rfl, e0⟩ := Sl.at HW2.out (i := 0) (by simp)
            have g0 := e0.cells
            simp at g0
            clear e0
            have hmin : min (1 : Int) 0 = 0 := by decide
            go_wp2_with fail
            have HI : Hid (In w (w2.alloc (.cells #[.string ⟨#[101, 100, 103, 101, 45, 116, 111, 112]⟩, .string x0, .string ⟨#[101, 100, 103, 101, 45, 114, 105, 103, 104, 116]⟩, .string x0, .string ⟨#[101, 100, 103, 101, 45, 98, 111, 116, 116, 111, 109]⟩, .string x0, .string ⟨#[101, 100, 103, 101, 45, 108, 101, 102, 116]⟩, .string x0] 70)) T w2.heap.size ⟨nm, vl, st⟩ x0 x0 x0 x0 A 0 (.slice va A.length vc)) :=
              ⟨by simpa using HO2.out.alloc _, HD2.out.alloc _, PB.new w2 _ _ _ _, fun h => by have := HLT.out T h; omega, fun h => by have h1 := HLT.out _ h; have h2 := HD2.out.lt; omega, HB2.out.alloc HB2.out.size _⟩
            generalize w2.alloc (.cells #[.string ⟨#[101, 100, 103, 101, 45, 116, 111, 112]⟩, .string x0, .string ⟨#[101, 100, 103, 101, 45, 114, 105, 103, 104, 116]⟩, .string x0, .string ⟨#[101, 100, 103, 101, 45, 98, 111, 116, 116, 111, 109]⟩, .string x0, .string ⟨#[101, 100, 103, 101, 45, 108, 101, 102, 116]⟩, .string x0] 70) = w3 at *
            generalize w2.heap.size = E at *
            clear HB2 HO2 HD2 HW2 g0
            go_loopg [4, 67] 4 (fun n u i wr => ∃ q : Nat, n = 4 - q ∧ q ≤ 4 ∧ i = .int .i64 (q : Int) ∧ In w wr T E ⟨nm, vl, st⟩ x0 x0 x0 x0 A q u)
            case atStart => exact ⟨0, rfl, Nat.zero_le _, rfl, HI.out⟩
            case round =>
              clear HI
              obtain ⟨q, hn, hq, rfl, hI⟩ := hrel
              have GQ := hid hn
              have HI := hid hI
              obtain ⟨ua, uc, rfl⟩ := own_form hI.own
              have p := hI.pb.cell
              obtain ⟨_, _, d2⟩ := hI.db.cell
              simp only at d2
              have hTl := hI.db.lt
              have hEl := hI.pb.lt
              rename World => wq
              clear hn hI
              have hq' : q = 0 ∨ q = 1 ∨ q = 2 ∨ q = 3 ∨ q = 4 := by omega
              clear hq
              rcases hq' with rfl | rfl | rfl | rfl | rfl
              · have p0 := p 0
                have p1 := p 1
                simp at p0 p1
                clear p
                have HIa := hid ((HI.out.alloc (.cells #[.string sd0, .string x0] 70)).alloc (.cells #[.string sd0, .string x0, .bool st] 52))
                go_wp2_with (at_builtin; refine wpList_append_lies _ rfl (.tmp 71) (.tmp 79) 33 rfl w.heap.size 52 HINF.choose (.agg #[.string ⟨#[]⟩, .string ⟨#[]⟩, .bool false]) 3 40 Tryd.underlying33 HINF.choose_spec.1 HINF.choose_spec.2.1 HINF.choose_spec.2.2.1 HINF.choose_spec.2.2.2 rfl (by decide) (.slice ua (A.length + 0) uc) (A.length + 0) _ rfl HIa.out.own ⟨wq.heap.size + 1, 0, none⟩ 1 1 (encD ⟨sd0, x0, st⟩) rfl rfl (World.news_of_block (blk_new _ _ (by simp))) (one_d _) (by decide) (by unfold maxLen; omega) (by omega) HIa.out.bel.size _ rfl ?_; intro g cap w5 hown hgrow hat hlt5)
                have HIn := hid (HIa.out.next ⟨sd0, x0, st⟩ rfl hown hgrow hat)
                clear hown hgrow hat hlt5
                go_roundg (4 - 1)
                case measure => have := GQ.out; omega
                case rel => exact ⟨1, rfl, by omega, by go_num, HIn.out⟩
              · have p0 := p 2
                have p1 := p 3
                simp at p0 p1
                clear p
                have HIa := hid ((HI.out.alloc (.cells #[.string sd1, .string x0] 70)).alloc (.cells #[.string sd1, .string x0, .bool st] 52))
                go_wp2_with (at_builtin; refine wpList_append_lies _ rfl (.tmp 71) (.tmp 79) 33 rfl w.heap.size 52 HINF.choose (.agg #[.string ⟨#[]⟩, .string ⟨#[]⟩, .bool false]) 3 40 Tryd.underlying33 HINF.choose_spec.1 HINF.choose_spec.2.1 HINF.choose_spec.2.2.1 HINF.choose_spec.2.2.2 rfl (by decide) (.slice ua (A.length + 1) uc) (A.length + 1) _ rfl HIa.out.own ⟨wq.heap.size + 1, 0, none⟩ 1 1 (encD ⟨sd1, x0, st⟩) rfl rfl (World.news_of_block (blk_new _ _ (by simp))) (one_d _) (by decide) (by unfold maxLen; omega) (by omega) HIa.out.bel.size _ rfl ?_; intro g cap w5 hown hgrow hat hlt5)
                have HIn := hid (HIa.out.next ⟨sd1, x0, st⟩ rfl hown hgrow hat)
                clear hown hgrow hat hlt5
                go_roundg (4 - 2)
                case measure => have := GQ.out; omega
                case rel => exact ⟨2, rfl, by omega, by go_num, HIn.out⟩
              · have p0 := p 4
                have p1 := p 5
                simp at p0 p1
                clear p
                have HIa := hid ((HI.out.alloc (.cells #[.string sd2, .string x0] 70)).alloc (.cells #[.string sd2, .string x0, .bool st] 52))
                go_wp2_with (at_builtin; refine wpList_append_lies _ rfl (.tmp 71) (.tmp 79) 33 rfl w.heap.size 52 HINF.choose (.agg #[.string ⟨#[]⟩, .string ⟨#[]⟩, .bool false]) 3 40 Tryd.underlying33 HINF.choose_spec.1 HINF.choose_spec.2.1 HINF.choose_spec.2.2.1 HINF.choose_spec.2.2.2 rfl (by decide) (.slice ua (A.length + 2) uc) (A.length + 2) _ rfl HIa.out.own ⟨wq.heap.size + 1, 0, none⟩ 1 1 (encD ⟨sd2, x0, st⟩) rfl rfl (World.news_of_block (blk_new _ _ (by simp))) (one_d _) (by decide) (by unfold maxLen; omega) (by omega) HIa.out.bel.size _ rfl ?_; intro g cap w5 hown hgrow hat hlt5)
                have HIn := hid (HIa.out.next ⟨sd2, x0, st⟩ rfl hown hgrow hat)
                clear hown hgrow hat hlt5
                go_roundg (4 - 3)
                case measure => have := GQ.out; omega
                case rel => exact ⟨3, rfl, by omega, by go_num, HIn.out⟩
              · have p0 := p 6
                have p1 := p 7
                simp at p0 p1
                clear p
                have HIa := hid ((HI.out.alloc (.cells #[.string sd3, .string x0] 70)).alloc (.cells #[.string sd3, .string x0, .bool st] 52))
                go_wp2_with (at_builtin; refine wpList_append_lies _ rfl (.tmp 71) (.tmp 79) 33 rfl w.heap.size 52 HINF.choose (.agg #[.string ⟨#[]⟩, .string ⟨#[]⟩, .bool false]) 3 40 Tryd.underlying33 HINF.choose_spec.1 HINF.choose_spec.2.1 HINF.choose_spec.2.2.1 HINF.choose_spec.2.2.2 rfl (by decide) (.slice ua (A.length + 3) uc) (A.length + 3) _ rfl HIa.out.own ⟨wq.heap.size + 1, 0, none⟩ 1 1 (encD ⟨sd3, x0, st⟩) rfl rfl (World.news_of_block (blk_new _ _ (by simp))) (one_d _) (by decide) (by unfold maxLen; omega) (by omega) HIa.out.bel.size _ rfl ?_; intro g cap w5 hown hgrow hat hlt5)
                have HIn := hid (HIa.out.next ⟨sd3, x0, st⟩ rfl hown hgrow hat)
                clear hown hgrow hat hlt5
                go_roundg (4 - 4)
                case measure => have := GQ.out; omega
                case rel => exact ⟨4, rfl, by omega, by go_num, HIn.out⟩
              · clear p d2
                go_wp2_with fail
                go_roundg (l.length - (k + 1))
                case measure => have := GK.out; omega
                case rel => exact ⟨k + 1, A ++ fourB st [x0], rfl, by omega, by go_num, HF.out, by rw [List.length_append]; exact HI.out.own, HI.out.bel⟩
          | [x0, x1], _, _ =>
            obtain ⟨xb, xo, rfl, e0⟩ := Sl.at HW2.out (i := 0) (by simp)
            have g0 := e0.cells
            obtain ⟨xb', xo', hx', e1⟩ := Sl.at HW2.out (i := 1) (by simp)
            injection hx' with hx'
            injection hx' with hx1 hx2
            subst hx1 hx2
            have g1 := e1.cells
            simp at g0 g1
            clear e0 e1
            have hmin : min (1 : Int) 1 = 1 := by decide
            go_wp2_with fail
            have HI : Hid (In w (w2.alloc (.cells #[.string ⟨#[101, 100, 103, 101, 45, 116, 111, 112]⟩, .string x0, .string ⟨#[101, 100, 103, 101, 45, 114, 105, 103, 104, 116]⟩, .string x1, .string ⟨#[101, 100, 103, 101, 45, 98, 111, 116, 116, 111, 109]⟩, .string x0, .string ⟨#[101, 100, 103, 101, 45, 108, 101, 102, 116]⟩, .string x1] 70)) T w2.heap.size ⟨nm, vl, st⟩ x0 x1 x0 x1 A 0 (.slice va A.length vc)) :=
              ⟨by simpa using HO2.out.alloc _, HD2.out.alloc _, PB.new w2 _ _ _ _, fun h => by have := HLT.out T h; omega, fun h => by have h1 := HLT.out _ h; have h2 := HD2.out.lt; omega, HB2.out.alloc HB2.out.size _⟩
            generalize w2.alloc (.cells #[.string ⟨#[101, 100, 103, 101, 45, 116, 111, 112]⟩, .string x0, .string ⟨#[101, 100, 103, 101, 45, 114, 105, 103, 104, 116]⟩, .string x1, .string ⟨#[101, 100, 103, 101, 45, 98, 111, 116, 116, 111, 109]⟩, .string x0, .string ⟨#[101, 100, 103, 101, 45, 108, 101, 102, 116]⟩, .string x1] 70) = w3 at *
            generalize w2.heap.size = E at *
            clear HB2 HO2 HD2 HW2 g0 g1
            go_loopg [4, 67] 4 (fun n u i wr => ∃ q : Nat, n = 4 - q ∧ q ≤ 4 ∧ i = .int .i64 (q : Int) ∧ In w wr T E ⟨nm, vl, st⟩ x0 x1 x0 x1 A q u)
            case atStart => exact ⟨0, rfl, Nat.zero_le _, rfl, HI.out⟩
            case round =>
              clear HI
              obtain ⟨q, hn, hq, rfl, hI⟩ := hrel
              have GQ := hid hn
              have HI := hid hI
              obtain ⟨ua, uc, rfl⟩ := own_form hI.own
              have p := hI.pb.cell
              obtain ⟨_, _, d2⟩ := hI.db.cell
              simp only at d2
              have hTl := hI.db.lt
              have hEl := hI.pb.lt
              rename World => wq
              clear hn hI
              have hq' : q = 0 ∨ q = 1 ∨ q = 2 ∨ q = 3 ∨ q = 4 := by omega
              clear hq
              rcases hq' with rfl | rfl | rfl | rfl | rfl
              · have p0 := p 0
                have p1 := p 1
                simp at p0 p1
                clear p
                have HIa := hid ((HI.out.alloc (.cells #[.string sd0, .string x0] 70)).alloc (.cells #[.string sd0, .string x0, .bool st] 52))
                go_wp2_with (at_builtin; refine wpList_append_lies _ rfl (.tmp 71) (.tmp 79) 33 rfl w.heap.size 52 HINF.choose (.agg #[.string ⟨#[]⟩, .string ⟨#[]⟩, .bool false]) 3 40 Tryd.underlying33 HINF.choose_spec.1 HINF.choose_spec.2.1 HINF.choose_spec.2.2.1 HINF.choose_spec.2.2.2 rfl (by decide) (.slice ua (A.length + 0) uc) (A.length + 0) _ rfl HIa.out.own ⟨wq.heap.size + 1, 0, none⟩ 1 1 (encD ⟨sd0, x0, st⟩) rfl rfl (World.news_of_block (blk_new _ _ (by simp))) (one_d _) (by decide) (by unfold maxLen; omega) (by omega) HIa.out.bel.size _ rfl ?_; intro g cap w5 hown hgrow hat hlt5)
                have HIn := hid (HIa.out.next ⟨sd0, x0, st⟩ rfl hown hgrow hat)
                clear hown hgrow hat hlt5
                go_roundg (4 - 1)
                case measure => have := GQ.out; omega
                case rel => exact ⟨1, rfl, by omega, by go_num, HIn.out⟩
              · have p0 := p 2
                have p1 := p 3
                simp at p0 p1
                clear p
                have HIa := hid ((HI.out.alloc (.cells #[.string sd1, .string x1] 70)).alloc (.cells #[.string sd1, .string x1, .bool st] 52))
                go_wp2_with (at_builtin; refine wpList_append_lies _ rfl (.tmp 71) (.tmp 79) 33 rfl w.heap.size 52 HINF.choose (.agg #[.string ⟨#[]⟩, .string ⟨#[]⟩, .bool false]) 3 40 Tryd.underlying33 HINF.choose_spec.1 HINF.choose_spec.2.1 HINF.choose_spec.2.2.1 HINF.choose_spec.2.2.2 rfl (by decide) (.slice ua (A.length + 1) uc) (A.length + 1) _ rfl HIa.out.own ⟨wq.heap.size + 1, 0, none⟩ 1 1 (encD ⟨sd1, x1, st⟩) rfl rfl (World.news_of_block (blk_new _ _ (by simp))) (one_d _) (by decide) (by unfold maxLen; omega) (by omega) HIa.out.bel.size _ rfl ?_; intro g cap w5 hown hgrow hat hlt5)
                have HIn := hid (HIa.out.next ⟨sd1, x1, st⟩ rfl hown hgrow hat)
                clear hown hgrow hat hlt5
                go_roundg (4 - 2)
                case measure => have := GQ.out; omega
                case rel => exact ⟨2, rfl, by omega, by go_num, HIn.out⟩
              · have p0 := p 4
                have p1 := p 5
                simp at p0 p1
                clear p
                have HIa := hid ((HI.out.alloc (.cells #[.string sd2, .string x0] 70)).alloc (.cells #[.string sd2, .string x0, .bool st] 52))
                go_wp2_with (at_builtin; refine wpList_append_lies _ rfl (.tmp 71) (.tmp 79) 33 rfl w.heap.size 52 HINF.choose (.agg #[.string ⟨#[]⟩, .string ⟨#[]⟩, .bool false]) 3 40 Tryd.underlying33 HINF.choose_spec.1 HINF.choose_spec.2.1 HINF.choose_spec.2.2.1 HINF.choose_spec.2.2.2 rfl (by decide) (.slice ua (A.length + 2) uc) (A.length + 2) _ rfl HIa.out.own ⟨wq.heap.size + 1, 0, none⟩ 1 1 (encD ⟨sd2, x0, st⟩) rfl rfl (World.news_of_block (blk_new _ _ (by simp))) (one_d _) (by decide) (by unfold maxLen; omega) (by omega) HIa.out.bel.size _ rfl ?_; intro g cap w5 hown hgrow hat hlt5)
                have HIn := hid (HIa.out.next ⟨sd2, x0, st⟩ rfl hown hgrow hat)
                clear hown hgrow hat hlt5
                go_roundg (4 - 3)
                case measure => have := GQ.out; omega
                case rel => exact ⟨3, rfl, by omega, by go_num, HIn.out⟩
              · have p0 := p 6
                have p1 := p 7
                simp at p0 p1
                clear p
                have HIa := hid ((HI.out.alloc (.cells #[.string sd3, .string x1] 70)).alloc (.cells #[.string sd3, .string x1, .bool st] 52))
                go_wp2_with (at_builtin; refine wpList_append_lies _ rfl (.tmp 71) (.tmp 79) 33 rfl w.heap.size 52 HINF.choose (.agg #[.string ⟨#[]⟩, .string ⟨#[]⟩, .bool false]) 3 40 Tryd.underlying33 HINF.choose_spec.1 HINF.choose_spec.2.1 HINF.choose_spec.2.2.1 HINF.choose_spec.2.2.2 rfl (by decide) (.slice ua (A.length + 3) uc) (A.length + 3) _ rfl HIa.out.own ⟨wq.heap.size + 1, 0, none⟩ 1 1 (encD ⟨sd3, x1, st⟩) rfl rfl (World.news_of_block (blk_new _ _ (by simp))) (one_d _) (by decide) (by unfold maxLen; omega) (by omega) HIa.out.bel.size _ rfl ?_; intro g cap w5 hown hgrow hat hlt5)
                have HIn := hid (HIa.out.next ⟨sd3, x1, st⟩ rfl hown hgrow hat)
                clear hown hgrow hat hlt5
                go_roundg (4 - 4)
                case measure => have := GQ.out; omega
                case rel => exact ⟨4, rfl, by omega, by go_num, HIn.out⟩
              · clear p d2
                go_wp2_with fail
                go_roundg (l.length - (k + 1))
                case measure => have := GK.out; omega
                case rel => exact ⟨k + 1, A ++ fourB st [x0, x1], rfl, by omega, by go_num, HF.out, by rw [List.length_append]; exact HI.out.own, HI.out.bel⟩
          | [x0, x1, x2], _, _ =>
            obtain ⟨xb, xo, rfl, e0⟩ := Sl.at HW2.out (i := 0) (by simp)
            have g0 := e0.cells
            obtain ⟨xb', xo', hx', e1⟩ := Sl.at HW2.out (i := 1) (by simp)
            injection hx' with hx'
            injection hx' with hx1 hx2
            subst hx1 hx2
            have g1 := e1.cells
            obtain ⟨xb', xo', hx', e2⟩ := Sl.at HW2.out (i := 2) (by simp)
            injection hx' with hx'
            injection hx' with hx1 hx2
            subst hx1 hx2
            have g2 := e2.cells
            simp at g0 g1 g2
            clear e0 e1 e2
            have hmin : min (1 : Int) 2 = 1 := by decide
            go_wp2_with fail
            have HI : Hid (In w (w2.alloc (.cells #[.string ⟨#[101, 100, 103, 101, 45, 116, 111, 112]⟩, .string x0, .string ⟨#[101, 100, 103, 101, 45, 114, 105, 103, 104, 116]⟩, .string x1, .string ⟨#[101, 100, 103, 101, 45, 98, 111, 116, 116, 111, 109]⟩, .string x2, .string ⟨#[101, 100, 103, 101, 45, 108, 101, 102, 116]⟩, .string x1] 70)) T w2.heap.size ⟨nm, vl, st⟩ x0 x1 x2 x1 A 0 (.slice va A.length vc)) :=
              ⟨by simpa using HO2.out.alloc _, HD2.out.alloc _, PB.new w2 _ _ _ _, fun h => by have := HLT.out T h; omega, fun h => by have h1 := HLT.out _ h; have h2 := HD2.out.lt; omega, HB2.out.alloc HB2.out.size _⟩
            generalize w2.alloc (.cells #[.string ⟨#[101, 100, 103, 101, 45, 116, 111, 112]⟩, .string x0, .string ⟨#[101, 100, 103, 101, 45, 114, 105, 103, 104, 116]⟩, .string x1, .string ⟨#[101, 100, 103, 101, 45, 98, 111, 116, 116, 111, 109]⟩, .string x2, .string ⟨#[101, 100, 103, 101, 45, 108, 101, 102, 116]⟩, .string x1] 70) = w3 at *
            generalize w2.heap.size = E at *
            clear HB2 HO2 HD2 HW2 g0 g1 g2
            go_loopg [4, 67] 4 (fun n u i wr => ∃ q : Nat, n = 4 - q ∧ q ≤ 4 ∧ i = .int .i64 (q : Int) ∧ In w wr T E ⟨nm, vl, st⟩ x0 x1 x2 x1 A q u)
            case atStart => exact ⟨0, rfl, Nat.zero_le _, rfl, HI.out⟩
            case round =>
              clear HI
              obtain ⟨q, hn, hq, rfl, hI⟩ := hrel
              have GQ := hid hn
              have HI := hid hI
              obtain ⟨ua, uc, rfl⟩ := own_form hI.own
              have p := hI.pb.cell
              obtain ⟨_, _, d2⟩ := hI.db.cell
              simp only at d2
              have hTl := hI.db.lt
              have hEl := hI.pb.lt
              rename World => wq
              clear hn hI
              have hq' : q = 0 ∨ q = 1 ∨ q = 2 ∨ q = 3 ∨ q = 4 := by omega
              clear hq
              rcases hq' with rfl | rfl | rfl | rfl | rfl
              · have p0 := p 0
                have p1 := p 1
                simp at p0 p1
                clear p
                have HIa := hid ((HI.out.alloc (.cells #[.string sd0, .string x0] 70)).alloc (.cells #[.string sd0, .string x0, .bool st] 52))
                go_wp2_with (at_builtin; refine wpList_append_lies _ rfl (.tmp 71) (.tmp 79) 33 rfl w.heap.size 52 HINF.choose (.agg #[.string ⟨#[]⟩, .string ⟨#[]⟩, .bool false]) 3 40 Tryd.underlying33 HINF.choose_spec.1 HINF.choose_spec.2.1 HINF.choose_spec.2.2.1 HINF.choose_spec.2.2.2 rfl (by decide) (.slice ua (A.length + 0) uc) (A.length + 0) _ rfl HIa.out.own ⟨wq.heap.size + 1, 0, none⟩ 1 1 (encD ⟨sd0, x0, st⟩) rfl rfl (World.news_of_block (blk_new _ _ (by simp))) (one_d _) (by decide) (by unfold maxLen; omega) (by omega) HIa.out.bel.size _ rfl ?_; intro g cap w5 hown hgrow hat hlt5)
                have HIn := hid (HIa.out.next ⟨sd0, x0, st⟩ rfl hown hgrow hat)
                clear hown hgrow hat hlt5
                go_roundg (4 - 1)
                case measure => have := GQ.out; omega
                case rel => exact ⟨1, rfl, by omega, by go_num, HIn.out⟩
              · have p0 := p 2
                have p1 := p 3
                simp at p0 p1
                clear p
                have HIa := hid ((HI.out.alloc (.cells #[.string sd1, .string x1] 70)).alloc (.cells #[.string sd1, .string x1, .bool st] 52))
                go_wp2_with (at_builtin; refine wpList_append_lies _ rfl (.tmp 71) (.tmp 79) 33 rfl w.heap.size 52 HINF.choose (.agg #[.string ⟨#[]⟩, .string ⟨#[]⟩, .bool false]) 3 40 Tryd.underlying33 HINF.choose_spec.1 HINF.choose_spec.2.1 HINF.choose_spec.2.2.1 HINF.choose_spec.2.2.2 rfl (by decide) (.slice ua (A.length + 1) uc) (A.length + 1) _ rfl HIa.out.own ⟨wq.heap.size + 1, 0, none⟩ 1 1 (encD ⟨sd1, x1, st⟩) rfl rfl (World.news_of_block (blk_new _ _ (by simp))) (one_d _) (by decide) (by unfold maxLen; omega) (by omega) HIa.out.bel.size _ rfl ?_; intro g cap w5 hown hgrow hat hlt5)
                have HIn := hid (HIa.out.next ⟨sd1, x1, st⟩ rfl hown hgrow hat)
                clear hown hgrow hat hlt5
                go_roundg (4 - 2)
                case measure => have := GQ.out; omega
                case rel => exact ⟨2, rfl, by omega, by go_num, HIn.out⟩
              · have p0 := p 4
                have p1 := p 5
                simp at p0 p1
                clear p
                have HIa := hid ((HI.out.alloc (.cells #[.string sd2, .string x2] 70)).alloc (.cells #[.string sd2, .string x2, .bool st] 52))
                go_wp2_with (at_builtin; refine wpList_append_lies _ rfl (.tmp 71) (.tmp 79) 33 rfl w.heap.size 52 HINF.choose (.agg #[.string ⟨#[]⟩, .string ⟨#[]⟩, .bool false]) 3 40 Tryd.underlying33 HINF.choose_spec.1 HINF.choose_spec.2.1 HINF.choose_spec.2.2.1 HINF.choose_spec.2.2.2 rfl (by decide) (.slice ua (A.length + 2) uc) (A.length + 2) _ rfl HIa.out.own ⟨wq.heap.size + 1, 0, none⟩ 1 1 (encD ⟨sd2, x2, st⟩) rfl rfl (World.news_of_block (blk_new _ _ (by simp))) (one_d _) (by decide) (by unfold maxLen; omega) (by omega) HIa.out.bel.size _ rfl ?_; intro g cap w5 hown hgrow hat hlt5)
                have HIn := hid (HIa.out.next ⟨sd2, x2, st⟩ rfl hown hgrow hat)
                clear hown hgrow hat hlt5
                go_roundg (4 - 3)
                case measure => have := GQ.out; omega
                case rel => exact ⟨3, rfl, by omega, by go_num, HIn.out⟩
              · have p0 := p 6
                have p1 := p 7
                simp at p0 p1
                clear p
                have HIa := hid ((HI.out.alloc (.cells #[.string sd3, .string x1] 70)).alloc (.cells #[.string sd3, .string x1, .bool st] 52))
                go_wp2_with (at_builtin; refine wpList_append_lies _ rfl (.tmp 71) (.tmp 79) 33 rfl w.heap.size 52 HINF.choose (.agg #[.string ⟨#[]⟩, .string ⟨#[]⟩, .bool false]) 3 40 Tryd.underlying33 HINF.choose_spec.1 HINF.choose_spec.2.1 HINF.choose_spec.2.2.1 HINF.choose_spec.2.2.2 rfl (by decide) (.slice ua (A.length + 3) uc) (A.length + 3) _ rfl HIa.out.own ⟨wq.heap.size + 1, 0, none⟩ 1 1 (encD ⟨sd3, x1, st⟩) rfl rfl (World.news_of_block (blk_new _ _ (by simp))) (one_d _) (by decide) (by unfold maxLen; omega) (by omega) HIa.out.bel.size _ rfl ?_; intro g cap w5 hown hgrow hat hlt5)
                have HIn := hid (HIa.out.next ⟨sd3, x1, st⟩ rfl hown hgrow hat)
                clear hown hgrow hat hlt5
                go_roundg (4 - 4)
                case measure => have := GQ.out; omega
                case rel => exact ⟨4, rfl, by omega, by go_num, HIn.out⟩
              · clear p d2
                go_wp2_with fail
                go_roundg (l.length - (k + 1))
                case measure => have := GK.out; omega
                case rel => exact ⟨k + 1, A ++ fourB st [x0, x1, x2], rfl, by omega, by go_num, HF.out, by rw [List.length_append]; exact HI.out.own, HI.out.bel⟩
          | [x0, x1, x2, x3], _, _ =>
            obtain ⟨xb, xo, rfl, e0⟩ := Sl.at HW2.out (i := 0) (by simp)
            have g0 := e0.cells
            obtain ⟨xb', xo', hx', e1⟩ := Sl.at HW2.out (i := 1) (by simp)
            injection hx' with hx'
            injection hx' with hx1 hx2
            subst hx1 hx2
            have g1 := e1.cells
            obtain ⟨xb', xo', hx', e2⟩ := Sl.at HW2.out (i := 2) (by simp)
            injection hx' with hx'
            injection hx' with hx1 hx2
            subst hx1 hx2
            have g2 := e2.cells
            obtain ⟨xb', xo', hx', e3⟩ := Sl.at HW2.out (i := 3) (by simp)
            injection hx' with hx'
            injection hx' with hx1 hx2
            subst hx1 hx2
            have g3 := e3.cells
            simp at g0 g1 g2 g3
            clear e0 e1 e2 e3
            have hmin : min (1 : Int) 3 = 1 := by decide
            go_wp2_with fail
            have HI : Hid (In w (w2.alloc (.cells #[.string ⟨#[101, 100, 103, 101, 45, 116, 111, 112]⟩, .string x0, .string ⟨#[101, 100, 103, 101, 45, 114, 105, 103, 104, 116]⟩, .string x1, .string ⟨#[101, 100, 103, 101, 45, 98, 111, 116, 116, 111, 109]⟩, .string x2, .string ⟨#[101, 100, 103, 101, 45, 108, 101, 102, 116]⟩, .string x3] 70)) T w2.heap.size ⟨nm, vl, st⟩ x0 x1 x2 x3 A 0 (.slice va A.length vc)) :=
              ⟨by simpa using HO2.out.alloc _, HD2.out.alloc _, PB.new w2 _ _ _ _, fun h => by have := HLT.out T h; omega, fun h => by have h1 := HLT.out _ h; have h2 := HD2.out.lt; omega, HB2.out.alloc HB2.out.size _⟩
            generalize w2.alloc (.cells #[.string ⟨#[101, 100, 103, 101, 45, 116, 111, 112]⟩, .string x0, .string ⟨#[101, 100, 103, 101, 45, 114, 105, 103, 104, 116]⟩, .string x1, .string ⟨#[101, 100, 103, 101, 45, 98, 111, 116, 116, 111, 109]⟩, .string x2, .string ⟨#[101, 100, 103, 101, 45, 108, 101, 102, 116]⟩, .string x3] 70) = w3 at *
            generalize w2.heap.size = E at *
            clear HB2 HO2 HD2 HW2 g0 g1 g2 g3
            go_loopg [4, 67] 4 (fun n u i wr => ∃ q : Nat, n = 4 - q ∧ q ≤ 4 ∧ i = .int .i64 (q : Int) ∧ In w wr T E ⟨nm, vl, st⟩ x0 x1 x2 x3 A q u)
            case atStart => exact ⟨0, rfl, Nat.zero_le _, rfl, HI.out⟩
            case round =>
              clear HI
              obtain ⟨q, hn, hq, rfl, hI⟩ := hrel
              have GQ := hid hn
              have HI := hid hI
              obtain ⟨ua, uc, rfl⟩ := own_form hI.own
              have p := hI.pb.cell
              obtain ⟨_, _, d2⟩ := hI.db.cell
              simp only at d2
              have hTl := hI.db.lt
              have hEl := hI.pb.lt
              rename World => wq
              clear hn hI
              have hq' : q = 0 ∨ q = 1 ∨ q = 2 ∨ q = 3 ∨ q = 4 := by omega
              clear hq
              rcases hq' with rfl | rfl | rfl | rfl | rfl
              · have p0 := p 0
                have p1 := p 1
                simp at p0 p1
                clear p
                have HIa := hid ((HI.out.alloc (.cells #[.string sd0, .string x0] 70)).alloc (.cells #[.string sd0, .string x0, .bool st] 52))
                go_wp2_with (at_builtin; refine wpList_append_lies _ rfl (.tmp 71) (.tmp 79) 33 rfl w.heap.size 52 HINF.choose (.agg #[.string ⟨#[]⟩, .string ⟨#[]⟩, .bool false]) 3 40 Tryd.underlying33 HINF.choose_spec.1 HINF.choose_spec.2.1 HINF.choose_spec.2.2.1 HINF.choose_spec.2.2.2 rfl (by decide) (.slice ua (A.length + 0) uc) (A.length + 0) _ rfl HIa.out.own ⟨wq.heap.size + 1, 0, none⟩ 1 1 (encD ⟨sd0, x0, st⟩) rfl rfl (World.news_of_block (blk_new _ _ (by simp))) (one_d _) (by decide) (by unfold maxLen; omega) (by omega) HIa.out.bel.size _ rfl ?_; intro g cap w5 hown hgrow hat hlt5)
                have HIn := hid (HIa.out.next ⟨sd0, x0, st⟩ rfl hown hgrow hat)
                clear hown hgrow hat hlt5
                go_roundg (4 - 1)
                case measure => have := GQ.out; omega
                case rel => exact ⟨1, rfl, by omega, by go_num, HIn.out⟩
              · have p0 := p 2
                have p1 := p 3
                simp at p0 p1
                clear p
                have HIa := hid ((HI.out.alloc (.cells #[.string sd1, .string x1] 70)).alloc (.cells #[.string sd1, .string x1, .bool st] 52))
                go_wp2_with (at_builtin; refine wpList_append_lies _ rfl (.tmp 71) (.tmp 79) 33 rfl w.heap.size 52 HINF.choose (.agg #[.string ⟨#[]⟩, .string ⟨#[]⟩, .bool false]) 3 40 Tryd.underlying33 HINF.choose_spec.1 HINF.choose_spec.2.1 HINF.choose_spec.2.2.1 HINF.choose_spec.2.2.2 rfl (by decide) (.slice ua (A.length + 1) uc) (A.length + 1) _ rfl HIa.out.own ⟨wq.heap.size + 1, 0, none⟩ 1 1 (encD ⟨sd1, x1, st⟩) rfl rfl (World.news_of_block (blk_new _ _ (by simp))) (one_d _) (by decide) (by unfold maxLen; omega) (by omega) HIa.out.bel.size _ rfl ?_; intro g cap w5 hown hgrow hat hlt5)
                have HIn := hid (HIa.out.next ⟨sd1, x1, st⟩ rfl hown hgrow hat)
                clear hown hgrow hat hlt5
                go_roundg (4 - 2)
                case measure => have := GQ.out; omega
                case rel => exact ⟨2, rfl, by omega, by go_num, HIn.out⟩
              · have p0 := p 4
                have p1 := p 5
                simp at p0 p1
                clear p
                have HIa := hid ((HI.out.alloc (.cells #[.string sd2, .string x2] 70)).alloc (.cells #[.string sd2, .string x2, .bool st] 52))
                go_wp2_with (at_builtin; refine wpList_append_lies _ rfl (.tmp 71) (.tmp 79) 33 rfl w.heap.size 52 HINF.choose (.agg #[.string ⟨#[]⟩, .string ⟨#[]⟩, .bool false]) 3 40 Tryd.underlying33 HINF.choose_spec.1 HINF.choose_spec.2.1 HINF.choose_spec.2.2.1 HINF.choose_spec.2.2.2 rfl (by decide) (.slice ua (A.length + 2) uc) (A.length + 2) _ rfl HIa.out.own ⟨wq.heap.size + 1, 0, none⟩ 1 1 (encD ⟨sd2, x2, st⟩) rfl rfl (World.news_of_block (blk_new _ _ (by simp))) (one_d _) (by decide) (by unfold maxLen; omega) (by omega) HIa.out.bel.size _ rfl ?_; intro g cap w5 hown hgrow hat hlt5)
                have HIn := hid (HIa.out.next ⟨sd2, x2, st⟩ rfl hown hgrow hat)
                clear hown hgrow hat hlt5
                go_roundg (4 - 3)
                case measure => have := GQ.out; omega
                case rel => exact ⟨3, rfl, by omega, by go_num, HIn.out⟩
              · have p0 := p 6
                have p1 := p 7
                simp at p0 p1
                clear p
                have HIa := hid ((HI.out.alloc (.cells #[.string sd3, .string x3] 70)).alloc (.cells #[.string sd3, .string x3, .bool st] 52))
                go_wp2_with (at_builtin; refine wpList_append_lies _ rfl (.tmp 71) (.tmp 79) 33 rfl w.heap.size 52 HINF.choose (.agg #[.string ⟨#[]⟩, .string ⟨#[]⟩, .bool false]) 3 40 Tryd.underlying33 HINF.choose_spec.1 HINF.choose_spec.2.1 HINF.choose_spec.2.2.1 HINF.choose_spec.2.2.2 rfl (by decide) (.slice ua (A.length + 3) uc) (A.length + 3) _ rfl HIa.out.own ⟨wq.heap.size + 1, 0, none⟩ 1 1 (encD ⟨sd3, x3, st⟩) rfl rfl (World.news_of_block (blk_new _ _ (by simp))) (one_d _) (by decide) (by unfold maxLen; omega) (by omega) HIa.out.bel.size _ rfl ?_; intro g cap w5 hown hgrow hat hlt5)
                have HIn := hid (HIa.out.next ⟨sd3, x3, st⟩ rfl hown hgrow hat)
                clear hown hgrow hat hlt5
                go_roundg (4 - 4)
                case measure => have := GQ.out; omega
                case rel => exact ⟨4, rfl, by omega, by go_num, HIn.out⟩
              · clear p d2
                go_wp2_with fail
                go_roundg (l.length - (k + 1))
                case measure => have := GK.out; omega
                case rel => exact ⟨k + 1, A ++ fourB st [x0, x1, x2, x3], rfl, by omega, by go_num, HF.out, by rw [List.length_append]; exact HI.out.own, HI.out.bel⟩
          | x0 :: x1 :: x2 :: x3 :: x4 :: r, h, _ => exact absurd (by simp) h
    · have HE : Hid (allB l = some A) := by
        show _ = _
        have := HA.out
        rw [List.take_of_length_le (by omega)] at this
        exact this
      clear HL'
      go_wp2_with fail
      go_ret2
      rw [HE.out]
      exact ⟨⟨va, vc, rfl, DsAt.own HO.out⟩, HB.out⟩
end Go.Proofs.YtnigckmaklbiaabDoor
