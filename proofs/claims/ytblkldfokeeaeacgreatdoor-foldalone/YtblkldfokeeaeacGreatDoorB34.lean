/- Texts that the statement's proof stands on: W2, FT. -/
import Derived.Test.YtblkldfokeeaeacGreatDoorB33
import Derived.Test.YtblkldfokeeaeacGreatDoorB31
namespace Go.Proofs.YtblkldfokeeaeacGreatDoor
open Go.RowKit
def PB (w : World) (T : Nat) (a b c d : ByteArray) : Prop := w.heap[T]? = some (.cells #[.string sd0, .string a, .string sd1, .string b, .string sd2, .string c, .string sd3, .string d] 158 (0, 0))
theorem PB.cell {w : World} {T : Nat} {a b c d : ByteArray} (h : PB w T a b c d) (j : Nat) : w.cell? ⟨T, j, none⟩ = (#[.string sd0, .string a, .string sd1, .string b, .string sd2, .string c, .string sd3, .string d] : Array Value)[j]? := by
  unfold PB at h
  unfold World.cell?
  rw [h]
  rfl
theorem PB.lt {w : World} {T : Nat} {a b c d : ByteArray} (h : PB w T a b c d) : T < w.heap.size := (Array.getElem?_eq_some_iff.1 h).1
theorem PB.keep {w w' : World} {T : Nat} {a b c d : ByteArray} (h : PB w T a b c d) (e : w'.heap[T]? = w.heap[T]?) : PB w' T a b c d := by
  unfold PB at h ⊢; rw [e]; exact h
theorem PB.alloc {w : World} {T : Nat} {a b c d : ByteArray} (h : PB w T a b c d) (o : Obj) : PB (w.alloc o) T a b c d := h.keep (Below.heap_alloc _ _ _ h.lt)
theorem PB.new (w : World) (a b c d : ByteArray) : PB (w.alloc (.cells #[.string sd0, .string a, .string sd1, .string b, .string sd2, .string c, .string sd3, .string d] 158)) w.heap.size a b c d := heap_alloc_new _ _
def four4 (st : Bool) (t0 t1 t2 t3 : ByteArray) : List Dc := [⟨sd0, t0, st⟩, ⟨sd1, t1, st⟩, ⟨sd2, t2, st⟩, ⟨sd3, t3, st⟩]
structure In (w wr : World) (T E : Nat) (d : Dc) (t0 t1 t2 t3 : ByteArray) (A : List Dc) (q : Nat) (v : Value) : Prop where
  own : wr.ownsRow w.heap.size 40 3 v (A.length + q) ((A ++ (four4 d.strong t0 t1 t2 t3).take q).flatMap encD)
  db : DB wr T d
  pb : PB wr E t0 t1 t2 t3
  nT : v.ownBlock ≠ some T
  nE : v.ownBlock ≠ some E
  bel : Below w.heap.size w wr
theorem blk_new (w : World) (o : Obj) {n : Nat} (h : n = w.heap.size) : (w.alloc o).heap[n]? = some o := by
  subst h; exact heap_alloc_new w o
theorem In.alloc {w wr : World} {T E : Nat} {d : Dc} {t0 t1 t2 t3 : ByteArray} {A : List Dc} {q : Nat} {v : Value} (h : In w wr T E d t0 t1 t2 t3 A q v) (o : Obj) : In w (wr.alloc o) T E d t0 t1 t2 t3 A q v :=
  ⟨h.own.alloc o, h.db.alloc o, h.pb.alloc o, h.nT, h.nE, h.bel.alloc h.bel.size o⟩
theorem grown_block {w w' : World} {g : Option Nat} (h : w.grownBy w' g) {i : Nat} (hi : i < w.heap.size) (hne : g ≠ some i) : w'.heap[i]? = w.heap[i]? := h.block i hi (fun e => hne e.symm)
theorem In.next {w wa : World} {T E : Nat} {d : Dc} {t0 t1 t2 t3 : ByteArray} {A : List Dc} {q : Nat} {v : Value} (h : In w wa T E d t0 t1 t2 t3 A q v) (x : Dc) (hx : (four4 d.strong t0 t1 t2 t3)[q]? = some x) {g cap : Nat} {w' : World}
    (hown : w'.ownsRow w.heap.size 40 3 (.slice (some ⟨g, 0, none⟩) (A.length + q + 1) cap) (A.length + q + 1) ((A ++ (four4 d.strong t0 t1 t2 t3).take q).flatMap encD ++ encD x)) (hg : wa.grownBy w' v.ownBlock) (hat : v.ownBlock = some g ∨ g = wa.heap.size) :
    In w w' T E d t0 t1 t2 t3 A (q + 1) (.slice (some ⟨g, 0, none⟩) (A.length + q + 1) cap) := by
  obtain ⟨hq, hxq⟩ := List.getElem?_eq_some_iff.1 hx
  refine ⟨?_, h.db.keep (grown_block hg h.db.lt h.nT), h.pb.keep (grown_block hg h.pb.lt h.nE), ?_, ?_, h.bel.grown hg h.bel.size (fun j hj => (h.own.lt j hj).1)⟩
  · rw [List.take_succ_eq_append_getElem hq, hxq, ← List.append_assoc, List.flatMap_append]
    rw [show [x].flatMap encD = encD x by simp]
    exact hown
  · show some g ≠ some T
    rcases hat with e | e
    · rw [← e]; exact h.nT
    · have := h.db.lt; intro c; injection c with c; omega
  · show some g ≠ some E
    rcases hat with e | e
    · rw [← e]; exact h.nE
    · have := h.pb.lt; intro c; injection c with c; omega
set_option maxRecDepth 100000 in
set_option maxHeartbeats 20000000 in
theorem rall_any (lv : Value) (l : List Dc) (w : World) (hl : DsAt w lv l) (hs : SmDs l) :
    Calls Tryz.prog 48 #[lv] w fun e w' => Ans w' e (allB l) ∧ Below w.heap.size w w' := by
  obtain ⟨sa, sc, rfl⟩ := Sl.form hl
  have HL := hid hl
  have HS := hid hs.2
  have hll := hs.1
  unfold lim at hll
  clear hl hs
  have HINF := info_parts Tryz.infoD
  go_enter Tryz.func48, Tryz.ntmps48
  go_wp2_with fail
  go_loopg [4, 16] l.length (fun n v i wr => ∃ (k : Nat) (A : List Dc), n = l.length - k ∧ k ≤ l.length ∧ i = .int .i64 (k : Int) ∧ allB (l.take k) = some A ∧ wr.ownsRow w.heap.size 40 3 v A.length (A.flatMap encD) ∧ Below w.heap.size w wr)
  case atStart => exact ⟨0, [], rfl, Nat.zero_le _, rfl, rfl, World.ownsRow_nil _ _ _ _, Below.refl _ _⟩
  case round =>
    obtain ⟨k, A, hn, hk, rfl, hA, hO, hB⟩ := hrel
    have GK := hid hn
    have HO := hid hO
    have HB := hid hB
    have HA := hid hA
    have hAl := allB_len hA
    have HL' := HL.out.ext (Ext.below hB)
    rename World => wo
    obtain ⟨va, vc, rfl⟩ := own_form hO
    clear hn hO hB hA
    have hAs : A.length ≤ 4194304 := by simp at hAl; omega
    clear hAl
    by_cases hlt : k < l.length
    · obtain ⟨b, off, rfl, he⟩ := Sl.at HL' hlt
      obtain ⟨c0, c1, c2⟩ := he.cells
      have HSk := hid (HS.out l[k] (List.getElem_mem hlt))
      have HN1 := hid (allB_next hlt HA.out)
      have HN2 := hid (fun h => allB_none hlt HA.out h)
      clear he HL'
      generalize l[k] = d at *
      have HE := hid (isE_eq d)
      have HX : Hid (expB d = if isE d then (if 4 < (cutB d.val).length then none else some (fourB d.strong (cutB d.val))) else some [d]) := rfl
      have HD := hid (DB.new wo d)
      have HBa : Hid (Below w.heap.size w (wo.alloc (.cells #[.string d.name, .string d.val, .bool d.strong] 40))) := HB.out.alloc HB.out.size _
      have HOa := hid (HO.out.alloc (.cells #[.string d.name, .string d.val, .bool d.strong] 40))
      obtain ⟨nm, vl, st⟩ := d
      simp only at c0 c1 c2 HE HX HD HBa HOa
      cases hq : (nm.toList == [101, 100, 103, 101])
      · have HXX : Hid (expB ⟨nm, vl, st⟩ = some [⟨nm, vl, st⟩]) := by
          show _ = _
          rw [HX.out, HE.out, hq]
          rfl
        have HF : Hid (allB (l.take (k + 1)) = some (A ++ [⟨nm, vl, st⟩])) := by
          show _ = _
          rw [HN1.out, HXX.out]; rfl
        go_wp2_with (at_builtin; refine wpList_app rfl (.tmp 23) (.tmp 25) 34 rfl w.heap.size 40 _ 3 40 Tryz.underlying34 Tryz.infoD rfl (by decide) (.slice va A.length vc) A.length (A.flatMap encD) rfl (HOa.out.alloc _) _ 1 (encD ⟨nm, vl, st⟩) rfl (.inr ⟨_, 1, rfl, World.news_of_block (blk_new _ _ (by simp))⟩) rfl (one_d _) (by unfold maxLen; omega) (by omega) (HBa.out.alloc HBa.out.size _).size ?_; intro v3 w3 hv3 hg3)
        have HB3 : Hid (Below w.heap.size w w3) := (HBa.out.alloc HBa.out.size _).grown hg3 (HBa.out.alloc HBa.out.size _).size (fun j hj => (HO.out.lt j hj).1)
        have HO3 : Hid (w3.ownsRow w.heap.size 40 3 v3 (A ++ [(⟨nm, vl, st⟩ : Dc)]).length ((A ++ [(⟨nm, vl, st⟩ : Dc)]).flatMap encD)) := by
          show World.ownsRow _ _ _ _ _ _ _
          rw [List.length_append, List.flatMap_append]
          simpa using hv3
        clear hv3 hg3
        go_roundg (l.length - (k + 1))
        case measure => have := GK.out; omega
        case rel => exact ⟨k + 1, A ++ [⟨nm, vl, st⟩], rfl, by omega, by go_num, HF.out, HO3.out, HB3.out⟩
      · have HXX : Hid (expB ⟨nm, vl, st⟩ = if 4 < (cutB vl).length then none else some (fourB st (cutB vl))) := by
          show _ = _
          rw [HX.out, HE.out, hq]
          rfl
        go_wp2_with fail
        have HLT : Hid (∀ j, (Value.slice va A.length vc).ownBlock = some j → j < wo.heap.size) := fun j hj => (HO.out.lt j hj).2
        generalize wo.alloc (.cells #[.string nm, .string vl, .bool st] 40) = w1 at *
        generalize wo.heap.size = T at *
        refine (words_any vl w1 HSk.out.2).mono ?_
        rintro e w2 ⟨wa, wc, ws, rfl, hWS, hws, hb2⟩
        obtain ⟨hc1, hc2⟩ := cut_eq hws
        have HB2 := hid (below_trans HBa.out hb2 (Nat.le_refl _))
        have HO2 := hid (own_ext HOa.out hb2)
        have HD2 := hid (HD.out.below hb2)
        have HW2 := hid hWS
        clear hb2 hWS hws HOa HBa HD
        by_cases h4 : 4 < ws.length
        · have HF : Hid (allB l = none) := HN2.out (by rw [HXX.out, if_pos (hc1.1 h4)])
          clear hc1 hc2
          go_wp2_with fail
          go_ret2
          rw [HF.out]
          exact ⟨rfl, HB2.out⟩
        · have HF : Hid (allB (l.take (k + 1)) = some (A ++ fourB st ws)) := by
            show _ = _
            rw [HN1.out, HXX.out, if_neg (fun h => h4 (hc1.2 h)), hc2 h4]; rfl
          have hpos : 0 < ws.length := by rw [← hc2 h4]; exact cut_pos vl
          clear hc1 hc2
          match ws, h4, hpos with
          | [x0], _, _ =>
            obtain ⟨xb, xo, rfl, e0⟩ := Sl.at HW2.out (i := 0) (by simp)
            have g0 := e0.cells
            simp at g0
            clear e0
            have hmin : min (1 : Int) 0 = 0 := by decide
            go_wp2_with fail
            have HI : Hid (In w (w2.alloc (.cells #[.string ⟨#[101, 100, 103, 101, 45, 116, 111, 112]⟩, .string x0, .string ⟨#[101, 100, 103, 101, 45, 114, 105, 103, 104, 116]⟩, .string x0, .string ⟨#[101, 100, 103, 101, 45, 98, 111, 116, 116, 111, 109]⟩, .string x0, .string ⟨#[101, 100, 103, 101, 45, 108, 101, 102, 116]⟩, .string x0] 158)) T w2.heap.size ⟨nm, vl, st⟩ x0 x0 x0 x0 A 0 (.slice va A.length vc)) :=
              ⟨by simpa using HO2.out.alloc _, HD2.out.alloc _, PB.new w2 _ _ _ _, fun h => by have := HLT.out T h; omega, fun h => by have h1 := HLT.out _ h; have h2 := HD2.out.lt; omega, HB2.out.alloc HB2.out.size _⟩
            generalize w2.alloc (.cells #[.string ⟨#[101, 100, 103, 101, 45, 116, 111, 112]⟩, .string x0, .string ⟨#[101, 100, 103, 101, 45, 114, 105, 103, 104, 116]⟩, .string x0, .string ⟨#[101, 100, 103, 101, 45, 98, 111, 116, 116, 111, 109]⟩, .string x0, .string ⟨#[101, 100, 103, 101, 45, 108, 101, 102, 116]⟩, .string x0] 158) = w3 at *
            generalize w2.heap.size = E at *
            clear HB2 HO2 HD2 HW2 g0
            go_loopg [4, 67] 4 (fun n u i wr => ∃ q : Nat, n = 4 - q ∧ q ≤ 4 ∧ i = .int .i64 (q : Int) ∧ In w wr T E ⟨nm, vl, st⟩ x0 x0 x0 x0 A q u)
            case atStart => exact ⟨0, rfl, Nat.zero_le _, rfl, HI.out⟩
            case round =>
              clear HI
              obtain ⟨q, hn, hq, rfl, hI⟩ := hrel
              have GQ := hid hn
              have HI := hid hI
              obtain ⟨ua, uc, rfl⟩ := own_form hI.own
              have p := hI.pb.cell
              obtain ⟨_, _, d2⟩ := hI.db.cell
              simp only at d2
              have hTl := hI.db.lt
              have hEl := hI.pb.lt
              rename World => wq
              clear hn hI
              have hq' : q = 0 ∨ q = 1 ∨ q = 2 ∨ q = 3 ∨ q = 4 := by omega
              clear hq
              rcases hq' with rfl | rfl | rfl | rfl | rfl
              · have p0 := p 0
                have p1 := p 1
                simp at p0 p1
                clear p
                have HIa := hid ((HI.out.alloc (.cells #[.string sd0, .string x0] 158)).alloc (.cells #[.string sd0, .string x0, .bool st] 40))
                go_wp2_with (at_builtin; refine wpList_append_lies _ rfl (.tmp 71) (.tmp 79) 34 rfl w.heap.size 40 HINF.choose (.agg #[.string ⟨#[]⟩, .string ⟨#[]⟩, .bool false]) 3 40 Tryz.underlying34 HINF.choose_spec.1 HINF.choose_spec.2.1 HINF.choose_spec.2.2.1 HINF.choose_spec.2.2.2 rfl (by decide) (.slice ua (A.length + 0) uc) (A.length + 0) _ rfl HIa.out.own ⟨wq.heap.size + 1, 0, none⟩ 1 1 (encD ⟨sd0, x0, st⟩) rfl rfl (World.news_of_block (blk_new _ _ (by simp))) (one_d _) (by decide) (by unfold maxLen; omega) (by omega) HIa.out.bel.size _ rfl ?_; intro g cap w5 hown hgrow hat hlt5)
                have HIn := hid (HIa.out.next ⟨sd0, x0, st⟩ rfl hown hgrow hat)
                clear hown hgrow hat hlt5
                go_roundg (4 - 1)
                case measure => have := GQ.out; omega
                case rel => exact ⟨1, rfl, by omega, by go_num, HIn.out⟩
              · have p0 := p 2
                have p1 := p 3
                simp at p0 p1
                clear p
                have HIa := hid ((HI.out.alloc (.cells #[.string sd1, .string x0] 158)).alloc (.cells #[.string sd1, .string x0, .bool st] 40))
                go_wp2_with (at_builtin; refine wpList_append_lies _ rfl (.tmp 71) (.tmp 79) 34 rfl w.heap.size 40 HINF.choose (.agg #[.string ⟨#[]⟩, .string ⟨#[]⟩, .bool false]) 3 40 Tryz.underlying34 HINF.choose_spec.1 HINF.choose_spec.2.1 HINF.choose_spec.2.2.1 HINF.choose_spec.2.2.2 rfl (by decide) (.slice ua (A.length + 1) uc) (A.length + 1) _ rfl HIa.out.own ⟨wq.heap.size + 1, 0, none⟩ 1 1 (encD ⟨sd1, x0, st⟩) rfl rfl (World.news_of_block (blk_new _ _ (by simp))) (one_d _) (by decide) (by unfold maxLen; omega) (by omega) HIa.out.bel.size _ rfl ?_; intro g cap w5 hown hgrow hat hlt5)
                have HIn := hid (HIa.out.next ⟨sd1, x0, st⟩ rfl hown hgrow hat)
                clear hown hgrow hat hlt5
                go_roundg (4 - 2)
                case measure => have := GQ.out; omega
                case rel => exact ⟨2, rfl, by omega, by go_num, HIn.out⟩
              · have p0 := p 4
                have p1 := p 5
                simp at p0 p1
                clear p
                have HIa := hid ((HI.out.alloc (.cells #[.string sd2, .string x0] 158)).alloc (.cells #[.string sd2, .string x0, .bool st] 40))
                go_wp2_with (at_builtin; refine wpList_append_lies _ rfl (.tmp 71) (.tmp 79) 34 rfl w.heap.size 40 HINF.choose (.agg #[.string ⟨#[]⟩, .string ⟨#[]⟩, .bool false]) 3 40 Tryz.underlying34 HINF.choose_spec.1 HINF.choose_spec.2.1 HINF.choose_spec.2.2.1 HINF.choose_spec.2.2.2 rfl (by decide) (.slice ua (A.length + 2) uc) (A.length + 2) _ rfl HIa.out.own ⟨wq.heap.size + 1, 0, none⟩ 1 1 (encD ⟨sd2, x0, st⟩) rfl rfl (World.news_of_block (blk_new _ _ (by simp))) (one_d _) (by decide) (by unfold maxLen; omega) (by omega) HIa.out.bel.size _ rfl ?_; intro g cap w5 hown hgrow hat hlt5)
                have HIn := hid (HIa.out.next ⟨sd2, x0, st⟩ rfl hown hgrow hat)
                clear hown hgrow hat hlt5
                go_roundg (4 - 3)
                case measure => have := GQ.out; omega
                case rel => exact ⟨3, rfl, by omega, by go_num, HIn.out⟩
              · have p0 := p 6
                have p1 := p 7
                simp at p0 p1
                clear p
                have HIa := hid ((HI.out.alloc (.cells #[.string sd3, .string x0] 158)).alloc (.cells #[.string sd3, .string x0, .bool st] 40))
                go_wp2_with (at_builtin; refine wpList_append_lies _ rfl (.tmp 71) (.tmp 79) 34 rfl w.heap.size 40 HINF.choose (.agg #[.string ⟨#[]⟩, .string ⟨#[]⟩, .bool false]) 3 40 Tryz.underlying34 HINF.choose_spec.1 HINF.choose_spec.2.1 HINF.choose_spec.2.2.1 HINF.choose_spec.2.2.2 rfl (by decide) (.slice ua (A.length + 3) uc) (A.length + 3) _ rfl HIa.out.own ⟨wq.heap.size + 1, 0, none⟩ 1 1 (encD ⟨sd3, x0, st⟩) rfl rfl (World.news_of_block (blk_new _ _ (by simp))) (one_d _) (by decide) (by unfold maxLen; omega) (by omega) HIa.out.bel.size _ rfl ?_; intro g cap w5 hown hgrow hat hlt5)
                have HIn := hid (HIa.out.next ⟨sd3, x0, st⟩ rfl hown hgrow hat)
                clear hown hgrow hat hlt5
                go_roundg (4 - 4)
                case measure => have := GQ.out; omega
                case rel => exact ⟨4, rfl, by omega, by go_num, HIn.out⟩
              · clear p d2
                go_wp2_with fail
                go_roundg (l.length - (k + 1))
                case measure => have := GK.out; omega
                case rel => exact ⟨k + 1, A ++ fourB st [x0], rfl, by omega, by go_num, HF.out, by rw [List.length_append]; exact HI.out.own, HI.out.bel⟩
          | [x0, x1], _, _ =>
            obtain ⟨xb, xo, rfl, e0⟩ := Sl.at HW2.out (i := 0) (by simp)
            have g0 := e0.cells
            obtain ⟨xb', xo', hx', e1⟩ := Sl.at HW2.out (i := 1) (by simp)
            injection hx' with hx'
            injection hx' with hx1 hx2
            subst hx1 hx2
            have g1 := e1.cells
            simp at g0 g1
            clear e0 e1
            have hmin : min (1 : Int) 1 = 1 := by decide
            go_wp2_with fail
            have HI : Hid (In w (w2.alloc (.cells #[.string ⟨#[101, 100, 103, 101, 45, 116, 111, 112]⟩, .string x0, .string ⟨#[101, 100, 103, 101, 45, 114, 105, 103, 104, 116]⟩, .string x1, .string ⟨#[101, 100, 103, 101, 45, 98, 111, 116, 116, 111, 109]⟩, .string x0, .string ⟨#[101, 100, 103, 101, 45, 108, 101, 102, 116]⟩, .string x1] 158)) T w2.heap.size ⟨nm, vl, st⟩ x0 x1 x0 x1 A 0 (.slice va A.length vc)) :=
              ⟨by simpa using HO2.out.alloc _, HD2.out.alloc _, PB.new w2 _ _ _ _, fun h => by have := HLT.out T h; omega, fun h => by have h1 := HLT.out _ h; have h2 := HD2.out.lt; omega, HB2.out.alloc HB2.out.size _⟩
            generalize w2.alloc (.cells #[.string ⟨#[101, 100, 103, 101, 45, 116, 111, 112]⟩, .string x0, .string ⟨#[101, 100, 103, 101, 45, 114, 105, 103, 104, 116]⟩, .string x1, .string ⟨#[101, 100, 103, 101, 45, 98, 111, 116, 116, 111, 109]⟩, .string x0, .string ⟨#[101, 100, 103, 101, 45, 108, 101, 102, 116]⟩, .string x1] 158) = w3 at *
            generalize w2.heap.size = E at *
            clear HB2 HO2 HD2 HW2 g0 g1
            go_loopg [4, 67] 4 (fun n u i wr => ∃ q : Nat, n = 4 - q ∧ q ≤ 4 ∧ i = .int .i64 (q : Int) ∧ In w wr T E ⟨nm, vl, st⟩ x0 x1 x0 x1 A q u)
            case atStart => exact ⟨0, rfl, Nat.zero_le _, rfl, HI.out⟩
            case round =>
              clear HI
              obtain ⟨q, hn, hq, rfl, hI⟩ := hrel
              have GQ := hid hn
              have HI := hid hI
              obtain ⟨ua, uc, rfl⟩ := own_form hI.own
              have p := hI.pb.cell
              obtain ⟨_, _, d2⟩ := hI.db.cell
              simp only at d2
              have hTl := hI.db.lt
              have hEl := hI.pb.lt
              rename World => wq
              clear hn hI
              have hq' : q = 0 ∨ q = 1 ∨ q = 2 ∨ q = 3 ∨ q = 4 := by omega
              clear hq
              rcases hq' with rfl | rfl | rfl | rfl | rfl
              · have p0 := p 0
                have p1 := p 1
                simp at p0 p1
                clear p
                have HIa := hid ((HI.out.alloc (.cells #[.string sd0, .string x0] 158)).alloc (.cells #[.string sd0, .string x0, .bool st] 40))
                go_wp2_with (at_builtin; refine wpList_append_lies _ rfl (.tmp 71) (.tmp 79) 34 rfl w.heap.size 40 HINF.choose (.agg #[.string ⟨#[]⟩, .string ⟨#[]⟩, .bool false]) 3 40 Tryz.underlying34 HINF.choose_spec.1 HINF.choose_spec.2.1 HINF.choose_spec.2.2.1 HINF.choose_spec.2.2.2 rfl (by decide) (.slice ua (A.length + 0) uc) (A.length + 0) _ rfl HIa.out.own ⟨wq.heap.size + 1, 0, none⟩ 1 1 (encD ⟨sd0, x0, st⟩) rfl rfl (World.news_of_block (blk_new _ _ (by simp))) (one_d _) (by decide) (by unfold maxLen; omega) (by omega) HIa.out.bel.size _ rfl ?_; intro g cap w5 hown hgrow hat hlt5)
                have HIn := hid (HIa.out.next ⟨sd0, x0, st⟩ rfl hown hgrow hat)
                clear hown hgrow hat hlt5
                go_roundg (4 - 1)
                case measure => have := GQ.out; omega
                case rel => exact ⟨1, rfl, by omega, by go_num, HIn.out⟩
              · have p0 := p 2
                have p1 := p 3
                simp at p0 p1
                clear p
                have HIa := hid ((HI.out.alloc (.cells #[.string sd1, .string x1] 158)).alloc (.cells #[.string sd1, .string x1, .bool st] 40))
                go_wp2_with (at_builtin; refine wpList_append_lies _ rfl (.tmp 71) (.tmp 79) 34 rfl w.heap.size 40 HINF.choose (.agg #[.string ⟨#[]⟩, .string ⟨#[]⟩, .bool false]) 3 40 Tryz.underlying34 HINF.choose_spec.1 HINF.choose_spec.2.1 HINF.choose_spec.2.2.1 HINF.choose_spec.2.2.2 rfl (by decide) (.slice ua (A.length + 1) uc) (A.length + 1) _ rfl HIa.out.own ⟨wq.heap.size + 1, 0, none⟩ 1 1 (encD ⟨sd1, x1, st⟩) rfl rfl (World.news_of_block (blk_new _ _ (by simp))) (one_d _) (by decide) (by unfold maxLen; omega) (by omega) HIa.out.bel.size _ rfl ?_; intro g cap w5 hown hgrow hat hlt5)
                have HIn := hid (HIa.out.next ⟨sd1, x1, st⟩ rfl hown hgrow hat)
                clear hown hgrow hat hlt5
                go_roundg (4 - 2)
                case measure => have := GQ.out; omega
                case rel => exact ⟨2, rfl, by omega, by go_num, HIn.out⟩
              · have p0 := p 4
                have p1 := p 5
                simp at p0 p1
                clear p
                have HIa := hid ((HI.out.alloc (.cells #[.string sd2, .string x0] 158)).alloc (.cells #[.string sd2, .string x0, .bool st] 40))
                go_wp2_with (at_builtin; refine wpList_append_lies _ rfl (.tmp 71) (.tmp 79) 34 rfl w.heap.size 40 HINF.choose (.agg #[.string ⟨#[]⟩, .string ⟨#[]⟩, .bool false]) 3 40 Tryz.underlying34 HINF.choose_spec.1 HINF.choose_spec.2.1 HINF.choose_spec.2.2.1 HINF.choose_spec.2.2.2 rfl (by decide) (.slice ua (A.length + 2) uc) (A.length + 2) _ rfl HIa.out.own ⟨wq.heap.size + 1, 0, none⟩ 1 1 (encD ⟨sd2, x0, st⟩) rfl rfl (World.news_of_block (blk_new _ _ (by simp))) (one_d _) (by decide) (by unfold maxLen; omega) (by omega) HIa.out.bel.size _ rfl ?_; intro g cap w5 hown hgrow hat hlt5)
                have HIn := hid (HIa.out.next ⟨sd2, x0, st⟩ rfl hown hgrow hat)
                clear hown hgrow hat hlt5
                go_roundg (4 - 3)
                case measure => have := GQ.out; omega
                case rel => exact ⟨3, rfl, by omega, by go_num, HIn.out⟩
              · have p0 := p 6
                have p1 := p 7
                simp at p0 p1
                clear p
                have HIa := hid ((HI.out.alloc (.cells #[.string sd3, .string x1] 158)).alloc (.cells #[.string sd3, .string x1, .bool st] 40))
                go_wp2_with (at_builtin; refine wpList_append_lies _ rfl (.tmp 71) (.tmp 79) 34 rfl w.heap.size 40 HINF.choose (.agg #[.string ⟨#[]⟩, .string ⟨#[]⟩, .bool false]) 3 40 Tryz.underlying34 HINF.choose_spec.1 HINF.choose_spec.2.1 HINF.choose_spec.2.2.1 HINF.choose_spec.2.2.2 rfl (by decide) (.slice ua (A.length + 3) uc) (A.length + 3) _ rfl HIa.out.own ⟨wq.heap.size + 1, 0, none⟩ 1 1 (encD ⟨sd3, x1, st⟩) rfl rfl (World.news_of_block (blk_new _ _ (by simp))) (one_d _) (by decide) (by unfold maxLen; omega) (by omega) HIa.out.bel.size _ rfl ?_; intro g cap w5 hown hgrow hat hlt5)
                have HIn := hid (HIa.out.next ⟨sd3, x1, st⟩ rfl hown hgrow hat)
                clear hown hgrow hat hlt5
                go_roundg (4 - 4)
                case measure => have := GQ.out; omega
                case rel => exact ⟨4, rfl, by omega, by go_num, HIn.out⟩
              · clear p d2
                go_wp2_with fail
                go_roundg (l.length - (k + 1))
                case measure => have := GK.out; omega
                case rel => exact ⟨k + 1, A ++ fourB st [x0, x1], rfl, by omega, by go_num, HF.out, by rw [List.length_append]; exact HI.out.own, HI.out.bel⟩
          | [x0, x1, x2], _, _ =>
            obtain ⟨xb, xo, rfl, e0⟩ := Sl.at HW2.out (i := 0) (by simp)
            have g0 := e0.cells
            obtain ⟨xb', xo', hx', e1⟩ := Sl.at HW2.out (i := 1) (by simp)
            injection hx' with hx'
            injection hx' with hx1 hx2
            subst hx1 hx2
            have g1 := e1.cells
            obtain ⟨xb', xo', hx', e2⟩ := Sl.at HW2.out (i := 2) (by simp)
            injection hx' with hx'
            injection hx' with hx1 hx2
            subst hx1 hx2
            have g2 := e2.cells
            simp at g0 g1 g2
            clear e0 e1 e2
            have hmin : min (1 : Int) 2 = 1 := by decide
            go_wp2_with fail
            have HI : Hid (In w (w2.alloc (.cells #[.string ⟨#[101, 100, 103, 101, 45, 116, 111, 112]⟩, .string x0, .string ⟨#[101, 100, 103, 101, 45, 114, 105, 103, 104, 116]⟩, .string x1, .string ⟨#[101, 100, 103, 101, 45, 98, 111, 116, 116, 111, 109]⟩, .string x2, .string ⟨#[101, 100, 103, 101, 45, 108, 101, 102, 116]⟩, .string x1] 158)) T w2.heap.size ⟨nm, vl, st⟩ x0 x1 x2 x1 A 0 (.slice va A.length vc)) :=
              ⟨by simpa using HO2.out.alloc _, HD2.out.alloc _, PB.new w2 _ _ _ _, fun h => by have := HLT.out T h; omega, fun h => by have h1 := HLT.out _ h; have h2 := HD2.out.lt; omega, HB2.out.alloc HB2.out.size _⟩
            generalize w2.alloc (.cells #[.string ⟨#[101, 100, 103, 101, 45, 116, 111, 112]⟩, .string x0, .string ⟨#[101, 100, 103, 101, 45, 114, 105, 103, 104, 116]⟩, .string x1, .string ⟨#[101, 100, 103, 101, 45, 98, 111, 116, 116, 111, 109]⟩, .string x2, .string ⟨#[101, 100, 103, 101, 45, 108, 101, 102, 116]⟩, .string x1] 158) = w3 at *
            generalize w2.heap.size = E at *
            clear HB2 HO2 HD2 HW2 g0 g1 g2
            go_loopg [4, 67] 4 (fun n u i wr => ∃ q : Nat, n = 4 - q ∧ q ≤ 4 ∧ i = .int .i64 (q : Int) ∧ In w wr T E ⟨nm, vl, st⟩ x0 x1 x2 x1 A q u)
            case atStart => exact ⟨0, rfl, Nat.zero_le _, rfl, HI.out⟩
            case round =>
              clear HI
              obtain ⟨q, hn, hq, rfl, hI⟩ := hrel
              have GQ := hid hn
              have HI := hid hI
              obtain ⟨ua, uc, rfl⟩ := own_form hI.own
              have p := hI.pb.cell
              obtain ⟨_, _, d2⟩ := hI.db.cell
              simp only at d2
              have hTl := hI.db.lt
              have hEl := hI.pb.lt
              rename World => wq
              clear hn hI
              have hq' : q = 0 ∨ q = 1 ∨ q = 2 ∨ q = 3 ∨ q = 4 := by omega
              clear hq
              rcases hq' with rfl | rfl | rfl | rfl | rfl
              · have p0 := p 0
                have p1 := p 1
                simp at p0 p1
                clear p
                have HIa := hid ((HI.out.alloc (.cells #[.string sd0, .string x0] 158)).alloc (.cells #[.string sd0, .string x0, .bool st] 40))
                go_wp2_with (at_builtin; refine wpList_append_lies _ rfl (.tmp 71) (.tmp 79) 34 rfl w.heap.size 40 HINF.choose (.agg #[.string ⟨#[]⟩, .string ⟨#[]⟩, .bool false]) 3 40 Tryz.underlying34 HINF.choose_spec.1 HINF.choose_spec.2.1 HINF.choose_spec.2.2.1 HINF.choose_spec.2.2.2 rfl (by decide) (.slice ua (A.length + 0) uc) (A.length + 0) _ rfl HIa.out.own ⟨wq.heap.size + 1, 0, none⟩ 1 1 (encD ⟨sd0, x0, st⟩) rfl rfl (World.news_of_block (blk_new _ _ (by simp))) (one_d _) (by decide) (by unfold maxLen; omega) (by omega) HIa.out.bel.size _ rfl ?_; intro g cap w5 hown hgrow hat hlt5)
                have HIn := hid (HIa.out.next ⟨sd0, x0, st⟩ rfl hown hgrow hat)
                clear hown hgrow hat hlt5
                go_roundg (4 - 1)
                case measure => have := GQ.out; omega
                case rel => exact ⟨1, rfl, by omega, by go_num, HIn.out⟩
              · have p0 := p 2
                have p1 := p 3
                simp at p0 p1
                clear p
                have HIa := hid ((HI.out.alloc (.cells #[.string sd1, .string x1] 158)).alloc (.cells #[.string sd1, .string x1, .bool st] 40))
                go_wp2_with (at_builtin; refine wpList_append_lies _ rfl (.tmp 71) (.tmp 79) 34 rfl w.heap.size 40 HINF.choose (.agg #[.string ⟨#[]⟩, .string ⟨#[]⟩, .bool false]) 3 40 Tryz.underlying34 HINF.choose_spec.1 HINF.choose_spec.2.1 HINF.choose_spec.2.2.1 HINF.choose_spec.2.2.2 rfl (by decide) (.slice ua (A.length + 1) uc) (A.length + 1) _ rfl HIa.out.own ⟨wq.heap.size + 1, 0, none⟩ 1 1 (encD ⟨sd1, x1, st⟩) rfl rfl (World.news_of_block (blk_new _ _ (by simp))) (one_d _) (by decide) (by unfold maxLen; omega) (by omega) HIa.out.bel.size _ rfl ?_; intro g cap w5 hown hgrow hat hlt5)
                have HIn := hid (HIa.out.next ⟨sd1, x1, st⟩ rfl hown hgrow hat)
                clear hown hgrow hat hlt5
                go_roundg (4 - 2)
                case measure => have := GQ.out; omega
                case rel => exact ⟨2, rfl, by omega, by go_num, HIn.out⟩
              · have p0 := p 4
                have p1 := p 5
                simp at p0 p1
                clear p
                have HIa := hid ((HI.out.alloc (.cells #[.string sd2, .string x2] 158)).alloc (.cells #[.string sd2, .string x2, .bool st] 40))
                go_wp2_with (at_builtin; refine wpList_append_lies _ rfl (.tmp 71) (.tmp 79) 34 rfl w.heap.size 40 HINF.choose (.agg #[.string ⟨#[]⟩, .string ⟨#[]⟩, .bool false]) 3 40 Tryz.underlying34 HINF.choose_spec.1 HINF.choose_spec.2.1 HINF.choose_spec.2.2.1 HINF.choose_spec.2.2.2 rfl (by decide) (.slice ua (A.length + 2) uc) (A.length + 2) _ rfl HIa.out.own ⟨wq.heap.size + 1, 0, none⟩ 1 1 (encD ⟨sd2, x2, st⟩) rfl rfl (World.news_of_block (blk_new _ _ (by simp))) (one_d _) (by decide) (by unfold maxLen; omega) (by omega) HIa.out.bel.size _ rfl ?_; intro g cap w5 hown hgrow hat hlt5)
                have HIn := hid (HIa.out.next ⟨sd2, x2, st⟩ rfl hown hgrow hat)
                clear hown hgrow hat hlt5
                go_roundg (4 - 3)
                case measure => have := GQ.out; omega
                case rel => exact ⟨3, rfl, by omega, by go_num, HIn.out⟩
              · have p0 := p 6
                have p1 := p 7
                simp at p0 p1
                clear p
                have HIa := hid ((HI.out.alloc (.cells #[.string sd3, .string x1] 158)).alloc (.cells #[.string sd3, .string x1, .bool st] 40))
                go_wp2_with (at_builtin; refine wpList_append_lies _ rfl (.tmp 71) (.tmp 79) 34 rfl w.heap.size 40 HINF.choose (.agg #[.string ⟨#[]⟩, .string ⟨#[]⟩, .bool false]) 3 40 Tryz.underlying34 HINF.choose_spec.1 HINF.choose_spec.2.1 HINF.choose_spec.2.2.1 HINF.choose_spec.2.2.2 rfl (by decide) (.slice ua (A.length + 3) uc) (A.length + 3) _ rfl HIa.out.own ⟨wq.heap.size + 1, 0, none⟩ 1 1 (encD ⟨sd3, x1, st⟩) rfl rfl (World.news_of_block (blk_new _ _ (by simp))) (one_d _) (by decide) (by unfold maxLen; omega) (by omega) HIa.out.bel.size _ rfl ?_; intro g cap w5 hown hgrow hat hlt5)
                have HIn := hid (HIa.out.next ⟨sd3, x1, st⟩ rfl hown hgrow hat)
                clear hown hgrow hat hlt5
                go_roundg (4 - 4)
                case measure => have := GQ.out; omega
                case rel => exact ⟨4, rfl, by omega, by go_num, HIn.out⟩
              · clear p d2
                go_wp2_with fail
                go_roundg (l.length - (k + 1))
                case measure => have := GK.out; omega
                case rel => exact ⟨k + 1, A ++ fourB st [x0, x1, x2], rfl, by omega, by go_num, HF.out, by rw [List.length_append]; exact HI.out.own, HI.out.bel⟩
          | [x0, x1, x2, x3], _, _ =>
            obtain ⟨xb, xo, rfl, e0⟩ := Sl.at HW2.out (i := 0) (by simp)
            have g0 := e0.cells
            obtain ⟨xb', xo', hx', e1⟩ := Sl.at HW2.out (i := 1) (by simp)
            injection hx' with hx'
            injection hx' with hx1 hx2
            subst hx1 hx2
            have g1 := e1.cells
            obtain ⟨xb', xo', hx', e2⟩ := Sl.at HW2.out (i := 2) (by simp)
            injection hx' with hx'
            injection hx' with hx1 hx2
            subst hx1 hx2
            have g2 := e2.cells
            obtain ⟨xb', xo', hx', e3⟩ := Sl.at HW2.out (i := 3) (by simp)
            injection hx' with hx'
            injection hx' with hx1 hx2
            subst hx1 hx2
            have g3 := e3.cells
            simp at g0 g1 g2 g3
            clear e0 e1 e2 e3
            have hmin : min (1 : Int) 3 = 1 := by decide
            go_wp2_with fail
            have HI : Hid (In w (w2.alloc (.cells #[.string ⟨#[101, 100, 103, 101, 45, 116, 111, 112]⟩, .string x0, .string ⟨#[101, 100, 103, 101, 45, 114, 105, 103, 104, 116]⟩, .string x1, .string ⟨#[101, 100, 103, 101, 45, 98, 111, 116, 116, 111, 109]⟩, .string x2, .string ⟨#[101, 100, 103, 101, 45, 108, 101, 102, 116]⟩, .string x3] 158)) T w2.heap.size ⟨nm, vl, st⟩ x0 x1 x2 x3 A 0 (.slice va A.length vc)) :=
              ⟨by simpa using HO2.out.alloc _, HD2.out.alloc _, PB.new w2 _ _ _ _, fun h => by have := HLT.out T h; omega, fun h => by have h1 := HLT.out _ h; have h2 := HD2.out.lt; omega, HB2.out.alloc HB2.out.size _⟩
            generalize w2.alloc (.cells #[.string ⟨#[101, 100, 103, 101, 45, 116, 111, 112]⟩, .string x0, .string ⟨#[101, 100, 103, 101, 45, 114, 105, 103, 104, 116]⟩, .string x1, .string ⟨#[101, 100, 103, 101, 45, 98, 111, 116, 116, 111, 109]⟩, .string x2, .string ⟨#[101, 100, 103, 101, 45, 108, 101, 102, 116]⟩, .string x3] 158) = w3 at *
            generalize w2.heap.size = E at *
            clear HB2 HO2 HD2 HW2 g0 g1 g2 g3
            go_loopg [4, 67] 4 (fun n u i wr => ∃ q : Nat, n = 4 - q ∧ q ≤ 4 ∧ i = .int .i64 (q : Int) ∧ In w wr T E ⟨nm, vl, st⟩ x0 x1 x2 x3 A q u)
            case atStart => exact ⟨0, rfl, Nat.zero_le _, rfl, HI.out⟩
            case round =>
              clear HI
              obtain ⟨q, hn, hq, rfl, hI⟩ := hrel
              have GQ := hid hn
              have HI := hid hI
              obtain ⟨ua, uc, rfl⟩ := own_form hI.own
              have p := hI.pb.cell
              obtain ⟨_, _, d2⟩ := hI.db.cell
              simp only at d2
              have hTl := hI.db.lt
              have hEl := hI.pb.lt
              rename World => wq
              clear hn hI
              have hq' : q = 0 ∨ q = 1 ∨ q = 2 ∨ q = 3 ∨ q = 4 := by omega
              clear hq
              rcases hq' with rfl | rfl | rfl | rfl | rfl
              · have p0 := p 0
                have p1 := p 1
                simp at p0 p1
                clear p
                have HIa := hid ((HI.out.alloc (.cells #[.string sd0, .string x0] 158)).alloc (.cells #[.string sd0, .string x0, .bool st] 40))
                go_wp2_with (at_builtin; refine wpList_append_lies _ rfl (.tmp 71) (.tmp 79) 34 rfl w.heap.size 40 HINF.choose (.agg #[.string ⟨#[]⟩, .string ⟨#[]⟩, .bool false]) 3 40 Tryz.underlying34 HINF.choose_spec.1 HINF.choose_spec.2.1 HINF.choose_spec.2.2.1 HINF.choose_spec.2.2.2 rfl (by decide) (.slice ua (A.length + 0) uc) (A.length + 0) _ rfl HIa.out.own ⟨wq.heap.size + 1, 0, none⟩ 1 1 (encD ⟨sd0, x0, st⟩) rfl rfl (World.news_of_block (blk_new _ _ (by simp))) (one_d _) (by decide) (by unfold maxLen; omega) (by omega) HIa.out.bel.size _ rfl ?_; intro g cap w5 hown hgrow hat hlt5)
                have HIn := hid (HIa.out.next ⟨sd0, x0, st⟩ rfl hown hgrow hat)
                clear hown hgrow hat hlt5
                go_roundg (4 - 1)
                case measure => have := GQ.out; omega
                case rel => exact ⟨1, rfl, by omega, by go_num, HIn.out⟩
              · have p0 := p 2
                have p1 := p 3
                simp at p0 p1
                clear p
                have HIa := hid ((HI.out.alloc (.cells #[.string sd1, .string x1] 158)).alloc (.cells #[.string sd1, .string x1, .bool st] 40))
                go_wp2_with (at_builtin; refine wpList_append_lies _ rfl (.tmp 71) (.tmp 79) 34 rfl w.heap.size 40 HINF.choose (.agg #[.string ⟨#[]⟩, .string ⟨#[]⟩, .bool false]) 3 40 Tryz.underlying34 HINF.choose_spec.1 HINF.choose_spec.2.1 HINF.choose_spec.2.2.1 HINF.choose_spec.2.2.2 rfl (by decide) (.slice ua (A.length + 1) uc) (A.length + 1) _ rfl HIa.out.own ⟨wq.heap.size + 1, 0, none⟩ 1 1 (encD ⟨sd1, x1, st⟩) rfl rfl (World.news_of_block (blk_new _ _ (by simp))) (one_d _) (by decide) (by unfold maxLen; omega) (by omega) HIa.out.bel.size _ rfl ?_; intro g cap w5 hown hgrow hat hlt5)
                have HIn := hid (HIa.out.next ⟨sd1, x1, st⟩ rfl hown hgrow hat)
                clear hown hgrow hat hlt5
                go_roundg (4 - 2)
                case measure => have := GQ.out; omega
                case rel => exact ⟨2, rfl, by omega, by go_num, HIn.out⟩
              · have p0 := p 4
                have p1 := p 5
                simp at p0 p1
                clear p
                have HIa := hid ((HI.out.alloc (.cells #[.string sd2, .string x2] 158)).alloc (.cells #[.string sd2, .string x2, .bool st] 40))
                go_wp2_with (at_builtin; refine wpList_append_lies _ rfl (.tmp 71) (.tmp 79) 34 rfl w.heap.size 40 HINF.choose (.agg #[.string ⟨#[]⟩, .string ⟨#[]⟩, .bool false]) 3 40 Tryz.underlying34 HINF.choose_spec.1 HINF.choose_spec.2.1 HINF.choose_spec.2.2.1 HINF.choose_spec.2.2.2 rfl (by decide) (.slice ua (A.length + 2) uc) (A.length + 2) _ rfl HIa.out.own ⟨wq.heap.size + 1, 0, none⟩ 1 1 (encD ⟨sd2, x2, st⟩) rfl rfl (World.news_of_block (blk_new _ _ (by simp))) (one_d _) (by decide) (by unfold maxLen; omega) (by omega) HIa.out.bel.size _ rfl ?_; intro g cap w5 hown hgrow hat hlt5)
                have HIn := hid (HIa.out.next ⟨sd2, x2, st⟩ rfl hown hgrow hat)
                clear hown hgrow hat hlt5
                go_roundg (4 - 3)
                case measure => have := GQ.out; omega
                case rel => exact ⟨3, rfl, by omega, by go_num, HIn.out⟩
              · have p0 := p 6
                have p1 := p 7
                simp at p0 p1
                clear p
                have HIa := hid ((HI.out.alloc (.cells #[.string sd3, .string x3] 158)).alloc (.cells #[.string sd3, .string x3, .bool st] 40))
                go_wp2_with (at_builtin; refine wpList_append_lies _ rfl (.tmp 71) (.tmp 79) 34 rfl w.heap.size 40 HINF.choose (.agg #[.string ⟨#[]⟩, .string ⟨#[]⟩, .bool false]) 3 40 Tryz.underlying34 HINF.choose_spec.1 HINF.choose_spec.2.1 HINF.choose_spec.2.2.1 HINF.choose_spec.2.2.2 rfl (by decide) (.slice ua (A.length + 3) uc) (A.length + 3) _ rfl HIa.out.own ⟨wq.heap.size + 1, 0, none⟩ 1 1 (encD ⟨sd3, x3, st⟩) rfl rfl (World.news_of_block (blk_new _ _ (by simp))) (one_d _) (by decide) (by unfold maxLen; omega) (by omega) HIa.out.bel.size _ rfl ?_; intro g cap w5 hown hgrow hat hlt5)
                have HIn := hid (HIa.out.next ⟨sd3, x3, st⟩ rfl hown hgrow hat)
                clear hown hgrow hat hlt5
                go_roundg (4 - 4)
                case measure => have := GQ.out; omega
                case rel => exact ⟨4, rfl, by omega, by go_num, HIn.out⟩
              · clear p d2
                go_wp2_with fail
                go_roundg (l.length - (k + 1))
                case measure => have := GK.out; omega
                case rel => exact ⟨k + 1, A ++ fourB st [x0, x1, x2, x3], rfl, by omega, by go_num, HF.out, by rw [List.length_append]; exact HI.out.own, HI.out.bel⟩
          | x0 :: x1 :: x2 :: x3 :: x4 :: r, h, _ => exact absurd (by simp) h
    · have HE : Hid (allB l = some A) := by
        show _ = _
        have := HA.out
        rw [List.take_of_length_le (by omega)] at this
        exact this
      clear HL'
      go_wp2_with fail
      go_ret2
      rw [HE.out]
      exact ⟨⟨va, vc, rfl, DsAt.own HO.out⟩, HB.out⟩
end Go.Proofs.YtblkldfokeeaeacGreatDoor
namespace Go.Proofs.YtblkldfokeeaeacGreatDoor
open Go.RowKit Go.Maps
theorem touch_no {l : List Nd} {k : Int} {r : Ru} (n : Bs) (h : (bestTo l k r.sels (w00, false)).2 = false) : touchB l k r n = false := by
  unfold touchB bestB
  rw [h]; rfl
theorem touch_yes {l : List Nd} {k : Int} {r : Ru} (n : Bs) (h : (bestTo l k r.sels (w00, false)).2 = true) : touchB l k r n = (((allB r.decls).getD []).any fun d => nm d == n) := by
  unfold touchB bestB namesB
  rw [h, Bool.true_and, Bool.eq_iff_iff, List.contains_iff_mem, List.any_eq_true, List.mem_map]
  simp
theorem any_drop {α : Type} (p : α → Bool) (l : List α) (j : Nat) (hj : j < l.length) : (l.drop j).any p = (p l[j] || (l.drop (j + 1)).any p) := by
  rw [List.drop_eq_getElem_cons hj, List.any_cons]
set_option maxRecDepth 100000 in
set_option maxHeartbeats 8000000 in
theorem touch_any (lv : Value) (l : List Nd) (k : Int) (r : Ru) (sa da : Option Addr) (sn sc dn dc : Nat) (name : ByteArray) (w : World) (hl : NdsAt w lv l) (hs : SmNs l) (hS : SsAt w (.slice sa sn sc) r.sels) (hss : SmSs r.sels) (hwf : ∀ s ∈ r.sels, Rf.WfS s) (hD : DsAt w (.slice da dn dc) r.decls) (hds : SmDs r.decls) (hal : ∀ A, allB r.decls = some A → A.length ≤ 1048576) :
    Calls Tryz.prog 24 #[lv, .int .i64 k, .agg #[.string r.media, .slice sa sn sc, .slice da dn dc, .int .i64 r.rf, .int .i64 r.rt], .string name] w fun e w' => e = .returned (.bool (touchB l k r name.data.toList)) ∧ Below w.heap.size w w' := by
  have HB := hid (fun w' (hb : Below w.heap.size w w') => Rf.rbest_any lv l k r.media r.sels (.slice sa sn sc) da dn dc r.rf r.rt w' (hl.ext (Ext.below hb)) hs (hS.ext (Ext.below hb)) hss hwf)
  have HA := hid (fun w' (hb : Below w.heap.size w w') => rall_any (.slice da dn dc) r.decls w' (hD.ext (Ext.below hb)) hds)
  have HX := hid (heap_alloc_new w (.cells #[.string r.media, .slice sa sn sc, .slice da dn dc, .int .i64 r.rf, .int .i64 r.rt] 38))
  have HB1 : Hid (Below w.heap.size w (w.alloc (.cells #[.string r.media, .slice sa sn sc, .slice da dn dc, .int .i64 r.rf, .int .i64 r.rt] 38))) := (Below.refl _ _).alloc (Nat.le_refl _) _
  have HNo := hid (fun h => touch_no (l := l) (k := k) (r := r) name.data.toList h)
  have HYes := hid (fun h => touch_yes (l := l) (k := k) (r := r) name.data.toList h)
  have HAl := hid hal
  clear hl hs hS hss hwf hD hds hal
  generalize touchB l k r name.data.toList = tb at *
  generalize bestTo l k r.sels (w00, false) = B at *
  obtain ⟨bw, bf⟩ := B
  obtain ⟨b0, b1, b2⟩ := bw
  simp only [ruleV, bestV, wtV] at HB
  simp only at HNo HYes
  cases bf
  · obtain rfl := HNo.out rfl
    go_enter Tryz.func24, Tryz.ntmps24
    go_wp2_with (go_at_call 47; refine (HB.out _ HB1.out).mono ?_; rintro e w2 ⟨rfl, hb2⟩; have HB2 := hid (below_trans HB1.out hb2 (Nat.le_refl _)); clear hb2)
    go_ret
    exact ⟨rfl, below_al HB2.out⟩
  · have hyes := HYes.out rfl
    cases ha : allB r.decls with
    | none =>
      rw [ha] at hyes HA
      obtain rfl : tb = false := hyes
      simp only [Ans] at HA
      clear ha
      go_enter Tryz.func24, Tryz.ntmps24
      go_wp2_with (first
        | (go_at_call 47; refine (HB.out _ HB1.out).mono ?_; rintro e w2 ⟨rfl, hb2⟩; have HB2 := hid (below_trans HB1.out hb2 (Nat.le_refl _)); have HB3 := hid (below_al HB2.out (o := .cells #[.int .i64 b0, .int .i64 b1, .int .i64 b2] 86)); obtain ⟨g0, g1, g2, g3, g4⟩ := five_of ((hb2.block _ (lt_heap HX.out)).trans HX.out); have k2 := Ext.below (below_al (o := .cells #[.int .i64 b0, .int .i64 b1, .int .i64 b2] 86) (Below.refl w2.heap.size w2)) _ _ _ g2; clear hb2)
        | (go_at_call 48; refine (HA.out _ HB3.out).mono ?_; rintro e w4 ⟨rfl, hb4⟩; have HB4 := hid (below_trans HB3.out hb4 (Nat.le_refl _)); clear hb4; simp only [badV]))
      go_loopg [32] 0 (fun n i wr => n = 0 ∧ i = .int .i64 0 ∧ Below w.heap.size w wr)
      case atStart => exact ⟨rfl, rfl, HB4.out⟩
      case round =>
        obtain ⟨_, rfl, hb⟩ := hrel
        go_wp2_with fail
        go_ret
        exact ⟨rfl, hb⟩
    | some A =>
      have hA20 := HAl.out A ha
      rw [ha] at hyes HA
      have HY : Hid (tb = A.any fun d => nm d == name.data.toList) := hyes
      simp only [Ans] at HA
      clear hyes ha
      go_enter Tryz.func24, Tryz.ntmps24
      go_wp2_with (first
        | (go_at_call 47; refine (HB.out _ HB1.out).mono ?_; rintro e w2 ⟨rfl, hb2⟩; have HB2 := hid (below_trans HB1.out hb2 (Nat.le_refl _)); have HB3 := hid (below_al HB2.out (o := .cells #[.int .i64 b0, .int .i64 b1, .int .i64 b2] 86)); obtain ⟨g0, g1, g2, g3, g4⟩ := five_of ((hb2.block _ (lt_heap HX.out)).trans HX.out); have k2 := Ext.below (below_al (o := .cells #[.int .i64 b0, .int .i64 b1, .int .i64 b2] 86) (Below.refl w2.heap.size w2)) _ _ _ g2; clear hb2)
        | (go_at_call 48; refine (HA.out _ HB3.out).mono ?_; rintro e w4 ⟨⟨aa, ac, rfl, hds⟩, hb4⟩; have HB4 := hid (below_trans HB3.out hb4 (Nat.le_refl _)); have HD4 := hid hds; clear hb4 hds))
      clear g0 g1 g2 g3 g4 k2
      go_loopg [32] A.length (fun g i wr => ∃ j : Nat, g = A.length - j ∧ j ≤ A.length ∧ i = .int .i64 (j : Int) ∧ tb = ((A.drop j).any fun d => nm d == name.data.toList) ∧ Below w4.heap.size w4 wr)
      case atStart => exact ⟨0, rfl, Nat.zero_le _, rfl, HY.out, Below.refl _ _⟩
      case round =>
        obtain ⟨j, hg, hj, rfl, ht, hB⟩ := hrel
        rename World => wr
        have GK := hid hg
        have HBr := hid hB
        have HTb := hid ht
        clear hg hB ht
        by_cases hlt : j < A.length
        · obtain ⟨b, off, rfl, he⟩ := Sl.at (HD4.out.ext (Ext.below HBr.out)) hlt
          obtain ⟨c0, c1, c2⟩ := he.cells
          have HTn : Hid (tb = ((nm A[j] == name.data.toList) || (A.drop (j + 1)).any fun d => nm d == name.data.toList)) := by show _ = _; rw [HTb.out, any_drop _ _ _ hlt]
          have HJ := hid hlt
          clear he
          generalize A[j] = d at *
          have hnm : (d.name.toList == name.toList) = (nm d == name.data.toList) := by unfold nm; rw [Lib.toList_data, Lib.toList_data]
          cases hq : (nm d == name.data.toList)
          · rw [hq] at hnm HTn
            go_wp2_with fail
            go_roundg (A.length - (j + 1))
            case measure => have := GK.out; have := HJ.out; omega
            case rel => exact ⟨j + 1, rfl, by have := HJ.out; omega, by go_num, HTn.out, below_al HBr.out⟩
          · rw [hq] at hnm HTn
            obtain rfl : tb = true := HTn.out
            go_wp2_with fail
            go_ret
            exact ⟨rfl, below_al (below_trans HB4.out HBr.out (Nat.le_refl _))⟩
        · have hjl : j = A.length := by omega
          subst hjl
          have h0 := HTb.out
          rw [List.drop_length] at h0
          obtain rfl : tb = false := h0
          go_wp2_with fail
          go_ret
          exact ⟨rfl, below_trans HB4.out HBr.out (Nat.le_refl _)⟩
end Go.Proofs.YtblkldfokeeaeacGreatDoor
