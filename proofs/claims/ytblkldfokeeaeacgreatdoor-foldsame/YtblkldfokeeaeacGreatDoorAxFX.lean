/-
  What sets of the law FoldSame answers: a row of rows of at most eight texts each. Condition: at most 60 rules.
-/
import Derived.Test.YtblkldfokeeaeacGreatDoorAxFW
namespace Go.Proofs.YtblkldfokeeaeacGreatDoor
open Go.RowKit Go.Maps
theorem out_new (w : World) : (w.alloc (.cells #[.slice none 0 0] 32)).ownsRow w.heap.size 32 1 (.slice (some ⟨w.heap.size, 0, none⟩) 1 1) 1 [.slice none 0 0] :=
  ⟨rfl, .inr ⟨w.heap.size, 1, _, rfl, Nat.le_refl _, heap_alloc_new w _, Nat.le_refl _, by unfold maxLen; omega, rfl, rfl⟩⟩
theorem pow_le {K : List Value} {j n : Nat} (h : K.length ≤ 2 ^ j) (hj : j ≤ n) : K.length ≤ 2 ^ n := Nat.le_trans h (Nat.pow_le_pow_right (by decide) hj)
structure SetW (w0 w : World) (g0 n0 j : Nat) (v : Value) (K M : List Value) : Prop where
  own : w.ownsRow w0.heap.size 32 1 v M.length M
  new : ∀ x ∈ M, GoodS w (j + 1) x
  old : ∀ x ∈ K, GoodS w j x
  cel : ∀ i (h : i < K.length), w.cell? ⟨g0, i, none⟩ = some K[i]
  b : Below w0.heap.size w0 w
theorem SetW.below {w0 w w' : World} {g0 n0 j : Nat} {v : Value} {K M : List Value} (h : SetW w0 w g0 n0 j v K M) (hb : Below w.heap.size w w') : SetW w0 w' g0 n0 j v K M :=
  ⟨own_ext h.own hb, fun x hx => (h.new x hx).below hb, fun x hx => (h.old x hx).below hb, fun i hi => Ext.below hb _ _ _ (h.cel i hi), below_trans h.b hb (Nat.le_refl _)⟩
theorem SetW.push {w0 w w' : World} {g0 n0 j : Nat} {v v' y : Value} {K M : List Value} (h : SetW w0 w g0 n0 j v K M) (hl : K.length ≤ M.length) (hy : GoodS w (j + 1) y) (ho : w'.ownsRow w0.heap.size 32 1 v' (M.length + 1) (M ++ [y])) (hg : w.grownBy w' v.ownBlock)
    (hk : ∀ p i u, w.cell? ⟨p, i, none⟩ = some u → (v.ownBlock = some p → i < M.length) → w'.cell? ⟨p, i, none⟩ = some u) : SetW w0 w' g0 n0 j v' K (M ++ [y]) := by
  have kk := grown_keeps h.own hg
  refine ⟨by rw [List.length_append]; exact ho, fun x hx => ?_, fun x hx => (h.old x hx).keeps kk, fun i hi => hk _ _ _ (h.cel i hi) (fun _ => by omega), h.b.grown hg h.b.size (fun i hi => (h.own.lt i hi).1)⟩
  rcases List.mem_append.1 hx with hx | hx
  · exact (h.new x hx).keeps kk
  · rw [List.mem_singleton.1 hx]; exact hy.keeps kk
set_option maxRecDepth 100000 in
set_option maxHeartbeats 16000000 in
theorem sets_any (rules : List Ru) (rv : Value) (w : World) (hr : RusAt w rv rules) (hl : rules.length ≤ 60) :
    Calls Tryz.prog 18 #[rv] w fun e w' => (∃ v K, e = .returned v ∧ w'.ownsRow w.heap.size 32 1 v K.length K ∧ K.length ≤ 256 ∧ ∀ x ∈ K, GoodS w' 8 x) ∧ Below w.heap.size w w' := by
  obtain ⟨ra, rc, rfl⟩ := Sl.form hr
  have HR := hid hr
  clear hr
  go_enter Tryz.func18, Tryz.ntmps18
  go_wp2_with fail
  go_loopg [3, 13] rules.length (fun g v i wr => ∃ (j : Nat) (NS : List ByteArray), g = rules.length - j ∧ j ≤ rules.length ∧ i = .int .i64 (j : Int) ∧ NS.length ≤ 8 ∧ wr.ownsRow w.heap.size 9 1 v NS.length (NS.flatMap encB) ∧ Below w.heap.size w wr)
  case atStart => exact ⟨0, [], rfl, Nat.zero_le _, rfl, by simp, World.ownsRow_nil _ _ _ _, Below.refl _ _⟩
  case round =>
    obtain ⟨j, NS, hg, hj, rfl, hn8, ho, hB⟩ := hrel
    rename World => wr
    obtain ⟨na, nc, rfl⟩ := own_form ho
    have GK := hid hg
    have HO := hid ho
    have HB := hid hB
    clear hg ho hB
    by_cases hlt : j < rules.length
    · obtain ⟨b, off, rfl, he⟩ := Sl.at (HR.out.ext (Ext.below HB.out)) hlt
      obtain ⟨sa, sn, sc, da, dn, dc, c0, c1, c2, c3, c4, hS, hD⟩ := eR.cells he
      have HJ := hid hlt
      clear he hS hD
      generalize rules[j] = r at *
      have HO1 := hid (own_ext HO.out (below_al (o := .cells #[.string r.media, .slice sa sn sc, .slice da dn dc, .int .i64 r.rf, .int .i64 r.rt] 38) (Below.refl _ _)))
      have IN := hid (in_any r.media NS (.slice na NS.length nc) _ (BsAt.own HO1.out) (by omega))
      generalize r.media = md at *
      generalize r.rf = rf at *
      generalize r.rt = rt at *
      cases hme : md.toList.isEmpty
      · generalize (NS.any fun y => y.toList == md.toList) = rb at *
        cases rb
        · by_cases h8 : NS.length < 8
          · go_wp2_with (first
              | (go_at_call 36; refine IN.out.mono ?_; rintro e w2 ⟨rfl, hw2⟩; subst hw2)
              | (at_builtin; refine wpList_app rfl (.tmp 32) (.tmp 35) 32 rfl w.heap.size 9 _ 1 16 Tryz.underlying32 Tryz.infoS rfl (by decide) (.slice na NS.length nc) NS.length (NS.flatMap encB) rfl (own_ext HO1.out (below_al (Below.refl _ _))) _ 1 [.string md] rfl (.inr ⟨_, 1, rfl, World.news_of_block (hW_new (by simp))⟩) rfl (by simp [Value.oneCell']) (by unfold maxLen; omega) (by omega) (below_al (below_al HB.out)).size ?_; intro v5 w5 hv5 hg5; have HO5 := hid (bs_push hv5); have HB5 := hid ((below_al (below_al HB.out)).grown hg5 (below_al (below_al HB.out)).size (fun i hi => (HO.out.lt i hi).1)); clear hv5 hg5))
            go_roundg (rules.length - (j + 1))
            case measure => have := GK.out; have := HJ.out; omega
            case rel => exact ⟨j + 1, NS ++ [md], rfl, by have := HJ.out; omega, by go_num, by simp; omega, HO5.out, HB5.out⟩
          · have h8' : NS.length = 8 := by omega
            rw [h8'] at IN
            rw [h8']
            go_wp2_with (go_at_call 36; refine IN.out.mono ?_; rintro e w2 ⟨rfl, hw2⟩; subst hw2)
            go_roundg (rules.length - (j + 1))
            case measure => have := GK.out; have := HJ.out; omega
            case rel => exact ⟨j + 1, NS, rfl, by have := HJ.out; omega, by go_num, hn8, by rw [← h8']; exact HO1.out, below_al HB.out⟩
        · go_wp2_with (go_at_call 36; refine IN.out.mono ?_; rintro e w2 ⟨rfl, hw2⟩; subst hw2)
          go_roundg (rules.length - (j + 1))
          case measure => have := GK.out; have := HJ.out; omega
          case rel => exact ⟨j + 1, NS, rfl, by have := HJ.out; omega, by go_num, hn8, HO1.out, below_al HB.out⟩
      · go_wp2_with fail
        go_roundg (rules.length - (j + 1))
        case measure => have := GK.out; have := HJ.out; omega
        case rel => exact ⟨j + 1, NS, rfl, by have := HJ.out; omega, by go_num, hn8, HO1.out, below_al HB.out⟩
    · clear GK HR
      have HX0 := hid (out_new wr)
      have HB0 := hid (below_al (o := .cells #[.slice none 0 0] 32) (Below.refl wr.heap.size wr))
      go_wp2_with fail
      generalize wr.alloc (.cells #[.slice none 0 0] 32) = w0 at *
      clear hj hlt
      go_loopg [6, 41] NS.length (fun g v i wk => ∃ (j : Nat) (K : List Value), g = NS.length - j ∧ j ≤ NS.length ∧ i = .int .i64 (j : Int) ∧ 0 < K.length ∧ K.length ≤ 2 ^ j ∧ wk.ownsRow wr.heap.size 32 1 v K.length K ∧ (∀ x ∈ K, GoodS wk j x) ∧ Below wr.heap.size wr wk)
      case atStart => exact ⟨0, [.slice none 0 0], rfl, Nat.zero_le _, rfl, by simp, by simp, HX0.out, (fun x hx => by rw [List.mem_singleton.1 hx]; exact good_nil _), HB0.out⟩
      case round =>
        clear HX0 HB0
        obtain ⟨j, K, hg, hj, rfl, hK0, hKp, ho, hgd, hB⟩ := hrel
        rename World => wk
        obtain ⟨g0, kc, rfl, _, _⟩ := ho.form hK0
        have GK := hid hg
        have HOk := hid ho
        have HGd := hid hgd
        have HBk := hid hB
        have HKp := hid hKp
        clear hg ho hgd hB
        by_cases hlt : j < NS.length
        · have hK7 : K.length ≤ 128 := pow_le HKp.out (n := 7) (by omega)
          obtain ⟨nb, no, rfl, he⟩ := Sl.at (BsAt.own (own_ext HO.out HBk.out)) hlt
          have c0 := he.cells
          rw [Nat.mul_one] at c0
          have HJ := hid hlt
          clear he hKp
          generalize NS[j] = y at *
          go_wp2_with fail
          clear c0
          have HS0 : Hid (SetW wr wk g0 K.length j (.slice (some ⟨g0, 0, none⟩) K.length kc) K K) := ⟨HOk.out, fun x hx => (HGd.out x hx).up (by omega), HGd.out, fun i hi => by
            have := HOk.out.cells (g := g0) rfl i K[i] (List.getElem?_eq_getElem hi)
            rw [addr_add, Nat.zero_add] at this
            exact this, HBk.out⟩
          go_loopg [6, 47] K.length (fun g v i wq => ∃ (q : Nat) (M : List Value), g = K.length - q ∧ q ≤ K.length ∧ i = .int .i64 (q : Int) ∧ M.length = K.length + q ∧ SetW wr wq g0 K.length j v K M)
          case atStart => exact ⟨0, K, rfl, Nat.zero_le _, rfl, rfl, HS0.out⟩
          case round =>
            clear HS0
            obtain ⟨q, M, hg, hq, rfl, hM, hS⟩ := hrel
            rename World => wq
            obtain ⟨oa, oc, rfl⟩ := own_form hS.own
            have GK2 := hid hg
            have HS := hid hS
            have HM := hid hM
            clear hg hS
            by_cases hlq : q < K.length
            · have cq := HS.out.cel q hlq
              obtain ⟨m, hm1, hm2⟩ := HS.out.old K[q] (List.getElem_mem hlq)
              obtain ⟨xa, xc, hxe⟩ := own_form hm1
              rw [hxe] at cq hm1
              have HM1 := hid hm1
              have HJ2 := hid hlq
              have hM2 : M.length ≤ 256 := by omega
              have hm7 : m.length ≤ 8 := by omega
              have HM2 := hid hm2
              clear hm1 hm2 hxe hM
              go_wp2_with (first
                | (at_builtin; refine wpList_app rfl (.tmp 52) (.tmp 53) 32 rfl wq.heap.size 9 _ 1 16 Tryz.underlying32 Tryz.infoS rfl (by decide) (.slice (some ⟨wq.heap.size, 0, none⟩) 0 0) 0 [] rfl (own_empty wq _ (Nat.le_refl _)) (.slice xa m.length xc) m.length (m.flatMap encB) rfl ((src_own HM1.out).ext (Ext.below (below_al (Below.refl _ _)))) (flat_len1 m) (one_Bs m) (by unfold maxLen; omega) (by omega) (below_al (Below.refl _ _)).size ?_; intro v5 w5 hv5 hg5; rw [Nat.zero_add, List.nil_append] at hv5; have hv5' := hv5; have HB5 := hid ((below_al (Below.refl wq.heap.size wq)).grown hg5 (below_al (Below.refl wq.heap.size wq)).size (fun i hi => ((own_empty wq _ (Nat.le_refl _)).lt i hi).1)); obtain ⟨va, vc, rfl⟩ := own_form hv5'; have HV5 := hid hv5'; clear hv5 hg5 hv5')
                | (at_builtin; refine wpList_app rfl (.tmp 54) (.tmp 56) 32 rfl wq.heap.size 9 _ 1 16 Tryz.underlying32 Tryz.infoS rfl (by decide) (.slice va m.length vc) m.length (m.flatMap encB) rfl (own_ext HV5.out (below_al (Below.refl _ _))) _ 1 [.string y] rfl (.inr ⟨_, 1, rfl, World.news_of_block (hW_new (by simp))⟩) rfl (by simp [Value.oneCell']) (by unfold maxLen; omega) (by omega) (below_al HB5.out).size ?_; intro v6 w6 hv6 hg6; obtain ⟨vb, vd, hv6e⟩ := own_form hv6; subst hv6e; have HV6 := hid (bs_push hv6); have HB6 := hid ((below_al HB5.out).grown hg6 (below_al HB5.out).size (fun i hi => (HV5.out.lt i hi).1)); have HG6 : Hid (GoodS w6 (j + 1) (.slice vb (m.length + 1) vd)) := ⟨m ++ [y], Sh.own_lower HV6.out (Nat.zero_le _), by have := HM2.out; simp; omega⟩; clear hv6 hg6)
                | (at_builtin; refine wpList_push rfl (.tmp 51) (.tmp 58) 41 rfl wr.heap.size 32 _ 24 Tryz.underlying41 Tryz.infoB32 rfl (.slice oa M.length oc) M.length M rfl (own_ext HS.out.own (below_al HB6.out)) _ 1 (.slice vb (m.length + 1) vd) rfl (World.news_of_block (hW_new (by simp))) rfl (by unfold maxLen; omega) (by omega) (HS.out.below (below_al HB6.out)).b.size ?_; intro v7 w7 hv7 hg7 hk7; have HS7 := hid ((HS.out.below (below_al HB6.out)).push (by have := HM.out; omega) (HG6.out.below (below_al (Below.refl _ _))) hv7 hg7 hk7); clear hv7 hg7 hk7))
              go_roundg (K.length - (q + 1))
              case measure => have := GK2.out; have := HJ2.out; omega
              case rel => exact ⟨q + 1, _, rfl, by have := HJ2.out; omega, by go_num, by have := HM.out; simp; omega, HS7.out⟩
            · have hqe : q = K.length := by omega
              subst hqe
              go_wp2_with fail
              go_roundg (NS.length - (j + 1))
              case measure => have := GK.out; have := HJ.out; omega
              case rel => exact ⟨j + 1, M, rfl, by have := HJ.out; omega, by go_num, by have := HM.out; omega, by have := HM.out; have := HKp.out; rw [Nat.pow_succ]; omega, HS.out.own, HS.out.new, HS.out.b⟩
        · have hj8 : j = NS.length := by omega
          subst hj8
          have HK8 : Hid (K.length ≤ 256) := pow_le HKp.out (n := 8) hn8
          go_wp2_with fail
          go_ret
          exact ⟨⟨_, K, rfl, Sh.own_lower HOk.out HB.out.size, HK8.out, fun x hx => (HGd.out x hx).up hn8⟩, below_trans HB.out HBk.out (Nat.le_refl _)⟩
end Go.Proofs.YtblkldfokeeaeacGreatDoor
