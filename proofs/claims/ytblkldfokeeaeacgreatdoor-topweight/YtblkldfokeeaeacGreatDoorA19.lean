/- Texts that the statement's proof stands on: M5, MUp, M6, M7, M8. -/
import Derived.Test.YtblkldfokeeaeacGreatDoorA18
import Derived.Test.YtblkldfokeeaeacGreatDoorA05
namespace Go.Proofs.YtblkldfokeeaeacGreatDoor
open Go.RowKit
theorem info_parts {t : TypeId} {z : Value} {n m : Nat} (h : (Tryz.prog.info? t).map (fun i => (i.zero, i.size, i.bytes)) = some (some z, n, m)) : ∃ i, Tryz.prog.info? t = some i ∧ i.zero = some z ∧ i.size = n ∧ i.bytes = m := by
  cases hi : Tryz.prog.info? t with
  | none => rw [hi] at h; cases h
  | some i => rw [hi] at h; simp at h; exact ⟨i, rfl, h.1, h.2.1, h.2.2⟩
theorem Tryz.infoI : (Tryz.prog.info? 3).map (fun i => (i.zero, i.size, i.bytes)) = some (some (.int .i64 0), 1, 8) := by kernel_rfl
theorem below_grown {B : Nat} {a w w' : World} {o : Obj} {base : Nat} {e : TypeId} {size n : Nat} {v : Value} {xs : List Value} (h : Below B a w) (hB : B ≤ w.heap.size) (ho : w.ownsRow base e size v n xs) (hb : B ≤ base) (hg : (w.alloc o).grownBy w' v.ownBlock) : Below B a w' :=
  (h.alloc hB o).grown hg (by simp; omega) (fun k hk => by have := ho.lt k hk; omega)
set_option maxRecDepth 100000 in
set_option maxHeartbeats 2000000 in
theorem asAsked_any (lv : Value) (l : List Nd) (iv : Value) (ks : List Nat) (p : Pt) (tv : Value) (w : World) (hl : NdsAt w lv l) (hs : SmNs l) (hm : Mx w) (hi : IsAt w iv ks) (hkl : ks.length ≤ lim) (hin : ∀ x ∈ ks, x < l.length) (ht : TsAt w tv p.tests) (hts : p.tests.length ≤ lim) :
    Calls Tryz.prog 186 #[lv, iv, partV p tv] w fun e w' => ∃ v, e = .returned v ∧ IsAt w' v (ks.filter (partB l · p)) ∧ Below w.heap.size w w' := by
  obtain ⟨ia, icap, rfl⟩ := Sl.form hi
  obtain ⟨ta, tcap, rfl⟩ := Sl.form ht
  have HT := hid ht
  have HL := hid hl
  have HS := hid hs
  have HM := hid hm
  have HI := hid hi
  have HIN := hid hin
  have HTS := hid hts
  unfold lim at hkl
  obtain ⟨i0, hi', hz0, hz1, hz2⟩ := info_parts Tryz.infoI
  have HJ := hid hi'
  have HZ : Hid (i0.zero = some (.int .i64 0) ∧ i0.size = 1 ∧ i0.bytes = 8) := ⟨hz0, hz1, hz2⟩
  clear ht hl hs hm hi hin hts hi' hz0 hz1 hz2
  simp only [partV]
  go_enter Tryz.func186, Tryz.ntmps186
  go_wp2_with fail
  have HW : Hid (Below w.heap.size w (w.alloc (.cells #[.int .i64 p.join, .slice ta p.tests.length tcap] 150))) := (Below.refl _ _).alloc (Nat.le_refl _) _
  have d0 : (w.alloc (.cells #[.int .i64 p.join, .slice ta p.tests.length tcap] 150)).cell? ⟨w.heap.size, 0, none⟩ = some (.int .i64 p.join) := by rw [cell_new]; rfl
  have d1 : (w.alloc (.cells #[.int .i64 p.join, .slice ta p.tests.length tcap] 150)).cell? ⟨w.heap.size, 1, none⟩ = some (.slice ta p.tests.length tcap) := by rw [cell_new]; rfl
  have hsz : Hid (w.heap.size < (w.alloc (.cells #[.int .i64 p.join, .slice ta p.tests.length tcap] 150)).heap.size) := by show _ < _; simp
  generalize w.alloc (.cells #[.int .i64 p.join, .slice ta p.tests.length tcap] 150) = W at *
  have D0 := hid d0
  have D1 := hid d1
  clear d0 d1
  go_loopg [7, 12] ks.length (fun n v i wr => ∃ k : Nat, n = ks.length - k ∧ k ≤ ks.length ∧ i = .int .i64 (k : Int) ∧ wr.ownsRow W.heap.size 3 1 v ((ks.take k).filter (partB l · p)).length (((ks.take k).filter (partB l · p)).map encI) ∧ Below W.heap.size W wr)
  case atStart => exact ⟨0, rfl, Nat.zero_le _, rfl, World.ownsRow_nil _ _ _ _, Below.refl _ _⟩
  case round =>
    obtain ⟨k, hn, hk, rfl, hO, hB⟩ := hrel
    have GK := hid hn
    have HB := hid hB
    have HO := hid hO
    have HX := hid (HW.out.trans (HB.out.mono (Nat.le_of_lt hsz.out)))
    obtain ⟨va, vc, rfl⟩ := own_form hO
    clear hn hB hO
    by_cases hlt : k < ks.length
    · obtain ⟨b, off, rfl, he⟩ := Sl.at (IsAt.ext HI.out (Ext.below HX.out)) hlt
      have c0 : wr.cell? ⟨b, off + k, none⟩ = some (.int .i64 (ks[k] : Int)) := by
        have h : wr.cell? ⟨b, off + k * 1 + 0, none⟩ = _ := he
        rw [show off + k * 1 + 0 = off + k by omega] at h
        exact h
      have hx := HIN.out ks[k] (List.getElem_mem hlt)
      have e0 : wr.cell? ⟨w.heap.size, 0, none⟩ = some (.int .i64 p.join) := by rw [HB.out.cell (p := ⟨w.heap.size, 0, none⟩) hsz.out]; exact D0.out
      have e1 : wr.cell? ⟨w.heap.size, 1, none⟩ = some (.slice ta p.tests.length tcap) := by rw [HB.out.cell (p := ⟨w.heap.size, 1, none⟩) hsz.out]; exact D1.out
      have HF : Hid ((ks.take (k + 1)).filter (partB l · p) = (ks.take k).filter (partB l · p) ++ if partB l ks[k] p then [ks[k]] else []) := by
        show _ = _
        rw [List.take_succ_eq_append_getElem hlt, List.filter_append]
        simp [List.filter_cons]
      have hfl : ((ks.take k).filter (partB l · p)).length ≤ k := Nat.le_trans (List.length_filter_le _ _) (List.length_take_le _ _)
      generalize ks[k] = x at *
      generalize (ks.take k).filter (partB l · p) = fs at *
      clear he
      go_wp2_with fail
      refine (isAsPart_any lv l x p _ _ (HL.out.ext (Ext.below HX.out)) HS.out hx (HM.out.ext (Ext.below HX.out)) (HT.out.ext (Ext.below HX.out)) HTS.out).mono ?_
      rintro e w2 ⟨rfl, hb⟩
      have HB2 := hid (below_trans HB.out hb (Nat.le_refl _))
      have HO2 := hid (own_ext HO.out hb)
      clear hb
      rcases htb : partB l x p
      · have HR3 : Hid ((ks.take (k + 1)).filter (partB l · p) = fs) := by
          show _ = fs
          have := HF.out; rw [htb] at this; simpa using this
        go_wp2_with fail
        go_roundg (ks.length - (k + 1))
        case measure => have := GK.out; omega
        case rel => exact ⟨k + 1, rfl, by omega, by go_num, by rw [HR3.out]; exact HO2.out, HB2.out⟩
      · have HR3 : Hid ((ks.take (k + 1)).filter (partB l · p) = fs ++ [x]) := by
          show _ = fs ++ [x]
          have := HF.out; rw [htb] at this; simpa using this
        have hbase : W.heap.size ≤ w2.heap.size := HB2.out.size
        go_wp2_with (at_builtin; refine wpList_append_lies _ rfl (.tmp 20) (.tmp 22) 65 rfl W.heap.size 3 i0 (.int .i64 0) 1 8 Tryz.underlying65 HJ.out HZ.out.1 HZ.out.2.1 HZ.out.2.2 rfl (by decide) (.slice va fs.length vc) fs.length (fs.map encI) rfl (World.ownsRow.alloc HO2.out _) ⟨w2.heap.size, 0, none⟩ 1 1 [encI x] rfl rfl (World.news_of_block (heap_alloc_new w2 _)) (by simp [encI, Value.oneCell']) (by decide) (by unfold maxLen; omega) (by omega) (by simp; omega) _ rfl ?_; intro gg cap w6 hown hgrow hat hlt6)
        have HB6 := hid (below_grown HB2.out hbase HO2.out (Nat.le_refl _) hgrow)
        have HO6 : Hid (w6.ownsRow W.heap.size 3 1 (.slice (some ⟨gg, 0, none⟩) (fs.length + 1) cap) (fs ++ [x]).length ((fs ++ [x]).map encI)) := by
          show World.ownsRow _ _ _ _ _ _ _
          simpa using hown
        clear hown hgrow hat hlt6
        go_roundg (ks.length - (k + 1))
        case measure => have := GK.out; omega
        case rel => exact ⟨k + 1, rfl, by omega, by go_num, by rw [HR3.out]; exact HO6.out, HB6.out⟩
    · have HR3 : Hid (ks.take k = ks) := by
        show ks.take k = ks
        rw [List.take_of_length_le (by omega)]
      go_wp2_with fail
      go_ret
      refine ⟨.slice va ((ks.take k).filter (partB l · p)).length vc, rfl, ?_, HX.out⟩
      have := IsAt.own HO.out
      rw [HR3.out] at this ⊢
      exact this
end Go.Proofs.YtblkldfokeeaeacGreatDoor
namespace Go.Proofs.YtblkldfokeeaeacGreatDoor
theorem nodup_le : ∀ (n : Nat) (l : List Nat), l.Nodup → (∀ x ∈ l, x < n) → l.length ≤ n
  | 0, l, _, h => by
    cases l with
    | nil => simp
    | cons a l => exact absurd (h a (List.mem_cons_self ..)) (Nat.not_lt_zero _)
  | n + 1, l, hd, h => by
    by_cases hm : n ∈ l
    · have := nodup_le n (l.erase n) (hd.erase n) (fun x hx => by
        have := (hd.mem_erase_iff).1 hx
        have := h x this.2
        omega)
      rw [List.length_erase_of_mem hm] at this
      omega
    · have := nodup_le n l hd (fun x hx => by
        have := h x hx
        have : x ≠ n := fun e => hm (e ▸ hx)
        omega)
      omega
theorem aboves_trans {l : List Nd} : ∀ {k x y : Nat}, x ∈ aboves l k → y ∈ aboves l x → y ∈ aboves l k := by
  intro k
  induction k using Nat.strongRecOn with
  | _ k ih =>
    intro x y hx hy
    by_cases h : 0 ≤ par l k ∧ par l k < k
    · rw [aboves_pos h.1 h.2] at hx ⊢
      rcases List.mem_cons.1 hx with rfl | hx
      · exact List.mem_cons_of_mem _ hy
      · exact List.mem_cons_of_mem _ (ih _ (by omega) hx hy)
    · rw [aboves_neg h] at hx; cases hx
structure Gat (l : List Nd) (ks : List Nat) (i : Nat) (os : List Nat) : Prop where
  nd : os.Nodup
  lt : ∀ x ∈ os, x < l.length
  eq : ∀ x, x ∈ os ↔ ∃ k ∈ ks.take i, x ∈ aboves l k
structure Way (l : List Nd) (oi : List Nat) (k0 : Nat) (os : List Nat) (k : Nat) : Prop where
  nd : os.Nodup
  lt : ∀ x ∈ os, x < l.length
  kl : k < l.length
  sub : ∀ x ∈ oi, x ∈ os
  new : ∀ x ∈ os, x ∈ oi ∨ k ≤ x
  eq : ∀ x, (x ∈ os ∨ x ∈ aboves l k) ↔ (x ∈ oi ∨ x ∈ aboves l k0)
theorem Gat.zero (l : List Nd) (ks : List Nat) : Gat l ks 0 [] := ⟨List.nodup_nil, by simp, by simp⟩
theorem Gat.up {l : List Nd} {ks : List Nat} {i : Nat} {os : List Nat} (h : Gat l ks i os) {x y : Nat} (hx : x ∈ os) (hy : y ∈ aboves l x) : y ∈ os := by
  obtain ⟨k, hk, hxk⟩ := (h.eq x).1 hx
  exact (h.eq y).2 ⟨k, hk, aboves_trans hxk hy⟩
theorem Way.start {l : List Nd} {ks : List Nat} {i : Nat} {os : List Nat} (h : Gat l ks i os) {k : Nat} (hk : k < l.length) : Way l os k os k :=
  ⟨h.nd, h.lt, hk, fun _ h => h, fun _ h => .inl h, fun _ => Iff.rfl⟩
theorem Way.step {l : List Nd} {oi os : List Nat} {k0 k u : Nat} (h : Way l oi k0 os k) (hu : par l k = u) (hlt : u < k) (hn : u ∉ os) : Way l oi k0 (os ++ [u]) u := by
  have ha : aboves l k = u :: aboves l u := by
    rw [aboves_pos (by omega) (by omega), hu]; rfl
  refine ⟨?_, ?_, by have := h.kl; omega, fun x hx => List.mem_append_left _ (h.sub x hx), ?_, fun x => ?_⟩
  · rw [List.nodup_append]
    exact ⟨h.nd, by simp, fun a hc b hb => by simp at hb; subst hb; exact fun e => hn (e ▸ hc)⟩
  · intro x hx
    rcases List.mem_append.1 hx with hx | hx
    · exact h.lt x hx
    · simp at hx; subst hx; have := h.kl; omega
  · intro x hx
    rcases List.mem_append.1 hx with hx | hx
    · rcases h.new x hx with h1 | h1
      · exact .inl h1
      · exact .inr (by omega)
    · simp at hx; subst hx; exact .inr (Nat.le_refl _)
  · rw [← h.eq x, ha]
    simp only [List.mem_append, List.mem_cons, List.mem_nil_iff, or_false]
    constructor
    · rintro ((h | h) | h)
      · exact .inl h
      · exact .inr (.inl h)
      · exact .inr (.inr h)
    · rintro (h | h | h)
      · exact .inl (.inl h)
      · exact .inl (.inr h)
      · exact .inr h
theorem Way.done {l : List Nd} {ks : List Nat} {i : Nat} {oi os : List Nat} {k0 k : Nat} (g : Gat l ks i oi) (h : Way l oi k0 os k) (hi : i < ks.length) (e : ks[i] = k0) (hx : ∀ x ∈ aboves l k, x ∈ os) : Gat l ks (i + 1) os := by
  refine ⟨h.nd, h.lt, fun x => ?_⟩
  rw [List.take_succ_eq_append_getElem hi, e]
  constructor
  · intro hxo
    rcases (h.eq x).1 (.inl hxo) with h1 | h1
    · obtain ⟨k, hk, hxk⟩ := (g.eq x).1 h1
      exact ⟨k, List.mem_append_left _ hk, hxk⟩
    · exact ⟨k0, List.mem_append_right _ (by simp), h1⟩
  · rintro ⟨k', hk', hxk⟩
    rcases List.mem_append.1 hk' with hk' | hk'
    · exact h.sub x ((g.eq x).2 ⟨k', hk', hxk⟩)
    · simp at hk'
      subst hk'
      rcases (h.eq x).2 (.inr hxk) with h1 | h1
      · exact h1
      · exact hx x h1
theorem Way.end1 {l : List Nd} {oi os : List Nat} {k0 k : Nat} (_h : Way l oi k0 os k) (hn : ¬ (0 ≤ par l k ∧ par l k < k)) : ∀ x ∈ aboves l k, x ∈ os := by
  rw [aboves_neg hn]; simp
theorem Way.end2 {l : List Nd} {ks : List Nat} {i : Nat} {oi os : List Nat} {k0 k u : Nat} (g : Gat l ks i oi) (h : Way l oi k0 os k) (hu : par l k = u) (hlt : u < k) (hm : u ∈ os) : ∀ x ∈ aboves l k, x ∈ os := by
  have ha : aboves l k = u :: aboves l u := by
    rw [aboves_pos (by omega) (by omega), hu]; rfl
  rw [ha]
  intro x hx
  rcases List.mem_cons.1 hx with rfl | hx
  · exact hm
  · rcases h.new u hm with h1 | h1
    · exact h.sub x (g.up h1 hx)
    · omega
theorem Way.len {l : List Nd} {oi os : List Nat} {k0 k : Nat} (h : Way l oi k0 os k) : os.length ≤ l.length := nodup_le _ _ h.nd h.lt
theorem Gat.len {l : List Nd} {ks : List Nat} {i : Nat} {os : List Nat} (h : Gat l ks i os) : os.length ≤ l.length := nodup_le _ _ h.nd h.lt
end Go.Proofs.YtblkldfokeeaeacGreatDoor
namespace Go.Proofs.YtblkldfokeeaeacGreatDoor
open Go.RowKit
theorem Tryz.infoB : (Tryz.prog.info? 4).map (fun i => (i.zero, i.size, i.bytes)) = some (some (.bool false), 1, 1) := by kernel_rfl
def TB (w : World) (T n : Nat) (os : List Nat) : Prop := ∃ cur, w.heap[T]? = some (.cells cur 4 (0, 0)) ∧ cur.size = n ∧ ∀ j, j < n → cur[j]? = some (.bool (decide (j ∈ os)))
theorem TB.cell {w : World} {T n : Nat} {os : List Nat} (h : TB w T n os) {j : Nat} (hj : j < n) : w.cell? ⟨T, j, none⟩ = some (.bool (decide (j ∈ os))) := by
  obtain ⟨cur, h1, h2, h3⟩ := h
  rw [← h3 j hj]
  unfold World.cell?
  rw [h1]; rfl
theorem TB.fz {w : World} {T n : Nat} {os : List Nat} (h : TB w T n os) (j : Nat) : w.frozen? ⟨T, j, none⟩ = false := by
  obtain ⟨cur, h1, h2, h3⟩ := h
  simp [World.frozen?, h1]
theorem TB.lt {w : World} {T n : Nat} {os : List Nat} (h : TB w T n os) : T < w.heap.size := by
  obtain ⟨cur, h1, _⟩ := h
  exact (Array.getElem?_eq_some_iff.1 h1).1
theorem TB.keep {w w' : World} {T n : Nat} {os : List Nat} (h : TB w T n os) (e : w'.heap[T]? = w.heap[T]?) : TB w' T n os := by
  obtain ⟨cur, h1, h2, h3⟩ := h
  exact ⟨cur, by rw [e]; exact h1, h2, h3⟩
theorem TB.set {w : World} {T n : Nat} {os : List Nat} (h : TB w T n os) {u : Nat} (hu : u < n) : TB (w.setCell ⟨T, u, none⟩ (.bool true)) T n (os ++ [u]) := by
  obtain ⟨cur, h1, h2, h3⟩ := h
  refine ⟨cur.setIfInBounds u (.bool true), ?_, by simpa using h2, fun j hj => ?_⟩
  · simp [World.setCell, Array.getElem?_modify, h1]
  · rw [Array.getElem?_setIfInBounds]
    by_cases e : u = j
    · subst e
      rw [if_pos rfl, if_pos (by omega)]
      simp
    · rw [if_neg e, h3 j hj]
      have e' : ¬ j = u := fun h => e h.symm
      simp [e']
theorem TB.made {w w' : World} {T n : Nat} (h : w'.ownsRow w.heap.size 4 1 (.slice (some ⟨T, 0, none⟩) n n) n (madeCells #[.bool false] (n * 1)).toList) : TB w' T n [] := by
  rcases h.2 with ⟨h1, h2⟩ | ⟨g, cap', cur, h0, hb, h1, h2, h3, h4, h5⟩
  · cases h1
  · injection h0 with h0 _ h0c
    injection h0 with h0
    injection h0 with h0
    subst h0 h0c
    refine ⟨cur, h1, ?_, fun j hj => ?_⟩
    · simpa using h4
    · have h6 : (cur.toList.take (n * 1))[j]? = (madeCells #[.bool false] (n * 1)).toList[j]? := by rw [h5]
      rw [List.getElem?_take, if_pos (by omega)] at h6
      rw [Array.getElem?_toList, Array.getElem?_toList] at h6
      rw [h6]
      simp [madeCells, hj, Nat.mod_one]
set_option maxRecDepth 100000 in
set_option maxHeartbeats 4000000 in
theorem allAbove_any (lv : Value) (l : List Nd) (iv : Value) (ks : List Nat) (w : World) (hl : NdsAt w lv l) (hs : l.length ≤ lim) (hi : IsAt w iv ks) (hkl : ks.length ≤ lim) (hin : ∀ x ∈ ks, x < l.length) :
    Calls Tryz.prog 204 #[lv, iv] w fun e w' => ∃ v os, e = .returned v ∧ Gat l ks ks.length os ∧ IsAt w' v os ∧ Below w.heap.size w w' := by
  obtain ⟨ia, icap, rfl⟩ := Sl.form hi
  obtain ⟨la, lcap, rfl⟩ := Sl.form hl
  have HL := hid hl
  have HI := hid hi
  have HIN := hid hin
  unfold lim at hkl hs
  obtain ⟨i0, hi', hz0, hz1, hz2⟩ := info_parts Tryz.infoI
  have HJ := hid hi'
  have HZ : Hid (i0.zero = some (.int .i64 0) ∧ i0.size = 1 ∧ i0.bytes = 8) := ⟨hz0, hz1, hz2⟩
  obtain ⟨i1, hi1, hy0, hy1, hy2⟩ := info_parts Tryz.infoB
  have HJ1 := hid hi1
  have HZ1 : Hid (i1.zero = some (.bool false) ∧ i1.size = 1 ∧ i1.bytes = 1) := ⟨hy0, hy1, hy2⟩
  clear hl hi hin hi' hz0 hz1 hz2 hi1 hy0 hy1 hy2
  go_enter Tryz.func204, Tryz.ntmps204
  go_wp2_with (at_make; refine wpList_make_full _ rfl _ _ 53 rfl w.heap.size 4 i1 (.bool false) 1 Tryz.underlying53 HJ1.out HZ1.out.1 HZ1.out.2.1 _ _ _ _ l.length rfl rfl rfl rfl (by rw [HZ1.out.2.2]; omega) (by unfold maxLen; omega) (Nat.le_refl _) ?_; intro W hown hgrow)
  have HW : Hid (Below w.heap.size w W) := (Below.refl _ _).grown hgrow (Nat.le_refl _) (by simp)
  have hT := TB.made (w := w) hown
  have HT := hid hT
  have HTl := hid hT.lt
  clear hown hgrow hT
  go_loopg [5, 15] ks.length (fun n v i wr => ∃ (k : Nat) (os : List Nat), n = ks.length - k ∧ k ≤ ks.length ∧ i = .int .i64 (k : Int) ∧ Gat l ks k os ∧ TB wr w.heap.size l.length os ∧ wr.ownsRow (w.heap.size + 1) 3 1 v os.length (os.map encI) ∧ Below w.heap.size w wr)
  case atStart => exact ⟨0, [], rfl, Nat.zero_le _, rfl, Gat.zero _ _, HT.out, World.ownsRow_nil _ _ _ _, HW.out⟩
  case round =>
    obtain ⟨k, os, hn, hk, rfl, hG, hT, hO, hB⟩ := hrel
    have GK := hid hn
    have HB := hid hB
    have HG := hid hG
    have HO := hid hO
    have HT := hid hT
    rename World => wo
    obtain ⟨va, vc, rfl⟩ := own_form hO
    clear hn hB hO hG hT
    by_cases hlt : k < ks.length
    · obtain ⟨b, off, rfl, he⟩ := Sl.at (IsAt.ext HI.out (Ext.below HB.out)) hlt
      have c0 : wo.cell? ⟨b, off + k, none⟩ = some (.int .i64 (ks[k] : Int)) := by
        have h : wo.cell? ⟨b, off + k * 1 + 0, none⟩ = _ := he
        rw [show off + k * 1 + 0 = off + k by omega] at h
        exact h
      have hx := HIN.out ks[k] (List.getElem_mem hlt)
      generalize hk0 : ks[k] = k0 at *
      have HE := hid hk0
      clear hk0 he
      obtain ⟨b2, off2, rfl, hd⟩ := Sl.at (NdsAt.ext HL.out (Ext.below HB.out)) hx
      have c1 := hd.c1
      have hp : par l k0 = l[k0].parent := by simp [par, ndAt_eq hx]
      rw [← hp] at c1
      clear hp hd
      go_wp2_with fail
      go_loopg [5, 8, 9] k0 (fun n v kv uv wr => ∃ (q : Nat) (os' : List Nat), n = q ∧ kv = .int .i64 (q : Int) ∧ uv = .int .i64 (par l q) ∧ Way l os k0 os' q ∧ TB wr w.heap.size l.length os' ∧ wr.ownsRow (w.heap.size + 1) 3 1 v os'.length (os'.map encI) ∧ Below w.heap.size w wr)
      case atStart => exact ⟨k0, os, rfl, rfl, rfl, Way.start HG.out hx, HT.out, HO.out, HB.out⟩
      case round =>
        clear c0 c1 hx HO HT HB
        obtain ⟨q, os', hn, rfl, rfl, hG2, hT, hO, hB⟩ := hrel
        have GQ := hid hn
        have HB := hid hB
        have HG2 := hid hG2
        have HO := hid hO
        have HT := hid hT
        have hql := hG2.kl
        have hol := hG2.len
        have hTl := hT.lt
        obtain ⟨va, vc, rfl⟩ := own_form hO
        clear hn hB hO hG2 hT
        by_cases hr : 0 ≤ par l q ∧ par l q < q
        · obtain ⟨u, hu⟩ : ∃ u : Nat, par l q = u := ⟨(par l q).toNat, by omega⟩
          have HU := hid hu
          rw [hu] at hr ⊢
          clear hu
          have huq : u < q := by omega
          have d0 := HT.out.cell (show u < l.length by omega)
          have f0 := HT.out.fz u
          by_cases hm : u ∈ os'
          · have HE2 : Hid (Gat l ks (k + 1) os') := HG2.out.done HG.out hlt HE.out (HG2.out.end2 HG.out HU.out huq hm)
            rw [decide_eq_true hm] at d0
            clear hm
            go_wp2_with fail
            go_roundg (ks.length - (k + 1))
            case measure => have := GK.out; omega
            case rel => exact ⟨k + 1, os', rfl, by omega, by go_num, HE2.out, HT.out, HO.out, HB.out⟩
          · have HE2 := hid (HG2.out.step HU.out huq hm)
            rw [decide_eq_false hm] at d0
            clear hm
            have HO2 := hid (ownsRow_setCell_below HO.out (a := ⟨w.heap.size, u, none⟩) (Nat.lt_succ_self _) (.bool true))
            have hws : wr.heap.size = (wr.setCell ⟨w.heap.size, u, none⟩ (.bool true)).heap.size := by simp [World.setCell]
            have HWS := hid hws
            have hbase : w.heap.size ≤ wr.heap.size := HB.out.size
            clear hws
            go_wp2_with (at_builtin; refine wpList_append_lies _ rfl (.tmp 47) (.tmp 49) 65 rfl (w.heap.size + 1) 3 i0 (.int .i64 0) 1 8 Tryz.underlying65 HJ.out HZ.out.1 HZ.out.2.1 HZ.out.2.2 rfl (by decide) (.slice va os'.length vc) os'.length (os'.map encI) rfl (World.ownsRow.alloc HO2.out _) ⟨wr.heap.size, 0, none⟩ 1 1 [encI u] rfl rfl (by rw [HWS.out]; exact World.news_of_block (heap_alloc_new _ _)) (by simp [encI, Value.oneCell']) (by decide) (by unfold maxLen; omega) (by omega) (by simp; omega) _ rfl ?_; intro gg cap w6 hown hgrow hat hlt6)
            have HB6 := hid (below_grown (HB.out.setCell (p := ⟨w.heap.size, u, none⟩) (Nat.le_refl _) (.bool true)) (by rw [← HWS.out]; exact hbase) HO2.out (Nat.le_succ _) hgrow)
            have HT6 : Hid (TB w6 w.heap.size l.length (os' ++ [u])) := by
              have hlt2 : w.heap.size < (wr.setCell ⟨w.heap.size, u, none⟩ (.bool true)).heap.size := by rw [← HWS.out]; exact hTl
              refine (HT.out.set (show u < l.length by omega)).keep ?_
              rw [hgrow.block w.heap.size (by simp; omega) (fun e => by have := HO2.out.lt _ e.symm; omega)]
              exact Below.heap_alloc _ _ _ hlt2
            have HO6 : Hid (w6.ownsRow (w.heap.size + 1) 3 1 (.slice (some ⟨gg, 0, none⟩) (os'.length + 1) cap) (os' ++ [u]).length ((os' ++ [u]).map encI)) := by
              show World.ownsRow _ _ _ _ _ _ _
              simpa using hown
            clear hown hgrow hat hlt6 HO2 HWS d0 f0
            have hul : u < l.length := by omega
            obtain ⟨b3, off3, hb3, hd⟩ := Sl.at (NdsAt.ext HL.out (Ext.below HB6.out)) hul
            injection hb3 with hb3
            injection hb3 with hb4 hb5
            subst hb4 hb5
            have c1 := hd.c1
            have hp : par l u = l[u].parent := by simp [par, ndAt_eq hul]
            rw [← hp] at c1
            clear hp hd
            go_quiet (fail)
            go_wp2_with fail
            go_roundg u
            case measure => have := GQ.out; omega
            case rel => exact ⟨u, os' ++ [u], rfl, rfl, rfl, HE2.out, HT6.out, HO6.out, below_dN HB6.out _⟩
        · have HE2 : Hid (Gat l ks (k + 1) os') := HG2.out.done HG.out hlt HE.out (HG2.out.end1 hr)
          generalize par l q = u at *
          by_cases h0 : 0 ≤ u
          · have h1 : ¬ u < (q : Int) := fun h => hr ⟨h0, h⟩
            clear hr
            go_wp2_with fail
            go_roundg (ks.length - (k + 1))
            case measure => have := GK.out; omega
            case rel => exact ⟨k + 1, os', rfl, by omega, by go_num, HE2.out, HT.out, HO.out, HB.out⟩
          · clear hr
            go_wp2_with fail
            go_roundg (ks.length - (k + 1))
            case measure => have := GK.out; omega
            case rel => exact ⟨k + 1, os', rfl, by omega, by go_num, HE2.out, HT.out, HO.out, HB.out⟩
    · have hk2 : k = ks.length := by omega
      have HE2 : Hid (Gat l ks ks.length os) := by
        show Gat _ _ _ _
        rw [← hk2]; exact HG.out
      clear hk2
      go_wp2_with fail
      go_ret
      exact ⟨.slice va os.length vc, os, rfl, HE2.out, IsAt.own HO.out, HB.out⟩
end Go.Proofs.YtblkldfokeeaeacGreatDoor
namespace Go.Proofs.YtblkldfokeeaeacGreatDoor
open Go.RowKit
theorem ups_one {l : List Nd} {k : Nat} {j : Int} (h : j ≠ 1) : ups l k j = if inB l (single l k j) then [(single l k j).toNat] else [] := by
  unfold ups inB
  rw [if_neg h]
  by_cases h0 : 0 ≤ single l k j ∧ single l k j < l.length
  · rw [if_pos h0, if_pos (by simp [h0])]
  · rw [if_neg h0, if_neg (by simpa using h0)]
set_option maxRecDepth 100000 in
set_option maxHeartbeats 4000000 in
theorem joined_any (lv : Value) (l : List Nd) (iv : Value) (ks : List Nat) (j : Int) (w : World) (hl : NdsAt w lv l) (hs : l.length ≤ lim) (hi : IsAt w iv ks) (hkl : ks.length ≤ lim) (hin : ∀ x ∈ ks, x < l.length) :
    Calls Tryz.prog 187 #[lv, iv, .int .i64 j] w fun e w' => ∃ v os, e = .returned v ∧ (∀ x, x ∈ os ↔ ∃ k ∈ ks, x ∈ ups l k j) ∧ os.length ≤ lim ∧ IsAt w' v os ∧ Below w.heap.size w w' := by
  obtain ⟨ia, icap, rfl⟩ := Sl.form hi
  have HL := hid hl
  have HI := hid hi
  have HIN := hid hin
  have HS := hid hs
  have HKL := hid hkl
  unfold lim at hkl
  obtain ⟨i0, hi', hz0, hz1, hz2⟩ := info_parts Tryz.infoI
  have HJ := hid hi'
  have HZ : Hid (i0.zero = some (.int .i64 0) ∧ i0.size = 1 ∧ i0.bytes = 8) := ⟨hz0, hz1, hz2⟩
  clear hl hi hin hi' hz0 hz1 hz2 hs
  by_cases hj : j = 1
  · subst hj
    go_enter Tryz.func187, Tryz.ntmps187
    go_wp2_with fail
    refine (allAbove_any lv l _ ks _ HL.out HS.out HI.out HKL.out HIN.out).mono ?_
    rintro e w2 ⟨v, os, rfl, hG, hI, hB⟩
    have HG := hid hG
    have HI2 := hid hI
    have HB := hid hB
    clear hG hI hB
    go_wp2_with fail
    go_ret
    refine ⟨v, os, rfl, fun x => ?_, Nat.le_trans HG.out.len HS.out, HI2.out, HB.out⟩
    rw [HG.out.eq x, List.take_length]
    simp [ups]
  · have HJ1 := hid hj
    have hj' : (j == 1) = false := by simp [hj]
    clear hj
    go_enter Tryz.func187, Tryz.ntmps187
    go_wp2_with fail
    go_loopg [7, 18] ks.length (fun n v i wr => ∃ (k : Nat) (os : List Nat), n = ks.length - k ∧ k ≤ ks.length ∧ i = .int .i64 (k : Int) ∧ os = (ks.take k).flatMap (ups l · j) ∧ os.length ≤ k ∧ wr.ownsRow w.heap.size 3 1 v os.length (os.map encI) ∧ Below w.heap.size w wr)
    case atStart => exact ⟨0, [], rfl, Nat.zero_le _, rfl, rfl, Nat.zero_le _, World.ownsRow_nil _ _ _ _, Below.refl _ _⟩
    case round =>
      obtain ⟨k, os, hn, hk, rfl, hG, hol, hO, hB⟩ := hrel
      have GK := hid hn
      have HB := hid hB
      have HG := hid hG
      have HO := hid hO
      obtain ⟨va, vc, rfl⟩ := own_form hO
      clear hn hB hO hG
      by_cases hlt : k < ks.length
      · obtain ⟨b, off, rfl, he⟩ := Sl.at (IsAt.ext HI.out (Ext.below HB.out)) hlt
        have c0 : wr.cell? ⟨b, off + k, none⟩ = some (.int .i64 (ks[k] : Int)) := by
          have h : wr.cell? ⟨b, off + k * 1 + 0, none⟩ = _ := he
          rw [show off + k * 1 + 0 = off + k by omega] at h
          exact h
        have hx := HIN.out ks[k] (List.getElem_mem hlt)
        have HF : Hid ((ks.take (k + 1)).flatMap (ups l · j) = os ++ if inB l (single l ks[k] j) then [(single l ks[k] j).toNat] else []) := by
          show _ = _
          rw [List.take_succ_eq_append_getElem hlt, List.flatMap_append, ← HG.out, List.flatMap_cons, List.flatMap_nil, List.append_nil, ups_one HJ1.out]
        generalize ks[k] = x at *
        clear he
        go_wp2_with fail
        refine (single_any lv l x j _ (HL.out.ext (Ext.below HB.out)) HS.out hx).mono ?_
        rintro e w2 ⟨rfl, n2, rfl⟩
        have HB2 := hid (below_dN HB.out n2)
        have HO2 : Hid ((wr.drewN n2).ownsRow w.heap.size 3 1 (.slice va os.length vc) os.length (os.map encI)) := HO.out
        generalize wr.drewN n2 = w2 at *
        go_wp2_with fail
        refine (has_any lv l _ _ (HL.out.ext (Ext.below HB2.out))).mono ?_
        rintro e w3 ⟨rfl, h3⟩
        subst h3
        rcases htb : inB l (single l x j)
        · have HR3 : Hid ((ks.take (k + 1)).flatMap (ups l · j) = os) := by
            show _ = os
            have := HF.out; rw [htb] at this; simpa using this
          go_wp2_with fail
          go_roundg (ks.length - (k + 1))
          case measure => have := GK.out; omega
          case rel => exact ⟨k + 1, os, rfl, by omega, by go_num, HR3.out.symm, by omega, HO2.out, HB2.out⟩
        · have hpos : 0 ≤ single l x j := by simp [inB] at htb; exact htb.1
          obtain ⟨u, hu⟩ : ∃ u : Nat, single l x j = u := ⟨(single l x j).toNat, by omega⟩
          have HR3 : Hid ((ks.take (k + 1)).flatMap (ups l · j) = os ++ [u]) := by
            show _ = os ++ [u]
            have := HF.out; rw [htb, hu] at this; simpa using this
          rw [hu]
          clear hu hpos htb
          have hbase : w.heap.size ≤ w3.heap.size := HB2.out.size
          go_wp2_with (at_builtin; refine wpList_append_lies _ rfl (.tmp 29) (.tmp 31) 65 rfl w.heap.size 3 i0 (.int .i64 0) 1 8 Tryz.underlying65 HJ.out HZ.out.1 HZ.out.2.1 HZ.out.2.2 rfl (by decide) (.slice va os.length vc) os.length (os.map encI) rfl (World.ownsRow.alloc HO2.out _) ⟨w3.heap.size, 0, none⟩ 1 1 [encI u] rfl rfl (World.news_of_block (heap_alloc_new w3 _)) (by simp [encI, Value.oneCell']) (by decide) (by unfold maxLen; omega) (by omega) (by simp; omega) _ rfl ?_; intro gg cap w6 hown hgrow hat hlt6)
          have HB6 := hid (below_grown HB2.out hbase HO2.out (Nat.le_refl _) hgrow)
          have HO6 : Hid (w6.ownsRow w.heap.size 3 1 (.slice (some ⟨gg, 0, none⟩) (os.length + 1) cap) (os ++ [u]).length ((os ++ [u]).map encI)) := by
            show World.ownsRow _ _ _ _ _ _ _
            simpa using hown
          clear hown hgrow hat hlt6
          go_roundg (ks.length - (k + 1))
          case measure => have := GK.out; omega
          case rel => exact ⟨k + 1, os ++ [u], rfl, by omega, by go_num, HR3.out.symm, by simp; omega, HO6.out, HB6.out⟩
      · have HR3 : Hid (os = ks.flatMap (ups l · j)) := by
          show os = _
          rw [HG.out, List.take_of_length_le (by omega)]
        have HOL := hid hol
        clear hol
        go_wp2_with fail
        go_ret
        refine ⟨.slice va os.length vc, os, rfl, fun x => ?_, ?_, IsAt.own HO.out, HB.out⟩
        · rw [HR3.out, List.mem_flatMap]
        · exact Nat.le_trans HOL.out (Nat.le_trans hk HKL.out)
end Go.Proofs.YtblkldfokeeaeacGreatDoor
namespace Go.Proofs.YtblkldfokeeaeacGreatDoor
open Go.RowKit
theorem eP.cells {w : World} {b o : Nat} {x : Pt} (h : eP w (fun j => w.cell? ⟨b, o + j, none⟩) x) : ∃ a cap, w.cell? ⟨b, o, none⟩ = some (.int .i64 x.join) ∧ w.cell? ⟨b, o + 1, none⟩ = some (.slice a x.tests.length cap) ∧ TsAt w (.slice a x.tests.length cap) x.tests := by
  obtain ⟨h0, v, h1, h2⟩ := h
  obtain ⟨a, cap, rfl⟩ := Sl.form h2
  exact ⟨a, cap, h0, h1, h2⟩
theorem Ext.drew (w : World) : Ext w w.drew := fun _ _ _ h => h
theorem rest_step {l : List Nd} {s : List Pt} {i : Nat} {os js : List Nat} {q : Pt} {j : Int} (hj : (ptAt s (i + 1)).join = j) (hq : ptAt s i = q) (h : ∀ x, x ∈ js ↔ ∃ k ∈ os, x ∈ ups l k j) :
    os.any (rest l s (i + 1)) = (js.filter (partB l · q)).any (rest l s i) := by
  rw [Bool.eq_iff_iff]
  simp only [List.any_eq_true, List.mem_filter, rest, hj, hq, Bool.and_eq_true]
  constructor
  · rintro ⟨x, hx, y, hy, h1, h2⟩
    exact ⟨y, ⟨(h y).2 ⟨x, hx, hy⟩, h1⟩, h2⟩
  · rintro ⟨y, ⟨hy, h1⟩, h2⟩
    obtain ⟨x, hx, hxy⟩ := (h y).1 hy
    exact ⟨x, hx, y, hxy, h1, h2⟩
theorem rest_zero {l : List Nd} {s : List Pt} {os : List Nat} : os.any (rest l s 0) = decide (0 < os.length) := by
  cases os <;> simp [rest]
set_option maxRecDepth 100000 in
set_option maxHeartbeats 4000000 in
theorem means_any (lv : Value) (l : List Nd) (k : Nat) (sv : Value) (s : List Pt) (w : World) (hl : NdsAt w lv l) (hs : SmNs l) (hm : Mx w) (hk : k < l.length) (hS : PsAt w sv s) (hss : SmS s) (h1 : 0 < s.length) :
    Calls Tryz.prog 167 #[lv, .int .i64 (k : Int), sv] w fun e w' => e = .returned (.bool (meansB l k s)) ∧ Below w.heap.size w w' := by
  obtain ⟨sa, scap, rfl⟩ := Sl.form hS
  have HL := hid hl
  have HN := hid hs
  have HM := hid hm
  have HP := hid hS
  have HSS := hid hss
  have hsl := hss.1
  unfold lim at hsl
  obtain ⟨t, ht⟩ : ∃ t, s.length = t + 1 := ⟨s.length - 1, by omega⟩
  have HT := hid ht
  have htl : t < s.length := by omega
  obtain ⟨b, off, rfl, he⟩ := Sl.at hS htl
  obtain ⟨ta, tcap, c0, c1, hts⟩ := he.cells
  have HTS := hid hts
  have HTL := hid (hss.part (List.getElem_mem htl))
  have hbs := lt_of_cell c0
  have HE : Hid (meansB l k s = ([k].filter (partB l · s[t])).any (rest l s t)) := by
    show meansB l k s = _
    unfold meansB
    rw [ht, Nat.add_sub_cancel, ptAt_eq htl]
    cases h : partB l k s[t] <;> simp [h]
  generalize meansB l k s = R at *
  generalize s[t] = p at *
  clear hl hs hm hS hss he hts h1 htl
  rw [ht] at hsl ⊢
  clear ht
  go_enter Tryz.func167, Tryz.ntmps167
  go_wp2_with fail
  have HB0 : Hid (Below w.heap.size w (w.alloc (.cells #[.int .i64 (k : Int)] 3))) := (Below.refl _ _).alloc (Nat.le_refl _) _
  have HI0 : Hid (IsAt (w.alloc (.cells #[.int .i64 (k : Int)] 3)) (.slice (some ⟨w.heap.size, 0, none⟩) 1 1) [k]) := by
    refine ⟨_, 1, rfl, nofun, fun i hi => ⟨w.heap.size, 0, rfl, ?_⟩⟩
    obtain rfl : i = 0 := by simp at hi; omega
    show World.cell? _ ⟨w.heap.size, 0 + 0 * 1 + 0, none⟩ = _
    rw [cell_new]; rfl
  refine (asAsked_any lv l _ [k] p _ _ (HL.out.ext (Ext.below HB0.out)) HN.out (HM.out.ext (Ext.below HB0.out)) HI0.out (by unfold lim; simp) (by simpa using hk) (HTS.out.ext (Ext.below HB0.out)) HTL.out).mono ?_
  rintro e W ⟨v, rfl, hI, hB⟩
  have HB := hid (below_trans HB0.out hB (Nat.le_refl _))
  have HI := hid hI
  obtain ⟨va, vc, rfl⟩ := Sl.form hI
  clear hI hB c0 c1 HTL HTS HB0 HI0 hbs
  go_wp2_with fail
  go_loopg [8, 9] t (fun n v i wr => ∃ (q : Nat) (os : List Nat), n = q ∧ q ≤ t ∧ i = .int .i64 (q : Int) ∧ IsAt wr v os ∧ os.length ≤ lim ∧ (∀ x ∈ os, x < l.length) ∧ R = os.any (rest l s q) ∧ Below w.heap.size w wr)
  case atStart => exact ⟨t, [k].filter (partB l · p), rfl, Nat.le_refl _, rfl, HI.out, Nat.le_trans (List.length_filter_le _ _) (by unfold lim; simp), fun x hx => by have := (List.mem_filter.1 hx).1; simp at this; subst this; exact hk, HE.out, HB.out⟩
  case round =>
    clear HI HB HE
    obtain ⟨q, os, hn, hq, rfl, hI, hol, hox, hR, hB⟩ := hrel
    have GK := hid hn
    have HI := hid hI
    have HOL := hid hol
    have HOX := hid hox
    have HR := hid hR
    have HB := hid hB
    obtain ⟨va, vc, rfl⟩ := Sl.form hI
    unfold lim at hol
    clear hn hI hox hR hB
    cases q with
    | zero =>
      have HR2 : Hid (R = decide (0 < os.length)) := by show R = _; rw [HR.out, rest_zero]
      go_wp2_with fail
      go_ret
      exact ⟨ret_bool HR2.out.symm, HB.out⟩
    | succ q =>
      by_cases h0 : os.length = 0
      · have HR2 : Hid (R = false) := by
          show R = _
          rw [HR.out]
          have : os = [] := List.length_eq_zero_iff.1 h0
          subst this; rfl
        rw [h0]
        go_wp2_with fail
        go_ret
        exact ⟨ret_bool HR2.out.symm, HB.out⟩
      · have hpos : 0 < os.length := by omega
        clear h0
        have hq1 : q + 1 < s.length := by have := HT.out; omega
        have hq0 : q < s.length := by omega
        obtain ⟨b1, off1, hb1, he1⟩ := Sl.at (HP.out.ext (Ext.below HB.out)) hq1
        injection hb1 with hb1
        injection hb1 with hb1 hb2
        subst hb1 hb2
        obtain ⟨ta1, tc1, d0, hz1, hz2⟩ := he1.cells
        clear hz1 hz2
        obtain ⟨b1, off1, hb1, he2⟩ := Sl.at (HP.out.ext (Ext.below HB.out)) hq0
        injection hb1 with hb1
        injection hb1 with hb1 hb2
        subst hb1 hb2
        obtain ⟨ta, tcap, c0, c1, hts⟩ := he2.cells
        have HTL := hid (HSS.out.part (List.getElem_mem hq0))
        have HTS := hid hts
        have HJ : Hid ((ptAt s (q + 1)).join = s[q + 1].join) := by show _ = _; rw [ptAt_eq hq1]
        have HQ : Hid (ptAt s q = s[q]) := ptAt_eq hq0
        generalize s[q + 1].join = j at *
        generalize s[q] = p2 at *
        clear he1 he2 hts hq1 hq0
        go_wp2_with fail
        have XD := Ext.drew wr
        have HXD := hid XD
        have HLD := hid ((HL.out.ext (Ext.below HB.out)).ext XD)
        have HID := hid (HI.out.ext XD)
        have HMD := hid ((HM.out.ext (Ext.below HB.out)).ext XD)
        have HTD := hid (HTS.out.ext XD)
        clear XD
        have n1 : q < t + 1 := by omega
        have n2 : (q : Int) < (t : Int) + 1 := by omega
        have n3 : (q : Int) + 1 < (t : Int) + 1 := by omega
        have n4 : (0 : Int) ≤ (q : Int) + 1 := by omega
        have n5 : ((q : Int) + 1).toNat = q + 1 := by omega
        have n6 : IntKind.i64.wrap (q : Int) = q := by
          rw [IntKind.wrap_i64]; omega
        have n7 : (0 : Int) ≤ (q : Int) := by omega
        go_region_with (first
          | (go_at_call 187; go_must (refine (joined_any lv l _ os j _ HLD.out HN.out.1 HID.out HOL.out HOX.out).mono ?_; rintro e w2 ⟨v2, js, rfl, hjs, hjl, hji, hb⟩; have c0' := Ext.below hb _ _ _ (HXD.out _ _ _ c0); have c1' := Ext.below hb _ _ _ (HXD.out _ _ _ c1); have HJS := hid hjs; have HJI := hid hji; have HJL := hid hjl; have HB2 := hid hb; clear hjs hji hjl hb))
          | (go_at_call 186; go_must (refine (asAsked_any lv l _ js p2 _ _ (HLD.out.ext (Ext.below HB2.out)) HN.out (HMD.out.ext (Ext.below HB2.out)) HJI.out HJL.out (fun x hx => by obtain ⟨k', hk', hx'⟩ := (HJS.out x).1 hx; exact ups_lt (HOX.out k' hk') hx') (HTD.out.ext (Ext.below HB2.out)) HTL.out).mono ?_; rintro e w3 ⟨v3, rfl, hI3, hB3⟩; have HI3 := hid hI3; have HB3 := hid hB3; clear hI3 hB3)))
        all_goals
          clear c0 c1 c0' c1' d0
          go_wp2_with fail
          go_roundg q
          case measure => have := GK.out; omega
          case rel =>
            refine ⟨q, js.filter (partB l · p2), rfl, by omega, by go_num, HI3.out, Nat.le_trans (List.length_filter_le _ _) HJL.out, ?_, ?_, ?_⟩
            · intro x hx
              obtain ⟨k', hk', hx'⟩ := (HJS.out x).1 (List.mem_filter.1 hx).1
              exact ups_lt (HOX.out k' hk') hx'
            · rw [HR.out]; exact rest_step HJ.out HQ.out HJS.out
            · exact below_trans (below_trans HB.out.drew HB2.out (Nat.le_refl _)) HB3.out (Nat.le_refl _)
set_option maxHeartbeats 1000000 in
theorem matches_any (lv : Value) (l : List Nd) (k : Int) (sv : Value) (s : List Pt) (w : World) (hl : NdsAt w lv l) (hs : SmNs l) (hm : Mx w) (hS : PsAt w sv s) (hss : SmS s) :
    Calls Tryz.prog 135 #[lv, .int .i64 k, sv] w fun e w' => e = .returned (.bool (matchB l k s)) ∧ Below w.heap.size w w' := by
  obtain ⟨sa, scap, rfl⟩ := Sl.form hS
  have HL := hid hl
  have HN := hid hs
  have HM := hid hm
  have HP := hid hS
  have HSS := hid hss
  have hsl := hss.1
  unfold lim at hsl
  have HE : Hid (matchB l k s = (inB l k && decide (0 < s.length) && meansB l k.toNat s)) := rfl
  generalize matchB l k s = R at *
  clear hl hs hm hS hss
  cases hb : inB l k
  · have HR : Hid (R = false) := by have := HE.out; rw [hb] at this; exact this
    go_enter Tryz.func135, Tryz.ntmps135
    go_wp2_with (go_at_call 166; refine (has_any lv l k _ HL.out).mono ?_; rintro e w' ⟨rfl, rfl⟩; rw [hb])
    go_ret
    exact ⟨ret_bool HR.out.symm, Below.refl _ _⟩
  · by_cases h0 : s.length = 0
    · have HR : Hid (R = false) := by have := HE.out; rw [hb, h0] at this; exact this
      rw [h0]
      go_enter Tryz.func135, Tryz.ntmps135
      go_wp2_with (go_at_call 166; refine (has_any lv l k _ HL.out).mono ?_; rintro e w' ⟨rfl, rfl⟩; rw [hb])
      go_ret
      exact ⟨ret_bool HR.out.symm, Below.refl _ _⟩
    · have hpos : 0 < s.length := by omega
      have hin : 0 ≤ k ∧ k < l.length := by simpa [inB] using hb
      obtain ⟨n, rfl⟩ : ∃ n : Nat, k = n := ⟨k.toNat, by omega⟩
      have HR : Hid (R = meansB l n s) := by have := HE.out; rw [hb, decide_eq_true hpos] at this; exact this
      have hn : n < l.length := by omega
      clear hin h0
      go_enter Tryz.func135, Tryz.ntmps135
      go_wp2_with (first
        | (go_at_call 166; refine (has_any lv l n _ HL.out).mono ?_; rintro e w' ⟨rfl, rfl⟩; rw [hb])
        | (go_at_call 167; refine (means_any lv l n _ s _ HL.out HN.out HM.out hn HP.out HSS.out hpos).mono ?_; rintro e w' ⟨rfl, hB⟩))
      go_ret
      exact ⟨ret_bool HR.out.symm, hB⟩
end Go.Proofs.YtblkldfokeeaeacGreatDoor
