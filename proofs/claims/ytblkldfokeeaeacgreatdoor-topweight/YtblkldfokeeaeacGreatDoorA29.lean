/- Texts that the statement's proof stands on: FD, FE, FF. -/
import Derived.Test.YtblkldfokeeaeacGreatDoorA28
namespace Go.Proofs.YtblkldfokeeaeacGreatDoor
open Go.RowKit Go.Maps
theorem Tryz.infoBo : (Tryz.prog.info? 4).map (fun i => (i.zero, i.size, i.bytes)) = some (some (.bool false), 1, 1) := by kernel_rfl
theorem made_bools (n : Nat) : madeCells (Value.bool false).cells (n * 1) = bsV (List.replicate n false) := by
  apply Array.ext
  · rw [size_madeCells]; simp [bsV]
  · intro i h1 h2
    simp [madeCells, bsV, Value.cells, Nat.mod_one]
theorem make_bools (n : Nat) (hn : n ≤ 1048576) (w : World) : (Instr.makeSlice 53 (.int .i64 (n : Int)) (.int .i64 (n : Int))).run Tryz.prog w = .ok (.slice (some ⟨w.heap.size, 0, none⟩) n n) (w.alloc (.cells (bsV (List.replicate n false)) 4)) := by
  obtain ⟨i0, hi, hz0, hz1, hz2⟩ := info_parts Tryz.infoBo
  have := run_makeSlice (P := Tryz.prog) w 53 4 i0 (.bool false) Tryz.underlying53 hi hz0 .i64 .i64 (n : Int) (n : Int) (by omega) (by omega) (by rw [hz1]; omega) (by rw [hz2]; omega) (by omega)
  rw [hz1] at this
  simp only [Int.toNat_natCast] at this
  rw [this, made_bools]
theorem empty_iff (x : ByteArray) : x.toList.isEmpty = false ↔ x ≠ ⟨#[]⟩ := by
  have e : ∀ y : ByteArray, y.toList = y.data.toList := ByteArray.toList_eq
  rw [e]
  constructor
  · rintro h rfl
    simp at h
  · intro h
    cases hx : x.data.toList with
    | nil => exact absurd (ba_ext (by rw [hx])) h
    | cons _ _ => rfl
theorem below_kp {B : Nat} {a w1 w2 : World} {X : Nat → Prop} (h : Below B a w1) (k : Sh.Kp X w1 w2) (hX : ∀ j, X j → B ≤ j) (hB : B ≤ a.heap.size) : Below B a w2 :=
  h.trans ⟨k.os, k.tape, k.output, k.size, fun j hj => k.block j (Nat.lt_of_lt_of_le hj (Nat.le_trans hB h.size)) fun hx => by have := hX j hx; omega⟩
theorem StM.start (w : World) (n : Nat) : StM (((w.alloc (.cells (bsV (List.replicate n false)) 4)).alloc (.cells #[.slice (some ⟨w.heap.size, 0, none⟩) n n] 53)).alloc (.cells #[.slice none 0 0] 65)) w.heap.size (w.heap.size + 1) w.heap.size (w.heap.size + 2) (List.replicate n false) (.slice none 0 0) [] := by
  have h1 := heap_alloc_new w (.cells (bsV (List.replicate n false)) 4)
  have h2 := heap_alloc_new (w.alloc (.cells (bsV (List.replicate n false)) 4)) (.cells #[.slice (some ⟨w.heap.size, 0, none⟩) n n] 53)
  have h3 := heap_alloc_new ((w.alloc (.cells (bsV (List.replicate n false)) 4)).alloc (.cells #[.slice (some ⟨w.heap.size, 0, none⟩) n n] 53)) (.cells #[.slice none 0 0] 65)
  simp only [World.size_alloc] at h2 h3
  refine ⟨?_, ?_, h3, .inl ⟨rfl, rfl⟩⟩
  · rw [Below.heap_alloc _ _ _ (by simp), h2, List.length_replicate]
  · rw [Below.heap_alloc _ _ _ (by simp; omega), Below.heap_alloc _ _ _ (by simp), h1]
structure Lp (w wh wr : World) (H0 P G Q : Nat) (st : List Bool) (v : Value) (ks : List Nat) : Prop where
  m : StM wr w.heap.size P G Q st v ks
  b : Below w.heap.size w wr
  k : ∀ j, H0 ≤ j → j < wh.heap.size → wr.heap[j]? = wh.heap[j]?
  s : wh.heap.size ≤ wr.heap.size
  o : ∀ g, v.ownBlock = some g → g < H0 ∨ wh.heap.size ≤ g
  g : w.heap.size ≤ G ∧ G < H0
  q : w.heap.size ≤ Q ∧ Q < H0
section
variable {w wh wr wr' : World} {H0 P G Q : Nat} {st : List Bool} {v v' : Value} {ks ks' : List Nat}
theorem lt_heap {w : World} {j : Nat} {o : Obj} (h : w.heap[j]? = some o) : j < w.heap.size := (Array.getElem?_eq_some_iff.1 h).1
theorem Lp.start {wo : World} (h : StM wo w.heap.size (w.heap.size + 1) w.heap.size (w.heap.size + 1 + 1) st v ks) (hb : Below w.heap.size w wo) (hbh : Below wo.heap.size wo wh) : Lp w wh wh wo.heap.size (w.heap.size + 1) w.heap.size (w.heap.size + 1 + 1) st v ks :=
  ⟨h.below hbh, below_trans hb hbh (Nat.le_refl _), fun _ _ _ => rfl, Nat.le_refl _, fun _ hg => .inl (h.row.lt hg).2, ⟨Nat.le_refl _, lt_heap h.g⟩, ⟨by omega, lt_heap h.q⟩⟩
theorem Lp.below (h : Lp w wh wr H0 P G Q st v ks) (hb : Below wr.heap.size wr wr') : Lp w wh wr' H0 P G Q st v ks :=
  ⟨h.m.below hb, below_trans h.b hb (Nat.le_refl _), fun j h1 h2 => (hb.block j (Nat.lt_of_lt_of_le h2 h.s)).trans (h.k j h1 h2), Nat.le_trans h.s hb.size, h.o, h.g, h.q⟩
theorem Lp.kept (h : Lp w wh wr H0 P G Q st v ks) {st' : List Bool} (hm : StM wr' w.heap.size P G Q st' v' ks') (ho : v'.ownBlock = v.ownBlock ∨ ∃ g, v'.ownBlock = some g ∧ wr.heap.size ≤ g) (hk : Sh.Kp (fun j => j = G ∨ j = Q ∨ v.ownBlock = some j) wr wr') : Lp w wh wr' H0 P G Q st' v' ks' := by
  refine ⟨hm, below_kp h.b hk ?_ (Nat.le_refl _), fun j h1 h2 => (hk.block j (Nat.lt_of_lt_of_le h2 h.s) ?_).trans (h.k j h1 h2), Nat.le_trans h.s hk.size, ?_, h.g, h.q⟩
  · rintro j (rfl | rfl | hx)
    · exact h.g.1
    · exact h.q.1
    · exact (h.m.row.lt hx).1
  · rintro (rfl | rfl | hx)
    · have := h.g.2; omega
    · have := h.q.2; omega
    · have := h.o j hx; omega
  · intro g hg
    rcases ho with ho | ⟨g', ho, hge⟩
    · exact h.o g (ho ▸ hg)
    · rw [ho] at hg
      cases hg
      exact .inr (Nat.le_trans h.s hge)
end
theorem own_same {w w' : World} {base T sz n : Nat} {v : Value} {xs : List Value} (h : w.ownsRow base T sz v n xs) (hk : ∀ j, base ≤ j → j < w.heap.size → w'.heap[j]? = w.heap[j]?) : w'.ownsRow base T sz v n xs := by
  refine ⟨h.1, ?_⟩
  rcases h.2 with h2 | ⟨g, cap, cur, h2, h3, h4, h5⟩
  · exact .inl h2
  · exact .inr ⟨g, cap, cur, h2, h3, (hk g h3 (lt_heap h4)).trans h4, h5⟩
theorem HsIn.same {w w' : World} {base : Nat} {v : Value} {L : List Hl} (h : HsIn w base v L) (hk : ∀ j, base ≤ j → j < w.heap.size → w'.heap[j]? = w.heap[j]?) : HsIn w' base v L := by
  obtain ⟨LV, h1, h2, h3⟩ := h
  exact ⟨LV, h1, own_same h2 hk, fun p hp => ⟨own_same (h3 p hp).1 hk, own_same (h3 p hp).2 hk⟩⟩
def eH (w : World) (c : Nat → Option Value) (a : Hl) : Prop := ∃ ea en ec na nn nc, c 0 = some (.slice ea en ec) ∧ c 1 = some (.slice na nn nc) ∧ IsAt w (.slice ea en ec) a.1 ∧ BsAt w (.slice na nn nc) a.2
theorem hs_of {w : World} {base : Nat} {v : Value} {L : List Hl} (h : HsIn w base v L) : Sl w 2 (eH w) v L := by
  have := nat_of (T := 96) (sz := 2) (enc := encH) (P := HlP base) (base := base) (by decide) (fun _ => rfl) h (eH w) (fun x => x) fun _ _ p hp hc => by
    have h1 := IsAt.own hp.1
    have h2 := BsAt.own hp.2
    have c0 := hc 0 (by decide)
    have c1 := hc 1 (by decide)
    obtain ⟨⟨a1, a2⟩, x1, x2⟩ := p
    obtain ⟨ea, ec, h3⟩ := Sl.form h1
    obtain ⟨na, nc, h4⟩ := Sl.form h2
    simp only at h3 h4
    subst h3 h4
    exact ⟨_, _, _, _, _, _, c0, c1, h1, h2⟩
  simpa using this
theorem eH.cells {w : World} {b o : Nat} {a : Hl} (h : eH w (fun j => w.cell? ⟨b, o + j, none⟩) a) : ∃ ea en ec na nn nc, w.cell? ⟨b, o, none⟩ = some (.slice ea en ec) ∧ w.cell? ⟨b, o + 1, none⟩ = some (.slice na nn nc) ∧ IsAt w (.slice ea en ec) a.1 ∧ BsAt w (.slice na nn nc) a.2 := h
theorem meant_few {l : List Nd} (h : SmNs l) (r : Ru) : (meantB l r).length ≤ 1048576 := by
  have h1 := meantTo_len l r l.length
  have h2 := h.1
  unfold lim at h2
  exact Nat.le_trans h1 h2
theorem meant_lt {l : List Nd} (h : SmNs l) (r : Ru) : ∀ k ∈ meantB l r, k ≤ 1048576 := fun k hk => by
  have h1 := meantB_lt k hk
  have h2 := h.1
  unfold lim at h2
  omega
theorem meet_eq (l : List Nd) (r q : Ru) : (((meantB l r).any fun k => (meantB l q).contains k) && ((namesA r).map fun k => k.data.toList).any fun k => ((namesA q).map fun k => k.data.toList).contains k) = meetB l r q := by
  rw [names_eq, names_eq]
  unfold meetB meantB
  congr 1
  rw [Bool.eq_iff_iff, List.any_eq_true, List.any_eq_true]
  constructor
  · rintro ⟨k, h1, h2⟩
    have h3 := List.mem_filter.1 h1
    have h4 := List.mem_filter.1 (List.contains_iff_mem.1 h2)
    exact ⟨k, h3.1, by simp [h3.2, h4.2]⟩
  · rintro ⟨k, h1, h2⟩
    have h3 : meansR l k r = true ∧ meansR l k q = true := by simpa using h2
    exact ⟨k, List.mem_filter.2 ⟨h1, h3.1⟩, List.contains_iff_mem.2 (List.mem_filter.2 ⟨h1, h3.2⟩)⟩
theorem QAt.head {w : World} {base : Nat} {v : Value} {a : Nat} {ks : List Nat} (h : QAt w base v (a :: ks)) : ∃ g o cap, v = .slice (some ⟨g, o, none⟩) (ks.length + 1) cap ∧ ks.length + 1 ≤ cap ∧ w.cell? ⟨g, o, none⟩ = some (.int .i64 (a : Int)) ∧ QAt w base (.slice (some ⟨g, o + 1, none⟩) ks.length (cap - 1)) ks ∧ (cap = 1 → QAt w base (.slice (some ⟨g, o, none⟩) ks.length 0) ks) := by
  rcases h with ⟨_, h⟩ | ⟨g, o, cap, cur, h1, h2, h3, h4, h5, h6, h7, h8⟩
  · cases h
  · have hl : (a :: ks).length = ks.length + 1 := rfl
    rw [hl] at h1 h4
    refine ⟨g, o, cap, h1, h4, ?_, .inr ⟨g, o + 1, cap - 1, cur, rfl, h2, h3, by omega, by omega, by omega, fun j hj => ?_, h8⟩, fun hc => .inr ⟨g, o, 0, cur, rfl, h2, h3, by omega, by omega, by omega, fun j hj => by omega, h8⟩⟩
    · rw [Sh.cell_of h3]
      exact h7 0 (by simp)
    · have := h7 (j + 1) (by simp; omega)
      rw [show o + 1 + j = o + (j + 1) by omega, this]
      rfl
theorem Lp.popd {w wh wr wm : World} {H0 P G Q g : Nat} {st : List Bool} {v v3 : Value} {ks ks3 : List Nat} (h : Lp w wh wr H0 P G Q st v ks) (hb : Below wr.heap.size wr wm) (hq : QAt wr w.heap.size v3 ks3) (ho : v.ownBlock = some g) (h3 : v3.ownBlock = some g) : Lp w wh (wm.setCell ⟨Q, 0, none⟩ v3) H0 P G Q st v3 ks3 ∧ Sh.Kp (fun j => j = G ∨ j = Q ∨ v.ownBlock = some j) wm (wm.setCell ⟨Q, 0, none⟩ v3) := by
  have hm := h.below hb
  have kp : Sh.Kp (fun j => j = G ∨ j = Q ∨ v.ownBlock = some j) wm (wm.setCell ⟨Q, 0, none⟩ v3) := ⟨rfl, rfl, rfl, by simp, fun j _ hne => Below.heap_setCell _ _ _ _ fun e => hne (.inr (.inl e))⟩
  refine ⟨hm.kept ⟨?_, ?_, one_setCell hm.m.q, (hq.below hb).kept fun j hj => Below.heap_setCell _ _ _ _ ?_⟩ (.inl (h3.trans ho.symm)) kp, kp⟩
  · rw [Below.heap_setCell _ _ _ _ (ty_ne hm.m.p hm.m.q (by decide))]; exact hm.m.p
  · rw [Below.heap_setCell _ _ _ _ (ty_ne hm.m.g hm.m.q (by decide))]; exact hm.m.g
  · obtain ⟨cur, hc, _⟩ := (hq.below hb).block hj
    exact ty_ne hc hm.m.q (by decide)
def isFM : Value → Bool
  | .func .. => true
  | .map _ => true
  | _ => false
theorem BlI.kept {w w' : World} {f : Value} {ks : List Nat} (h : BlI w f ks) (hk : ∀ (j : Nat) (x : Value), w.cell? ⟨j, 0, none⟩ = some x → isFM x = true → w'.heap[j]? = w.heap[j]?) (hm : ∀ (j : Nat) (es : Array MapEntry) (c : Nat), w.heap[j]? = some (.map es c) → w'.heap[j]? = w.heap[j]?) : BlI w' f ks := by
  obtain ⟨B, M, n, h1, h2, h3⟩ := h
  obtain ⟨es, c, hM⟩ := h3.map
  exact ⟨B, M, n, h1, (World.cell?_of_block (a := ⟨B, 0, none⟩) (hk B _ h2 rfl)).trans h2, h3.kept (hm M es c hM)⟩
theorem BlS.kept {w w' : World} {f : Value} {ks : List ByteArray} (h : BlS w f ks) (hk : ∀ (j : Nat) (x : Value), w.cell? ⟨j, 0, none⟩ = some x → isFM x = true → w'.heap[j]? = w.heap[j]?) (hm : ∀ (j : Nat) (es : Array MapEntry) (c : Nat), w.heap[j]? = some (.map es c) → w'.heap[j]? = w.heap[j]?) : BlS w' f ks := by
  obtain ⟨B, M, n, h1, h2, h3⟩ := h
  obtain ⟨es, c, hM⟩ := h3.map
  exact ⟨B, M, n, h1, (World.cell?_of_block (a := ⟨B, 0, none⟩) (hk B _ h2 rfl)).trans h2, h3.kept (hm M es c hM)⟩
theorem BlI.fm {w : World} {f : Value} {ks : List Nat} (h : BlI w f ks) : isFM f = true := by
  obtain ⟨B, M, n, rfl, _⟩ := h
  rfl
theorem BlS.fm {w : World} {f : Value} {ks : List ByteArray} (h : BlS w f ks) : isFM f = true := by
  obtain ⟨B, M, n, rfl, _⟩ := h
  rfl
theorem Mt.kp {w w' : World} {f : Value} {es : List Nat} {ns : List ByteArray} {base P G Q : Nat} {st : List Bool} {v : Value} {ks : List Nat} (h : Mt w f es ns) (m : StM w base P G Q st v ks) (k : Sh.Kp (fun j => j = G ∨ j = Q ∨ v.ownBlock = some j) w w') : Mt w' f es ns := by
  have hm : ∀ (j : Nat) (es : Array MapEntry) (c : Nat), w.heap[j]? = some (.map es c) → w'.heap[j]? = w.heap[j]? := fun j es c hj => k.block j (lt_heap hj) (by
    rintro (rfl | rfl | hx)
    · exact heap_ne hj m.g (fun e => by cases e) rfl
    · exact heap_ne hj m.q (fun e => by cases e) rfl
    · obtain ⟨cur, hc, _⟩ := m.row.block hx
      exact heap_ne hj hc (fun e => by cases e) rfl)
  have hk : ∀ (j : Nat) (x : Value), w.cell? ⟨j, 0, none⟩ = some x → isFM x = true → w'.heap[j]? = w.heap[j]? := fun j x hj hx => k.block j (lt_of_cell hj) (by
    rintro (rfl | rfl | ho)
    · rw [Sh.cell_of m.g] at hj
      unfold bsV at hj
      simp only [List.getElem?_toArray, List.getElem?_map] at hj
      cases hs : st[0]? with
      | none => rw [hs] at hj; cases hj
      | some b =>
        rw [hs] at hj
        cases hj
        cases hx
    · rw [Sh.cell_of m.q] at hj
      obtain ⟨a, c, rfl⟩ := m.row.form
      have hj := Option.some.inj hj
      subst hj
      cases hx
    · obtain ⟨cur, hc, hi⟩ := m.row.block ho
      rw [Sh.cell_of hc] at hj
      obtain ⟨n, rfl⟩ := hi 0 x hj
      cases hx)
  obtain ⟨A, B, fi, fs, h1, h2, h3, h4, h5⟩ := h
  exact ⟨A, B, fi, fs, h1, (World.cell?_of_block (a := ⟨A, 0, none⟩) (hk A _ h2 h4.fm)).trans h2, (World.cell?_of_block (a := ⟨B, 0, none⟩) (hk B _ h3 h5.fm)).trans h3, h4.kept hk hm, h5.kept hk hm⟩
end Go.Proofs.YtblkldfokeeaeacGreatDoor
namespace Go.Proofs.YtblkldfokeeaeacGreatDoor
open Go.RowKit Go.Maps
set_option maxRecDepth 100000 in
set_option maxHeartbeats 16000000 in
theorem stays_any (lv rv : Value) (l : List Nd) (R : List Ru) (w : World) (hl : NdsAt w lv l) (hs : SmNs l) (hT : Tab w) (hR : RusAt w rv R) (hm : ∀ r ∈ R, SmR r) (hA : ∀ r ∈ R, ∃ A, allB r.decls = some A) (hRl : R.length ≤ 1048576) (hN : ∀ r ∈ R, (namesA r).length ≤ 1048576 ∧ ∀ k ∈ namesA r, k.size ≤ 1048576) :
    Calls Tryz.prog 21 #[lv, rv] w fun e w' => ∃ G, e = .returned (.slice (some ⟨G, 0, none⟩) R.length R.length) ∧ w'.heap[G]? = some (.cells (bsV (R.map (stayB l R))) 4 (0, 0)) ∧ w.heap.size ≤ G ∧ Below w.heap.size w w' := by
  obtain ⟨la, lc, rfl⟩ := Sl.form hl
  obtain ⟨ra, rc, rfl⟩ := Sl.form hR
  have HL := hid hl
  have HS := hid hs
  have HT := hid hT
  have HR := hid hR
  have HM := hid hm
  have HA := hid hA
  have HN := hid hN
  clear hl hs hT hR hm hA hN
  go_enter Tryz.func21, Tryz.ntmps21
  go_wp2_with fail
  rw [make_bools _ hRl]
  have M0 := hid (StM.start w R.length)
  have B0 : Hid (Below w.heap.size w (((w.alloc (.cells (bsV (List.replicate R.length false)) 4)).alloc (.cells #[.slice (some ⟨w.heap.size, 0, none⟩) R.length R.length] 53)).alloc (.cells #[.slice none 0 0] 65))) := below_al (below_al (below_al (Below.refl _ _)))
  go_wp2_with fail
  generalize ((w.alloc (.cells (bsV (List.replicate R.length false)) 4)).alloc (.cells #[.slice (some ⟨w.heap.size, 0, none⟩) R.length R.length] 53)).alloc (.cells #[.slice none 0 0] 65) = w0 at *
  go_loopg [20] R.length (fun g i wr => ∃ (j : Nat) (st : List Bool) (v : Value) (ks : List Nat), g = R.length - j ∧ j ≤ R.length ∧ i = .int .i64 (j : Int) ∧ StM wr w.heap.size (w.heap.size + 1) w.heap.size (w.heap.size + 1 + 1) st v ks ∧ InvF (mdB R) R.length j st ks ∧ Below w.heap.size w wr)
  case atStart => exact ⟨0, _, _, _, rfl, Nat.zero_le _, rfl, M0.out, InvF.start _ _, B0.out⟩
  case round =>
    obtain ⟨j, st, v, ks, hg, hj, rfl, hM, hI, hB⟩ := hrel
    rename World => wo
    have GK := hid hg
    have HMo := hid hM
    have HI := hid hI
    have HBo := hid hB
    clear hg hM hI hB
    by_cases hlt : j < R.length
    · obtain ⟨b, off, rfl, he⟩ := Sl.at (HR.out.ext (Ext.below HBo.out)) hlt
      obtain ⟨sa, sn, sc, da, dn, dc, c0, c1, c2, c3, c4, hS, hD⟩ := eR.cells he
      have HJ := hid hlt
      have HE : Hid (R[j]? = some R[j]) := List.getElem?_eq_getElem hlt
      clear he hS hD
      generalize R[j] = r at *
      have b1 := (Below.refl wo.heap.size wo).alloc (Nat.le_refl _) (.cells #[.string r.media, .slice sa sn sc, .slice da dn dc, .int .i64 r.rf, .int .i64 r.rt] 38)
      have HM1 := hid (HMo.out.below b1)
      have HB1 := hid (below_trans HBo.out b1 (Nat.le_refl _))
      clear b1
      obtain ⟨md, ss, dd, rf, rt⟩ := r
      simp only at *
      by_cases hmd : md = ⟨#[]⟩
      · have HN1 : Hid (¬ mdB R j) := by
          rintro ⟨q, h1, h2⟩
          rw [HE.out] at h1
          cases h1
          exact (empty_iff md).1 h2 hmd
        subst hmd
        go_wp2_with fail
        go_roundg (R.length - (j + 1))
        case measure => have := GK.out; have := HJ.out; omega
        case rel => exact ⟨j + 1, st, v, ks, rfl, by have := HJ.out; omega, by go_num, HM1.out, HI.out.no HN1.out, HB1.out⟩
      · have HN1 : Hid (mdB R j) := ⟨_, HE.out, (empty_iff md).2 hmd⟩
        have hne := (empty_iff md).2 hmd
        clear hmd
        go_wp2_with (go_at_call 40; refine (keep_any w.heap.size (w.heap.size + 1) w.heap.size (w.heap.size + 1 + 1) j st v ks _ HM1.out (by have := HI.out.len; have := HJ.out; omega) (by have := HI.out.few; omega) HB1.out.size).mono ?_; rintro e w2 ⟨rfl, v2, hm2, ho2, hk2⟩; have HM2 := hid hm2; have HB2 := hid (below_kp HB1.out hk2 (by
          rintro j (rfl | rfl | hx)
          · exact Nat.le_refl _
          · omega
          · exact (HM1.out.row.lt hx).1) (Nat.le_refl _)); clear hm2 ho2 hk2)
        go_roundg (R.length - (j + 1))
        case measure => have := GK.out; have := HJ.out; omega
        case rel => exact ⟨j + 1, _, _, _, rfl, by have := HJ.out; omega, by go_num, HM2.out, HI.out.yes HJ.out HN1.out, HB2.out⟩
    · have hjl : j = R.length := by omega
      subst hjl
      have HV := hid (HI.out.inv (mtB l R) (syB l R) sy_md)
      go_wp2_with (go_at_call 41; refine (allHolds_any _ _ l R wo (HL.out.ext (Ext.below HBo.out)) HS.out (HT.out.ext (Ext.below HBo.out)) (HR.out.ext (Ext.below HBo.out)) HM.out HA.out hRl).mono ?_; rintro e wh ⟨hv, rfl, hH, hbh⟩; have HLp : Hid (Lp w wh wh wo.heap.size (w.heap.size + 1) w.heap.size (w.heap.size + 1 + 1) st v ks) := Lp.start HMo.out HBo.out hbh; have HH := hid hH; obtain ⟨ha, hc, rfl⟩ := Sh.NAt.form hH; clear hH hbh)
      have HLn : Hid ((R.map (holdR l)).length = R.length) := List.length_map ..
      generalize hH0 : wo.heap.size = H0 at HLp HH
      clear HMo HBo HI
      go_loopg [] (2 * fal st + ks.length) (fun g wr => ∃ (st : List Bool) (v : Value) (ks : List Nat), g = 2 * fal st + ks.length ∧ Lp w wh wr H0 (w.heap.size + 1) w.heap.size (w.heap.size + 1 + 1) st v ks ∧ Inv (mdB R) (mtB l R) (syB l R) R.length (fun _ _ => False) st ks)
      case atStart => exact ⟨st, v, ks, rfl, HLp.out, HV.out⟩
      case round =>
        clear HLp HV
        obtain ⟨st2, v2, ks2, hg2, hL2, hV2⟩ := hrel
        rename World => wr
        have GK2 := hid hg2
        have HL2 := hid hL2
        have HV2 := hid hV2
        have cQ : wr.cell? ⟨w.heap.size + 1 + 1, 0, none⟩ = some v2 := Sh.cell_of hL2.m.q 0
        have cP : wr.cell? ⟨w.heap.size + 1, 0, none⟩ = some (.slice (some ⟨w.heap.size, 0, none⟩) st2.length st2.length) := Sh.cell_of hL2.m.p 0
        have fQ : wr.frozen? ⟨w.heap.size + 1 + 1, 0, none⟩ = false := Sh.fz_of hL2.m.q 0
        cases ks2 with
        | nil =>
          obtain ⟨va, vc, rfl⟩ := hL2.m.row.form
          have HE := hid (stays_of hV2)
          have HG := hid hL2.m.g
          have HB := hid hL2.b
          have HZ := hid hV2.len
          clear hg2 hL2 hV2
          go_wp2_with fail
          go_ret
          exact ⟨w.heap.size, by rw [← HZ.out]; rfl, by rw [← HE.out]; exact HG.out, Nat.le_refl _, HB.out⟩
        | cons a ks3 =>
          obtain ⟨g, o, cap, rfl, hcap, ca, hq3, hq3'⟩ := hL2.m.row.head
          obtain ⟨hal, hsa⟩ := hV2.inn a (List.mem_cons_self ..)
          have HSl := hid (hs_of (HH.out.same hL2.k))
          obtain ⟨hb, ho, rfl, he⟩ := Sl.at HSl.out (i := a) (by rw [HLn.out]; exact hal)
          have hmem := List.getElem_mem hal
          have hra : (R.map (holdR l))[a]'(by rw [HLn.out]; exact hal) = holdR l R[a] := List.getElem_map ..
          rw [hra] at he
          obtain ⟨ea, en, ec, na, nn, nc, d0, d1, hE, hN⟩ := eH.cells he
          have HRA : Hid (R[a]? = some R[a]) := List.getElem?_eq_getElem hal
          have HMe := hid (meeting_any ea na en ec nn nc (meantB l R[a]) (namesA R[a]) wr hE hN (meant_few HS.out _) (meant_lt HS.out _) (HN.out _ hmem).1 (HN.out _ hmem).2)
          have HSA := hid hsa
          have HQ3 := hid hq3
          have HQ3' := hid hq3'
          have HA2 := hid hal
          clear he hE hN hsa hq3 hq3' hg2 hL2 hV2 hmem hra
          generalize R[a] = ra' at *
          have hnl : (namesA ra').length = (namesA ra').length := rfl
          go_wp2_with (go_at_call 42; refine HMe.out.mono ?_; rintro e wm ⟨f, rfl, hf, hbm⟩; have HF := hid hf; have HBm := hid hbm; have cm : wm.cell? ⟨w.heap.size + 1 + 1, 0, none⟩ = some (.slice (some ⟨g, o, none⟩) (ks3.length + 1) cap) := Ext.below hbm _ _ _ cQ; have fm : wm.frozen? ⟨w.heap.size + 1 + 1, 0, none⟩ = false := Sh.fz_of (HL2.out.m.below hbm).q 0; clear hf hbm)
          · obtain ⟨v3, hv3⟩ : ∃ v3, v3 = Value.slice (some ⟨g, o, none⟩) ks3.length 0 := ⟨_, rfl⟩
            have HQ4 : Hid (QAt wr w.heap.size v3 ks3) := by rw [hv3]; exact HQ3'.out (by assumption)
            have HO4 : Hid (v3.ownBlock = some g) := by rw [hv3]; rfl
            simp only [← hv3]
            clear hv3
            obtain ⟨hL3, hK3⟩ := HL2.out.popd HBm.out HQ4.out rfl HO4.out
            have HF3 := hid (HF.out.kp (HL2.out.below HBm.out).m hK3)
            have HL3 := hid hL3
            have HV3 := hid HV2.out.pop
            clear hL3 hK3 HF HBm cm fm cQ cP fQ ca d0 d1 HMe HQ3 HQ3' HQ4 HO4
            generalize wm.setCell ⟨w.heap.size + 1 + 1, 0, none⟩ v3 = w3 at *
            obtain ⟨PM, QM, fi, fs, hfe, hrest⟩ := HF3.out
            clear hrest
            subst hfe
            go_loopg [49] R.length (fun g i wr => ∃ (j : Nat) (st : List Bool) (v : Value) (ks : List Nat), g = R.length - j ∧ j ≤ R.length ∧ i = .int .i64 (j : Int) ∧ 2 * fal st + ks.length ≤ 2 * fal st2 + ks3.length ∧ Lp w wh wr H0 (w.heap.size + 1) w.heap.size (w.heap.size + 1 + 1) st v ks ∧ Inv (mdB R) (mtB l R) (syB l R) R.length (fun i b => b = a ∧ j ≤ i) st ks ∧ Mt wr (.func (.func 73) #[] #[.pointer (some ⟨PM, 0, none⟩), .pointer (some ⟨QM, 0, none⟩)]) (meantB l ra') (namesA ra'))
            case atStart => exact ⟨0, st2, v3, ks3, rfl, Nat.zero_le _, rfl, Nat.le_refl _, HL3.out, HV3.out, HF3.out⟩
            case round =>
              clear HL3 HV3 HF3
              obtain ⟨j, st4, v4, ks4, hg4, hj4, rfl, hle4, hL4, hV4, hF4⟩ := hrel
              rename World => wi
              have GK4 := hid hg4
              have HL4 := hid hL4
              have HV4 := hid hV4
              have HF4 := hid hF4
              have HLe := hid hle4
              by_cases hlt4 : j < R.length
              · obtain ⟨hb', ho', hbe, he⟩ := Sl.at (hs_of (HH.out.same hL4.k)) (i := j) (by rw [HLn.out]; exact hlt4)
                injection hbe with hbe
                injection hbe with hbe hoe
                subst hbe hoe
                have hmem := List.getElem_mem hlt4
                have hrj : (R.map (holdR l))[j]'(by rw [HLn.out]; exact hlt4) = holdR l R[j] := List.getElem_map ..
                rw [hrj] at he
                obtain ⟨ea, en, ec, na, nn, nc, d0, d1, hE, hN⟩ := eH.cells he
                have HRJ : Hid (R[j]? = some R[j]) := List.getElem?_eq_getElem hlt4
                have HNj := hid (HN.out _ hmem)
                have hjl : j < st4.length := by rw [hV4.len]; exact hlt4
                have cP4 : wi.cell? ⟨w.heap.size + 1, 0, none⟩ = some (.slice (some ⟨w.heap.size, 0, none⟩) st4.length st4.length) := Sh.cell_of hL4.m.p 0
                have cG4 : wi.cell? ⟨w.heap.size, j, none⟩ = some (.bool st4[j]) := (Sh.cell_of hL4.m.g j).trans (bsV_at hjl)
                have HSJ : Hid (st4[j]? = some st4[j]) := List.getElem?_eq_getElem hjl
                have b1 := (Below.refl wi.heap.size wi).alloc (Nat.le_refl _) (.cells #[.slice ea en ec, .slice na nn nc] 96)
                have HL5 := hid (HL4.out.below b1)
                have HF5 := hid (HF4.out.below b1)
                have HE5 := hid (hE.ext (Ext.below b1))
                have HN5 := hid (hN.ext (Ext.below b1))
                have p4 := Ext.below b1 _ _ _ cP4
                have g4 := Ext.below b1 _ _ _ cG4
                have HJ4 := hid hlt4
                clear he hE hN b1 hg4 hle4 hL4 hV4 hF4 hmem hrj
                generalize R[j] = rj at *
                generalize st4[j] = bj at *
                cases bj
                · obtain ⟨PM', QM', hfe, hC⟩ := meets_any _ ea na en ec nn nc (meantB l ra') (meantB l rj) (namesA ra') (namesA rj) _ HE5.out HN5.out (meant_few HS.out _) (meant_lt HS.out _) HNj.out.1 HNj.out.2 HF5.out
                  injection hfe with _ _ hfe
                  have hfe : (#[Value.pointer (some ⟨PM, 0, none⟩), Value.pointer (some ⟨QM, 0, none⟩)] : Array Value) = #[.pointer (some ⟨PM', 0, none⟩), .pointer (some ⟨QM', 0, none⟩)] := hfe
                  simp at hfe
                  obtain ⟨rfl, rfl⟩ := hfe
                  rw [meet_eq] at hC
                  have HC := hid hC
                  clear hC
                  cases hme : meetB l rj ra'
                  · rw [hme] at HC
                    have HNo : Hid (¬ mtB l R j a) := by
                      rintro ⟨r1, r2, h1, h2, h3⟩
                      rw [HRJ.out] at h1
                      rw [HRA.out] at h2
                      cases h1
                      cases h2
                      rw [hme] at h3
                      cases h3
                    go_wp2_with (go_at_call 73; refine HC.out.mono ?_; rintro e w6 ⟨rfl, hb6⟩; have HL6 := hid (HL5.out.below hb6); have HF6 := hid (HF5.out.below hb6); clear hb6)
                    go_roundg (R.length - (j + 1))
                    case measure => have := GK4.out; have := HJ4.out; omega
                    case rel => exact ⟨j + 1, st4, v4, ks4, rfl, by have := HJ4.out; omega, by go_num, HLe.out, HL6.out, HV4.out.next (fun h => absurd h HNo.out), HF6.out⟩
                  · rw [hme] at HC
                    have HYes : Hid (mtB l R j a) := ⟨_, _, HRJ.out, HRA.out, hme⟩
                    have HSy := hid (sy_mt HSA.out HYes.out)
                    go_wp2_with (first
                      | (go_at_call 73; refine HC.out.mono ?_; rintro e w6 ⟨rfl, hb6⟩; have HL6 := hid (HL5.out.below hb6); have HF6 := hid (HF5.out.below hb6); clear hb6)
                      | (go_at_call 40; refine (keep_any w.heap.size (w.heap.size + 1) w.heap.size (w.heap.size + 1 + 1) j st4 v4 ks4 _ HL6.out.m (by have := HV4.out.len; have := HJ4.out; omega) (by have := HV4.out.few; omega) HL6.out.b.size).mono ?_; rintro e w7 ⟨rfl, v7, hm7, ho7, hk7⟩; have HL7 := hid (HL6.out.kept hm7 ho7 hk7); have HF7 := hid (HF6.out.kp HL6.out.m hk7); clear hm7 ho7 hk7))
                    go_roundg (R.length - (j + 1))
                    case measure => have := GK4.out; have := HJ4.out; omega
                    case rel => exact ⟨j + 1, _, v7, _, rfl, by have := HJ4.out; omega, by go_num, by have h1 := fal_set HSJ.out; have h2 := HLe.out; simp only [List.length_append, List.length_singleton]; omega, HL7.out, (HV4.out.keep HJ4.out HSJ.out HSy.out).next (fun _ => by rw [List.getElem?_set]; simp; exact (List.getElem?_eq_some_iff.1 HSJ.out).1), HF7.out⟩
                · go_wp2_with fail
                  go_roundg (R.length - (j + 1))
                  case measure => have := GK4.out; have := HJ4.out; omega
                  case rel => exact ⟨j + 1, st4, v4, ks4, rfl, by have := HJ4.out; omega, by go_num, HLe.out, HL5.out, HV4.out.next (fun _ => HSJ.out), HF5.out⟩
              · have hjl : j = R.length := by omega
                subst hjl
                clear hg4 hle4 hL4 hV4 hF4
                go_wp2_with fail
                go_roundg (2 * fal st4 + ks4.length)
                case measure => have h1 := GK2.out; have h2 := HLe.out; simp only [List.length_cons] at h1; omega
                case rel => exact ⟨st4, v4, ks4, rfl, HL4.out, HV4.out.all⟩
          · obtain ⟨v3, hv3⟩ : ∃ v3, v3 = Value.slice (some ⟨g, o + 1, none⟩) ks3.length (cap - 1) := ⟨_, rfl⟩
            have HQ4 : Hid (QAt wr w.heap.size v3 ks3) := by rw [hv3]; exact HQ3.out
            have HO4 : Hid (v3.ownBlock = some g) := by rw [hv3]; rfl
            simp only [← hv3]
            clear hv3
            obtain ⟨hL3, hK3⟩ := HL2.out.popd HBm.out HQ4.out rfl HO4.out
            have HF3 := hid (HF.out.kp (HL2.out.below HBm.out).m hK3)
            have HL3 := hid hL3
            have HV3 := hid HV2.out.pop
            clear hL3 hK3 HF HBm cm fm cQ cP fQ ca d0 d1 HMe HQ3 HQ3' HQ4 HO4
            generalize wm.setCell ⟨w.heap.size + 1 + 1, 0, none⟩ v3 = w3 at *
            obtain ⟨PM, QM, fi, fs, hfe, hrest⟩ := HF3.out
            clear hrest
            subst hfe
            go_loopg [49] R.length (fun g i wr => ∃ (j : Nat) (st : List Bool) (v : Value) (ks : List Nat), g = R.length - j ∧ j ≤ R.length ∧ i = .int .i64 (j : Int) ∧ 2 * fal st + ks.length ≤ 2 * fal st2 + ks3.length ∧ Lp w wh wr H0 (w.heap.size + 1) w.heap.size (w.heap.size + 1 + 1) st v ks ∧ Inv (mdB R) (mtB l R) (syB l R) R.length (fun i b => b = a ∧ j ≤ i) st ks ∧ Mt wr (.func (.func 73) #[] #[.pointer (some ⟨PM, 0, none⟩), .pointer (some ⟨QM, 0, none⟩)]) (meantB l ra') (namesA ra'))
            case atStart => exact ⟨0, st2, v3, ks3, rfl, Nat.zero_le _, rfl, Nat.le_refl _, HL3.out, HV3.out, HF3.out⟩
            case round =>
              clear HL3 HV3 HF3
              obtain ⟨j, st4, v4, ks4, hg4, hj4, rfl, hle4, hL4, hV4, hF4⟩ := hrel
              rename World => wi
              have GK4 := hid hg4
              have HL4 := hid hL4
              have HV4 := hid hV4
              have HF4 := hid hF4
              have HLe := hid hle4
              by_cases hlt4 : j < R.length
              · obtain ⟨hb', ho', hbe, he⟩ := Sl.at (hs_of (HH.out.same hL4.k)) (i := j) (by rw [HLn.out]; exact hlt4)
                injection hbe with hbe
                injection hbe with hbe hoe
                subst hbe hoe
                have hmem := List.getElem_mem hlt4
                have hrj : (R.map (holdR l))[j]'(by rw [HLn.out]; exact hlt4) = holdR l R[j] := List.getElem_map ..
                rw [hrj] at he
                obtain ⟨ea, en, ec, na, nn, nc, d0, d1, hE, hN⟩ := eH.cells he
                have HRJ : Hid (R[j]? = some R[j]) := List.getElem?_eq_getElem hlt4
                have HNj := hid (HN.out _ hmem)
                have hjl : j < st4.length := by rw [hV4.len]; exact hlt4
                have cP4 : wi.cell? ⟨w.heap.size + 1, 0, none⟩ = some (.slice (some ⟨w.heap.size, 0, none⟩) st4.length st4.length) := Sh.cell_of hL4.m.p 0
                have cG4 : wi.cell? ⟨w.heap.size, j, none⟩ = some (.bool st4[j]) := (Sh.cell_of hL4.m.g j).trans (bsV_at hjl)
                have HSJ : Hid (st4[j]? = some st4[j]) := List.getElem?_eq_getElem hjl
                have b1 := (Below.refl wi.heap.size wi).alloc (Nat.le_refl _) (.cells #[.slice ea en ec, .slice na nn nc] 96)
                have HL5 := hid (HL4.out.below b1)
                have HF5 := hid (HF4.out.below b1)
                have HE5 := hid (hE.ext (Ext.below b1))
                have HN5 := hid (hN.ext (Ext.below b1))
                have p4 := Ext.below b1 _ _ _ cP4
                have g4 := Ext.below b1 _ _ _ cG4
                have HJ4 := hid hlt4
                clear he hE hN b1 hg4 hle4 hL4 hV4 hF4 hmem hrj
                generalize R[j] = rj at *
                generalize st4[j] = bj at *
                cases bj
                · obtain ⟨PM', QM', hfe, hC⟩ := meets_any _ ea na en ec nn nc (meantB l ra') (meantB l rj) (namesA ra') (namesA rj) _ HE5.out HN5.out (meant_few HS.out _) (meant_lt HS.out _) HNj.out.1 HNj.out.2 HF5.out
                  injection hfe with _ _ hfe
                  have hfe : (#[Value.pointer (some ⟨PM, 0, none⟩), Value.pointer (some ⟨QM, 0, none⟩)] : Array Value) = #[.pointer (some ⟨PM', 0, none⟩), .pointer (some ⟨QM', 0, none⟩)] := hfe
                  simp at hfe
                  obtain ⟨rfl, rfl⟩ := hfe
                  rw [meet_eq] at hC
                  have HC := hid hC
                  clear hC
                  cases hme : meetB l rj ra'
                  · rw [hme] at HC
                    have HNo : Hid (¬ mtB l R j a) := by
                      rintro ⟨r1, r2, h1, h2, h3⟩
                      rw [HRJ.out] at h1
                      rw [HRA.out] at h2
                      cases h1
                      cases h2
                      rw [hme] at h3
                      cases h3
                    go_wp2_with (go_at_call 73; refine HC.out.mono ?_; rintro e w6 ⟨rfl, hb6⟩; have HL6 := hid (HL5.out.below hb6); have HF6 := hid (HF5.out.below hb6); clear hb6)
                    go_roundg (R.length - (j + 1))
                    case measure => have := GK4.out; have := HJ4.out; omega
                    case rel => exact ⟨j + 1, st4, v4, ks4, rfl, by have := HJ4.out; omega, by go_num, HLe.out, HL6.out, HV4.out.next (fun h => absurd h HNo.out), HF6.out⟩
                  · rw [hme] at HC
                    have HYes : Hid (mtB l R j a) := ⟨_, _, HRJ.out, HRA.out, hme⟩
                    have HSy := hid (sy_mt HSA.out HYes.out)
                    go_wp2_with (first
                      | (go_at_call 73; refine HC.out.mono ?_; rintro e w6 ⟨rfl, hb6⟩; have HL6 := hid (HL5.out.below hb6); have HF6 := hid (HF5.out.below hb6); clear hb6)
                      | (go_at_call 40; refine (keep_any w.heap.size (w.heap.size + 1) w.heap.size (w.heap.size + 1 + 1) j st4 v4 ks4 _ HL6.out.m (by have := HV4.out.len; have := HJ4.out; omega) (by have := HV4.out.few; omega) HL6.out.b.size).mono ?_; rintro e w7 ⟨rfl, v7, hm7, ho7, hk7⟩; have HL7 := hid (HL6.out.kept hm7 ho7 hk7); have HF7 := hid (HF6.out.kp HL6.out.m hk7); clear hm7 ho7 hk7))
                    go_roundg (R.length - (j + 1))
                    case measure => have := GK4.out; have := HJ4.out; omega
                    case rel => exact ⟨j + 1, _, v7, _, rfl, by have := HJ4.out; omega, by go_num, by have h1 := fal_set HSJ.out; have h2 := HLe.out; simp only [List.length_append, List.length_singleton]; omega, HL7.out, (HV4.out.keep HJ4.out HSJ.out HSy.out).next (fun _ => by rw [List.getElem?_set]; simp; exact (List.getElem?_eq_some_iff.1 HSJ.out).1), HF7.out⟩
                · go_wp2_with fail
                  go_roundg (R.length - (j + 1))
                  case measure => have := GK4.out; have := HJ4.out; omega
                  case rel => exact ⟨j + 1, st4, v4, ks4, rfl, by have := HJ4.out; omega, by go_num, HLe.out, HL5.out, HV4.out.next (fun _ => HSJ.out), HF5.out⟩
              · have hjl : j = R.length := by omega
                subst hjl
                clear hg4 hle4 hL4 hV4 hF4
                go_wp2_with fail
                go_roundg (2 * fal st4 + ks4.length)
                case measure => have h1 := GK2.out; have h2 := HLe.out; simp only [List.length_cons] at h1; omega
                case rel => exact ⟨st4, v4, ks4, rfl, HL4.out, HV4.out.all⟩
end Go.Proofs.YtblkldfokeeaeacGreatDoor
namespace Go.Proofs.YtblkldfokeeaeacGreatDoor
open Go.RowKit Go.Maps
theorem own_any (n : Sh.Nd) : (ownA n).isSome = n.attrs.any fun a => a.name == Sh.styleL := by
  unfold ownA
  rw [Bool.eq_iff_iff, List.find?_isSome, List.any_eq_true]
set_option maxRecDepth 100000 in
set_option maxHeartbeats 4000000 in
theorem tooMany_any (n : Sh.Nd) (aa la : Option Addr) (ac lc : Nat) (D : List Dc) (w : World) (hA : AtsAt w (.slice aa n.attrs.length ac) (n.attrs.map ofA)) (hl : n.attrs.length ≤ 8) (hD : D.length ≤ 2199023255700) :
    Calls Tryz.prog 52 #[.agg #[.string (bsL n.name), .int .i64 n.parent, .slice aa n.attrs.length ac, .int .i64 n.nameEnd, .int .i64 n.inFrom, .int .i64 n.inTo], .slice la D.length lc] w fun e w' => e = .returned (.bool (tooMany n D)) ∧ Below w.heap.size w w' := by
  have b1 := (Below.refl w.heap.size w).alloc (Nat.le_refl _) (.cells #[.string (bsL n.name), .int .i64 n.parent, .slice aa n.attrs.length ac, .int .i64 n.nameEnd, .int .i64 n.inFrom, .int .i64 n.inTo] 49)
  have OS := ownStyle_any n (.slice aa n.attrs.length ac) _ (hA.ext (Ext.below b1)) hl
  rw [atr_eq] at OS
  simp only [nodeV, ofN] at OS
  have HT : Hid (tooMany n D = (decide (20 < D.length) || (decide (0 < D.length) && !(ownA n).isSome && decide (8 ≤ n.attrs.length)))) := by
    show _ = _
    rw [own_any]
    rfl
  have OSt := hid OS
  have HB1 := hid b1
  have hbox := heap_alloc_new w (.cells #[.string (bsL n.name), .int .i64 n.parent, .slice aa n.attrs.length ac, .int .i64 n.nameEnd, .int .i64 n.inFrom, .int .i64 n.inTo] 49)
  have HX := hid hbox
  clear OS b1 hbox hA
  generalize bsL n.name = nn at *
  generalize n.attrs.length = al at *
  generalize bsL (ownN n) = on at *
  generalize bsL (ownV n) = ov at *
  generalize ownF n = of at *
  generalize ownT n = ot at *
  generalize D.length = dl at *
  generalize tooMany n D = tm at *
  go_enter Tryz.func52, Tryz.ntmps52
  by_cases h20 : 20 < dl
  · go_wp2_with (go_at_call 63; refine OSt.out.mono ?_; rintro e w2 ⟨rfl, hb2⟩; have HB2 := hid (below_trans HB1.out hb2 (Nat.le_refl _)); have cX : w2.cell? ⟨w.heap.size, 2, none⟩ = some (.slice aa al ac) := Sh.cell_of ((hb2.block _ (lt_heap HX.out)).trans HX.out) 2; have lX := lt_of_cell cX; clear hb2)
    go_ret
    exact ⟨by rw [HT.out]; simp [h20], HB2.out.alloc HB2.out.size _⟩
  · by_cases h0 : 0 < dl
    · generalize (ownA n).isSome = has at *
      cases has
      · by_cases h8 : 8 ≤ al
        · go_wp2_with (go_at_call 63; refine OSt.out.mono ?_; rintro e w2 ⟨rfl, hb2⟩; have HB2 := hid (below_trans HB1.out hb2 (Nat.le_refl _)); have cX : w2.cell? ⟨w.heap.size, 2, none⟩ = some (.slice aa al ac) := Sh.cell_of ((hb2.block _ (lt_heap HX.out)).trans HX.out) 2; have lX := lt_of_cell cX; clear hb2)
          all_goals (go_ret; exact ⟨by rw [HT.out]; simp [h20, h0, h8] <;> omega, HB2.out.alloc HB2.out.size _⟩)
        · go_wp2_with (go_at_call 63; refine OSt.out.mono ?_; rintro e w2 ⟨rfl, hb2⟩; have HB2 := hid (below_trans HB1.out hb2 (Nat.le_refl _)); have cX : w2.cell? ⟨w.heap.size, 2, none⟩ = some (.slice aa al ac) := Sh.cell_of ((hb2.block _ (lt_heap HX.out)).trans HX.out) 2; have lX := lt_of_cell cX; clear hb2)
          all_goals (go_ret; exact ⟨by rw [HT.out]; simp [h20, h0, h8] <;> omega, HB2.out.alloc HB2.out.size _⟩)
      · go_wp2_with (go_at_call 63; refine OSt.out.mono ?_; rintro e w2 ⟨rfl, hb2⟩; have HB2 := hid (below_trans HB1.out hb2 (Nat.le_refl _)); have cX : w2.cell? ⟨w.heap.size, 2, none⟩ = some (.slice aa al ac) := Sh.cell_of ((hb2.block _ (lt_heap HX.out)).trans HX.out) 2; have lX := lt_of_cell cX; clear hb2)
        all_goals (go_ret; exact ⟨by rw [HT.out]; simp [h20, h0] <;> omega, HB2.out.alloc HB2.out.size _⟩)
    · go_wp2_with (go_at_call 63; refine OSt.out.mono ?_; rintro e w2 ⟨rfl, hb2⟩; have HB2 := hid (below_trans HB1.out hb2 (Nat.le_refl _)); have cX : w2.cell? ⟨w.heap.size, 2, none⟩ = some (.slice aa al ac) := Sh.cell_of ((hb2.block _ (lt_heap HX.out)).trans HX.out) 2; have lX := lt_of_cell cX; clear hb2)
      all_goals (go_ret; exact ⟨by rw [HT.out]; simp [h20, h0] <;> omega, HB2.out.alloc HB2.out.size _⟩)
def encE (e : Sh.Ed) : List Value := [.int .i64 (e.1 : Int), .int .i64 (e.2.1 : Int), .string (bsL e.2.2)]
theorem at2_str (V : Bs) : (⟨#[32, 115, 116, 121, 108, 101, 61, 34]⟩ ++ bsL V ++ ⟨#[34]⟩ : ByteArray) = bsL (Sh.at2 (Sh.styleL, V)) := by
  apply ba_ext
  simp [bsL, Sh.at2, Sh.styleL]
theorem src_ed {w : World} {f t : Nat} {x : Bs} {tx : ByteArray} (h : tx = bsL x) : Src (w.alloc (.cells #[.int .i64 (f : Int), .int .i64 (t : Int), .string tx] 113)) (.slice (some ⟨w.heap.size, 0, none⟩) 1 1) 1 (encE (f, t, x)) := by
  subst h
  exact .inr ⟨_, 1, rfl, World.news_of_block (heap_alloc_new w _)⟩
theorem src_ed' {w : World} {f t P : Nat} {x : Bs} {tx : ByteArray} (h : tx = bsL x) (hP : w.heap.size = P) : Src (w.alloc (.cells #[.int .i64 (f : Int), .int .i64 (t : Int), .string tx] 113)) (.slice (some ⟨P, 0, none⟩) 1 1) 1 (encE (f, t, x)) := by
  subst hP
  exact src_ed h
theorem below_al' {B : Nat} {a w : World} {o : Obj} (h : Below B a w) (hB : B ≤ a.heap.size := by exact Nat.le_refl _) : Below B a (w.alloc o) := h.alloc (Nat.le_trans hB h.size) _
set_option maxRecDepth 100000 in
set_option maxHeartbeats 4000000 in
theorem restyle_any (n : Sh.Nd) (aa : Option Addr) (ac : Nat) (V : Bs) (w : World) (hA : AtsAt w (.slice aa n.attrs.length ac) (n.attrs.map ofA)) (hl : n.attrs.length ≤ 8) (hV : V.length ≤ 1048576) :
    Calls Tryz.prog 53 #[.agg #[.string (bsL n.name), .int .i64 n.parent, .slice aa n.attrs.length ac, .int .i64 n.nameEnd, .int .i64 n.inFrom, .int .i64 n.inTo], .string (bsL V)] w fun e w' => ∃ v, e = .returned v ∧ Src w' v (restyleB n V).length ((restyleB n V).flatMap encE) ∧ Below w.heap.size w w' := by
  have b1 := (Below.refl w.heap.size w).alloc (Nat.le_refl _) (.cells #[.string (bsL n.name), .int .i64 n.parent, .slice aa n.attrs.length ac, .int .i64 n.nameEnd, .int .i64 n.inFrom, .int .i64 n.inTo] 49)
  have OS := ownStyle_any n (.slice aa n.attrs.length ac) _ (hA.ext (Ext.below b1)) hl
  rw [atr_eq] at OS
  simp only [nodeV, ofN] at OS
  have HRs : Hid (restyleB n V = if ownV n = V then [] else [(if (ownA n).isSome then ownF n else n.nameEnd, if (ownA n).isSome then ownT n else n.nameEnd, if V = [] then [] else Sh.at2 (Sh.styleL, V))]) := by
    show _ = _
    unfold restyleB ownF ownT
    cases ownA n <;> rfl
  have OSt := hid OS
  have HB1 := hid b1
  have HX := hid (heap_alloc_new w (.cells #[.string (bsL n.name), .int .i64 n.parent, .slice aa n.attrs.length ac, .int .i64 n.nameEnd, .int .i64 n.inFrom, .int .i64 n.inTo] 49))
  have hEq : (bsL (ownV n) = bsL V) ↔ ownV n = V := ⟨bsL_inj, fun h => by rw [h]⟩
  have hE0 : (bsL V = ⟨#[]⟩) ↔ V = [] := ⟨fun h => bsL_inj (h.trans rfl), fun h => by rw [h]; rfl⟩
  have hsz : (bsL V).size ≤ 1048576 := by rw [bsL_size]; exact hV
  clear OS b1 hA
  generalize bsL n.name = nn at *
  generalize n.attrs.length = al at *
  generalize bsL (ownN n) = on at *
  generalize restyleB n V = RS at *
  by_cases he : ownV n = V
  · rw [he] at OSt
    rw [HRs.out, if_pos he]
    generalize bsL V = bv at *
    go_enter Tryz.func53, Tryz.ntmps53
    go_wp2_with (go_at_call 63; refine OSt.out.mono ?_; rintro e w2 ⟨rfl, hb2⟩; have HB2 := hid (below_trans HB1.out hb2 (Nat.le_refl _)); clear hb2)
    go_ret
    exact ⟨_, rfl, .inl ⟨rfl, rfl, rfl⟩, HB2.out.alloc HB2.out.size _⟩
  · rw [HRs.out, if_neg he]
    have hne : ((bsL (ownV n)).toList == (bsL V).toList) = false := by
      rw [bsL_toList, bsL_toList]
      simpa using he
    have hov : V = [] → (bsL (ownV n)).toList.isEmpty = false := fun hv => by
      rw [bsL_toList]
      subst hv
      cases ho : ownV n with
      | nil => exact absurd ho he
      | cons _ _ => rfl
    clear hEq
    generalize (ownA n).isSome = has at *
    generalize ownF n = of at *
    generalize ownT n = ot at *
    generalize bsL (ownV n) = ov at *
    by_cases h0 : V = []
    · subst h0
      rw [if_pos rfl]
      have hov := hov rfl
      have he0 : bsL [] = ⟨#[]⟩ := rfl
      rw [he0] at *
      cases has
      · go_enter Tryz.func53, Tryz.ntmps53
        go_wp2_with (go_at_call 63; refine OSt.out.mono ?_; rintro e w2 ⟨rfl, hb2⟩; have HB2 := hid (below_trans HB1.out hb2 (Nat.le_refl _)); have cX : w2.cell? ⟨w.heap.size, 3, none⟩ = some (.int .i64 n.nameEnd) := Sh.cell_of ((hb2.block _ (lt_heap HX.out)).trans HX.out) 3; have lX := lt_of_cell cX; clear hb2)
        go_ret
        exact ⟨_, rfl, src_ed' rfl (by simp), below_al' (below_al' (below_al' HB2.out))⟩
      · go_enter Tryz.func53, Tryz.ntmps53
        go_wp2_with (go_at_call 63; refine OSt.out.mono ?_; rintro e w2 ⟨rfl, hb2⟩; have HB2 := hid (below_trans HB1.out hb2 (Nat.le_refl _)); have cX : w2.cell? ⟨w.heap.size, 3, none⟩ = some (.int .i64 n.nameEnd) := Sh.cell_of ((hb2.block _ (lt_heap HX.out)).trans HX.out) 3; have lX := lt_of_cell cX; clear hb2)
        go_ret
        exact ⟨_, rfl, src_ed' rfl (by simp), below_al' (below_al' (below_al' HB2.out))⟩
    · have hbv : (bsL V).toList.isEmpty = false := by
        rw [bsL_toList]
        cases V with
        | nil => exact absurd rfl h0
        | cons _ _ => rfl
      have HA2 := hid (at2_str V)
      rw [if_neg h0]
      clear hE0
      generalize bsL V = bv at *
      cases has
      · go_enter Tryz.func53, Tryz.ntmps53
        go_wp2_with (go_at_call 63; refine OSt.out.mono ?_; rintro e w2 ⟨rfl, hb2⟩; have HB2 := hid (below_trans HB1.out hb2 (Nat.le_refl _)); have cX : w2.cell? ⟨w.heap.size, 3, none⟩ = some (.int .i64 n.nameEnd) := Sh.cell_of ((hb2.block _ (lt_heap HX.out)).trans HX.out) 3; have lX := lt_of_cell cX; clear hb2)
        go_ret
        exact ⟨_, rfl, src_ed' HA2.out (by simp), below_al' (below_al' (below_al' HB2.out))⟩
      · go_enter Tryz.func53, Tryz.ntmps53
        go_wp2_with (go_at_call 63; refine OSt.out.mono ?_; rintro e w2 ⟨rfl, hb2⟩; have HB2 := hid (below_trans HB1.out hb2 (Nat.le_refl _)); have cX : w2.cell? ⟨w.heap.size, 3, none⟩ = some (.int .i64 n.nameEnd) := Sh.cell_of ((hb2.block _ (lt_heap HX.out)).trans HX.out) 3; have lX := lt_of_cell cX; clear hb2)
        go_ret
        exact ⟨_, rfl, src_ed' HA2.out (by simp), below_al' (below_al' (below_al' HB2.out))⟩
end Go.Proofs.YtblkldfokeeaeacGreatDoor
