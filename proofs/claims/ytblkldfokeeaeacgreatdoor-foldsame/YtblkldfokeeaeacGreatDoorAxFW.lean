/-
  What sets and In of the law FoldSame answer: rows of at most eight texts each. Conditions: at most 60 rules.
-/
import Derived.Test.YtblkldfokeeaeacGreatDoorA32
namespace Go.Proofs.YtblkldfokeeaeacGreatDoor
open Go.RowKit Go.Maps
set_option maxRecDepth 100000 in
theorem wpList_push {w : World} {ops : Array Oper} {rest : List Oper} {o : Oper} {a : Act} {Q : Exit → Act → World → Prop} (hgd : o.guard = none) (s x : Operand) (t : TypeId)
    (ho : o.op = .call { callee := .builtin .append, args := #[s, x], argTypes := #[t, t] })
    (base : Nat) (e : TypeId) (z : Value) (bytes : Nat) (ht : Tryz.prog.underlying t = some (.slice e)) (hin : (Tryz.prog.info? e).map (fun i => (i.zero, i.size, i.bytes)) = some (some z, 1, bytes)) (hzs : z.cells.size = 1)
    (v : Value) (n : Nat) (xs : List Value) (hs : a.eval s = v) (hown : w.ownsRow base e 1 v n xs)
    (ad : Addr) (c : Nat) (y : Value) (hx : a.eval x = .slice (some ad) 1 c) (hy : ∀ j u, [y][j]? = some u → w.cell? (ad.add j) = some u) (h1 : y.oneCell' = true)
    (h63 : n + 1 ≤ maxLen) (hbytes : (n + 1) * bytes ≤ 140737488355328) (hbase : base ≤ w.heap.size)
    (h : ∀ v' w', w'.ownsRow base e 1 v' (n + 1) (xs ++ [y]) → w.grownBy w' v.ownBlock → (∀ p j u, w.cell? ⟨p, j, none⟩ = some u → (v.ownBlock = some p → j < n) → w'.cell? ⟨p, j, none⟩ = some u) → wpList Tryz.prog ops Q rest (a.put o.dst v') w') : wpList Tryz.prog ops Q (o :: rest) a w := by
  refine wpList_plain hgd fun K hK => ?_
  obtain ⟨i0, hi, hz0, hz1, hz2⟩ := info_parts hin
  have h1' : ∀ u ∈ [y], u.oneCell' = true := fun u hu => by rw [List.mem_singleton.1 hu]; exact h1
  obtain ⟨v', w', hr, h2, h3, _, h5⟩ := run_append_own_at (P := Tryz.prog) w base t o.type e i0 z 1 bytes ht hi hz0 hz1 hz2 hzs (by decide) v n xs hown ad 1 c [y] rfl hy h1' h63 hbytes hbase
  have hkeep : ∀ p j u, w.cell? ⟨p, j, none⟩ = some u → (v.ownBlock = some p → j < n) → w'.cell? ⟨p, j, none⟩ = some u := fun p j u hu hp => by
    by_cases e0 : v.ownBlock = some p
    · have hj := hp e0
      rcases hown.2 with ⟨rfl, rfl⟩ | ⟨g, cap, cur, rfl, hbg, hg, hnc, hcm, hcs, htake⟩
      · cases e0
      · obtain rfl : g = p := by injection e0
        by_cases hroom : n + 1 ≤ cap
        · have hr2 := run_append_room (P := Tryz.prog) w t o.type e i0 ht hi g n cap cur hg ad 1 c [y] (by rw [hz1]; rfl) hy h1' hroom (by rw [hz1, hcs]; simp; omega)
          obtain ⟨hv, hw⟩ := Result.ok.inj (hr.symm.trans hr2)
          subst hv
          have k1 := h2.cells (g := g) rfl j u
          have k2 := hown.cells (g := g) rfl j
          rw [addr_add, Nat.zero_add] at k1 k2
          refine k1 ?_
          have hlx : xs.length = n := by have := hown.1; omega
          rw [List.getElem?_append_left (by omega)]
          have h6 : xs[j]? = some xs[j] := List.getElem?_eq_getElem (by omega)
          rw [h6, ← hu]
          exact (k2 _ h6).symm
        · have holds : ∀ j u, xs[j]? = some u → w.cell? ((⟨g, 0, none⟩ : Addr).add j) = some u := hown.cells (g := g) rfl
          have hr2 := run_append_grow (P := Tryz.prog) w t o.type e i0 z ht hi hz0 ⟨g, 0, none⟩ n cap xs (by rw [hz1]; exact hown.1) holds ad 1 c [y] (by rw [hz1]; rfl) hy (by omega) (by unfold maxLen at h63; omega) (growslice_fits (by omega) (by rw [hz2]; exact hbytes))
          obtain ⟨hv, hw⟩ := Result.ok.inj (hr.symm.trans hr2)
          rw [hw, World.cell?_of_block (w := w) (a := ⟨g, j, none⟩) (heap_alloc_old w.drew _ (lt_heap hg))]
          exact hu
    · rw [h3.cell_far ⟨p, j, none⟩ (block_lt_of_cell hu) (fun h => e0 h.symm)]
      exact hu
  unfold Oper.wp execOp
  simp only [ho, resolve, invoke, builtin, Sem.run_bind, Sem.run_pure, Result.andThen_ok, List.map_toArray, List.map_cons, List.map_nil, hs, hx, hr]
  exact hK _ _ (h v' w' h2 h3 hkeep)
set_option maxRecDepth 100000 in
set_option maxHeartbeats 4000000 in
theorem in_any (x : ByteArray) (l : List ByteArray) (lv : Value) (w : World) (hl : BsAt w lv l) (h20 : l.length ≤ 1048576) :
    Calls Tryz.prog 36 #[.string x, lv] w fun e w' => e = .returned (.bool (l.any fun y => y.toList == x.toList)) ∧ w' = w := by
  obtain ⟨la, lc, rfl⟩ := Sl.form hl
  have HL := hid hl
  clear hl
  have HA0 : Hid ((l.any fun y => y.toList == x.toList) = (l.drop 0).any fun y => y.toList == x.toList) := rfl
  generalize (l.any fun y => y.toList == x.toList) = rb at *
  go_enter Tryz.func36, Tryz.ntmps36
  go_wp2_with fail
  go_loopg [9] l.length (fun g i wr => ∃ j : Nat, g = l.length - j ∧ j ≤ l.length ∧ i = .int .i64 (j : Int) ∧ rb = ((l.drop j).any fun y => y.toList == x.toList) ∧ wr = w)
  case atStart => exact ⟨0, rfl, Nat.zero_le _, rfl, HA0.out, rfl⟩
  case round =>
    obtain ⟨j, hg, hj, rfl, hrb, hw⟩ := hrel
    obtain rfl := hw.symm
    have GK := hid hg
    have HRb := hid hrb
    clear hg hw hrb HA0
    by_cases hlt : j < l.length
    · obtain ⟨b, off, rfl, he⟩ := Sl.at HL.out hlt
      have c0 := he.cells
      rw [Nat.mul_one] at c0
      have HRn : Hid (rb = ((l[j].toList == x.toList) || (l.drop (j + 1)).any fun y => y.toList == x.toList)) := by show _ = _; rw [HRb.out, List.drop_eq_getElem_cons hlt, List.any_cons]
      have HJ := hid hlt
      clear he
      generalize l[j] = y at *
      cases hq : (y.toList == x.toList)
      · rw [hq] at HRn
        go_wp2_with fail
        go_roundg (l.length - (j + 1))
        case measure => have := GK.out; have := HJ.out; omega
        case rel => exact ⟨j + 1, rfl, by have := HJ.out; omega, by go_num, HRn.out, rfl⟩
      · rw [hq] at HRn
        obtain rfl : rb = true := HRn.out
        go_wp2_with fail
        go_ret
        exact ⟨rfl, rfl⟩
    · have h0 := HRb.out
      rw [List.drop_of_length_le (by omega)] at h0
      obtain rfl : rb = false := h0
      go_wp2_with fail
      go_ret
      exact ⟨rfl, rfl⟩
def GoodS (w : World) (b : Nat) (x : Value) : Prop := ∃ m : List ByteArray, w.ownsRow 0 9 1 x m.length (m.flatMap encB) ∧ m.length ≤ b
theorem GoodS.below {w w' : World} {b : Nat} {x : Value} (h : GoodS w b x) (hb : Below w.heap.size w w') : GoodS w' b x := by
  obtain ⟨m, h1, h2⟩ := h
  exact ⟨m, own_ext h1 hb, h2⟩
theorem GoodS.keeps {w w' : World} {b : Nat} {x : Value} (h : GoodS w b x) (hk : Sh.Keeps (· ≠ 32) w w') : GoodS w' b x := by
  obtain ⟨m, h1, h2⟩ := h
  exact ⟨m, Sh.own_keeps h1 hk (by decide), h2⟩
theorem GoodS.up {w : World} {b b' : Nat} {x : Value} (h : GoodS w b x) (hb : b ≤ b') : GoodS w b' x := by
  obtain ⟨m, h1, h2⟩ := h
  exact ⟨m, h1, Nat.le_trans h2 hb⟩
theorem GoodS.one {w : World} {b : Nat} {x : Value} (h : GoodS w b x) : x.oneCell' = true := by
  obtain ⟨m, h1, _⟩ := h
  obtain ⟨a, c, rfl⟩ := own_form h1
  rfl
theorem src_own {w : World} {base : Nat} {v : Value} {m : List ByteArray} (h : w.ownsRow base 9 1 v m.length (m.flatMap encB)) : Src w v m.length (m.flatMap encB) := by
  obtain ⟨a, cap, rfl, hn, hc⟩ := own_at (sz := 1) (f := encB) (fun _ => rfl) (by decide) h
  exact src_of (by decide) encB (fun _ => rfl) hn hc
theorem flat_len1 (m : List ByteArray) : (m.flatMap encB).length = m.length * 1 := Sh.flat_len 1 encB (fun _ => rfl) m
theorem one_Bs (m : List ByteArray) : ∀ u ∈ m.flatMap encB, u.oneCell' = true := by
  intro u hu
  obtain ⟨d, _, hd⟩ := List.mem_flatMap.1 hu
  rw [List.mem_singleton.1 hd]; rfl
theorem own_empty (w : World) (B : Nat) (h : B ≤ w.heap.size) : (w.alloc (.cells #[] 9)).ownsRow B 9 1 (.slice (some ⟨w.heap.size, 0, none⟩) 0 0) 0 [] :=
  ⟨rfl, .inr ⟨w.heap.size, 0, #[], rfl, h, heap_alloc_new w _, Nat.le_refl _, Nat.zero_le _, rfl, rfl⟩⟩
theorem Tryz.infoB32 : (Tryz.prog.info? 32).map (fun i => (i.zero, i.size, i.bytes)) = some (some (.slice none 0 0), 1, 24) := by kernel_rfl
theorem bs_push {w : World} {B : Nat} {v : Value} {m : List ByteArray} {x : ByteArray} (h : w.ownsRow B 9 1 v (m.length + 1) (m.flatMap encB ++ [.string x])) : w.ownsRow B 9 1 v (m ++ [x]).length ((m ++ [x]).flatMap encB) := by
  simpa [encB] using h
theorem hW_new {X : World} {T : TypeId} {P : Nat} {cs : Array Value} (h : X.heap.size = P) : (X.alloc (.cells cs T)).heap[P]? = some (.cells cs T (0, 0)) := h ▸ heap_alloc_new X _
theorem good_nil (w : World) : GoodS w 0 (.slice none 0 0) := ⟨[], World.ownsRow_nil _ _ _ _, Nat.le_refl _⟩
end Go.Proofs.YtblkldfokeeaeacGreatDoor
