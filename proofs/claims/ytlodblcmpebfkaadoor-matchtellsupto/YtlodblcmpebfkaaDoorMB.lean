/-
  Rows of tests and of parts, appended to one another: what the longer row holds. No function of package match is named here. Condition: no more than 2^22 of each.
-/
import Derived.Test.YtlodblcmpebfkaaDoorMA
import Derived.Deep.RegionHeld3
import Derived.Deep.Slices
namespace Go.Proofs.YtlodblcmpebfkaaDoor
open Go.RowKit

/-- A slice value that is read from: m elements, these cells. -/
def Src (w : World) (u : Value) (m : Nat) (news : List Value) : Prop :=
  (u = .slice none 0 0 ∧ m = 0 ∧ news = []) ∨ ∃ ad c, u = .slice (some ad) m c ∧ ∀ j e, news[j]? = some e → w.cell? (ad.add j) = some e
theorem addr_add (g o j : Nat) : (⟨g, o, none⟩ : Addr).add j = ⟨g, o + j, none⟩ := by unfold Addr.add; split <;> simp_all
theorem Ext.any {w w' : World} (h : Ext w w') {p : Addr} {v : Value} (hp : w.cell? p = some v) : w'.cell? p = some v := by
  obtain ⟨b, o, sp⟩ := p
  cases sp with
  | none => exact h b o v hp
  | some x =>
    unfold World.cell? at hp
    split at hp
    · simp at hp
    · cases hp
theorem Src.ext {w w' : World} {u : Value} {m : Nat} {news : List Value} (h : Src w u m news) (e : Ext w w') : Src w' u m news := by
  rcases h with h | ⟨ad, c, h1, h2⟩
  · exact .inl h
  · exact .inr ⟨ad, c, h1, fun j x hx => e.any (h2 j x hx)⟩

theorem wp_app {w : World} {o : Oper} {a : Act} {K : Act → World → Prop} {Q : Exit → Act → World → Prop} (s x : Operand) (t : TypeId)
    (ho : o.op = .call { callee := .builtin .append, args := #[s, x], argTypes := #[t, t] })
    (base : Nat) (e : TypeId) (z : Value) (size bytes : Nat) (ht : Tryd.prog.underlying t = some (.slice e)) (hin : (Tryd.prog.info? e).map (fun i => (i.zero, i.size, i.bytes)) = some (some z, size, bytes)) (hzs : z.cells.size = size) (hsz : 0 < size)
    (v : Value) (n : Nat) (xs : List Value) (hs : a.eval s = v) (hown : w.ownsRow base e size v n xs)
    (u : Value) (m : Nat) (news : List Value) (hx : a.eval x = u) (hsrc : Src w u m news) (hl : news.length = m * size) (h1 : ∀ u ∈ news, u.oneCell' = true)
    (h63 : n + m ≤ maxLen) (hbytes : (n + m) * bytes ≤ 140737488355328) (hbase : base ≤ w.heap.size)
    (h : ∀ v' w', w'.ownsRow base e size v' (n + m) (xs ++ news) → w.grownBy w' v.ownBlock → K (a.put o.dst v') w') : o.wp Tryd.prog a w K Q := by
  obtain ⟨i0, hi, hz0, hz1, hz2⟩ := info_parts hin
  rcases hsrc with ⟨h2, rfl, rfl⟩ | ⟨ad, c, h2, h3⟩
  · have hrun := run_append_owned_none (P := Tryd.prog) (w := w) base t o.type e i0 size ht hi v n xs hown
    unfold Oper.wp
    rw [h2] at hx
    simp [execOp, ho, resolve, invoke, builtin, hs, hx, hrun, Result.andThen]
    exact h v w (by simpa using hown) ⟨rfl, rfl, rfl, Nat.le_refl _, fun _ _ _ => rfl⟩
  · exact wp_append_own w s x t ho base e i0 z size bytes ht hi hz0 hz1 hz2 hzs hsz v n xs hs hown ad m c news (by rw [hx, h2]) hl h3 h1 h63 hbytes hbase (fun v' w' h3 h4 _ => h v' w' h3 h4)
theorem wpList_app {w : World} {ops : Array Oper} {rest : List Oper} {o : Oper} {a : Act} {Q : Exit → Act → World → Prop} (hgd : o.guard = none) (s x : Operand) (t : TypeId)
    (ho : o.op = .call { callee := .builtin .append, args := #[s, x], argTypes := #[t, t] })
    (base : Nat) (e : TypeId) (z : Value) (size bytes : Nat) (ht : Tryd.prog.underlying t = some (.slice e)) (hin : (Tryd.prog.info? e).map (fun i => (i.zero, i.size, i.bytes)) = some (some z, size, bytes)) (hzs : z.cells.size = size) (hsz : 0 < size)
    (v : Value) (n : Nat) (xs : List Value) (hs : a.eval s = v) (hown : w.ownsRow base e size v n xs)
    (u : Value) (m : Nat) (news : List Value) (hx : a.eval x = u) (hsrc : Src w u m news) (hl : news.length = m * size) (h1 : ∀ u ∈ news, u.oneCell' = true)
    (h63 : n + m ≤ maxLen) (hbytes : (n + m) * bytes ≤ 140737488355328) (hbase : base ≤ w.heap.size)
    (h : ∀ v' w', w'.ownsRow base e size v' (n + m) (xs ++ news) → w.grownBy w' v.ownBlock → wpList Tryd.prog ops Q rest (a.put o.dst v') w') : wpList Tryd.prog ops Q (o :: rest) a w :=
  wpList_plain hgd fun _ hK => wp_app s x t ho base e z size bytes ht hin hzs hsz v n xs hs hown u m news hx hsrc hl h1 h63 hbytes hbase fun v' w' h2 h3 => hK _ _ (h v' w' h2 h3)
theorem step_app {w : World} {ops : Array Oper} {o : Oper} {a : Act} {K : Act → World → Prop} {Q : Exit → Act → World → Prop} {E : Prop} (hgd : o.guard = none) (s x : Operand) (t : TypeId)
    (ho : o.op = .call { callee := .builtin .append, args := #[s, x], argTypes := #[t, t] })
    (base : Nat) (e : TypeId) (z : Value) (size bytes : Nat) (ht : Tryd.prog.underlying t = some (.slice e)) (hin : (Tryd.prog.info? e).map (fun i => (i.zero, i.size, i.bytes)) = some (some z, size, bytes)) (hzs : z.cells.size = size) (hsz : 0 < size)
    (v : Value) (n : Nat) (xs : List Value) (hs : a.eval s = v) (hown : w.ownsRow base e size v n xs)
    (u : Value) (m : Nat) (news : List Value) (hx : a.eval x = u) (hsrc : Src w u m news) (hl : news.length = m * size) (h1 : ∀ u ∈ news, u.oneCell' = true)
    (h63 : n + m ≤ maxLen) (hbytes : (n + m) * bytes ≤ 140737488355328) (hbase : base ≤ w.heap.size)
    (h : ∀ v' w', w'.ownsRow base e size v' (n + m) (xs ++ news) → w.grownBy w' v.ownBlock → K (a.put o.dst v') w') :
    if Region.wanted o (yielded ops a.tmps) = true then Oper.wp Tryd.prog o a w K Q else E := by
  rw [if_pos (by simp [Region.wanted, hgd])]
  exact wp_app s x t ho base e z size bytes ht hin hzs hsz v n xs hs hown u m news hx hsrc hl h1 h63 hbytes hbase h

def encT (t : Ts) : List Value := [.int .i64 t.kind, .string t.name, .string t.val]
def encP (x : Pt × Value) : List Value := [.int .i64 x.1.join, x.2]
theorem Tryd.infoT : (Tryd.prog.info? 41).map (fun i => (i.zero, i.size, i.bytes)) = some (some (.agg #[.int .i64 0, .string ⟨#[]⟩, .string ⟨#[]⟩]), 3, 40) := by kernel_rfl
theorem Tryd.infoP : (Tryd.prog.info? 45).map (fun i => (i.zero, i.size, i.bytes)) = some (some (.agg #[.int .i64 0, .slice none 0 0]), 2, 32) := by kernel_rfl
theorem flat_len {α β : Type} (n : Nat) (f : α → List β) (hf : ∀ x, (f x).length = n) : ∀ l : List α, (l.flatMap f).length = l.length * n
  | [] => by simp
  | a :: l => by rw [List.flatMap_cons, List.length_append, hf, flat_len n f hf l, List.length_cons, Nat.add_mul]; omega
theorem flat_get {α β : Type} (n : Nat) (f : α → List β) (hf : ∀ x, (f x).length = n) : ∀ (l : List α) (i j : Nat) (hi : i < l.length), j < n → (l.flatMap f)[i * n + j]? = (f l[i])[j]?
  | [], _, _, hi, _ => absurd hi (Nat.not_lt_zero _)
  | a :: l, 0, j, _, hj => by
    rw [List.flatMap_cons, List.getElem?_append_left (by rw [hf]; omega)]
    simp
  | a :: l, i + 1, j, hi, hj => by
    rw [List.flatMap_cons, List.getElem?_append_right (by rw [hf, Nat.add_mul]; omega), hf]
    have := flat_get n f hf l i j (by simpa using hi) hj
    rw [show (i + 1) * n + j - n = i * n + j by rw [Nat.add_mul]; omega, this]
    simp
/-- From each element's cells to the row's. -/
theorem src_of {α : Type} {w : World} {sz : Nat} (h0 : 0 < sz) (f : α → List Value) (hf : ∀ x, (f x).length = sz) {a : Option Addr} {cap : Nat} {l : List α} (hn : a = none → cap = 0)
    (h : ∀ i (hi : i < l.length), ∃ b off, a = some ⟨b, off, none⟩ ∧ ∀ j, j < sz → w.cell? ⟨b, off + i * sz + j, none⟩ = (f l[i])[j]?) : Src w (.slice a l.length cap) l.length (l.flatMap f) := by
  cases a with
  | none =>
    have hl : l.length = 0 := by
      by_cases h1 : 0 < l.length
      · obtain ⟨b, off, hb, _⟩ := h 0 h1; cases hb
      · omega
    obtain rfl := List.length_eq_zero_iff.1 hl
    rw [hn rfl]
    exact .inl ⟨rfl, rfl, rfl⟩
  | some ad =>
    by_cases h1 : 0 < l.length
    · obtain ⟨b, off, hb, _⟩ := h 0 h1
      injection hb with hb
      subst hb
      refine .inr ⟨⟨b, off, none⟩, cap, rfl, fun j e he => ?_⟩
      rw [addr_add]
      have hj : j < l.length * sz := by
        have := (List.getElem?_eq_some_iff.1 he).1
        rwa [flat_len sz f hf] at this
      have hi : j / sz < l.length := Nat.div_lt_of_lt_mul (by rw [Nat.mul_comm]; exact hj)
      have hm : j % sz < sz := Nat.mod_lt _ h0
      have hd : j = j / sz * sz + j % sz := by rw [Nat.mul_comm]; exact (Nat.div_add_mod j sz).symm
      obtain ⟨b', off', hb, hc⟩ := h (j / sz) hi
      injection hb with hb
      injection hb with hb1 hb2
      subst hb1 hb2
      have := hc (j % sz) hm
      rw [← flat_get sz f hf l (j / sz) (j % sz) hi hm, ← hd, he, Nat.add_assoc, ← hd] at this
      exact this
    · have hl : l.length = 0 := by omega
      obtain rfl := List.length_eq_zero_iff.1 hl
      exact .inr ⟨ad, cap, rfl, fun j e he => by cases he⟩

theorem TsAt.src {w : World} {a : Option Addr} {n cap : Nat} {ts : List Ts} (h : TsAt w (.slice a n cap) ts) : Src w (.slice a ts.length cap) ts.length (ts.flatMap encT) := by
  obtain ⟨a', cap', e, hn, h⟩ := h
  injection e with e1 e2 e3
  subst e1 e3
  refine src_of (sz := 3) (by decide) encT (fun _ => rfl) hn fun i hi => ?_
  obtain ⟨b, off, rfl, h0, h1, h2⟩ := h i hi
  refine ⟨b, off, rfl, fun j hj => ?_⟩
  match j, hj with
  | 0, _ => exact h0
  | 1, _ => exact h1
  | 2, _ => exact h2
theorem PsAt.src {w : World} {a : Option Addr} {n cap : Nat} {s : List Pt} (h : PsAt w (.slice a n cap) s) : ∃ LV : List (Pt × Value), LV.map (·.1) = s ∧ (∀ p ∈ LV, TsAt w p.2 p.1.tests) ∧ Src w (.slice a s.length cap) s.length (LV.flatMap encP) := by
  obtain ⟨a', cap', e, hn, h⟩ := h
  injection e with e1 e2 e3
  subst e1 e3
  have : ∃ f : Nat → Value, ∀ i, i < s.length → ∀ hi : i < s.length, ∃ b off, a = some ⟨b, off, none⟩ ∧ w.cell? ⟨b, off + i * 2 + 0, none⟩ = some (.int .i64 s[i].join) ∧ w.cell? ⟨b, off + i * 2 + 1, none⟩ = some (f i) ∧ TsAt w (f i) s[i].tests := by
    have : Inhabited Value := ⟨.bool true⟩
    refine Deep.choose_lt (p := fun i v => ∀ hi : i < s.length, ∃ b off, a = some ⟨b, off, none⟩ ∧ w.cell? ⟨b, off + i * 2 + 0, none⟩ = some (.int .i64 s[i].join) ∧ w.cell? ⟨b, off + i * 2 + 1, none⟩ = some v ∧ TsAt w v s[i].tests) fun i hi => ?_
    obtain ⟨b, off, hb, h0, v, h1, h2⟩ := h i hi
    exact ⟨v, fun _ => ⟨b, off, hb, h0, h1, h2⟩⟩
  obtain ⟨f, hf⟩ := this
  have hlen : ((List.range s.length).map fun i => (ptAt s i, f i)).length = s.length := by simp
  refine ⟨(List.range s.length).map fun i => (ptAt s i, f i), ?_, ?_, ?_⟩
  · rw [List.map_map]
    apply List.ext_getElem
    · simp
    · intro i h1 h2
      simp [ptAt_eq (show i < s.length by simpa using h2)]
  · intro p hp
    obtain ⟨i, hi, rfl⟩ := List.mem_map.1 hp
    have hi' : i < s.length := by simpa using hi
    obtain ⟨b, off, _, _, _, h3⟩ := hf i hi' hi'
    simp only [ptAt_eq hi']
    exact h3
  · have := src_of (w := w) (sz := 2) (by decide) encP (fun _ => rfl) (a := a) (cap := cap) (l := (List.range s.length).map fun i => (ptAt s i, f i)) hn (fun i hi => by
      have hi' : i < s.length := by simpa using hi
      obtain ⟨b, off, hb, h1, h2, _⟩ := hf i hi' hi'
      refine ⟨b, off, hb, fun j hj => ?_⟩
      match j, hj with
      | 0, _ => simpa [encP, ptAt_eq hi'] using h1
      | 1, _ => simpa [encP] using h2)
    rw [hlen] at this
    exact this
theorem own_at {α : Type} {w : World} {base : Nat} {e : TypeId} {sz : Nat} {f : α → List Value} (hf : ∀ x, (f x).length = sz) (h0 : 0 < sz) {v : Value} {l : List α} (h : w.ownsRow base e sz v l.length (l.flatMap f)) :
    ∃ a cap, v = .slice a l.length cap ∧ (a = none → cap = 0) ∧ ∀ i (hi : i < l.length), ∃ b off, a = some ⟨b, off, none⟩ ∧ ∀ j, j < sz → w.cell? ⟨b, off + i * sz + j, none⟩ = (f l[i])[j]? := by
  have hn : ∀ a cap, v = .slice a l.length cap → a = none → cap = 0 := by
    rintro a cap rfl rfl
    rcases h.2 with ⟨h1, _⟩ | ⟨g, cap, cur, h0, _⟩
    · injection h1
    · cases h0
  obtain ⟨a, cap, rfl⟩ := own_form h
  refine ⟨a, cap, rfl, hn a cap rfl, fun i hi => ?_⟩
  have key : ∀ j, j < sz → i * sz + j < l.length * sz := fun j hj => by
    have : (i + 1) * sz ≤ l.length * sz := Nat.mul_le_mul_right _ hi
    rw [Nat.add_mul, Nat.one_mul] at this
    omega
  obtain ⟨g, rfl, _⟩ := own_cell h (j := i * sz + 0) (key 0 h0)
  refine ⟨g, 0, rfl, fun j hj => ?_⟩
  obtain ⟨g', hg, hc⟩ := own_cell h (j := i * sz + j) (key j hj)
  injection hg with hg
  injection hg with hg
  subst hg
  rw [Nat.zero_add, hc, flat_get sz f hf l i j hi hj]
theorem TsAt.own {w : World} {base : Nat} {v : Value} {l : List Ts} (h : w.ownsRow base 41 3 v l.length (l.flatMap encT)) : TsAt w v l := by
  obtain ⟨a, cap, rfl, hn, hc⟩ := own_at (sz := 3) (f := encT) (fun _ => rfl) (by decide) h
  refine ⟨a, cap, rfl, hn, fun i hi => ?_⟩
  obtain ⟨b, off, rfl, hh⟩ := hc i hi
  exact ⟨b, off, rfl, hh 0 (by decide), hh 1 (by decide), hh 2 (by decide)⟩
theorem PsAt.own {w : World} {base : Nat} {v : Value} {LV : List (Pt × Value)} (h : w.ownsRow base 45 2 v LV.length (LV.flatMap encP)) (hs : ∀ p ∈ LV, TsAt w p.2 p.1.tests) : PsAt w v (LV.map (·.1)) := by
  obtain ⟨a, cap, rfl, hn, hc⟩ := own_at (sz := 2) (f := encP) (fun _ => rfl) (by decide) h
  refine ⟨a, cap, by simp, hn, fun i hi => ?_⟩
  have hi' : i < LV.length := by simpa using hi
  obtain ⟨b, off, rfl, hh⟩ := hc i hi'
  refine ⟨b, off, rfl, ?_, LV[i].2, hh 1 (by decide), ?_⟩
  · have := hh 0 (by decide)
    simpa [encP] using this
  · have := hs LV[i] (List.getElem_mem hi')
    simpa using this
end Go.Proofs.YtlodblcmpebfkaaDoor
