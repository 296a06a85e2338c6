/-
  One rule of a row of rules told anew: what the row holds then. No program's function is named here; no condition.
-/
import Derived.Test.YtanedepdhbdcgaaSheetAlive
import Derived.Test.YtanedepdhbdcgaaSheetFew
namespace Go.Proofs.Ytanedepdhbdcgaa
open Go.RowKit

theorem flat_upd : ∀ (LV : List (Rl × (Value × Value))) (i : Nat) (hi : i < LV.length) (r' : Rl),
    (((LV.flatMap encR).set (i * 5) (.string (bs r'.media))).set (i * 5 + 3) (.int .i64 r'.from_)).set (i * 5 + 4) (.int .i64 r'.to_) = (LV.set i (r', LV[i].2)).flatMap encR
  | [], _, hi, _ => absurd hi (by simp)
  | x :: l, 0, _, r' => by simp [encR]
  | x :: l, i + 1, hi, r' => by
    have ih := flat_upd l i (by simpa using hi) r'
    simp only [List.flatMap_cons, List.set_cons_succ, List.getElem_cons_succ]
    rw [← ih]
    have e : (i + 1) * 5 = i * 5 + 1 + 1 + 1 + 1 + 1 := by omega
    rw [e]
    simp [encR, List.set_cons_succ]
theorem flat_upd2 (LV : List (Rl × (Value × Value))) (i : Nat) (hi : i < LV.length) (r' : Rl) (hm : r'.media = LV[i].1.media) :
    ((LV.flatMap encR).set (i * 5 + 3) (.int .i64 r'.from_)).set (i * 5 + 4) (.int .i64 r'.to_) = (LV.set i (r', LV[i].2)).flatMap encR := by
  rw [← flat_upd LV i hi r', hm]
  congr 2
  apply List.ext_getElem?
  intro j
  rw [List.getElem?_set]
  split
  · rename_i h
    subst h
    have := flat_get 5 encR (fun _ => rfl) LV i 0 hi (by decide)
    rw [Nat.add_zero] at this
    rw [this]
    split
    · rfl
    · rename_i h
      exact absurd (by rw [flat_len 5 encR (fun _ => rfl)]; omega) h
  · rfl

theorem own_upd {w w' : World} {base g n cap : Nat} {xs xs' : List Value} {cur cur' : Array Value} (h : w.ownsRow base 56 5 (.slice (some ⟨g, 0, none⟩) n cap) n xs) (hg : w.heap[g]? = some (.cells cur 56 (0, 0))) (hg' : w'.heap[g]? = some (.cells cur' 56 (0, 0))) (hsz : cur'.size = cur.size) (hx : cur'.toList.take (n * 5) = xs') (hl : xs'.length = xs.length) : w'.ownsRow base 56 5 (.slice (some ⟨g, 0, none⟩) n cap) n xs' := by
  refine ⟨hl.trans h.1, .inr ?_⟩
  rcases h.2 with ⟨h1, _⟩ | ⟨g', cap', cur0, h0, hb, h1, h2, h3, h4, h5⟩
  · cases h1
  · injection h0 with h0 _ h0'
    injection h0 with h0
    injection h0 with h0
    subst h0 h0'
    rw [hg] at h1
    injection h1 with h1
    injection h1 with h1 _ _
    subst h1
    exact ⟨g, cap, cur', rfl, hb, hg', h2, h3, by rw [hsz]; exact h4, hx⟩

theorem keeps_set56 {w : World} {g o : Nat} {cur : Array Value} (hg : w.heap[g]? = some (.cells cur 56 (0, 0))) (v : Value) : Keeps (· ≠ 56) w (w.setCell ⟨g, o, none⟩ v) := Keeps.set hg (by simp) v

/-- A rule of the row told anew, its media, and where it stands. -/
theorem RsIn.upd {w : World} {base g n cap : Nat} {L : List Rl} (h : RsIn w base (.slice (some ⟨g, 0, none⟩) n cap) L) (hn : L.length = n) {i : Nat} (hi : i < L.length) (r' : Rl) (hs : r'.sels = L[i].sels) (hd : r'.decls = L[i].decls) :
    RsIn (((w.setCell ⟨g, i * 5, none⟩ (.string (bs r'.media))).setCell ⟨g, i * 5 + 3, none⟩ (.int .i64 r'.from_)).setCell ⟨g, i * 5 + 4, none⟩ (.int .i64 r'.to_)) base (.slice (some ⟨g, 0, none⟩) n cap) (L.set i r') ∧
    (r'.media = L[i].media → RsIn ((w.setCell ⟨g, i * 5 + 3, none⟩ (.int .i64 r'.from_)).setCell ⟨g, i * 5 + 4, none⟩ (.int .i64 r'.to_)) base (.slice (some ⟨g, 0, none⟩) n cap) (L.set i r')) := by
  subst hn
  obtain ⟨LV, m, o, sub⟩ := h
  have lv : LV.length = L.length := by rw [← m, List.length_map]
  have hi' : i < LV.length := by omega
  obtain ⟨cur, hg, ht⟩ : ∃ cur, w.heap[g]? = some (.cells cur 56 (0, 0)) ∧ cur.toList.take (L.length * 5) = LV.flatMap encR := by
    rcases o.2 with ⟨h1, _⟩ | ⟨g', cap', cur0, h0, hb, h1, h2, h3, h4, h5⟩
    · cases h1
    · injection h0 with h0 _ _
      injection h0 with h0
      injection h0 with h0
      subst h0
      exact ⟨cur0, h1, h5⟩
  have ei : LV[i].1 = L[i] := by simp [← m]
  have em : (LV.set i (r', LV[i].2)).map (·.1) = L.set i r' := by rw [List.map_set, m]
  have len5 : (LV.flatMap encR).length = L.length * 5 := by rw [flat_len 5 encR (fun _ => rfl), lv]
  have fin : ∀ w' : World, Keeps (· ≠ 56) w w' → w'.ownsRow base 56 5 (.slice (some ⟨g, 0, none⟩) L.length cap) L.length ((LV.set i (r', LV[i].2)).flatMap encR) → RsIn w' base (.slice (some ⟨g, 0, none⟩) L.length cap) (L.set i r') := by
    intro w' kk ho
    refine ⟨LV.set i (r', LV[i].2), em, by rw [List.length_set]; exact ho, fun p hp => ?_⟩
    rcases List.mem_or_eq_of_mem_set hp with hp | rfl
    · have := sub p hp
      exact ⟨this.1.keeps kk (by decide), this.2.keeps kk (by decide)⟩
    · have := sub LV[i] (List.getElem_mem hi')
      rw [ei] at this
      simp only
      rw [hs, hd]
      exact ⟨this.1.keeps kk (by decide), this.2.keeps kk (by decide)⟩
  constructor
  · have b1 := heap_set hg (i * 5) (.string (bs r'.media))
    have b2 := heap_set b1 (i * 5 + 3) (.int .i64 r'.from_)
    have b3 := heap_set b2 (i * 5 + 4) (.int .i64 r'.to_)
    refine fin _ (((keeps_set56 hg _).trans (keeps_set56 b1 _)).trans (keeps_set56 b2 _)) ?_
    refine own_upd o hg b3 (by simp) ?_ (by rw [flat_len 5 encR (fun _ => rfl), len5]; simp [lv])
    rw [← flat_upd LV i hi' r', ← ht]
    simp only [Array.toList_setIfInBounds, List.take_set]
  · intro hmd
    have b2 := heap_set hg (i * 5 + 3) (.int .i64 r'.from_)
    have b3 := heap_set b2 (i * 5 + 4) (.int .i64 r'.to_)
    refine fin _ ((keeps_set56 hg _).trans (keeps_set56 b2 _)) ?_
    refine own_upd o hg b3 (by simp) ?_ (by rw [flat_len 5 encR (fun _ => rfl), len5]; simp [lv])
    rw [← flat_upd2 LV i hi' r' (by rw [hmd, ei]), ← ht]
    simp only [Array.toList_setIfInBounds, List.take_set]

/-- The cells of a rule of the row. -/
theorem RsIn.cells {w : World} {base n cap : Nat} {va : Option Addr} {L : List Rl} (h : RsIn w base (.slice va n cap) L) (hn : L.length = n) {i : Nat} (hi : i < L.length) :
    ∃ g sv dv cur, va = some ⟨g, 0, none⟩ ∧ w.heap[g]? = some (.cells cur 56 (0, 0)) ∧ base ≤ g ∧ SsAt w sv L[i].sels ∧ DsAt w dv L[i].decls ∧ w.cell? ⟨g, i * 5, none⟩ = some (.string (bs L[i].media)) ∧ w.cell? ⟨g, i * 5 + 1, none⟩ = some sv ∧ w.cell? ⟨g, i * 5 + 2, none⟩ = some dv ∧
      w.cell? ⟨g, i * 5 + 3, none⟩ = some (.int .i64 L[i].from_) ∧ w.cell? ⟨g, i * 5 + 4, none⟩ = some (.int .i64 L[i].to_) := by
  subst hn
  obtain ⟨LV, m, o, sub⟩ := h
  have lv : LV.length = L.length := by rw [← m, List.length_map]
  have hi' : i < LV.length := by omega
  obtain ⟨g, hg, p⟩ := row_at (enc := encR) (sz := 5) (fun _ => rfl) lv o hi' (by decide)
  have ei : LV[i].1 = L[i] := by simp [← m]
  have s := sub LV[i] (List.getElem_mem hi')
  rw [ei] at s
  have p0 := p 0 (by decide)
  have p1 := p 1 (by decide)
  have p2 := p 2 (by decide)
  have p3 := p 3 (by decide)
  have p4 := p 4 (by decide)
  simp [encR, ei] at p0 p1 p2 p3 p4
  rcases o.2 with ⟨h1, h2⟩ | ⟨g', cap', cur0, h0, hb, h1, h2, h3, h4, h5⟩
  · omega
  · injection h0 with h0 _ _
    rw [hg] at h0
    injection h0 with h0
    injection h0 with h0
    subst h0
    exact ⟨g, LV[i].2.1, LV[i].2.2, cur0, hg, h1, hb, s.1, s.2, p0, p1, p2, p3, p4⟩
end Go.Proofs.Ytanedepdhbdcgaa
