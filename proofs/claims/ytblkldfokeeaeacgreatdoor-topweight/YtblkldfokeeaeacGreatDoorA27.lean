/- Texts that the statement's proof stands on: F6, F7, F8. -/
import Derived.Test.YtblkldfokeeaeacGreatDoorA26
import Derived.Test.YtblkldfokeeaeacGreatDoorA22
import Derived.Laws.EntriesVeiled
namespace Go.Proofs.YtblkldfokeeaeacGreatDoor
open Go.RowKit Go.Maps
def uR (v : Value) : Option (DataW Unit × List MemPlace) := match v with
  | .agg ⟨[]⟩ => some (.agg [], [])
  | _ => none
theorem uR_mk : uR (.agg #[]) = some (.agg [], []) := rfl
theorem uR_inv {v : Value} {d : DataW Unit} {ps : List MemPlace} (h : uR v = some (d, ps)) : v = .agg #[] := by
  unfold uR at h
  split at h
  · rfl
  · cases h
theorem zero186 (w : World) : (zeroValue 186).run Tryz.prog w = .ok (.agg #[]) w := by kernel_rfl
def memK {κ : Type} [DecidableEq κ] (q : κ) (ks : List κ) : Bool := decide (q ∈ ks)
theorem memK_iff {κ : Type} [DecidableEq κ] {q : κ} {ks : List κ} : memK q ks = true ↔ q ∈ ks := by unfold memK; simp
def SetAt {κ : Type} [DecidableEq κ] (kt : TypeId) (kl : κ → Lit) (w : World) (B n : Nat) (ks : List κ) : Prop := ∃ D : DataW Unit, w.ownsMap Tryz.prog kt uR B n D ∧ ∀ q, has D (kl q) = memK q ks
section
variable {κ : Type} [DecidableEq κ] {kt t : TypeId} {kl : κ → Lit} {w : World} {B n : Nat} {ks : List κ}
theorem SetAt.made (kt : TypeId) (kl : κ → Lit) (w : World) : SetAt kt kl (w.alloc (.map #[] 0)) w.heap.size 0 [] := ⟨_, World.ownsMap_made w _ _ _, fun q => by unfold memK; simp [has]⟩
theorem SetAt.ins (h : SetAt kt kl w B n ks) (K : Keyed Tryz.prog kt) (ht : Tryz.prog.underlying t = some (.map kt 186)) (inj : ∀ a b, kl a = kl b → a = b) (isl : ∀ q, WideAt.IsKeyLit (kl q)) (hn : n < maxLen) {key : Value} {q : κ} (hkey : keyOf Tryz.prog kt key = some (kl q)) :
    ∃ w', (Instr.mapUpdate t (.map (some B)) key (.agg #[])).run Tryz.prog w = .ok () w' ∧ SetAt kt kl w' B (n + 1) (ks ++ [q]) ∧ w.grownBy w' (some B) := by
  obtain ⟨D, ho, hf⟩ := h
  obtain ⟨w', h1, h2, h3⟩ := ho.update K ht hn hkey uR_mk
  refine ⟨w', h1, ⟨_, h2, fun p => ?_⟩, h3⟩
  have hm : IsMap D := ho.isMap
  by_cases e : p = q
  · subst e
    rw [has_put_same hm (isl p) _]
    unfold memK
    simp
  · rw [has_put_other (fun h => e (inj _ _ h)), hf]
    unfold memK
    simp [e]
theorem SetAt.look (h : SetAt kt kl w B n ks) (K : Keyed Tryz.prog kt) (ht : Tryz.prog.underlying t = some (.map kt 186)) {key : Value} {q : κ} (hkey : keyOf Tryz.prog kt key = some (kl q)) :
    (Instr.lookup t (.map (some B)) key true).run Tryz.prog w = .ok (.tuple #[.agg #[], .bool (memK q ks)]) w := by
  obtain ⟨D, ho, hf⟩ := h
  obtain ⟨v, ps, h1, h2⟩ := ho.look_ok K ht (zero186 w) uR_mk hkey
  rw [h1, uR_inv h2, hf]
theorem SetAt.kept {w' : World} (h : SetAt kt kl w B n ks) (e : w'.heap[B]? = w.heap[B]?) : SetAt kt kl w' B n ks := by
  obtain ⟨D, ⟨es, c, h1, h2⟩, hf⟩ := h
  exact ⟨D, ⟨es, c, by rw [e]; exact h1, h2⟩, hf⟩
theorem SetAt.lt (h : SetAt kt kl w B n ks) : B < w.heap.size := by
  obtain ⟨D, ⟨es, c, h1, _⟩, _⟩ := h
  exact (Array.getElem?_eq_some_iff.1 h1).1
theorem SetAt.map (h : SetAt kt kl w B n ks) : ∃ es c, w.heap[B]? = some (.map es c) := by
  obtain ⟨D, ⟨es, c, h1, _⟩, _⟩ := h
  exact ⟨es, c, h1⟩
theorem SetAt.below {w' : World} (h : SetAt kt kl w B n ks) (hb : Below w.heap.size w w') : SetAt kt kl w' B n ks := h.kept (hb.block B h.lt)
end
theorem keyI : Keyed Tryz.prog 3 := int_keyed Tryz.underlying3
def klI (q : Int) : Lit := .int .i64 q
def klS (q : Bs) : Lit := .string q
theorem klI_inj (a b : Int) (h : klI a = klI b) : a = b := by injection h
theorem klS_inj (a b : Bs) (h : klS a = klS b) : a = b := by injection h
theorem klI_is (q : Int) : WideAt.IsKeyLit (klI q) := by simp [klI, WideAt.IsKeyLit]
theorem klS_is (q : Bs) : WideAt.IsKeyLit (klS q) := by simp [klS, WideAt.IsKeyLit]
theorem keyI_of {q : Int} (h : (Lit.int .i64 q).wf = true) : keyOf Tryz.prog 3 (.int .i64 q) = some (klI q) := keyOf_int_mk Tryz.underlying3 h
theorem keyS_of {q : ByteArray} (h : q.size ≤ maxLen) : keyOf Tryz.prog 9 (.string q) = some (klS q.data.toList) := WideMaps.keyOf_string_mk Tryz.underlying9 h
theorem wf_nat {k : Nat} (h : k ≤ 9223372036854775807) : (Lit.int .i64 (k : Int)).wf = true := by
  have e1 : IntKind.i64.min = -9223372036854775808 := by decide
  have e2 : IntKind.i64.max = 9223372036854775807 := by decide
  simp [Lit.wf, e1, e2]
  omega
abbrev SetI := SetAt (κ := Int) 3 klI
abbrev SetS := SetAt (κ := Bs) 9 klS
set_option maxRecDepth 100000 in
set_option maxHeartbeats 2000000 in
theorem inI_any (k : Nat) (B M n : Nat) (ks : List Int) (w : World) (hk : k ≤ 9223372036854775807) (hB : w.cell? ⟨B, 0, none⟩ = some (.map (some M))) (hM : SetI w M n ks) :
    Calls Tryz.prog 102 #[.int .i64 (k : Int), .pointer (some ⟨B, 0, none⟩)] w fun e w' => e = .returned (.bool (memK (k : Int) ks)) ∧ Below w.heap.size w w' := by
  have hlk := hM.look keyI Tryz.underlying185 (keyI_of (wf_nat hk))
  clear hM
  go_enter Tryz.func102, Tryz.ntmps102
  go_wp2_with fail
  go_ret
  exact ⟨rfl, (Below.refl _ _).alloc (Nat.le_refl _) _⟩
set_option maxRecDepth 100000 in
set_option maxHeartbeats 2000000 in
theorem inS_any (x : ByteArray) (B M n : Nat) (ks : List Bs) (w : World) (hk : x.size ≤ maxLen) (hB : w.cell? ⟨B, 0, none⟩ = some (.map (some M))) (hM : SetS w M n ks) :
    Calls Tryz.prog 103 #[.string x, .pointer (some ⟨B, 0, none⟩)] w fun e w' => e = .returned (.bool (memK x.data.toList ks)) ∧ Below w.heap.size w w' := by
  have hlk := hM.look keyS Tryz.underlying188 (keyS_of hk)
  clear hM hk
  go_enter Tryz.func103, Tryz.ntmps103
  go_wp2_with fail
  go_ret
  exact ⟨rfl, (Below.refl _ _).alloc (Nat.le_refl _) _⟩
theorem uponU_make {t : TypeId} {W : World} {o : Oper} {a : Act} {K : Act → World → Prop} {Q : Exit → Act → World → Prop} (hK : K (a.put o.dst (.map (some W.heap.size))) (W.alloc (.map #[] 0))) :
    Oper.upon Tryz.prog o a K Q (((Instr.makeMap t none).run Tryz.prog W).andThen fun v w' => .ok (.value v) w') := by
  rw [run_makeMap]
  exact hK
set_option maxRecDepth 100000 in
theorem uponI_ins {w : World} {o : Oper} {a : Act} {K : Act → World → Prop} {Q : Exit → Act → World → Prop} {M n : Nat} {ks : List Int} {k : Nat} (h : SetI w M n ks) (hn : n < maxLen) (hk : k ≤ 9223372036854775807)
    (hK : ∀ w', SetI w' M (n + 1) (ks ++ [(k : Int)]) → w.grownBy w' (some M) → K (a.put o.dst undef) w') :
    Oper.upon Tryz.prog o a K Q (((Instr.mapUpdate 185 (.map (some M)) (.int .i64 (k : Int)) (.agg #[])).run Tryz.prog w).andThen fun _ w' => .ok .skip w') := by
  obtain ⟨w', h1, h2, h3⟩ := h.ins keyI Tryz.underlying185 klI_inj klI_is hn (keyI_of (wf_nat hk))
  rw [h1]
  exact hK w' h2 h3
set_option maxRecDepth 100000 in
theorem uponS_ins' {w : World} {o : Oper} {a : Act} {K : Act → World → Prop} {Q : Exit → Act → World → Prop} {M n : Nat} {ks : List Bs} {x : ByteArray} (h : SetS w M n ks) (hn : n < maxLen) (hk : x.size ≤ maxLen)
    (hK : ∀ w', SetS w' M (n + 1) (ks ++ [x.data.toList]) → w.grownBy w' (some M) → K (a.put o.dst undef) w') :
    Oper.upon Tryz.prog o a K Q (((Instr.mapUpdate 188 (.map (some M)) (.string x) (.agg #[])).run Tryz.prog w).andThen fun _ w' => .ok .skip w') := by
  obtain ⟨w', h1, h2, h3⟩ := h.ins keyS Tryz.underlying188 klS_inj klS_is hn (keyS_of hk)
  rw [h1]
  exact hK w' h2 h3
def BlI (w : World) (f : Value) (ks : List Nat) : Prop := ∃ B M n, f = .func (.func 102) #[] #[.pointer (some ⟨B, 0, none⟩)] ∧ w.cell? ⟨B, 0, none⟩ = some (.map (some M)) ∧ SetI w M n (ks.map fun k : Nat => (k : Int))
def BlS (w : World) (f : Value) (ks : List ByteArray) : Prop := ∃ B M n, f = .func (.func 103) #[] #[.pointer (some ⟨B, 0, none⟩)] ∧ w.cell? ⟨B, 0, none⟩ = some (.map (some M)) ∧ SetS w M n (ks.map fun k => k.data.toList)
theorem BlI.below {w w' : World} {f : Value} {ks : List Nat} (h : BlI w f ks) (hb : Below w.heap.size w w') : BlI w' f ks := by
  obtain ⟨B, M, n, h1, h2, h3⟩ := h
  exact ⟨B, M, n, h1, Ext.below hb _ _ _ h2, h3.below hb⟩
theorem BlS.below {w w' : World} {f : Value} {ks : List ByteArray} (h : BlS w f ks) (hb : Below w.heap.size w w') : BlS w' f ks := by
  obtain ⟨B, M, n, h1, h2, h3⟩ := h
  exact ⟨B, M, n, h1, Ext.below hb _ _ _ h2, h3.below hb⟩
theorem fr_cell {M B : Nat} {w w' : World} {v : Value} (h : Fr M w w') (hb : B ≠ M) (hc : w.cell? ⟨B, 0, none⟩ = some v) : w'.cell? ⟨B, 0, none⟩ = some v := by
  have hlt := lt_of_cell hc
  have := h.block B hlt hb
  unfold World.cell? at hc ⊢
  rw [this]
  exact hc
set_option maxRecDepth 100000 in
set_option maxHeartbeats 4000000 in
theorem blockI_any (v : Value) (ks : List Nat) (w : World) (h : IsAt w v ks) (hl : ks.length ≤ 1048576) (hk : ∀ k ∈ ks, k ≤ 1048576) :
    Calls Tryz.prog 71 #[v] w fun e w' => ∃ f, e = .returned f ∧ BlI w' f ks ∧ Below w.heap.size w w' := by
  obtain ⟨a, cap, rfl⟩ := Sl.form h
  have HR := hid h
  have HK := hid hk
  have b1 := (Below.refl w.heap.size w).alloc (Nat.le_refl _) (.map #[] 0)
  have b2 : Below (w.alloc (.map #[] 0)).heap.size (w.alloc (.map #[] 0)) ((w.alloc (.map #[] 0)).alloc (.cells #[.map (some w.heap.size)] 185)) := (Below.refl _ _).alloc (Nat.le_refl _) _
  have HS : Hid (SetI ((w.alloc (.map #[] 0)).alloc (.cells #[.map (some w.heap.size)] 185)) w.heap.size 0 []) := (SetAt.made 3 klI w).below b2
  have HB := hid (b1.alloc b1.size (.cells #[.map (some w.heap.size)] 185))
  have hz : (w.alloc (.map #[] 0)).heap.size = w.heap.size + 1 := by simp
  have cB := cell_new (w.alloc (.map #[] 0)) #[.map (some w.heap.size)] 185 0
  rw [hz] at cB
  have HC : Hid (((w.alloc (.map #[] 0)).alloc (.cells #[.map (some w.heap.size)] 185)).cell? ⟨w.heap.size + 1, 0, none⟩ = some (.map (some w.heap.size))) := cB
  clear h hk b1 b2 hz cB
  go_enter Tryz.func71, Tryz.ntmps71
  go_wp2_with fail
  refine uponU_make ?_
  go_wp2_with fail
  generalize (w.alloc (.map #[] 0)).alloc (.cells #[.map (some w.heap.size)] 185) = w0 at *
  go_loopg [9] ks.length (fun g i wr => ∃ (j n : Nat), g = ks.length - j ∧ j ≤ ks.length ∧ i = .int .i64 (j : Int) ∧ n ≤ j ∧ SetI wr w.heap.size n ((ks.take j).map fun k : Nat => (k : Int)) ∧ Fr w.heap.size w0 wr)
  case atStart => exact ⟨0, 0, rfl, Nat.zero_le _, rfl, Nat.le_refl _, HS.out, Fr.refl _ _⟩
  case round =>
    obtain ⟨j, n, hg, hj, rfl, hnj, hs, hf⟩ := hrel
    rename World => wo
    have GK := hid hg
    have HSo := hid hs
    have HF := hid hf
    obtain ⟨es, cl, hmap⟩ := HS.out.map
    have X := hid (hf.ext hmap)
    have cB := fr_cell hf (by omega) HC.out
    clear hg hs hf hmap
    by_cases hlt : j < ks.length
    · obtain ⟨b, off, rfl, he⟩ := Sl.at (HR.out.ext ((Ext.below HB.out).trans X.out)) hlt
      have c0 : wo.cell? ⟨b, off + j, none⟩ = some (.int .i64 (ks[j] : Int)) := by
        have : wo.cell? ⟨b, off + j * 1 + 0, none⟩ = some (.int .i64 (ks[j] : Int)) := he
        simpa [-Go.CellFam.cellOfFamily] using this
      have HKj := hid (HK.out ks[j] (List.getElem_mem hlt))
      have HN : Hid ((ks.take (j + 1)).map (fun k : Nat => (k : Int)) = (ks.take j).map (fun k : Nat => (k : Int)) ++ [(ks[j] : Int)]) := by
        show _ = _
        rw [List.take_succ_eq_append_getElem hlt, List.map_append]; rfl
      have HJ := hid hlt
      clear he
      generalize ks[j] = kj at *
      go_wp2_with fail
      refine uponI_ins HSo.out (by unfold maxLen; omega) (by have := HKj.out; omega) fun w2 hs2 hg2 => ?_
      have HS2 : Hid (SetI w2 w.heap.size (n + 1) ((ks.take (j + 1)).map fun k : Nat => (k : Int))) := by
        show SetI _ _ _ _
        rw [HN.out]; exact hs2
      have HF2 := hid (HF.out.trans (Fr.grown hg2))
      clear hs2 hg2 cB c0
      go_wp2_with fail
      go_roundg (ks.length - (j + 1))
      case measure => have := GK.out; have := HJ.out; omega
      case rel => exact ⟨j + 1, n + 1, rfl, by have := HJ.out; omega, by go_num, by omega, HS2.out, HF2.out⟩
    · have HS2 : Hid (SetI wo w.heap.size n (ks.map fun k : Nat => (k : Int))) := by
        have := HSo.out
        rw [List.take_of_length_le (by omega)] at this
        exact this
      have HCo := hid cB
      go_wp2_with fail
      go_ret
      exact ⟨_, rfl, ⟨_, _, _, rfl, HCo.out, HS2.out⟩, Fr.under HB.out HF.out HB.out.size (Nat.le_refl _)⟩
theorem str_cell {w : World} {b off j : Nat} {x : ByteArray} (he : eB (fun i => w.cell? ⟨b, off + j * 1 + i, none⟩) x) : w.cell? ⟨b, off + j, none⟩ = some (.string x) := by
  have : w.cell? ⟨b, off + j * 1 + 0, none⟩ = some (.string x) := he
  simpa [-Go.CellFam.cellOfFamily] using this
theorem int_cell {w : World} {b off j : Nat} {x : Nat} (he : eI (fun i => w.cell? ⟨b, off + j * 1 + i, none⟩) x) : w.cell? ⟨b, off + j, none⟩ = some (.int .i64 (x : Int)) := by
  have : w.cell? ⟨b, off + j * 1 + 0, none⟩ = some (.int .i64 (x : Int)) := he
  simpa [-Go.CellFam.cellOfFamily] using this
set_option maxRecDepth 100000 in
set_option maxHeartbeats 4000000 in
theorem blockS_any (v : Value) (ks : List ByteArray) (w : World) (h : BsAt w v ks) (hl : ks.length ≤ 1048576) (hk : ∀ k ∈ ks, k.size ≤ 1048576) :
    Calls Tryz.prog 72 #[v] w fun e w' => ∃ f, e = .returned f ∧ BlS w' f ks ∧ Below w.heap.size w w' := by
  obtain ⟨a, cap, rfl⟩ := Sl.form h
  have HR := hid h
  have HK := hid hk
  have b1 := (Below.refl w.heap.size w).alloc (Nat.le_refl _) (.map #[] 0)
  have b2 : Below (w.alloc (.map #[] 0)).heap.size (w.alloc (.map #[] 0)) ((w.alloc (.map #[] 0)).alloc (.cells #[.map (some w.heap.size)] 188)) := (Below.refl _ _).alloc (Nat.le_refl _) _
  have HS : Hid (SetS ((w.alloc (.map #[] 0)).alloc (.cells #[.map (some w.heap.size)] 188)) w.heap.size 0 []) := (SetAt.made 9 klS w).below b2
  have HB := hid (b1.alloc b1.size (.cells #[.map (some w.heap.size)] 188))
  have hz : (w.alloc (.map #[] 0)).heap.size = w.heap.size + 1 := by simp
  have cB := cell_new (w.alloc (.map #[] 0)) #[.map (some w.heap.size)] 188 0
  rw [hz] at cB
  have HC : Hid (((w.alloc (.map #[] 0)).alloc (.cells #[.map (some w.heap.size)] 188)).cell? ⟨w.heap.size + 1, 0, none⟩ = some (.map (some w.heap.size))) := cB
  clear h hk b1 b2 hz cB
  go_enter Tryz.func72, Tryz.ntmps72
  go_wp2_with fail
  refine uponU_make ?_
  go_wp2_with fail
  generalize (w.alloc (.map #[] 0)).alloc (.cells #[.map (some w.heap.size)] 188) = w0 at *
  go_loopg [9] ks.length (fun g i wr => ∃ (j n : Nat), g = ks.length - j ∧ j ≤ ks.length ∧ i = .int .i64 (j : Int) ∧ n ≤ j ∧ SetS wr w.heap.size n ((ks.take j).map fun k => k.data.toList) ∧ Fr w.heap.size w0 wr)
  case atStart => exact ⟨0, 0, rfl, Nat.zero_le _, rfl, Nat.le_refl _, HS.out, Fr.refl _ _⟩
  case round =>
    obtain ⟨j, n, hg, hj, rfl, hnj, hs, hf⟩ := hrel
    rename World => wo
    have GK := hid hg
    have HSo := hid hs
    have HF := hid hf
    obtain ⟨es, cl, hmap⟩ := HS.out.map
    have X := hid (hf.ext hmap)
    have cB := fr_cell hf (by omega) HC.out
    clear hg hs hf hmap
    by_cases hlt : j < ks.length
    · obtain ⟨b, off, rfl, he⟩ := Sl.at (HR.out.ext ((Ext.below HB.out).trans X.out)) hlt
      have c0 := str_cell he
      have HKj := hid (HK.out ks[j] (List.getElem_mem hlt))
      have HN : Hid ((ks.take (j + 1)).map (fun k => k.data.toList) = (ks.take j).map (fun k => k.data.toList) ++ [ks[j].data.toList]) := by
        show _ = _
        rw [List.take_succ_eq_append_getElem hlt, List.map_append]; rfl
      have HJ := hid hlt
      clear he
      generalize ks[j] = kj at *
      go_wp2_with fail
      refine uponS_ins' HSo.out (by unfold maxLen; omega) (by have := HKj.out; unfold maxLen; omega) fun w2 hs2 hg2 => ?_
      have HS2 : Hid (SetS w2 w.heap.size (n + 1) ((ks.take (j + 1)).map fun k => k.data.toList)) := by
        show SetS _ _ _ _
        rw [HN.out]; exact hs2
      have HF2 := hid (HF.out.trans (Fr.grown hg2))
      clear hs2 hg2 cB c0
      go_wp2_with fail
      go_roundg (ks.length - (j + 1))
      case measure => have := GK.out; have := HJ.out; omega
      case rel => exact ⟨j + 1, n + 1, rfl, by have := HJ.out; omega, by go_num, by omega, HS2.out, HF2.out⟩
    · have HS2 : Hid (SetS wo w.heap.size n (ks.map fun k => k.data.toList)) := by
        have := HSo.out
        rw [List.take_of_length_le (by omega)] at this
        exact this
      have HCo := hid cB
      go_wp2_with fail
      go_ret
      exact ⟨_, rfl, ⟨_, _, _, rfl, HCo.out, HS2.out⟩, Fr.under HB.out HF.out HB.out.size (Nat.le_refl _)⟩
theorem any_map (l ks : List Nat) : (l.any fun k => memK (k : Int) (ks.map fun k : Nat => (k : Int))) = l.any fun k => ks.contains k := by
  congr 1
  funext k
  rw [Bool.eq_iff_iff, memK_iff]
  simp
  constructor
  · rintro ⟨a, ha, e⟩
    have : a = k := by omega
    rw [← this]; exact ha
  · intro h; exact ⟨k, h, rfl⟩
set_option maxRecDepth 100000 in
set_option maxHeartbeats 4000000 in
theorem indexI_any (v f : Value) (l ks : List Nat) (w : World) (h : IsAt w v l) (hl : l.length ≤ 1048576) (hk : ∀ k ∈ l, k ≤ 1048576) (hf : BlI w f ks) :
    Calls Tryz.prog 104 #[v, f] w fun e w' => ∃ r : Int, e = .returned (.int .i64 r) ∧ decide (0 ≤ r) = (l.any fun k => ks.contains k) ∧ Below w.heap.size w w' := by
  obtain ⟨a, cap, rfl⟩ := Sl.form h
  obtain ⟨B, M, n, rfl, hB, hM⟩ := hf
  rw [← any_map]
  have HR := hid h
  have HK := hid hk
  have HM := hid hM
  have HB := hid hB
  clear h hk hM hB
  generalize (ks.map fun k : Nat => (k : Int)) = qs at *
  go_enter Tryz.func104, Tryz.ntmps104
  go_wp2_with fail
  go_loopg [8] l.length (fun g i wr => ∃ j : Nat, g = l.length - j ∧ j ≤ l.length ∧ i = .int .i64 (j : Int) ∧ (l.any fun k => memK (k : Int) qs) = ((l.drop j).any fun k => memK (k : Int) qs) ∧ Below w.heap.size w wr)
  case atStart => exact ⟨0, rfl, Nat.zero_le _, rfl, rfl, Below.refl _ _⟩
  case round =>
    obtain ⟨j, hg, hj, rfl, ha, hb⟩ := hrel
    rename World => wo
    have GK := hid hg
    have HA := hid ha
    have HBo := hid hb
    clear hg ha hb
    by_cases hlt : j < l.length
    · obtain ⟨b, off, rfl, he⟩ := Sl.at (HR.out.ext (Ext.below HBo.out)) hlt
      have c0 := int_cell he
      have CL := hid (inI_any l[j] B M n qs wo (by have := HK.out l[j] (List.getElem_mem hlt); omega) (Ext.below HBo.out _ _ _ HB.out) (HM.out.below HBo.out))
      have HN : Hid ((l.any fun k => memK (k : Int) qs) = (memK (l[j] : Int) qs || ((l.drop (j + 1)).any fun k => memK (k : Int) qs))) := by
        show _ = _
        rw [HA.out, List.drop_eq_getElem_cons hlt]; rfl
      have HJ := hid hlt
      clear he
      generalize l[j] = kj at *
      cases hq : memK (kj : Int) qs
      · rw [hq] at CL HN
        go_wp2_with (go_at_call 102; refine CL.out.mono ?_; rintro e w2 ⟨rfl, hb2⟩; have B2 := hid (below_trans HBo.out hb2 (Nat.le_refl _)); clear hb2)
        go_roundg (l.length - (j + 1))
        case measure => have := GK.out; have := HJ.out; omega
        case rel => exact ⟨j + 1, rfl, by have := HJ.out; omega, by go_num, by rw [HN.out]; rfl, B2.out⟩
      · rw [hq] at CL HN
        go_wp2_with (go_at_call 102; refine CL.out.mono ?_; rintro e w2 ⟨rfl, hb2⟩; have B2 := hid (below_trans HBo.out hb2 (Nat.le_refl _)); clear hb2)
        go_ret
        exact ⟨_, rfl, by rw [HN.out]; simp, B2.out⟩
    · have HN : Hid ((l.any fun k => memK (k : Int) qs) = false) := by
        show _ = _
        rw [HA.out, List.drop_eq_nil_of_le (by omega)]; rfl
      go_wp2_with fail
      go_ret
      exact ⟨_, rfl, by rw [HN.out]; decide, HBo.out⟩
theorem any_mapS (l ks : List ByteArray) : (l.any fun k => memK k.data.toList (ks.map fun k => k.data.toList)) = (l.map fun k => k.data.toList).any fun k => (ks.map fun k => k.data.toList).contains k := by
  rw [List.any_map]
  congr 1
  funext k
  rw [Bool.eq_iff_iff, memK_iff]
  simp
set_option maxRecDepth 100000 in
set_option maxHeartbeats 4000000 in
theorem indexS_any (v f : Value) (l ks : List ByteArray) (w : World) (h : BsAt w v l) (hl : l.length ≤ 1048576) (hk : ∀ k ∈ l, k.size ≤ 1048576) (hf : BlS w f ks) :
    Calls Tryz.prog 105 #[v, f] w fun e w' => ∃ r : Int, e = .returned (.int .i64 r) ∧ decide (0 ≤ r) = ((l.map fun k => k.data.toList).any fun k => (ks.map fun k => k.data.toList).contains k) ∧ Below w.heap.size w w' := by
  obtain ⟨a, cap, rfl⟩ := Sl.form h
  obtain ⟨B, M, n, rfl, hB, hM⟩ := hf
  rw [← any_mapS]
  have HR := hid h
  have HK := hid hk
  have HM := hid hM
  have HB := hid hB
  clear h hk hM hB
  generalize (ks.map fun k => k.data.toList) = qs at *
  go_enter Tryz.func105, Tryz.ntmps105
  go_wp2_with fail
  go_loopg [8] l.length (fun g i wr => ∃ j : Nat, g = l.length - j ∧ j ≤ l.length ∧ i = .int .i64 (j : Int) ∧ (l.any fun k => memK k.data.toList qs) = ((l.drop j).any fun k => memK k.data.toList qs) ∧ Below w.heap.size w wr)
  case atStart => exact ⟨0, rfl, Nat.zero_le _, rfl, rfl, Below.refl _ _⟩
  case round =>
    obtain ⟨j, hg, hj, rfl, ha, hb⟩ := hrel
    rename World => wo
    have GK := hid hg
    have HA := hid ha
    have HBo := hid hb
    clear hg ha hb
    by_cases hlt : j < l.length
    · obtain ⟨b, off, rfl, he⟩ := Sl.at (HR.out.ext (Ext.below HBo.out)) hlt
      have c0 := str_cell he
      have CL := hid (inS_any l[j] B M n qs wo (by have := HK.out l[j] (List.getElem_mem hlt); unfold maxLen; omega) (Ext.below HBo.out _ _ _ HB.out) (HM.out.below HBo.out))
      have HN : Hid ((l.any fun k => memK k.data.toList qs) = (memK l[j].data.toList qs || ((l.drop (j + 1)).any fun k => memK k.data.toList qs))) := by
        show _ = _
        rw [HA.out, List.drop_eq_getElem_cons hlt]; rfl
      have HJ := hid hlt
      clear he
      generalize l[j] = kj at *
      cases hq : memK kj.data.toList qs
      · rw [hq] at CL HN
        go_wp2_with (go_at_call 103; refine CL.out.mono ?_; rintro e w2 ⟨rfl, hb2⟩; have B2 := hid (below_trans HBo.out hb2 (Nat.le_refl _)); clear hb2)
        go_roundg (l.length - (j + 1))
        case measure => have := GK.out; have := HJ.out; omega
        case rel => exact ⟨j + 1, rfl, by have := HJ.out; omega, by go_num, by rw [HN.out]; rfl, B2.out⟩
      · rw [hq] at CL HN
        go_wp2_with (go_at_call 103; refine CL.out.mono ?_; rintro e w2 ⟨rfl, hb2⟩; have B2 := hid (below_trans HBo.out hb2 (Nat.le_refl _)); clear hb2)
        go_ret
        exact ⟨_, rfl, by rw [HN.out]; simp, B2.out⟩
    · have HN : Hid ((l.any fun k => memK k.data.toList qs) = false) := by
        show _ = _
        rw [HA.out, List.drop_eq_nil_of_le (by omega)]; rfl
      go_wp2_with fail
      go_ret
      exact ⟨_, rfl, by rw [HN.out]; decide, HBo.out⟩
end Go.Proofs.YtblkldfokeeaeacGreatDoor
namespace Go.Proofs.YtblkldfokeeaeacGreatDoor
open Go.RowKit Go.Maps
def meantB (l : List Nd) (r : Ru) : List Nat := (List.range l.length).filter fun k => meansR l k r
def meantTo (l : List Nd) (r : Ru) (j : Nat) : List Nat := (List.range j).filter fun k => meansR l k r
theorem meantTo_next (l : List Nd) (r : Ru) (j : Nat) : meantTo l r (j + 1) = meantTo l r j ++ (if meansR l j r then [j] else []) := by
  unfold meantTo
  rw [List.range_succ, List.filter_append]
  congr 1
  cases h : meansR l j r <;> simp [h]
theorem meantTo_len (l : List Nd) (r : Ru) (j : Nat) : (meantTo l r j).length ≤ j := by
  unfold meantTo
  have := List.length_filter_le (fun k => meansR l k r) (List.range j)
  simpa using this
theorem meantB_lt {l : List Nd} {r : Ru} : ∀ k ∈ meantB l r, k < l.length := fun _ hk => List.mem_range.1 (List.mem_filter.1 hk).1
theorem src_int (w : World) (k : Nat) : Src (w.alloc (.cells #[.int .i64 (k : Int)] 3)) (.slice (some ⟨w.heap.size, 0, none⟩) 1 1) 1 [encI k] := by
  refine .inr ⟨⟨w.heap.size, 0, none⟩, 1, rfl, fun j e he => ?_⟩
  rw [addr_add, Nat.zero_add, cell_new]
  match j with
  | 0 => simpa [encI] using he
  | j + 1 => simp at he
set_option maxRecDepth 100000 in
set_option maxHeartbeats 4000000 in
theorem meant_any (lv : Value) (l : List Nd) (r : Ru) (sa da : Option Addr) (sn sc dn dc : Nat) (w : World) (hl : NdsAt w lv l) (hs : SmNs l) (hT : Tab w) (hS : SsAt w (.slice sa sn sc) r.sels) (hss : SmSs r.sels) :
    Calls Tryz.prog 69 #[lv, .agg #[.string r.media, .slice sa sn sc, .slice da dn dc, .int .i64 r.rf, .int .i64 r.rt]] w fun e w' => ∃ v, e = .returned v ∧ w'.ownsRow w.heap.size 3 1 v (meantB l r).length ((meantB l r).map encI) ∧ Below w.heap.size w w' := by
  obtain ⟨la, lc, rfl⟩ := Sl.form hl
  obtain ⟨md, ss, dd, rf, rt⟩ := r
  have HMe : Hid (∀ k : Nat, meansR l k ⟨md, ss, dd, rf, rt⟩ = (bestTo l k ss (w00, false)).2) := fun k => rfl
  have HM0 : Hid (meantB l ⟨md, ss, dd, rf, rt⟩ = meantTo l ⟨md, ss, dd, rf, rt⟩ l.length) := rfl
  have HNx := hid (meantTo_next l ⟨md, ss, dd, rf, rt⟩)
  have HLn := hid (meantTo_len l ⟨md, ss, dd, rf, rt⟩)
  have b1 := (Below.refl w.heap.size w).alloc (Nat.le_refl _) (.cells #[.string md, .slice sa sn sc, .slice da dn dc, .int .i64 rf, .int .i64 rt] 38)
  have HB1 := hid b1
  have HL := hid (hl.ext (Ext.below b1))
  have HS := hid (hS.ext (Ext.below b1))
  have HT := hid (hT.ext (Ext.below b1))
  have HN := hid hs
  have HSS := hid hss
  have hll := hs.1
  unfold lim at hll
  have HC : Hid (∀ j v, #[Value.string md, .slice sa sn sc, .slice da dn dc, .int .i64 rf, .int .i64 rt][j]? = some v → (w.alloc (.cells #[.string md, .slice sa sn sc, .slice da dn dc, .int .i64 rf, .int .i64 rt] 38)).cell? ⟨w.heap.size, j, none⟩ = some v) := fun j v hv => (cell_new w _ _ j).trans hv
  clear hl hs hT hS hss b1
  have HNy : Hid (∀ j : Nat, meantTo l ⟨md, ss, dd, rf, rt⟩ (j + 1) = meantTo l ⟨md, ss, dd, rf, rt⟩ j ++ (if (bestTo l j ss (w00, false)).2 then [j] else [])) := HNx.out
  clear HNx HMe
  generalize meantB l ⟨md, ss, dd, rf, rt⟩ = ML at *
  generalize meantTo l ⟨md, ss, dd, rf, rt⟩ = mt at *
  have H0 : Hid ((mt 0).length = 0) := by have := HLn.out 0; show _ = _; omega
  go_enter Tryz.func69, Tryz.ntmps69
  go_wp2_with fail
  generalize w.alloc (.cells #[.string md, .slice sa sn sc, .slice da dn dc, .int .i64 rf, .int .i64 rt] 38) = w1 at *
  go_loopg [5, 11] l.length (fun g v i wr => ∃ j : Nat, g = l.length - j ∧ j ≤ l.length ∧ i = .int .i64 (j : Int) ∧ wr.ownsRow w1.heap.size 3 1 v (mt j).length ((mt j).map encI) ∧ Below w1.heap.size w1 wr)
  case atStart => exact ⟨0, rfl, Nat.zero_le _, rfl, by rw [List.length_eq_zero_iff.1 H0.out]; exact World.ownsRow_nil _ _ _ _, Below.refl _ _⟩
  case round =>
    obtain ⟨j, hg, hj, rfl, hO, hB⟩ := hrel
    rename World => wo
    have GK := hid hg
    have HO := hid hO
    have HBo := hid hB
    obtain ⟨va, vc, rfl⟩ := own_form hO
    clear hg hO hB
    by_cases hlt : j < l.length
    · have x := Ext.below HBo.out
      have c0 := x _ _ _ (HC.out 0 _ rfl)
      have c1 := x _ _ _ (HC.out 1 _ rfl)
      have c2 := x _ _ _ (HC.out 2 _ rfl)
      have c3 := x _ _ _ (HC.out 3 _ rfl)
      have c4 := x _ _ _ (HC.out 4 _ rfl)
      have BA := hid (best_any _ l j md ss _ da dn dc rf rt wo (HL.out.ext x) HN.out (HT.out.mx.imp fun _ h => x _ _ _ h) (HS.out.ext x) HSS.out)
      have HNj := hid (HNy.out j)
      have HJ := hid hlt
      have hml := HLn.out j
      clear x
      simp only [ruleV, bestV, wtV] at BA
      generalize bestTo l j ss (w00, false) = bb at *
      obtain ⟨⟨xa, xb, xc⟩, fd⟩ := bb
      simp only at BA HNj
      generalize mt j = mj at *
      cases fd
      · go_wp2_with (go_at_call 97; refine BA.out.mono ?_; rintro e w2 ⟨rfl, hb2⟩; have B2 := hid (below_trans HBo.out hb2 (Nat.le_refl _)); have O2 := hid (own_ext HO.out hb2); clear hb2)
        have b3 := B2.out.alloc B2.out.size (.cells #[.int .i64 xa, .int .i64 xb, .int .i64 xc] 86)
        have o3 := O2.out.alloc (.cells #[.int .i64 xa, .int .i64 xb, .int .i64 xc] 86)
        have B3 := hid b3
        have O3 := hid o3
        clear b3 o3
        go_roundg (l.length - (j + 1))
        case measure => have := GK.out; have := HJ.out; omega
        case rel => exact ⟨j + 1, rfl, by have := HJ.out; omega, by go_num, by rw [HNj.out]; simpa using O3.out, B3.out⟩
      · go_wp2_with (first
          | (go_at_call 97; refine BA.out.mono ?_; rintro e w2 ⟨rfl, hb2⟩; have B2 := hid (below_trans HBo.out hb2 (Nat.le_refl _)); have O2 := hid (own_ext HO.out hb2); have B3 := hid ((B2.out.alloc B2.out.size (.cells #[.int .i64 xa, .int .i64 xb, .int .i64 xc] 86))); have O3 := hid (O2.out.alloc (.cells #[.int .i64 xa, .int .i64 xb, .int .i64 xc] 86)); have B4 := hid (B3.out.alloc B3.out.size (.cells #[.int .i64 (j : Int)] 3)); have O4 := hid (O3.out.alloc (.cells #[.int .i64 (j : Int)] 3)); have S4 := hid (src_int (w2.alloc (.cells #[.int .i64 xa, .int .i64 xb, .int .i64 xc] 86)) j); have hz : (w2.alloc (.cells #[.int .i64 xa, .int .i64 xb, .int .i64 xc] 86)).heap.size = w2.heap.size + 1 := (by simp); rw [hz] at S4; clear hb2 hz)
          | (at_builtin; refine wpList_app rfl (.tmp 22) (.tmp 24) 65 rfl w1.heap.size 3 _ 1 8 Tryz.underlying65 Tryz.infoI rfl (by decide) (.slice va mj.length vc) mj.length (mj.map encI) rfl O4.out _ 1 [encI j] rfl S4.out rfl (by simp [encI, Value.oneCell']) (by unfold maxLen; omega) (by omega) B4.out.size ?_; intro v5 w5 hv5 hg5; have B5 := hid (B4.out.grown hg5 B4.out.size (fun i hi => (O4.out.lt i hi).1)); have O5 := hid hv5; clear hv5 hg5))
        go_roundg (l.length - (j + 1))
        case measure => have := GK.out; have := HJ.out; omega
        case rel => exact ⟨j + 1, rfl, by have := HJ.out; omega, by go_num, by rw [HNj.out]; simpa using O5.out, B5.out⟩
    · have hjl : j = l.length := by omega
      subst hjl
      have HE : Hid (wo.ownsRow w.heap.size 3 1 (.slice va (mt l.length).length vc) ML.length (ML.map encI)) := by
        rw [HM0.out]; exact Sh.own_lower HO.out HB1.out.size
      go_wp2_with fail
      go_ret
      exact ⟨.slice va (mt l.length).length vc, rfl, HE.out, HB1.out.trans (HBo.out.mono HB1.out.size)⟩
def namesA (r : Ru) : List ByteArray := ((allB r.decls).getD []).map (·.name)
theorem names_eq (r : Ru) : (namesA r).map (fun k => k.data.toList) = namesB r := by
  unfold namesA namesB
  rw [List.map_map]
  rfl
theorem src_str (w : World) (x : ByteArray) : Src (w.alloc (.cells #[.string x] 9)) (.slice (some ⟨w.heap.size, 0, none⟩) 1 1) 1 (encB x) := by
  refine .inr ⟨⟨w.heap.size, 0, none⟩, 1, rfl, fun j e he => ?_⟩
  rw [addr_add, Nat.zero_add, cell_new]
  match j with
  | 0 => simpa [encB] using he
  | j + 1 => simp [encB] at he
theorem all_few {l A : List Dc} (h : allB l = some A) (hl : l.length ≤ 1048576) : A.length ≤ 4194304 := by have := allB_len h; omega
set_option maxRecDepth 100000 in
set_option maxHeartbeats 4000000 in
theorem declaredR_any (r : Ru) (sa da : Option Addr) (sn sc dn dc : Nat) (w : World) (hT : Tab w) (hD : DsAt w (.slice da dn dc) r.decls) (hds : SmDs r.decls) (hsome : ∃ A, allB r.decls = some A) :
    Calls Tryz.prog 70 #[.agg #[.string r.media, .slice sa sn sc, .slice da dn dc, .int .i64 r.rf, .int .i64 r.rt]] w fun e w' => ∃ v, e = .returned v ∧ w'.ownsRow w.heap.size 9 1 v (namesA r).length ((namesA r).flatMap encB) ∧ Below w.heap.size w w' := by
  obtain ⟨md, ss, dd, rf, rt⟩ := r
  obtain ⟨A, hA⟩ := hsome
  have HNm : Hid (namesA ⟨md, ss, dd, rf, rt⟩ = A.map (·.name)) := by
    show namesA _ = _
    unfold namesA
    show ((allB dd).getD []).map _ = _
    rw [show allB dd = some A from hA]; rfl
  have b1 := (Below.refl w.heap.size w).alloc (Nat.le_refl _) (.cells #[.string md, .slice sa sn sc, .slice da dn dc, .int .i64 rf, .int .i64 rt] 38)
  have AA := all_any (.slice da dn dc) dd _ (hD.ext (Ext.below b1)) hds (hT.ext (Ext.below b1))
  rw [show allB dd = some A from hA] at AA
  simp only [Ans] at AA
  have HAA := hid AA
  have HB1 := hid b1
  have hAl := all_few hA (by have := hds.1; unfold lim at this; exact this)
  clear hD hds hT b1 AA hA
  rw [HNm.out]
  go_enter Tryz.func70, Tryz.ntmps70
  go_wp2_with (go_at_call 62; refine HAA.out.mono ?_; rintro e w2 ⟨⟨xa, xc, rfl, hd⟩, hb2⟩; have HD := hid hd; have B2 := hid (below_trans HB1.out hb2 (Nat.le_refl _)); clear hd hb2)
  go_loopg [3, 16] A.length (fun g v i wr => ∃ j : Nat, g = A.length - j ∧ j ≤ A.length ∧ i = .int .i64 (j : Int) ∧ wr.ownsRow w2.heap.size 9 1 v j (((A.take j).map (·.name)).flatMap encB) ∧ Below w2.heap.size w2 wr)
  case atStart => exact ⟨0, rfl, Nat.zero_le _, rfl, World.ownsRow_nil _ _ _ _, Below.refl _ _⟩
  case round =>
    obtain ⟨j, hg, hj, rfl, hO, hB⟩ := hrel
    rename World => wo
    have GK := hid hg
    have HO := hid hO
    have HBo := hid hB
    obtain ⟨va, vc, rfl⟩ := own_form hO
    clear hg hO hB
    by_cases hlt : j < A.length
    · obtain ⟨b, off, rfl, he⟩ := Sl.at (HD.out.ext (Ext.below HBo.out)) hlt
      obtain ⟨c0, c1, c2⟩ := he.cells
      have HN : Hid (((A.take (j + 1)).map (·.name)).flatMap encB = ((A.take j).map (·.name)).flatMap encB ++ encB A[j].name) := by
        show _ = _
        rw [List.take_succ_eq_append_getElem hlt, List.map_append, List.flatMap_append]; rfl
      have HJ := hid hlt
      clear he
      generalize A[j] = d at *
      obtain ⟨nm, vl, st⟩ := d
      simp only at c0 c1 c2 HN
      have B3 := hid (HBo.out.alloc HBo.out.size (.cells #[.string nm, .string vl, .bool st] 40))
      have O3 := hid (HO.out.alloc (.cells #[.string nm, .string vl, .bool st] 40))
      have B4 := hid (B3.out.alloc B3.out.size (.cells #[.string nm] 9))
      have O4 := hid (O3.out.alloc (.cells #[.string nm] 9))
      have S4 := hid (src_str (wo.alloc (.cells #[.string nm, .string vl, .bool st] 40)) nm)
      rw [show (wo.alloc (.cells #[.string nm, .string vl, .bool st] 40)).heap.size = wo.heap.size + 1 by simp] at S4
      go_wp2_with (at_builtin; refine wpList_app rfl (.tmp 20) (.tmp 23) 32 rfl w2.heap.size 9 _ 1 16 Tryz.underlying32 Tryz.infoS rfl (by decide) (.slice va j vc) j _ rfl O4.out _ 1 (encB nm) rfl S4.out rfl (by simp [encB, Value.oneCell']) (by unfold maxLen; omega) (by omega) B4.out.size ?_; intro v5 w5 hv5 hg5; have B5 := hid (B4.out.grown hg5 B4.out.size (fun i hi => (O4.out.lt i hi).1)); have O5 := hid hv5; clear hv5 hg5)
      go_roundg (A.length - (j + 1))
      case measure => have := GK.out; have := HJ.out; omega
      case rel => exact ⟨j + 1, rfl, by have := HJ.out; omega, by go_num, by rw [HN.out]; exact O5.out, B5.out⟩
    · have hjl : j = A.length := by omega
      subst hjl
      have HE : Hid (wo.ownsRow w.heap.size 9 1 (.slice va A.length vc) A.length ((A.map (·.name)).flatMap encB)) := by
        have := HO.out
        rw [List.take_length] at this
        exact Sh.own_lower this B2.out.size
      go_wp2_with fail
      go_ret
      exact ⟨.slice va A.length vc, rfl, by rw [List.length_map]; exact HE.out, B2.out.trans (HBo.out.mono B2.out.size)⟩
end Go.Proofs.YtblkldfokeeaeacGreatDoor
namespace Go.Proofs.YtblkldfokeeaeacGreatDoor
open Go.RowKit Go.Maps
def Mt (w : World) (f : Value) (es : List Nat) (ns : List ByteArray) : Prop := ∃ P Q fi fs, f = .func (.func 73) #[] #[.pointer (some ⟨P, 0, none⟩), .pointer (some ⟨Q, 0, none⟩)] ∧ w.cell? ⟨P, 0, none⟩ = some fi ∧ w.cell? ⟨Q, 0, none⟩ = some fs ∧ BlI w fi es ∧ BlS w fs ns
theorem Mt.below {w w' : World} {f : Value} {es : List Nat} {ns : List ByteArray} (h : Mt w f es ns) (hb : Below w.heap.size w w') : Mt w' f es ns := by
  obtain ⟨P, Q, fi, fs, h1, h2, h3, h4, h5⟩ := h
  exact ⟨P, Q, fi, fs, h1, Ext.below hb _ _ _ h2, Ext.below hb _ _ _ h3, h4.below hb, h5.below hb⟩
theorem below_al {a w : World} {o : Obj} (h : Below a.heap.size a w) : Below a.heap.size a (w.alloc o) := h.alloc h.size _
theorem below_dr {a w : World} (h : Below a.heap.size a w) : Below a.heap.size a w.drew := h.drew
theorem below_st {a w : World} {P : Nat} {v : Value} (h : Below a.heap.size a w) (hP : a.heap.size ≤ P) : Below a.heap.size a (w.setCell ⟨P, 0, none⟩ v) := h.setCell (by simpa using hP) v
structure NC (w : World) (P : Nat) : Prop where
  cell : w.cell? ⟨P, 0, none⟩ = some .nilFunc
  fz : w.frozen? ⟨P, 0, none⟩ = false
theorem NC.below {w w' : World} {P : Nat} (h : NC w P) (hb : Below w.heap.size w w') : NC w' P := by
  have hlt := lt_of_cell h.cell
  have e := hb.block P hlt
  exact ⟨Ext.below hb _ _ _ h.cell, (World.frozen?_of_block (a := ⟨P, 0, none⟩) e).trans h.fz⟩
theorem NC.new (X : World) (T : TypeId) : NC (X.alloc (.cells #[.nilFunc] T)) X.heap.size := ⟨Sh.cell_of (heap_alloc_new X _) 0, Sh.fz_of (heap_alloc_new X (.cells #[.nilFunc] T)) 0⟩
theorem NC.new' {X : World} {T : TypeId} {P : Nat} (h : X.heap.size = P) : NC (X.alloc (.cells #[.nilFunc] T)) P := h ▸ NC.new X T
theorem NC.al {X : World} {o : Obj} {P : Nat} (h : NC X P) : NC (X.alloc o) P := h.below (below_al (Below.refl _ _))
theorem NC.dr {X : World} {P : Nat} (h : NC X P) : NC X.drew P := h.below (Below.refl _ _).drew
theorem have_of {p q : Prop} (h : p) (k : p → q) : q := k h
theorem NC.map {w : World} {P M : Nat} {es : Array MapEntry} {c : Nat} (h : NC w P) (hm : w.heap[M]? = some (.map es c)) : M ≠ P := fun e => by
  have := h.cell
  subst e
  unfold World.cell? at this
  rw [hm] at this
  cases this
theorem SetAt.set {κ : Type} [DecidableEq κ] {kt : TypeId} {kl : κ → Lit} {w : World} {M n P : Nat} {ks : List κ} (h : SetAt kt kl w M n ks) (hP : NC w P) (v : Value) : SetAt kt kl (w.setCell ⟨P, 0, none⟩ v) M n ks := by
  obtain ⟨es, c, hm⟩ := h.map
  have := hP.map hm
  exact h.kept (Below.heap_setCell _ _ _ _ (by simpa using this))
theorem BlI.set {w : World} {f : Value} {ks : List Nat} {P : Nat} (h : BlI w f ks) (hP : NC w P) (v : Value) : BlI (w.setCell ⟨P, 0, none⟩ v) f ks := by
  obtain ⟨B, M, n, h1, h2, h3⟩ := h
  have hne : B ≠ P := fun e => by subst e; rw [hP.cell] at h2; cases h2
  refine ⟨B, M, n, h1, ?_, h3.set hP v⟩
  rw [World.cell?_setCell_far _ _ _ _ (by simpa using fun e => hne e.symm)]
  exact h2
theorem BlS.set {w : World} {f : Value} {ks : List ByteArray} {P : Nat} (h : BlS w f ks) (hP : NC w P) (v : Value) : BlS (w.setCell ⟨P, 0, none⟩ v) f ks := by
  obtain ⟨B, M, n, h1, h2, h3⟩ := h
  have hne : B ≠ P := fun e => by subst e; rw [hP.cell] at h2; cases h2
  refine ⟨B, M, n, h1, ?_, h3.set hP v⟩
  rw [World.cell?_setCell_far _ _ _ _ (by simpa using fun e => hne e.symm)]
  exact h2
theorem BlI.al {w : World} {f : Value} {ks : List Nat} {o : Obj} (h : BlI w f ks) : BlI (w.alloc o) f ks := h.below (below_al (Below.refl _ _))
theorem BlS.al {w : World} {f : Value} {ks : List ByteArray} {o : Obj} (h : BlS w f ks) : BlS (w.alloc o) f ks := h.below (below_al (Below.refl _ _))
theorem NC.st {w : World} {P Q : Nat} {v : Value} (h : NC w P) (hne : Q ≠ P) : NC (w.setCell ⟨Q, 0, none⟩ v) P := ⟨(World.cell?_setCell_far _ _ _ _ (by simpa using hne)).trans h.cell, by simpa using h.fz⟩
theorem cA {X : World} {T : TypeId} {P : Nat} {v : Value} (h : X.heap.size = P) : (X.alloc (.cells #[v] T)).cell? ⟨P, 0, none⟩ = some v := h ▸ cell_new X _ _ 0
theorem cB {X : World} {o : Obj} {P : Nat} {v : Value} (h : X.cell? ⟨P, 0, none⟩ = some v) : (X.alloc o).cell? ⟨P, 0, none⟩ = some v := Ext.below (below_al (Below.refl _ _)) _ _ _ h
theorem cC {X : World} {P : Nat} {v : Value} (h : NC X P) : (X.setCell ⟨P, 0, none⟩ v).cell? ⟨P, 0, none⟩ = some v := World.cell?_setCell_same _ _ _ h.cell
theorem cD {X : World} {P Q : Nat} {v u : Value} (hne : Q ≠ P) (h : X.cell? ⟨P, 0, none⟩ = some v) : (X.setCell ⟨Q, 0, none⟩ u).cell? ⟨P, 0, none⟩ = some v := (World.cell?_setCell_far _ _ _ _ (by simpa using hne)).trans h
set_option maxRecDepth 100000 in
set_option maxHeartbeats 16000000 in
theorem meeting_any (ea na : Option Addr) (en ec nn nc : Nat) (es : List Nat) (ns : List ByteArray) (w : World) (hE : IsAt w (.slice ea en ec) es) (hN : BsAt w (.slice na nn nc) ns) (hel : es.length ≤ 1048576) (hek : ∀ k ∈ es, k ≤ 1048576) (hnl : ns.length ≤ 1048576) (hnk : ∀ k ∈ ns, k.size ≤ 1048576) :
    Calls Tryz.prog 42 #[.agg #[.slice ea en ec, .slice na nn nc]] w fun e w' => ∃ f, e = .returned f ∧ Mt w' f es ns ∧ Below w.heap.size w w' := by
  have b1 := (Below.refl w.heap.size w).alloc (Nat.le_refl _) (.cells #[.slice ea en ec, .slice na nn nc] 96)
  have HE := hid (hE.ext (Ext.below b1))
  have HN := hid (hN.ext (Ext.below b1))
  have HEk := hid hek
  have HNk := hid hnk
  have HB := hid b1
  have c0 : (w.alloc (.cells #[.slice ea en ec, .slice na nn nc] 96)).cell? ⟨w.heap.size, 0, none⟩ = some (.slice ea en ec) := cell_new w _ _ 0
  have c1 : (w.alloc (.cells #[.slice ea en ec, .slice na nn nc] 96)).cell? ⟨w.heap.size, 1, none⟩ = some (.slice na nn nc) := cell_new w _ _ 1
  clear hE hN hek hnk b1
  go_enter Tryz.func42, Tryz.ntmps42
  go_wp2_with fail
  generalize w.alloc (.cells #[.slice ea en ec, .slice na nn nc] 96) = w1 at *
  have C := hid (And.intro c0 c1)
  have MS : ∀ {w' : World}, Below w1.heap.size w1 w' → w'.cell? ⟨w.heap.size, 0, none⟩ = some (.slice ea en ec) ∧ w'.cell? ⟨w.heap.size, 1, none⟩ = some (.slice na nn nc) := fun h => ⟨Ext.below h _ _ _ C.out.1, Ext.below h _ _ _ C.out.2⟩
  have HD : Hid (Below w1.heap.size w1 w1.drew) := (Below.refl _ _).drew
  go_region_held3 (fun w' => w'.cell? ⟨w.heap.size, 0, none⟩ = some (.slice ea en ec) ∧ w'.cell? ⟨w.heap.size, 1, none⟩ = some (.slice na nn nc)) (first | assumption | exact ⟨c0, c1⟩ | (with_reducible refine MS ?_; repeat' (with_reducible first | refine below_al ?_ | refine below_dr ?_ | exact Below.refl _ _ | refine below_st ?_ ?_ | exact HBs.out | exact HBi.out | exact HD.out | exact Nat.le_refl _ | exact hzs | exact hzi | exact Nat.le_succ_of_le hzs | exact Nat.le_succ_of_le hzi | exact Nat.le_succ_of_le (Nat.le_refl _)))) (first
    | (go_at_call 71; refine (blockI_any _ es _ (HE.out.ext (Ext.below (by repeat' (with_reducible first | refine below_al ?_ | refine below_dr ?_ | exact Below.refl _ _ | exact HBs.out | exact HD.out)))) hel HEk.out).mono ?_; rintro e wi ⟨fi, rfl, hfi, hbi⟩; have HBi : Hid (Below w1.heap.size w1 wi) := below_trans (by repeat' (with_reducible first | refine below_al ?_ | refine below_dr ?_ | exact Below.refl _ _ | exact HBs.out | exact HD.out)) hbi (Nat.le_refl _); have hzi := HBi.out.size; have HFi := hid hfi; have hSi := MS HBi.out; (first | (refine have_of (NC.below ?_ hbi) (fun (nia : NC wi w1.heap.size) => ?_); (· ((repeat' (with_reducible first | exact NC.new' rfl | (refine NC.new' ?_; simp; done) | refine NC.al ?_ | refine NC.dr ?_)); done)); refine have_of (NC.below ?_ hbi) (fun (nib : NC wi (w1.heap.size + 1)) => ?_); (· ((repeat' (with_reducible first | exact NC.new' rfl | (refine NC.new' ?_; simp; done) | refine NC.al ?_ | refine NC.dr ?_)); done)); have ni0 := nia.cell; have ni1 := nia.fz; have ni2 := nib.cell; have ni3 := nib.fz; have ni4 := lt_of_cell ni0; have ni5 := lt_of_cell ni2) | (refine have_of (NC.below ?_ hbi) (fun (nia : NC wi w1.heap.size) => ?_); (· ((repeat' (with_reducible first | exact NC.new' rfl | (refine NC.new' ?_; simp; done) | refine NC.al ?_ | refine NC.dr ?_)); done)); have ni0 := nia.cell; have ni1 := nia.fz; have ni4 := lt_of_cell ni0) | skip); clear hbi; obtain ⟨Bi, Mi, ni, rfl, _, _⟩ := hfi)
    | (go_at_call 72; refine (blockS_any _ ns _ (HN.out.ext (Ext.below (by repeat' (with_reducible first | refine below_al ?_ | refine below_dr ?_ | exact Below.refl _ _ | exact HBi.out | exact HD.out)))) hnl HNk.out).mono ?_; rintro e ws ⟨fs, rfl, hfs, hbs⟩; have HBs : Hid (Below w1.heap.size w1 ws) := below_trans (by repeat' (with_reducible first | refine below_al ?_ | refine below_dr ?_ | exact Below.refl _ _ | exact HBi.out | exact HD.out)) hbs (Nat.le_refl _); have HLs : Hid (Below wi.heap.size wi ws) := below_trans (by repeat' (with_reducible first | refine below_al ?_ | refine below_dr ?_ | exact Below.refl _ _ | exact Below.refl _ _)) hbs (Nat.le_refl _); have hzs := HBs.out.size; have hzt := HLs.out.size; have HFs := hid hfs; have hSs := MS HBs.out; (first | (refine have_of (NC.below ?_ hbs) (fun (nsa : NC ws wi.heap.size) => ?_); (· ((repeat' (with_reducible first | exact NC.new' rfl | (refine NC.new' ?_; simp; done) | refine NC.al ?_ | refine NC.dr ?_)); done)); refine have_of (NC.below ?_ hbs) (fun (nsb : NC ws (wi.heap.size + 1)) => ?_); (· ((repeat' (with_reducible first | exact NC.new' rfl | (refine NC.new' ?_; simp; done) | refine NC.al ?_ | refine NC.dr ?_)); done)); have ns0 := nsa.cell; have ns1 := nsa.fz; have ns2 := nsb.cell; have ns3 := nsb.fz; have ns4 := lt_of_cell ns0; have ns5 := lt_of_cell ns2) | (refine have_of (NC.below ?_ hbs) (fun (nsa : NC ws wi.heap.size) => ?_); (· ((repeat' (with_reducible first | exact NC.new' rfl | (refine NC.new' ?_; simp; done) | refine NC.al ?_ | refine NC.dr ?_)); done)); have ns0 := nsa.cell; have ns1 := nsa.fz; have ns4 := lt_of_cell ns0) | skip); (first | (have mi0 := (nia.below HLs.out).cell; have mi1 := (nia.below HLs.out).fz; have mi4 := lt_of_cell mi0; (first | (have mi2 := (nib.below HLs.out).cell; have mi3 := (nib.below HLs.out).fz; have mi5 := lt_of_cell mi2) | skip)) | skip); clear hbs; obtain ⟨Bs, Ms, ns', rfl, _, _⟩ := hfs))
  all_goals
    go_wp2_with fail
    go_ret
    refine ⟨_, rfl, ⟨_, _, .func (.func 102) #[] #[.pointer (some ⟨Bi, 0, none⟩)], .func (.func 103) #[] #[.pointer (some ⟨Bs, 0, none⟩)], rfl, ?_, ?_, ?_, ?_⟩, ?_⟩
    case refine_1 => repeat' (with_reducible first | exact (HFs).out | exact BlI.below (HFi).out (HLs).out | refine BlI.al ?_ | refine BlS.al ?_ | refine BlI.set ?_ ?_ _ | refine BlS.set ?_ ?_ _ | (refine NC.mk ?_ ?_ <;> assumption) | refine NC.al ?_ | refine NC.st ?_ ?_ | exact cA rfl | (refine cA ?_; simp; done) | refine cB ?_ | refine cC ?_ | refine cD ?_ ?_ | omega)
    case refine_2 => repeat' (with_reducible first | exact (HFs).out | exact BlI.below (HFi).out (HLs).out | refine BlI.al ?_ | refine BlS.al ?_ | refine BlI.set ?_ ?_ _ | refine BlS.set ?_ ?_ _ | (refine NC.mk ?_ ?_ <;> assumption) | refine NC.al ?_ | refine NC.st ?_ ?_ | exact cA rfl | (refine cA ?_; simp; done) | refine cB ?_ | refine cC ?_ | refine cD ?_ ?_ | omega)
    case refine_3 => repeat' (with_reducible first | exact (HFs).out | exact BlI.below (HFi).out (HLs).out | refine BlI.al ?_ | refine BlS.al ?_ | refine BlI.set ?_ ?_ _ | refine BlS.set ?_ ?_ _ | (refine NC.mk ?_ ?_ <;> assumption) | refine NC.al ?_ | refine NC.st ?_ ?_ | exact cA rfl | (refine cA ?_; simp; done) | refine cB ?_ | refine cC ?_ | refine cD ?_ ?_ | omega)
    case refine_4 => repeat' (with_reducible first | exact (HFs).out | exact BlI.below (HFi).out (HLs).out | refine BlI.al ?_ | refine BlS.al ?_ | refine BlI.set ?_ ?_ _ | refine BlS.set ?_ ?_ _ | (refine NC.mk ?_ ?_ <;> assumption) | refine NC.al ?_ | refine NC.st ?_ ?_ | exact cA rfl | (refine cA ?_; simp; done) | refine cB ?_ | refine cC ?_ | refine cD ?_ ?_ | omega)
    case refine_5 => refine below_trans HB.out (?_ : Below w1.heap.size w1 _) (Nat.le_refl _); repeat' (with_reducible first | refine below_al ?_ | refine below_dr ?_ | refine below_st ?_ ?_ | exact HBs.out | omega)
end Go.Proofs.YtblkldfokeeaeacGreatDoor
