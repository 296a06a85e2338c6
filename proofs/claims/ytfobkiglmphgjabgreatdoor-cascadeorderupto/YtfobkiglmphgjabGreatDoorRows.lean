/-
  NARROWER THAN 'FOR EVERY INPUT', by the rows' own cells (each row's printed sentence says how): CascadeTells: laid · CascadeOrder: laid · CascadeStrong: laid · CascadeInherits: laid · CascadeMedia: laid · CascadeSplit: laid.
  DERIVED. THE GIVEN ROWS OF THIS SEAT. 6 by the template 'for every input the law returns true; each argument reads behind the call as it read before'; 0 by the template 'total and deterministic' (their statements: YtfobkiglmphgjabGreatDoorTotals.lean).
  GIVEN WITH THE SEED: the statements are not yours to turn. If you find one false, say at which input.
  Laid BY PROGRAM, IN A SANDBOX (cutbox-rows.mjs): the forced cells as the released guide's own fill.sh prints them over the translation 54d523694ee18efd… (all of the seat's roots in one cut). By AI agents, Wed Nov 11 2026. No macro, syntax, notation, axiom, sorry.
-/
import Derived.Test.YtfobkiglmphgjabGreatDoorChecked
import GoSem.PinnedTables
import GoSem.Claim
import GoSem.ClaimJoined
import GoSem.ClaimMapViews
import Derived.JoinedTies
import Derived.KernelRfl
namespace Go.Proofs.YtfobkiglmphgjabGreatDoor
/- THE CELL 'sum', in the pinned program and in every row, IS THE sha256 OF THE DUMP (.gsa) THAT YtfobkiglmphgjabGreatDoorProg.lean LOADS. Nothing in Lean hashes anything: it is a label: what it is worth is what the hold of that sum in a sandbox is worth. -/
noncomputable def Tryz.pinned : Pinned := { name := "ytfobkiglmphgjabgreatdoor", sum := "54d523694ee18efd71a50203180807606cfed926ad0fdc39411d9681262c62fb", checked := Tryz.checked }
namespace Rows
def none {H : Type} : Left H := { results := [], args := [] }

/- WHAT THE LISTED PACKAGE-LEVEL VARIABLES READ AS WHEN THE CALL BEGINS. Each datum BY PROGRAM (the guide's laid-datum.mjs) off the statement by which the dump's own 'gosem.cut.vars' lays the variable. In a bare row this is a premise. The card (YtfobkiglmphgjabGreatDoorCards.lean) ties it to the program's text. -/
def laid_unicode_utf8_acceptRanges {H : Type} : DataW H := .agg [.agg [.lit (.int .u8 128), .lit (.int .u8 191)], .agg [.lit (.int .u8 160), .lit (.int .u8 191)], .agg [.lit (.int .u8 128), .lit (.int .u8 159)], .agg [.lit (.int .u8 144), .lit (.int .u8 191)], .agg [.lit (.int .u8 128), .lit (.int .u8 143)], .agg [.lit (.int .u8 0), .lit (.int .u8 0)], .agg [.lit (.int .u8 0), .lit (.int .u8 0)], .agg [.lit (.int .u8 0), .lit (.int .u8 0)], .agg [.lit (.int .u8 0), .lit (.int .u8 0)], .agg [.lit (.int .u8 0), .lit (.int .u8 0)], .agg [.lit (.int .u8 0), .lit (.int .u8 0)], .agg [.lit (.int .u8 0), .lit (.int .u8 0)], .agg [.lit (.int .u8 0), .lit (.int .u8 0)], .agg [.lit (.int .u8 0), .lit (.int .u8 0)], .agg [.lit (.int .u8 0), .lit (.int .u8 0)], .agg [.lit (.int .u8 0), .lit (.int .u8 0)]]
def laid_inkwell_props_sides {H : Type} : DataW H := .agg [.lit (.string [101, 100, 103, 101, 45, 116, 111, 112]), .lit (.string [101, 100, 103, 101, 45, 114, 105, 103, 104, 116]), .lit (.string [101, 100, 103, 101, 45, 98, 111, 116, 116, 111, 109]), .lit (.string [101, 100, 103, 101, 45, 108, 101, 102, 116])]
def laid_inkwell_props_instead {H : Type} : DataW H := .agg [.lit (.int .i64 0), .lit (.int .i64 0), .lit (.int .i64 0), .lit (.int .i64 1)]
/-- One of Go's own tables, pinned by name: the form's constant. -/
def laid_unicode_utf8_first : DataW Unit := Go.Pinned.utf8First

/-- 'inklaw5.CascadeTells': WHATEVER THE INPUT: true; the input reads as it did. -/
def cascadeTellsSpec : ChangeSpec := { name := "cascadeTells", fn := fun _ => fun
  | [d1, d2, d3, d4, d5] => { results := [.lit (.bool true)], args := [d1, d2, d3, d4, d5] }
  | _ => none }
def cascadeTellsRow : OpenClaim := { program := "ytfobkiglmphgjabgreatdoor", sum := "54d523694ee18efd71a50203180807606cfed926ad0fdc39411d9681262c62fb", func := "inkwell/inklaw5.CascadeTells", spec := "cascadeTells", inPlace := ["internal/bytealg.CountString", "internal/bytealg.IndexByteString", "internal/bytealg.IndexString"], unfollowed := true, recurses := true, named := ["unicode/utf8.first", "unicode/utf8.acceptRanges", "internal/bytealg.MaxLen", "inkwell/props.sides", "inkwell/props.instead"], apart := false, laid := [("unicode/utf8.acceptRanges", laid_unicode_utf8_acceptRanges), ("inkwell/props.sides", laid_inkwell_props_sides), ("inkwell/props.instead", laid_inkwell_props_instead), ("unicode/utf8.first", laid_unicode_utf8_first)] }
def CascadeTellsSaid : Prop := cascadeTellsRow.holds Tryz.pinned (OpenSpec.ofChange cascadeTellsSpec)

/-- ITS FALSE NEIGHBOUR: 'it returns false'. Refute it at one input. -/
def cascadeTellsWrong : ChangeSpec := { name := "cascadeTells", fn := fun _ => fun
  | [d1, d2, d3, d4, d5] => { results := [.lit (.bool false)], args := [d1, d2, d3, d4, d5] }
  | _ => none }
def CascadeTellsWrongFalsely : Prop := cascadeTellsRow.holds Tryz.pinned (OpenSpec.ofChange cascadeTellsWrong)

/-- 'inklaw5.CascadeOrder': WHATEVER THE INPUT: true; the input reads as it did. -/
def cascadeOrderSpec : ChangeSpec := { name := "cascadeOrder", fn := fun _ => fun
  | [d1, d2, d3, d4, d5] => { results := [.lit (.bool true)], args := [d1, d2, d3, d4, d5] }
  | _ => none }
def cascadeOrderRow : OpenClaim := { program := "ytfobkiglmphgjabgreatdoor", sum := "54d523694ee18efd71a50203180807606cfed926ad0fdc39411d9681262c62fb", func := "inkwell/inklaw5.CascadeOrder", spec := "cascadeOrder", inPlace := ["internal/bytealg.CountString", "internal/bytealg.IndexByteString", "internal/bytealg.IndexString"], unfollowed := true, recurses := true, named := ["unicode/utf8.first", "unicode/utf8.acceptRanges", "internal/bytealg.MaxLen", "inkwell/props.sides", "inkwell/props.instead"], apart := false, laid := [("unicode/utf8.acceptRanges", laid_unicode_utf8_acceptRanges), ("inkwell/props.sides", laid_inkwell_props_sides), ("inkwell/props.instead", laid_inkwell_props_instead), ("unicode/utf8.first", laid_unicode_utf8_first)] }
def CascadeOrderSaid : Prop := cascadeOrderRow.holds Tryz.pinned (OpenSpec.ofChange cascadeOrderSpec)

/-- ITS FALSE NEIGHBOUR: 'it returns false'. Refute it at one input. -/
def cascadeOrderWrong : ChangeSpec := { name := "cascadeOrder", fn := fun _ => fun
  | [d1, d2, d3, d4, d5] => { results := [.lit (.bool false)], args := [d1, d2, d3, d4, d5] }
  | _ => none }
def CascadeOrderWrongFalsely : Prop := cascadeOrderRow.holds Tryz.pinned (OpenSpec.ofChange cascadeOrderWrong)

/-- 'inklaw5.CascadeStrong': WHATEVER THE INPUT: true; the input reads as it did. -/
def cascadeStrongSpec : ChangeSpec := { name := "cascadeStrong", fn := fun _ => fun
  | [d1, d2, d3, d4] => { results := [.lit (.bool true)], args := [d1, d2, d3, d4] }
  | _ => none }
def cascadeStrongRow : OpenClaim := { program := "ytfobkiglmphgjabgreatdoor", sum := "54d523694ee18efd71a50203180807606cfed926ad0fdc39411d9681262c62fb", func := "inkwell/inklaw5.CascadeStrong", spec := "cascadeStrong", inPlace := ["internal/bytealg.CountString", "internal/bytealg.IndexByteString", "internal/bytealg.IndexString"], unfollowed := true, recurses := true, named := ["unicode/utf8.first", "unicode/utf8.acceptRanges", "internal/bytealg.MaxLen", "inkwell/props.sides", "inkwell/props.instead"], apart := false, laid := [("unicode/utf8.acceptRanges", laid_unicode_utf8_acceptRanges), ("inkwell/props.sides", laid_inkwell_props_sides), ("inkwell/props.instead", laid_inkwell_props_instead), ("unicode/utf8.first", laid_unicode_utf8_first)] }
def CascadeStrongSaid : Prop := cascadeStrongRow.holds Tryz.pinned (OpenSpec.ofChange cascadeStrongSpec)

/-- ITS FALSE NEIGHBOUR: 'it returns false'. Refute it at one input. -/
def cascadeStrongWrong : ChangeSpec := { name := "cascadeStrong", fn := fun _ => fun
  | [d1, d2, d3, d4] => { results := [.lit (.bool false)], args := [d1, d2, d3, d4] }
  | _ => none }
def CascadeStrongWrongFalsely : Prop := cascadeStrongRow.holds Tryz.pinned (OpenSpec.ofChange cascadeStrongWrong)

/-- 'inklaw5.CascadeInherits': WHATEVER THE INPUT: true; the input reads as it did. -/
def cascadeInheritsSpec : ChangeSpec := { name := "cascadeInherits", fn := fun _ => fun
  | [d1, d2, d3, d4, d5] => { results := [.lit (.bool true)], args := [d1, d2, d3, d4, d5] }
  | _ => none }
def cascadeInheritsRow : OpenClaim := { program := "ytfobkiglmphgjabgreatdoor", sum := "54d523694ee18efd71a50203180807606cfed926ad0fdc39411d9681262c62fb", func := "inkwell/inklaw5.CascadeInherits", spec := "cascadeInherits", inPlace := ["internal/bytealg.CountString", "internal/bytealg.IndexByteString", "internal/bytealg.IndexString"], unfollowed := true, recurses := true, named := ["unicode/utf8.first", "unicode/utf8.acceptRanges", "internal/bytealg.MaxLen", "inkwell/props.sides", "inkwell/props.instead"], apart := false, laid := [("unicode/utf8.acceptRanges", laid_unicode_utf8_acceptRanges), ("inkwell/props.sides", laid_inkwell_props_sides), ("inkwell/props.instead", laid_inkwell_props_instead), ("unicode/utf8.first", laid_unicode_utf8_first)] }
def CascadeInheritsSaid : Prop := cascadeInheritsRow.holds Tryz.pinned (OpenSpec.ofChange cascadeInheritsSpec)

/-- ITS FALSE NEIGHBOUR: 'it returns false'. Refute it at one input. -/
def cascadeInheritsWrong : ChangeSpec := { name := "cascadeInherits", fn := fun _ => fun
  | [d1, d2, d3, d4, d5] => { results := [.lit (.bool false)], args := [d1, d2, d3, d4, d5] }
  | _ => none }
def CascadeInheritsWrongFalsely : Prop := cascadeInheritsRow.holds Tryz.pinned (OpenSpec.ofChange cascadeInheritsWrong)

/-- 'inklaw5.CascadeMedia': WHATEVER THE INPUT: true; the input reads as it did. -/
def cascadeMediaSpec : ChangeSpec := { name := "cascadeMedia", fn := fun _ => fun
  | [d1, d2, d3, d4, d5] => { results := [.lit (.bool true)], args := [d1, d2, d3, d4, d5] }
  | _ => none }
def cascadeMediaRow : OpenClaim := { program := "ytfobkiglmphgjabgreatdoor", sum := "54d523694ee18efd71a50203180807606cfed926ad0fdc39411d9681262c62fb", func := "inkwell/inklaw5.CascadeMedia", spec := "cascadeMedia", inPlace := ["internal/bytealg.CountString", "internal/bytealg.IndexByteString", "internal/bytealg.IndexString"], unfollowed := true, recurses := true, named := ["unicode/utf8.first", "unicode/utf8.acceptRanges", "internal/bytealg.MaxLen", "inkwell/props.sides", "inkwell/props.instead"], apart := false, laid := [("unicode/utf8.acceptRanges", laid_unicode_utf8_acceptRanges), ("inkwell/props.sides", laid_inkwell_props_sides), ("inkwell/props.instead", laid_inkwell_props_instead), ("unicode/utf8.first", laid_unicode_utf8_first)] }
def CascadeMediaSaid : Prop := cascadeMediaRow.holds Tryz.pinned (OpenSpec.ofChange cascadeMediaSpec)

/-- ITS FALSE NEIGHBOUR: 'it returns false'. Refute it at one input. -/
def cascadeMediaWrong : ChangeSpec := { name := "cascadeMedia", fn := fun _ => fun
  | [d1, d2, d3, d4, d5] => { results := [.lit (.bool false)], args := [d1, d2, d3, d4, d5] }
  | _ => none }
def CascadeMediaWrongFalsely : Prop := cascadeMediaRow.holds Tryz.pinned (OpenSpec.ofChange cascadeMediaWrong)

/-- 'inklaw5.CascadeSplit': WHATEVER THE INPUT: true; the input reads as it did. -/
def cascadeSplitSpec : ChangeSpec := { name := "cascadeSplit", fn := fun _ => fun
  | [d1, d2, d3, d4] => { results := [.lit (.bool true)], args := [d1, d2, d3, d4] }
  | _ => none }
def cascadeSplitRow : OpenClaim := { program := "ytfobkiglmphgjabgreatdoor", sum := "54d523694ee18efd71a50203180807606cfed926ad0fdc39411d9681262c62fb", func := "inkwell/inklaw5.CascadeSplit", spec := "cascadeSplit", inPlace := ["internal/bytealg.CountString", "internal/bytealg.IndexByteString", "internal/bytealg.IndexString"], unfollowed := true, recurses := true, named := ["unicode/utf8.first", "unicode/utf8.acceptRanges", "internal/bytealg.MaxLen", "inkwell/props.sides", "inkwell/props.instead"], apart := false, laid := [("unicode/utf8.acceptRanges", laid_unicode_utf8_acceptRanges), ("inkwell/props.sides", laid_inkwell_props_sides), ("inkwell/props.instead", laid_inkwell_props_instead), ("unicode/utf8.first", laid_unicode_utf8_first)] }
def CascadeSplitSaid : Prop := cascadeSplitRow.holds Tryz.pinned (OpenSpec.ofChange cascadeSplitSpec)

/-- ITS FALSE NEIGHBOUR: 'it returns false'. Refute it at one input. -/
def cascadeSplitWrong : ChangeSpec := { name := "cascadeSplit", fn := fun _ => fun
  | [d1, d2, d3, d4] => { results := [.lit (.bool false)], args := [d1, d2, d3, d4] }
  | _ => none }
def CascadeSplitWrongFalsely : Prop := cascadeSplitRow.holds Tryz.pinned (OpenSpec.ofChange cascadeSplitWrong)

/- THE SECOND FORM. 'bulk': how many values and letters a reading holds, each counted each time it is reached (what is shared counts as often as it is met; a slice's spare places count too). A statement '..UptoSaid' is the law's where the arguments, and the package variables that the reading takes, are together of bulk at most 1048576: NARROWER than '..Said'. Prove '..Said' where nothing that the law and all that it calls make is longer than what came in: it says more and counts as full. Else prove '..UptoSaid'. A law counts once. -/
mutual
def uptoBulk {H : Type} : DataW H → Nat
  | .lit (.string bytes) => bytes.length + 1
  | .lit _ => 1
  | .nil => 1
  | .ptr d => uptoBulk d + 1
  | .slice elems spare => uptoBulkAll elems + uptoBulkAll spare + 1
  | .agg parts => uptoBulkAll parts + 1
  | .iface _ d => uptoBulk d + 1
  | .map entries => uptoBulkEntries entries + 1
  | .held _ => 1
def uptoBulkAll {H : Type} : List (DataW H) → Nat
  | [] => 0
  | d :: r => uptoBulk d + uptoBulkAll r
def uptoBulkEntries {H : Type} : List (Lit × DataW H) → Nat
  | [] => 0
  | x :: r => uptoBulkEntry x + uptoBulkEntries r
def uptoBulkEntry {H : Type} : Lit × DataW H → Nat
  | (.string bytes, d) => bytes.length + uptoBulk d + 1
  | (_, d) => uptoBulk d + 1
 end
def uptoSmall : (H : Type) → List (DataW H) → Bool := fun _ ds => decide (uptoBulkAll ds ≤ 1048576)
def OpenSpec.upto (s : _root_.Go.ChangeSpec) : _root_.Go.OpenSpec := { _root_.Go.OpenSpec.ofChange s with cond := some uptoSmall }

/-- 'inklaw5.CascadeTells', WHERE WHAT IT READS IS OF BULK AT MOST 1048576: true; the input reads as it did. -/
def cascadeTellsUptoRow : OpenClaim := { program := "ytfobkiglmphgjabgreatdoor", sum := "54d523694ee18efd71a50203180807606cfed926ad0fdc39411d9681262c62fb", func := "inkwell/inklaw5.CascadeTells", spec := "cascadeTells", inPlace := ["internal/bytealg.CountString", "internal/bytealg.IndexByteString", "internal/bytealg.IndexString"], unfollowed := true, recurses := true, named := ["unicode/utf8.first", "unicode/utf8.acceptRanges", "internal/bytealg.MaxLen", "inkwell/props.sides", "inkwell/props.instead"], apart := false, laid := [("unicode/utf8.acceptRanges", laid_unicode_utf8_acceptRanges), ("inkwell/props.sides", laid_inkwell_props_sides), ("inkwell/props.instead", laid_inkwell_props_instead), ("unicode/utf8.first", laid_unicode_utf8_first)], narrowed := true }
def CascadeTellsUptoSaid : Prop := cascadeTellsUptoRow.holds Tryz.pinned (OpenSpec.upto cascadeTellsSpec)

/-- 'inklaw5.CascadeOrder', WHERE WHAT IT READS IS OF BULK AT MOST 1048576: true; the input reads as it did. -/
def cascadeOrderUptoRow : OpenClaim := { program := "ytfobkiglmphgjabgreatdoor", sum := "54d523694ee18efd71a50203180807606cfed926ad0fdc39411d9681262c62fb", func := "inkwell/inklaw5.CascadeOrder", spec := "cascadeOrder", inPlace := ["internal/bytealg.CountString", "internal/bytealg.IndexByteString", "internal/bytealg.IndexString"], unfollowed := true, recurses := true, named := ["unicode/utf8.first", "unicode/utf8.acceptRanges", "internal/bytealg.MaxLen", "inkwell/props.sides", "inkwell/props.instead"], apart := false, laid := [("unicode/utf8.acceptRanges", laid_unicode_utf8_acceptRanges), ("inkwell/props.sides", laid_inkwell_props_sides), ("inkwell/props.instead", laid_inkwell_props_instead), ("unicode/utf8.first", laid_unicode_utf8_first)], narrowed := true }
def CascadeOrderUptoSaid : Prop := cascadeOrderUptoRow.holds Tryz.pinned (OpenSpec.upto cascadeOrderSpec)

/-- 'inklaw5.CascadeStrong', WHERE WHAT IT READS IS OF BULK AT MOST 1048576: true; the input reads as it did. -/
def cascadeStrongUptoRow : OpenClaim := { program := "ytfobkiglmphgjabgreatdoor", sum := "54d523694ee18efd71a50203180807606cfed926ad0fdc39411d9681262c62fb", func := "inkwell/inklaw5.CascadeStrong", spec := "cascadeStrong", inPlace := ["internal/bytealg.CountString", "internal/bytealg.IndexByteString", "internal/bytealg.IndexString"], unfollowed := true, recurses := true, named := ["unicode/utf8.first", "unicode/utf8.acceptRanges", "internal/bytealg.MaxLen", "inkwell/props.sides", "inkwell/props.instead"], apart := false, laid := [("unicode/utf8.acceptRanges", laid_unicode_utf8_acceptRanges), ("inkwell/props.sides", laid_inkwell_props_sides), ("inkwell/props.instead", laid_inkwell_props_instead), ("unicode/utf8.first", laid_unicode_utf8_first)], narrowed := true }
def CascadeStrongUptoSaid : Prop := cascadeStrongUptoRow.holds Tryz.pinned (OpenSpec.upto cascadeStrongSpec)

/-- 'inklaw5.CascadeInherits', WHERE WHAT IT READS IS OF BULK AT MOST 1048576: true; the input reads as it did. -/
def cascadeInheritsUptoRow : OpenClaim := { program := "ytfobkiglmphgjabgreatdoor", sum := "54d523694ee18efd71a50203180807606cfed926ad0fdc39411d9681262c62fb", func := "inkwell/inklaw5.CascadeInherits", spec := "cascadeInherits", inPlace := ["internal/bytealg.CountString", "internal/bytealg.IndexByteString", "internal/bytealg.IndexString"], unfollowed := true, recurses := true, named := ["unicode/utf8.first", "unicode/utf8.acceptRanges", "internal/bytealg.MaxLen", "inkwell/props.sides", "inkwell/props.instead"], apart := false, laid := [("unicode/utf8.acceptRanges", laid_unicode_utf8_acceptRanges), ("inkwell/props.sides", laid_inkwell_props_sides), ("inkwell/props.instead", laid_inkwell_props_instead), ("unicode/utf8.first", laid_unicode_utf8_first)], narrowed := true }
def CascadeInheritsUptoSaid : Prop := cascadeInheritsUptoRow.holds Tryz.pinned (OpenSpec.upto cascadeInheritsSpec)

/-- 'inklaw5.CascadeMedia', WHERE WHAT IT READS IS OF BULK AT MOST 1048576: true; the input reads as it did. -/
def cascadeMediaUptoRow : OpenClaim := { program := "ytfobkiglmphgjabgreatdoor", sum := "54d523694ee18efd71a50203180807606cfed926ad0fdc39411d9681262c62fb", func := "inkwell/inklaw5.CascadeMedia", spec := "cascadeMedia", inPlace := ["internal/bytealg.CountString", "internal/bytealg.IndexByteString", "internal/bytealg.IndexString"], unfollowed := true, recurses := true, named := ["unicode/utf8.first", "unicode/utf8.acceptRanges", "internal/bytealg.MaxLen", "inkwell/props.sides", "inkwell/props.instead"], apart := false, laid := [("unicode/utf8.acceptRanges", laid_unicode_utf8_acceptRanges), ("inkwell/props.sides", laid_inkwell_props_sides), ("inkwell/props.instead", laid_inkwell_props_instead), ("unicode/utf8.first", laid_unicode_utf8_first)], narrowed := true }
def CascadeMediaUptoSaid : Prop := cascadeMediaUptoRow.holds Tryz.pinned (OpenSpec.upto cascadeMediaSpec)

/-- 'inklaw5.CascadeSplit', WHERE WHAT IT READS IS OF BULK AT MOST 1048576: true; the input reads as it did. -/
def cascadeSplitUptoRow : OpenClaim := { program := "ytfobkiglmphgjabgreatdoor", sum := "54d523694ee18efd71a50203180807606cfed926ad0fdc39411d9681262c62fb", func := "inkwell/inklaw5.CascadeSplit", spec := "cascadeSplit", inPlace := ["internal/bytealg.CountString", "internal/bytealg.IndexByteString", "internal/bytealg.IndexString"], unfollowed := true, recurses := true, named := ["unicode/utf8.first", "unicode/utf8.acceptRanges", "internal/bytealg.MaxLen", "inkwell/props.sides", "inkwell/props.instead"], apart := false, laid := [("unicode/utf8.acceptRanges", laid_unicode_utf8_acceptRanges), ("inkwell/props.sides", laid_inkwell_props_sides), ("inkwell/props.instead", laid_inkwell_props_instead), ("unicode/utf8.first", laid_unicode_utf8_first)], narrowed := true }
def CascadeSplitUptoSaid : Prop := cascadeSplitUptoRow.holds Tryz.pinned (OpenSpec.upto cascadeSplitSpec)

end Rows
end Go.Proofs.YtfobkiglmphgjabGreatDoor
