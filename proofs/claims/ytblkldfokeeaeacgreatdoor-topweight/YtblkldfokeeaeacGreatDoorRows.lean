/-
  NARROWER THAN 'FOR EVERY INPUT', by the rows' own cells (each row's printed sentence says how): FoldSame: laid · FoldTwice: laid · FoldKeeps: laid · FoldGone: laid · FoldAlone: laid · FoldPlaces: laid · TopWeight: laid · TopStrong: laid · TopMedia: laid · TopEdge: laid · TopWhere: laid · TopOwn: laid.
  DERIVED. THE GIVEN ROWS OF THIS SEAT. 12 by the template 'for every input the law returns true; each argument reads behind the call as it read before'; 0 by the template 'total and deterministic' (their statements: YtblkldfokeeaeacGreatDoorTotals.lean).
  GIVEN WITH THE SEED: the statements are not yours to turn. If you find one false, say at which input.
  Laid BY PROGRAM, IN A SANDBOX (cutbox-rows.mjs): the forced cells as the released guide's own fill.sh prints them over the translation 8c64533b234f0177… (all of the seat's roots in one cut). By AI agents, Wed Nov 11 2026. No macro, syntax, notation, axiom, sorry.
-/
import Derived.Test.YtblkldfokeeaeacGreatDoorChecked
import GoSem.PinnedTables
import GoSem.Claim
import GoSem.ClaimJoined
import GoSem.ClaimMapViews
import Derived.JoinedTies
import Derived.KernelRfl
namespace Go.Proofs.YtblkldfokeeaeacGreatDoor
/- THE CELL 'sum', in the pinned program and in every row, IS THE sha256 OF THE DUMP (.gsa) THAT YtblkldfokeeaeacGreatDoorProg.lean LOADS. Nothing in Lean hashes anything: it is a label: what it is worth is what the hold of that sum in a sandbox is worth. -/
noncomputable def Tryz.pinned : Pinned := { name := "ytblkldfokeeaeacgreatdoor", sum := "8c64533b234f017722f43b3e2c19e85bc0c063485621a7045f6458faa64eb3b9", checked := Tryz.checked }
namespace Rows
def none {H : Type} : Left H := { results := [], args := [] }

/- WHAT THE LISTED PACKAGE-LEVEL VARIABLES READ AS WHEN THE CALL BEGINS. Each datum BY PROGRAM (the guide's laid-datum.mjs) off the statement by which the dump's own 'gosem.cut.vars' lays the variable. In a bare row this is a premise. The card (YtblkldfokeeaeacGreatDoorCards.lean) ties it to the program's text. -/
def laid_unicode_utf8_acceptRanges {H : Type} : DataW H := .agg [.agg [.lit (.int .u8 128), .lit (.int .u8 191)], .agg [.lit (.int .u8 160), .lit (.int .u8 191)], .agg [.lit (.int .u8 128), .lit (.int .u8 159)], .agg [.lit (.int .u8 144), .lit (.int .u8 191)], .agg [.lit (.int .u8 128), .lit (.int .u8 143)], .agg [.lit (.int .u8 0), .lit (.int .u8 0)], .agg [.lit (.int .u8 0), .lit (.int .u8 0)], .agg [.lit (.int .u8 0), .lit (.int .u8 0)], .agg [.lit (.int .u8 0), .lit (.int .u8 0)], .agg [.lit (.int .u8 0), .lit (.int .u8 0)], .agg [.lit (.int .u8 0), .lit (.int .u8 0)], .agg [.lit (.int .u8 0), .lit (.int .u8 0)], .agg [.lit (.int .u8 0), .lit (.int .u8 0)], .agg [.lit (.int .u8 0), .lit (.int .u8 0)], .agg [.lit (.int .u8 0), .lit (.int .u8 0)], .agg [.lit (.int .u8 0), .lit (.int .u8 0)]]
def laid_inkwell_props_sides {H : Type} : DataW H := .agg [.lit (.string [101, 100, 103, 101, 45, 116, 111, 112]), .lit (.string [101, 100, 103, 101, 45, 114, 105, 103, 104, 116]), .lit (.string [101, 100, 103, 101, 45, 98, 111, 116, 116, 111, 109]), .lit (.string [101, 100, 103, 101, 45, 108, 101, 102, 116])]
def laid_inkwell_props_instead {H : Type} : DataW H := .agg [.lit (.int .i64 0), .lit (.int .i64 0), .lit (.int .i64 0), .lit (.int .i64 1)]
/-- One of Go's own tables, pinned by name: the form's constant. -/
def laid_unicode_utf8_first : DataW Unit := Go.Pinned.utf8First

/-- 'inklaw6.FoldSame': WHATEVER THE INPUT: true; the input reads as it did. -/
def foldSameSpec : ChangeSpec := { name := "foldSame", fn := fun _ => fun
  | [d1, d2] => { results := [.lit (.bool true)], args := [d1, d2] }
  | _ => none }
def foldSameRow : OpenClaim := { program := "ytblkldfokeeaeacgreatdoor", sum := "8c64533b234f017722f43b3e2c19e85bc0c063485621a7045f6458faa64eb3b9", func := "inkwell/inklaw6.FoldSame", spec := "foldSame", inPlace := ["internal/bytealg.IndexByteString", "internal/bytealg.IndexString", "internal/bytealg.CountString", "internal/abi.NoEscape"], unfollowed := true, recurses := true, named := ["internal/bytealg.MaxLen", "inkwell/props.sides", "unicode/utf8.first", "unicode/utf8.acceptRanges", "inkwell/props.instead"], apart := false, laid := [("unicode/utf8.acceptRanges", laid_unicode_utf8_acceptRanges), ("inkwell/props.sides", laid_inkwell_props_sides), ("inkwell/props.instead", laid_inkwell_props_instead), ("unicode/utf8.first", laid_unicode_utf8_first)] }
def FoldSameSaid : Prop := foldSameRow.holds Tryz.pinned (OpenSpec.ofChange foldSameSpec)

/-- ITS FALSE NEIGHBOUR: 'it returns false'. Refute it at one input. -/
def foldSameWrong : ChangeSpec := { name := "foldSame", fn := fun _ => fun
  | [d1, d2] => { results := [.lit (.bool false)], args := [d1, d2] }
  | _ => none }
def FoldSameWrongFalsely : Prop := foldSameRow.holds Tryz.pinned (OpenSpec.ofChange foldSameWrong)

/-- 'inklaw6.FoldTwice': WHATEVER THE INPUT: true; the input reads as it did. -/
def foldTwiceSpec : ChangeSpec := { name := "foldTwice", fn := fun _ => fun
  | [d] => { results := [.lit (.bool true)], args := [d] }
  | _ => none }
def foldTwiceRow : OpenClaim := { program := "ytblkldfokeeaeacgreatdoor", sum := "8c64533b234f017722f43b3e2c19e85bc0c063485621a7045f6458faa64eb3b9", func := "inkwell/inklaw6.FoldTwice", spec := "foldTwice", inPlace := ["internal/bytealg.IndexByteString", "internal/bytealg.IndexString", "internal/bytealg.CountString", "internal/abi.NoEscape"], unfollowed := true, recurses := true, named := ["internal/bytealg.MaxLen", "inkwell/props.sides", "unicode/utf8.first", "unicode/utf8.acceptRanges", "inkwell/props.instead"], apart := false, laid := [("unicode/utf8.acceptRanges", laid_unicode_utf8_acceptRanges), ("inkwell/props.sides", laid_inkwell_props_sides), ("inkwell/props.instead", laid_inkwell_props_instead), ("unicode/utf8.first", laid_unicode_utf8_first)] }
def FoldTwiceSaid : Prop := foldTwiceRow.holds Tryz.pinned (OpenSpec.ofChange foldTwiceSpec)

/-- ITS FALSE NEIGHBOUR: 'it returns false'. Refute it at one input. -/
def foldTwiceWrong : ChangeSpec := { name := "foldTwice", fn := fun _ => fun
  | [d] => { results := [.lit (.bool false)], args := [d] }
  | _ => none }
def FoldTwiceWrongFalsely : Prop := foldTwiceRow.holds Tryz.pinned (OpenSpec.ofChange foldTwiceWrong)

/-- 'inklaw6.FoldKeeps': WHATEVER THE INPUT: true; the input reads as it did. -/
def foldKeepsSpec : ChangeSpec := { name := "foldKeeps", fn := fun _ => fun
  | [d] => { results := [.lit (.bool true)], args := [d] }
  | _ => none }
def foldKeepsRow : OpenClaim := { program := "ytblkldfokeeaeacgreatdoor", sum := "8c64533b234f017722f43b3e2c19e85bc0c063485621a7045f6458faa64eb3b9", func := "inkwell/inklaw6.FoldKeeps", spec := "foldKeeps", inPlace := ["internal/bytealg.IndexByteString", "internal/bytealg.IndexString", "internal/bytealg.CountString", "internal/abi.NoEscape"], unfollowed := true, recurses := true, named := ["internal/bytealg.MaxLen", "inkwell/props.sides", "unicode/utf8.first", "unicode/utf8.acceptRanges", "inkwell/props.instead"], apart := false, laid := [("unicode/utf8.acceptRanges", laid_unicode_utf8_acceptRanges), ("inkwell/props.sides", laid_inkwell_props_sides), ("inkwell/props.instead", laid_inkwell_props_instead), ("unicode/utf8.first", laid_unicode_utf8_first)] }
def FoldKeepsSaid : Prop := foldKeepsRow.holds Tryz.pinned (OpenSpec.ofChange foldKeepsSpec)

/-- ITS FALSE NEIGHBOUR: 'it returns false'. Refute it at one input. -/
def foldKeepsWrong : ChangeSpec := { name := "foldKeeps", fn := fun _ => fun
  | [d] => { results := [.lit (.bool false)], args := [d] }
  | _ => none }
def FoldKeepsWrongFalsely : Prop := foldKeepsRow.holds Tryz.pinned (OpenSpec.ofChange foldKeepsWrong)

/-- 'inklaw6.FoldGone': WHATEVER THE INPUT: true; the input reads as it did. -/
def foldGoneSpec : ChangeSpec := { name := "foldGone", fn := fun _ => fun
  | [d] => { results := [.lit (.bool true)], args := [d] }
  | _ => none }
def foldGoneRow : OpenClaim := { program := "ytblkldfokeeaeacgreatdoor", sum := "8c64533b234f017722f43b3e2c19e85bc0c063485621a7045f6458faa64eb3b9", func := "inkwell/inklaw6.FoldGone", spec := "foldGone", inPlace := ["internal/bytealg.IndexByteString", "internal/bytealg.IndexString", "internal/bytealg.CountString", "internal/abi.NoEscape"], unfollowed := true, recurses := true, named := ["internal/bytealg.MaxLen", "inkwell/props.sides", "unicode/utf8.first", "unicode/utf8.acceptRanges", "inkwell/props.instead"], apart := false, laid := [("unicode/utf8.acceptRanges", laid_unicode_utf8_acceptRanges), ("inkwell/props.sides", laid_inkwell_props_sides), ("inkwell/props.instead", laid_inkwell_props_instead), ("unicode/utf8.first", laid_unicode_utf8_first)] }
def FoldGoneSaid : Prop := foldGoneRow.holds Tryz.pinned (OpenSpec.ofChange foldGoneSpec)

/-- ITS FALSE NEIGHBOUR: 'it returns false'. Refute it at one input. -/
def foldGoneWrong : ChangeSpec := { name := "foldGone", fn := fun _ => fun
  | [d] => { results := [.lit (.bool false)], args := [d] }
  | _ => none }
def FoldGoneWrongFalsely : Prop := foldGoneRow.holds Tryz.pinned (OpenSpec.ofChange foldGoneWrong)

/-- 'inklaw6.FoldAlone': WHATEVER THE INPUT: true; the input reads as it did. -/
def foldAloneSpec : ChangeSpec := { name := "foldAlone", fn := fun _ => fun
  | [d] => { results := [.lit (.bool true)], args := [d] }
  | _ => none }
def foldAloneRow : OpenClaim := { program := "ytblkldfokeeaeacgreatdoor", sum := "8c64533b234f017722f43b3e2c19e85bc0c063485621a7045f6458faa64eb3b9", func := "inkwell/inklaw6.FoldAlone", spec := "foldAlone", inPlace := ["internal/bytealg.IndexByteString", "internal/bytealg.IndexString", "internal/bytealg.CountString", "internal/abi.NoEscape"], unfollowed := true, recurses := true, named := ["internal/bytealg.MaxLen", "inkwell/props.sides", "unicode/utf8.first", "unicode/utf8.acceptRanges", "inkwell/props.instead"], apart := false, laid := [("unicode/utf8.acceptRanges", laid_unicode_utf8_acceptRanges), ("inkwell/props.sides", laid_inkwell_props_sides), ("inkwell/props.instead", laid_inkwell_props_instead), ("unicode/utf8.first", laid_unicode_utf8_first)] }
def FoldAloneSaid : Prop := foldAloneRow.holds Tryz.pinned (OpenSpec.ofChange foldAloneSpec)

/-- ITS FALSE NEIGHBOUR: 'it returns false'. Refute it at one input. -/
def foldAloneWrong : ChangeSpec := { name := "foldAlone", fn := fun _ => fun
  | [d] => { results := [.lit (.bool false)], args := [d] }
  | _ => none }
def FoldAloneWrongFalsely : Prop := foldAloneRow.holds Tryz.pinned (OpenSpec.ofChange foldAloneWrong)

/-- 'inklaw6.FoldPlaces': WHATEVER THE INPUT: true; the input reads as it did. -/
def foldPlacesSpec : ChangeSpec := { name := "foldPlaces", fn := fun _ => fun
  | [d] => { results := [.lit (.bool true)], args := [d] }
  | _ => none }
def foldPlacesRow : OpenClaim := { program := "ytblkldfokeeaeacgreatdoor", sum := "8c64533b234f017722f43b3e2c19e85bc0c063485621a7045f6458faa64eb3b9", func := "inkwell/inklaw6.FoldPlaces", spec := "foldPlaces", inPlace := ["internal/bytealg.IndexByteString", "internal/bytealg.IndexString", "internal/bytealg.CountString", "internal/abi.NoEscape"], unfollowed := true, recurses := true, named := ["internal/bytealg.MaxLen", "inkwell/props.sides", "unicode/utf8.first", "unicode/utf8.acceptRanges", "inkwell/props.instead"], apart := false, laid := [("unicode/utf8.acceptRanges", laid_unicode_utf8_acceptRanges), ("inkwell/props.sides", laid_inkwell_props_sides), ("inkwell/props.instead", laid_inkwell_props_instead), ("unicode/utf8.first", laid_unicode_utf8_first)] }
def FoldPlacesSaid : Prop := foldPlacesRow.holds Tryz.pinned (OpenSpec.ofChange foldPlacesSpec)

/-- ITS FALSE NEIGHBOUR: 'it returns false'. Refute it at one input. -/
def foldPlacesWrong : ChangeSpec := { name := "foldPlaces", fn := fun _ => fun
  | [d] => { results := [.lit (.bool false)], args := [d] }
  | _ => none }
def FoldPlacesWrongFalsely : Prop := foldPlacesRow.holds Tryz.pinned (OpenSpec.ofChange foldPlacesWrong)

/-- 'inktop.TopWeight': WHATEVER THE INPUT: true; the input reads as it did. -/
def topWeightSpec : ChangeSpec := { name := "topWeight", fn := fun _ => fun
  | [d1, d2, d3, d4] => { results := [.lit (.bool true)], args := [d1, d2, d3, d4] }
  | _ => none }
def topWeightRow : OpenClaim := { program := "ytblkldfokeeaeacgreatdoor", sum := "8c64533b234f017722f43b3e2c19e85bc0c063485621a7045f6458faa64eb3b9", func := "inkwell/inktop.TopWeight", spec := "topWeight", inPlace := ["internal/bytealg.IndexByteString", "internal/bytealg.IndexString", "internal/bytealg.CountString", "internal/abi.NoEscape"], unfollowed := true, recurses := true, named := ["internal/bytealg.MaxLen", "inkwell/props.sides", "unicode/utf8.first", "unicode/utf8.acceptRanges", "inkwell/props.instead"], apart := false, laid := [("unicode/utf8.acceptRanges", laid_unicode_utf8_acceptRanges), ("inkwell/props.sides", laid_inkwell_props_sides), ("inkwell/props.instead", laid_inkwell_props_instead), ("unicode/utf8.first", laid_unicode_utf8_first)] }
def TopWeightSaid : Prop := topWeightRow.holds Tryz.pinned (OpenSpec.ofChange topWeightSpec)

/-- ITS FALSE NEIGHBOUR: 'it returns false'. Refute it at one input. -/
def topWeightWrong : ChangeSpec := { name := "topWeight", fn := fun _ => fun
  | [d1, d2, d3, d4] => { results := [.lit (.bool false)], args := [d1, d2, d3, d4] }
  | _ => none }
def TopWeightWrongFalsely : Prop := topWeightRow.holds Tryz.pinned (OpenSpec.ofChange topWeightWrong)

/-- 'inktop.TopStrong': WHATEVER THE INPUT: true; the input reads as it did. -/
def topStrongSpec : ChangeSpec := { name := "topStrong", fn := fun _ => fun
  | [d1, d2] => { results := [.lit (.bool true)], args := [d1, d2] }
  | _ => none }
def topStrongRow : OpenClaim := { program := "ytblkldfokeeaeacgreatdoor", sum := "8c64533b234f017722f43b3e2c19e85bc0c063485621a7045f6458faa64eb3b9", func := "inkwell/inktop.TopStrong", spec := "topStrong", inPlace := ["internal/bytealg.IndexByteString", "internal/bytealg.IndexString", "internal/bytealg.CountString", "internal/abi.NoEscape"], unfollowed := true, recurses := true, named := ["internal/bytealg.MaxLen", "inkwell/props.sides", "unicode/utf8.first", "unicode/utf8.acceptRanges", "inkwell/props.instead"], apart := false, laid := [("unicode/utf8.acceptRanges", laid_unicode_utf8_acceptRanges), ("inkwell/props.sides", laid_inkwell_props_sides), ("inkwell/props.instead", laid_inkwell_props_instead), ("unicode/utf8.first", laid_unicode_utf8_first)] }
def TopStrongSaid : Prop := topStrongRow.holds Tryz.pinned (OpenSpec.ofChange topStrongSpec)

/-- ITS FALSE NEIGHBOUR: 'it returns false'. Refute it at one input. -/
def topStrongWrong : ChangeSpec := { name := "topStrong", fn := fun _ => fun
  | [d1, d2] => { results := [.lit (.bool false)], args := [d1, d2] }
  | _ => none }
def TopStrongWrongFalsely : Prop := topStrongRow.holds Tryz.pinned (OpenSpec.ofChange topStrongWrong)

/-- 'inktop.TopMedia': WHATEVER THE INPUT: true; the input reads as it did. -/
def topMediaSpec : ChangeSpec := { name := "topMedia", fn := fun _ => fun
  | [d1, d2, d3] => { results := [.lit (.bool true)], args := [d1, d2, d3] }
  | _ => none }
def topMediaRow : OpenClaim := { program := "ytblkldfokeeaeacgreatdoor", sum := "8c64533b234f017722f43b3e2c19e85bc0c063485621a7045f6458faa64eb3b9", func := "inkwell/inktop.TopMedia", spec := "topMedia", inPlace := ["internal/bytealg.IndexByteString", "internal/bytealg.IndexString", "internal/bytealg.CountString", "internal/abi.NoEscape"], unfollowed := true, recurses := true, named := ["internal/bytealg.MaxLen", "inkwell/props.sides", "unicode/utf8.first", "unicode/utf8.acceptRanges", "inkwell/props.instead"], apart := false, laid := [("unicode/utf8.acceptRanges", laid_unicode_utf8_acceptRanges), ("inkwell/props.sides", laid_inkwell_props_sides), ("inkwell/props.instead", laid_inkwell_props_instead), ("unicode/utf8.first", laid_unicode_utf8_first)] }
def TopMediaSaid : Prop := topMediaRow.holds Tryz.pinned (OpenSpec.ofChange topMediaSpec)

/-- ITS FALSE NEIGHBOUR: 'it returns false'. Refute it at one input. -/
def topMediaWrong : ChangeSpec := { name := "topMedia", fn := fun _ => fun
  | [d1, d2, d3] => { results := [.lit (.bool false)], args := [d1, d2, d3] }
  | _ => none }
def TopMediaWrongFalsely : Prop := topMediaRow.holds Tryz.pinned (OpenSpec.ofChange topMediaWrong)

/-- 'inktop.TopEdge': WHATEVER THE INPUT: true; the input reads as it did. -/
def topEdgeSpec : ChangeSpec := { name := "topEdge", fn := fun _ => fun
  | [d1, d2] => { results := [.lit (.bool true)], args := [d1, d2] }
  | _ => none }
def topEdgeRow : OpenClaim := { program := "ytblkldfokeeaeacgreatdoor", sum := "8c64533b234f017722f43b3e2c19e85bc0c063485621a7045f6458faa64eb3b9", func := "inkwell/inktop.TopEdge", spec := "topEdge", inPlace := ["internal/bytealg.IndexByteString", "internal/bytealg.IndexString", "internal/bytealg.CountString", "internal/abi.NoEscape"], unfollowed := true, recurses := true, named := ["internal/bytealg.MaxLen", "inkwell/props.sides", "unicode/utf8.first", "unicode/utf8.acceptRanges", "inkwell/props.instead"], apart := false, laid := [("unicode/utf8.acceptRanges", laid_unicode_utf8_acceptRanges), ("inkwell/props.sides", laid_inkwell_props_sides), ("inkwell/props.instead", laid_inkwell_props_instead), ("unicode/utf8.first", laid_unicode_utf8_first)] }
def TopEdgeSaid : Prop := topEdgeRow.holds Tryz.pinned (OpenSpec.ofChange topEdgeSpec)

/-- ITS FALSE NEIGHBOUR: 'it returns false'. Refute it at one input. -/
def topEdgeWrong : ChangeSpec := { name := "topEdge", fn := fun _ => fun
  | [d1, d2] => { results := [.lit (.bool false)], args := [d1, d2] }
  | _ => none }
def TopEdgeWrongFalsely : Prop := topEdgeRow.holds Tryz.pinned (OpenSpec.ofChange topEdgeWrong)

/-- 'inktop.TopWhere': WHATEVER THE INPUT: true; the input reads as it did. -/
def topWhereSpec : ChangeSpec := { name := "topWhere", fn := fun _ => fun
  | [d1, d2] => { results := [.lit (.bool true)], args := [d1, d2] }
  | _ => none }
def topWhereRow : OpenClaim := { program := "ytblkldfokeeaeacgreatdoor", sum := "8c64533b234f017722f43b3e2c19e85bc0c063485621a7045f6458faa64eb3b9", func := "inkwell/inktop.TopWhere", spec := "topWhere", inPlace := ["internal/bytealg.IndexByteString", "internal/bytealg.IndexString", "internal/bytealg.CountString", "internal/abi.NoEscape"], unfollowed := true, recurses := true, named := ["internal/bytealg.MaxLen", "inkwell/props.sides", "unicode/utf8.first", "unicode/utf8.acceptRanges", "inkwell/props.instead"], apart := false, laid := [("unicode/utf8.acceptRanges", laid_unicode_utf8_acceptRanges), ("inkwell/props.sides", laid_inkwell_props_sides), ("inkwell/props.instead", laid_inkwell_props_instead), ("unicode/utf8.first", laid_unicode_utf8_first)] }
def TopWhereSaid : Prop := topWhereRow.holds Tryz.pinned (OpenSpec.ofChange topWhereSpec)

/-- ITS FALSE NEIGHBOUR: 'it returns false'. Refute it at one input. -/
def topWhereWrong : ChangeSpec := { name := "topWhere", fn := fun _ => fun
  | [d1, d2] => { results := [.lit (.bool false)], args := [d1, d2] }
  | _ => none }
def TopWhereWrongFalsely : Prop := topWhereRow.holds Tryz.pinned (OpenSpec.ofChange topWhereWrong)

/-- 'inktop.TopOwn': WHATEVER THE INPUT: true; the input reads as it did. -/
def topOwnSpec : ChangeSpec := { name := "topOwn", fn := fun _ => fun
  | [d1, d2, d3] => { results := [.lit (.bool true)], args := [d1, d2, d3] }
  | _ => none }
def topOwnRow : OpenClaim := { program := "ytblkldfokeeaeacgreatdoor", sum := "8c64533b234f017722f43b3e2c19e85bc0c063485621a7045f6458faa64eb3b9", func := "inkwell/inktop.TopOwn", spec := "topOwn", inPlace := ["internal/bytealg.IndexByteString", "internal/bytealg.IndexString", "internal/bytealg.CountString", "internal/abi.NoEscape"], unfollowed := true, recurses := true, named := ["internal/bytealg.MaxLen", "inkwell/props.sides", "unicode/utf8.first", "unicode/utf8.acceptRanges", "inkwell/props.instead"], apart := false, laid := [("unicode/utf8.acceptRanges", laid_unicode_utf8_acceptRanges), ("inkwell/props.sides", laid_inkwell_props_sides), ("inkwell/props.instead", laid_inkwell_props_instead), ("unicode/utf8.first", laid_unicode_utf8_first)] }
def TopOwnSaid : Prop := topOwnRow.holds Tryz.pinned (OpenSpec.ofChange topOwnSpec)

/-- ITS FALSE NEIGHBOUR: 'it returns false'. Refute it at one input. -/
def topOwnWrong : ChangeSpec := { name := "topOwn", fn := fun _ => fun
  | [d1, d2, d3] => { results := [.lit (.bool false)], args := [d1, d2, d3] }
  | _ => none }
def TopOwnWrongFalsely : Prop := topOwnRow.holds Tryz.pinned (OpenSpec.ofChange topOwnWrong)

/- THE SECOND FORM. 'bulk': how many values and letters a reading holds, each counted each time it is reached (what is shared counts as often as it is met; a slice's spare places count too). A statement '..UptoSaid' is the law's where the arguments, and the package variables that the reading takes, are together of bulk at most 1048576: NARROWER than '..Said'. Prove '..Said' where nothing that the law and all that it calls make is longer than what came in: it says more and counts as full. Else prove '..UptoSaid'. A law counts once. -/
mutual
def uptoBulk {H : Type} : DataW H → Nat
  | .lit (.string bytes) => bytes.length + 1
  | .lit _ => 1
  | .nil => 1
  | .ptr d => uptoBulk d + 1
  | .slice elems spare => uptoBulkAll elems + uptoBulkAll spare + 1
  | .agg parts => uptoBulkAll parts + 1
  | .iface _ d => uptoBulk d + 1
  | .map entries => uptoBulkEntries entries + 1
  | .held _ => 1
def uptoBulkAll {H : Type} : List (DataW H) → Nat
  | [] => 0
  | d :: r => uptoBulk d + uptoBulkAll r
def uptoBulkEntries {H : Type} : List (Lit × DataW H) → Nat
  | [] => 0
  | x :: r => uptoBulkEntry x + uptoBulkEntries r
def uptoBulkEntry {H : Type} : Lit × DataW H → Nat
  | (.string bytes, d) => bytes.length + uptoBulk d + 1
  | (_, d) => uptoBulk d + 1
 end
def uptoSmall : (H : Type) → List (DataW H) → Bool := fun _ ds => decide (uptoBulkAll ds ≤ 1048576)
def OpenSpec.upto (s : _root_.Go.ChangeSpec) : _root_.Go.OpenSpec := { _root_.Go.OpenSpec.ofChange s with cond := some uptoSmall }

/-- 'inklaw6.FoldSame', WHERE WHAT IT READS IS OF BULK AT MOST 1048576: true; the input reads as it did. -/
def foldSameUptoRow : OpenClaim := { program := "ytblkldfokeeaeacgreatdoor", sum := "8c64533b234f017722f43b3e2c19e85bc0c063485621a7045f6458faa64eb3b9", func := "inkwell/inklaw6.FoldSame", spec := "foldSame", inPlace := ["internal/bytealg.IndexByteString", "internal/bytealg.IndexString", "internal/bytealg.CountString", "internal/abi.NoEscape"], unfollowed := true, recurses := true, named := ["internal/bytealg.MaxLen", "inkwell/props.sides", "unicode/utf8.first", "unicode/utf8.acceptRanges", "inkwell/props.instead"], apart := false, laid := [("unicode/utf8.acceptRanges", laid_unicode_utf8_acceptRanges), ("inkwell/props.sides", laid_inkwell_props_sides), ("inkwell/props.instead", laid_inkwell_props_instead), ("unicode/utf8.first", laid_unicode_utf8_first)], narrowed := true }
def FoldSameUptoSaid : Prop := foldSameUptoRow.holds Tryz.pinned (OpenSpec.upto foldSameSpec)

/-- 'inklaw6.FoldTwice', WHERE WHAT IT READS IS OF BULK AT MOST 1048576: true; the input reads as it did. -/
def foldTwiceUptoRow : OpenClaim := { program := "ytblkldfokeeaeacgreatdoor", sum := "8c64533b234f017722f43b3e2c19e85bc0c063485621a7045f6458faa64eb3b9", func := "inkwell/inklaw6.FoldTwice", spec := "foldTwice", inPlace := ["internal/bytealg.IndexByteString", "internal/bytealg.IndexString", "internal/bytealg.CountString", "internal/abi.NoEscape"], unfollowed := true, recurses := true, named := ["internal/bytealg.MaxLen", "inkwell/props.sides", "unicode/utf8.first", "unicode/utf8.acceptRanges", "inkwell/props.instead"], apart := false, laid := [("unicode/utf8.acceptRanges", laid_unicode_utf8_acceptRanges), ("inkwell/props.sides", laid_inkwell_props_sides), ("inkwell/props.instead", laid_inkwell_props_instead), ("unicode/utf8.first", laid_unicode_utf8_first)], narrowed := true }
def FoldTwiceUptoSaid : Prop := foldTwiceUptoRow.holds Tryz.pinned (OpenSpec.upto foldTwiceSpec)

/-- 'inklaw6.FoldKeeps', WHERE WHAT IT READS IS OF BULK AT MOST 1048576: true; the input reads as it did. -/
def foldKeepsUptoRow : OpenClaim := { program := "ytblkldfokeeaeacgreatdoor", sum := "8c64533b234f017722f43b3e2c19e85bc0c063485621a7045f6458faa64eb3b9", func := "inkwell/inklaw6.FoldKeeps", spec := "foldKeeps", inPlace := ["internal/bytealg.IndexByteString", "internal/bytealg.IndexString", "internal/bytealg.CountString", "internal/abi.NoEscape"], unfollowed := true, recurses := true, named := ["internal/bytealg.MaxLen", "inkwell/props.sides", "unicode/utf8.first", "unicode/utf8.acceptRanges", "inkwell/props.instead"], apart := false, laid := [("unicode/utf8.acceptRanges", laid_unicode_utf8_acceptRanges), ("inkwell/props.sides", laid_inkwell_props_sides), ("inkwell/props.instead", laid_inkwell_props_instead), ("unicode/utf8.first", laid_unicode_utf8_first)], narrowed := true }
def FoldKeepsUptoSaid : Prop := foldKeepsUptoRow.holds Tryz.pinned (OpenSpec.upto foldKeepsSpec)

/-- 'inklaw6.FoldGone', WHERE WHAT IT READS IS OF BULK AT MOST 1048576: true; the input reads as it did. -/
def foldGoneUptoRow : OpenClaim := { program := "ytblkldfokeeaeacgreatdoor", sum := "8c64533b234f017722f43b3e2c19e85bc0c063485621a7045f6458faa64eb3b9", func := "inkwell/inklaw6.FoldGone", spec := "foldGone", inPlace := ["internal/bytealg.IndexByteString", "internal/bytealg.IndexString", "internal/bytealg.CountString", "internal/abi.NoEscape"], unfollowed := true, recurses := true, named := ["internal/bytealg.MaxLen", "inkwell/props.sides", "unicode/utf8.first", "unicode/utf8.acceptRanges", "inkwell/props.instead"], apart := false, laid := [("unicode/utf8.acceptRanges", laid_unicode_utf8_acceptRanges), ("inkwell/props.sides", laid_inkwell_props_sides), ("inkwell/props.instead", laid_inkwell_props_instead), ("unicode/utf8.first", laid_unicode_utf8_first)], narrowed := true }
def FoldGoneUptoSaid : Prop := foldGoneUptoRow.holds Tryz.pinned (OpenSpec.upto foldGoneSpec)

/-- 'inklaw6.FoldAlone', WHERE WHAT IT READS IS OF BULK AT MOST 1048576: true; the input reads as it did. -/
def foldAloneUptoRow : OpenClaim := { program := "ytblkldfokeeaeacgreatdoor", sum := "8c64533b234f017722f43b3e2c19e85bc0c063485621a7045f6458faa64eb3b9", func := "inkwell/inklaw6.FoldAlone", spec := "foldAlone", inPlace := ["internal/bytealg.IndexByteString", "internal/bytealg.IndexString", "internal/bytealg.CountString", "internal/abi.NoEscape"], unfollowed := true, recurses := true, named := ["internal/bytealg.MaxLen", "inkwell/props.sides", "unicode/utf8.first", "unicode/utf8.acceptRanges", "inkwell/props.instead"], apart := false, laid := [("unicode/utf8.acceptRanges", laid_unicode_utf8_acceptRanges), ("inkwell/props.sides", laid_inkwell_props_sides), ("inkwell/props.instead", laid_inkwell_props_instead), ("unicode/utf8.first", laid_unicode_utf8_first)], narrowed := true }
def FoldAloneUptoSaid : Prop := foldAloneUptoRow.holds Tryz.pinned (OpenSpec.upto foldAloneSpec)

/-- 'inklaw6.FoldPlaces', WHERE WHAT IT READS IS OF BULK AT MOST 1048576: true; the input reads as it did. -/
def foldPlacesUptoRow : OpenClaim := { program := "ytblkldfokeeaeacgreatdoor", sum := "8c64533b234f017722f43b3e2c19e85bc0c063485621a7045f6458faa64eb3b9", func := "inkwell/inklaw6.FoldPlaces", spec := "foldPlaces", inPlace := ["internal/bytealg.IndexByteString", "internal/bytealg.IndexString", "internal/bytealg.CountString", "internal/abi.NoEscape"], unfollowed := true, recurses := true, named := ["internal/bytealg.MaxLen", "inkwell/props.sides", "unicode/utf8.first", "unicode/utf8.acceptRanges", "inkwell/props.instead"], apart := false, laid := [("unicode/utf8.acceptRanges", laid_unicode_utf8_acceptRanges), ("inkwell/props.sides", laid_inkwell_props_sides), ("inkwell/props.instead", laid_inkwell_props_instead), ("unicode/utf8.first", laid_unicode_utf8_first)], narrowed := true }
def FoldPlacesUptoSaid : Prop := foldPlacesUptoRow.holds Tryz.pinned (OpenSpec.upto foldPlacesSpec)

/-- 'inktop.TopWeight', WHERE WHAT IT READS IS OF BULK AT MOST 1048576: true; the input reads as it did. -/
def topWeightUptoRow : OpenClaim := { program := "ytblkldfokeeaeacgreatdoor", sum := "8c64533b234f017722f43b3e2c19e85bc0c063485621a7045f6458faa64eb3b9", func := "inkwell/inktop.TopWeight", spec := "topWeight", inPlace := ["internal/bytealg.IndexByteString", "internal/bytealg.IndexString", "internal/bytealg.CountString", "internal/abi.NoEscape"], unfollowed := true, recurses := true, named := ["internal/bytealg.MaxLen", "inkwell/props.sides", "unicode/utf8.first", "unicode/utf8.acceptRanges", "inkwell/props.instead"], apart := false, laid := [("unicode/utf8.acceptRanges", laid_unicode_utf8_acceptRanges), ("inkwell/props.sides", laid_inkwell_props_sides), ("inkwell/props.instead", laid_inkwell_props_instead), ("unicode/utf8.first", laid_unicode_utf8_first)], narrowed := true }
def TopWeightUptoSaid : Prop := topWeightUptoRow.holds Tryz.pinned (OpenSpec.upto topWeightSpec)

/-- 'inktop.TopStrong', WHERE WHAT IT READS IS OF BULK AT MOST 1048576: true; the input reads as it did. -/
def topStrongUptoRow : OpenClaim := { program := "ytblkldfokeeaeacgreatdoor", sum := "8c64533b234f017722f43b3e2c19e85bc0c063485621a7045f6458faa64eb3b9", func := "inkwell/inktop.TopStrong", spec := "topStrong", inPlace := ["internal/bytealg.IndexByteString", "internal/bytealg.IndexString", "internal/bytealg.CountString", "internal/abi.NoEscape"], unfollowed := true, recurses := true, named := ["internal/bytealg.MaxLen", "inkwell/props.sides", "unicode/utf8.first", "unicode/utf8.acceptRanges", "inkwell/props.instead"], apart := false, laid := [("unicode/utf8.acceptRanges", laid_unicode_utf8_acceptRanges), ("inkwell/props.sides", laid_inkwell_props_sides), ("inkwell/props.instead", laid_inkwell_props_instead), ("unicode/utf8.first", laid_unicode_utf8_first)], narrowed := true }
def TopStrongUptoSaid : Prop := topStrongUptoRow.holds Tryz.pinned (OpenSpec.upto topStrongSpec)

/-- 'inktop.TopMedia', WHERE WHAT IT READS IS OF BULK AT MOST 1048576: true; the input reads as it did. -/
def topMediaUptoRow : OpenClaim := { program := "ytblkldfokeeaeacgreatdoor", sum := "8c64533b234f017722f43b3e2c19e85bc0c063485621a7045f6458faa64eb3b9", func := "inkwell/inktop.TopMedia", spec := "topMedia", inPlace := ["internal/bytealg.IndexByteString", "internal/bytealg.IndexString", "internal/bytealg.CountString", "internal/abi.NoEscape"], unfollowed := true, recurses := true, named := ["internal/bytealg.MaxLen", "inkwell/props.sides", "unicode/utf8.first", "unicode/utf8.acceptRanges", "inkwell/props.instead"], apart := false, laid := [("unicode/utf8.acceptRanges", laid_unicode_utf8_acceptRanges), ("inkwell/props.sides", laid_inkwell_props_sides), ("inkwell/props.instead", laid_inkwell_props_instead), ("unicode/utf8.first", laid_unicode_utf8_first)], narrowed := true }
def TopMediaUptoSaid : Prop := topMediaUptoRow.holds Tryz.pinned (OpenSpec.upto topMediaSpec)

/-- 'inktop.TopEdge', WHERE WHAT IT READS IS OF BULK AT MOST 1048576: true; the input reads as it did. -/
def topEdgeUptoRow : OpenClaim := { program := "ytblkldfokeeaeacgreatdoor", sum := "8c64533b234f017722f43b3e2c19e85bc0c063485621a7045f6458faa64eb3b9", func := "inkwell/inktop.TopEdge", spec := "topEdge", inPlace := ["internal/bytealg.IndexByteString", "internal/bytealg.IndexString", "internal/bytealg.CountString", "internal/abi.NoEscape"], unfollowed := true, recurses := true, named := ["internal/bytealg.MaxLen", "inkwell/props.sides", "unicode/utf8.first", "unicode/utf8.acceptRanges", "inkwell/props.instead"], apart := false, laid := [("unicode/utf8.acceptRanges", laid_unicode_utf8_acceptRanges), ("inkwell/props.sides", laid_inkwell_props_sides), ("inkwell/props.instead", laid_inkwell_props_instead), ("unicode/utf8.first", laid_unicode_utf8_first)], narrowed := true }
def TopEdgeUptoSaid : Prop := topEdgeUptoRow.holds Tryz.pinned (OpenSpec.upto topEdgeSpec)

/-- 'inktop.TopWhere', WHERE WHAT IT READS IS OF BULK AT MOST 1048576: true; the input reads as it did. -/
def topWhereUptoRow : OpenClaim := { program := "ytblkldfokeeaeacgreatdoor", sum := "8c64533b234f017722f43b3e2c19e85bc0c063485621a7045f6458faa64eb3b9", func := "inkwell/inktop.TopWhere", spec := "topWhere", inPlace := ["internal/bytealg.IndexByteString", "internal/bytealg.IndexString", "internal/bytealg.CountString", "internal/abi.NoEscape"], unfollowed := true, recurses := true, named := ["internal/bytealg.MaxLen", "inkwell/props.sides", "unicode/utf8.first", "unicode/utf8.acceptRanges", "inkwell/props.instead"], apart := false, laid := [("unicode/utf8.acceptRanges", laid_unicode_utf8_acceptRanges), ("inkwell/props.sides", laid_inkwell_props_sides), ("inkwell/props.instead", laid_inkwell_props_instead), ("unicode/utf8.first", laid_unicode_utf8_first)], narrowed := true }
def TopWhereUptoSaid : Prop := topWhereUptoRow.holds Tryz.pinned (OpenSpec.upto topWhereSpec)

/-- 'inktop.TopOwn', WHERE WHAT IT READS IS OF BULK AT MOST 1048576: true; the input reads as it did. -/
def topOwnUptoRow : OpenClaim := { program := "ytblkldfokeeaeacgreatdoor", sum := "8c64533b234f017722f43b3e2c19e85bc0c063485621a7045f6458faa64eb3b9", func := "inkwell/inktop.TopOwn", spec := "topOwn", inPlace := ["internal/bytealg.IndexByteString", "internal/bytealg.IndexString", "internal/bytealg.CountString", "internal/abi.NoEscape"], unfollowed := true, recurses := true, named := ["internal/bytealg.MaxLen", "inkwell/props.sides", "unicode/utf8.first", "unicode/utf8.acceptRanges", "inkwell/props.instead"], apart := false, laid := [("unicode/utf8.acceptRanges", laid_unicode_utf8_acceptRanges), ("inkwell/props.sides", laid_inkwell_props_sides), ("inkwell/props.instead", laid_inkwell_props_instead), ("unicode/utf8.first", laid_unicode_utf8_first)], narrowed := true }
def TopOwnUptoSaid : Prop := topOwnUptoRow.holds Tryz.pinned (OpenSpec.upto topOwnSpec)

end Rows
end Go.Proofs.YtblkldfokeeaeacGreatDoor
