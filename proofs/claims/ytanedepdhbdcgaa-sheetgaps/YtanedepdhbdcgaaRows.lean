/-
  No cell of these rows narrows 'for every input' (looked for: loops, veiled, ifaces, maps, wideKeys, modest, calm, conditions, laid).
  DERIVED. THE GIVEN ROWS OF THIS SEAT. 10 by the template 'for every input the law returns true; each argument reads behind the call as it read before'; 0 by the template 'total and deterministic' (their statements: YtanedepdhbdcgaaTotals.lean).
  GIVEN WITH THE SEED: the statements are not yours to turn. If you find one false, say at which input.
  Laid BY PROGRAM, IN A SANDBOX (cutbox-rows.mjs): the forced cells as the released guide's own fill.sh prints them over the translation 3aa654a7a9753733… (all of the seat's roots in one cut). By AI agents, Wed Nov 11 2026. No macro, syntax, notation, axiom, sorry.
-/
import Derived.Test.YtanedepdhbdcgaaChecked
import GoSem.Claim
import GoSem.ClaimJoined
import GoSem.ClaimMapViews
import Derived.JoinedTies
import Derived.KernelRfl
namespace Go.Proofs.Ytanedepdhbdcgaa
/- THE CELL 'sum', in the pinned program and in every row, IS THE sha256 OF THE DUMP (.gsa) THAT YtanedepdhbdcgaaProg.lean LOADS. Nothing in Lean hashes anything: it is a label: what it is worth is what the hold of that sum in a sandbox is worth. -/
noncomputable def Try.pinned : Pinned := { name := "ytanedepdhbdcgaa", sum := "3aa654a7a97537337c88a00275489a984e9853a22becaeff79b24131bf2ef48b", checked := Try.checked }
namespace Rows
def none {H : Type} : Left H := { results := [], args := [] }

/-- 'inklaw1.PageTells': WHATEVER THE INPUT: true; the input reads as it did. -/
def pageTellsSpec : ChangeSpec := { name := "pageTells", fn := fun _ => fun
  | [d1, d2, d3] => { results := [.lit (.bool true)], args := [d1, d2, d3] }
  | _ => none }
def pageTellsRow : OpenClaim := { program := "ytanedepdhbdcgaa", sum := "3aa654a7a97537337c88a00275489a984e9853a22becaeff79b24131bf2ef48b", func := "inkwell/inklaw1.PageTells", spec := "pageTells", inPlace := ["internal/bytealg.IndexByteString", "internal/bytealg.IndexString"], unfollowed := true, recurses := true, named := ["internal/bytealg.MaxLen"], apart := false }
def PageTellsSaid : Prop := pageTellsRow.holds Try.pinned (OpenSpec.ofChange pageTellsSpec)

/-- ITS FALSE NEIGHBOUR: 'it returns false'. Refute it at one input. -/
def pageTellsWrong : ChangeSpec := { name := "pageTells", fn := fun _ => fun
  | [d1, d2, d3] => { results := [.lit (.bool false)], args := [d1, d2, d3] }
  | _ => none }
def PageTellsWrongFalsely : Prop := pageTellsRow.holds Try.pinned (OpenSpec.ofChange pageTellsWrong)

/-- 'inklaw1.PagePlaces': WHATEVER THE INPUT: true; the input reads as it did. -/
def pagePlacesSpec : ChangeSpec := { name := "pagePlaces", fn := fun _ => fun
  | [d] => { results := [.lit (.bool true)], args := [d] }
  | _ => none }
def pagePlacesRow : OpenClaim := { program := "ytanedepdhbdcgaa", sum := "3aa654a7a97537337c88a00275489a984e9853a22becaeff79b24131bf2ef48b", func := "inkwell/inklaw1.PagePlaces", spec := "pagePlaces", inPlace := ["internal/bytealg.IndexByteString", "internal/bytealg.IndexString"], unfollowed := true, recurses := true, named := ["internal/bytealg.MaxLen"], apart := false }
def PagePlacesSaid : Prop := pagePlacesRow.holds Try.pinned (OpenSpec.ofChange pagePlacesSpec)

/-- ITS FALSE NEIGHBOUR: 'it returns false'. Refute it at one input. -/
def pagePlacesWrong : ChangeSpec := { name := "pagePlaces", fn := fun _ => fun
  | [d] => { results := [.lit (.bool false)], args := [d] }
  | _ => none }
def PagePlacesWrongFalsely : Prop := pagePlacesRow.holds Try.pinned (OpenSpec.ofChange pagePlacesWrong)

/-- 'inklaw1.PageJoined': WHATEVER THE INPUT: true; the input reads as it did. -/
def pageJoinedSpec : ChangeSpec := { name := "pageJoined", fn := fun _ => fun
  | [d1, d2] => { results := [.lit (.bool true)], args := [d1, d2] }
  | _ => none }
def pageJoinedRow : OpenClaim := { program := "ytanedepdhbdcgaa", sum := "3aa654a7a97537337c88a00275489a984e9853a22becaeff79b24131bf2ef48b", func := "inkwell/inklaw1.PageJoined", spec := "pageJoined", inPlace := ["internal/bytealg.IndexByteString", "internal/bytealg.IndexString"], unfollowed := true, recurses := true, named := ["internal/bytealg.MaxLen"], apart := false }
def PageJoinedSaid : Prop := pageJoinedRow.holds Try.pinned (OpenSpec.ofChange pageJoinedSpec)

/-- ITS FALSE NEIGHBOUR: 'it returns false'. Refute it at one input. -/
def pageJoinedWrong : ChangeSpec := { name := "pageJoined", fn := fun _ => fun
  | [d1, d2] => { results := [.lit (.bool false)], args := [d1, d2] }
  | _ => none }
def PageJoinedWrongFalsely : Prop := pageJoinedRow.holds Try.pinned (OpenSpec.ofChange pageJoinedWrong)

/-- 'inklaw1.PageWrapped': WHATEVER THE INPUT: true; the input reads as it did. -/
def pageWrappedSpec : ChangeSpec := { name := "pageWrapped", fn := fun _ => fun
  | [d] => { results := [.lit (.bool true)], args := [d] }
  | _ => none }
def pageWrappedRow : OpenClaim := { program := "ytanedepdhbdcgaa", sum := "3aa654a7a97537337c88a00275489a984e9853a22becaeff79b24131bf2ef48b", func := "inkwell/inklaw1.PageWrapped", spec := "pageWrapped", inPlace := ["internal/bytealg.IndexByteString", "internal/bytealg.IndexString"], unfollowed := true, recurses := true, named := ["internal/bytealg.MaxLen"], apart := false }
def PageWrappedSaid : Prop := pageWrappedRow.holds Try.pinned (OpenSpec.ofChange pageWrappedSpec)

/-- ITS FALSE NEIGHBOUR: 'it returns false'. Refute it at one input. -/
def pageWrappedWrong : ChangeSpec := { name := "pageWrapped", fn := fun _ => fun
  | [d] => { results := [.lit (.bool false)], args := [d] }
  | _ => none }
def PageWrappedWrongFalsely : Prop := pageWrappedRow.holds Try.pinned (OpenSpec.ofChange pageWrappedWrong)

/-- 'inklaw2.SheetTells': WHATEVER THE INPUT: true; the input reads as it did. -/
def sheetTellsSpec : ChangeSpec := { name := "sheetTells", fn := fun _ => fun
  | [d1, d2] => { results := [.lit (.bool true)], args := [d1, d2] }
  | _ => none }
def sheetTellsRow : OpenClaim := { program := "ytanedepdhbdcgaa", sum := "3aa654a7a97537337c88a00275489a984e9853a22becaeff79b24131bf2ef48b", func := "inkwell/inklaw2.SheetTells", spec := "sheetTells", inPlace := ["internal/bytealg.IndexByteString", "internal/bytealg.IndexString", "internal/abi.NoEscape"], unfollowed := true, recurses := true, named := ["internal/bytealg.MaxLen"], apart := false }
def SheetTellsSaid : Prop := sheetTellsRow.holds Try.pinned (OpenSpec.ofChange sheetTellsSpec)

/-- ITS FALSE NEIGHBOUR: 'it returns false'. Refute it at one input. -/
def sheetTellsWrong : ChangeSpec := { name := "sheetTells", fn := fun _ => fun
  | [d1, d2] => { results := [.lit (.bool false)], args := [d1, d2] }
  | _ => none }
def SheetTellsWrongFalsely : Prop := sheetTellsRow.holds Try.pinned (OpenSpec.ofChange sheetTellsWrong)

/-- 'inklaw2.SheetTurns': WHATEVER THE INPUT: true; the input reads as it did. -/
def sheetTurnsSpec : ChangeSpec := { name := "sheetTurns", fn := fun _ => fun
  | [d] => { results := [.lit (.bool true)], args := [d] }
  | _ => none }
def sheetTurnsRow : OpenClaim := { program := "ytanedepdhbdcgaa", sum := "3aa654a7a97537337c88a00275489a984e9853a22becaeff79b24131bf2ef48b", func := "inkwell/inklaw2.SheetTurns", spec := "sheetTurns", inPlace := ["internal/bytealg.IndexByteString", "internal/bytealg.IndexString", "internal/abi.NoEscape"], unfollowed := true, recurses := true, named := ["internal/bytealg.MaxLen"], apart := false }
def SheetTurnsSaid : Prop := sheetTurnsRow.holds Try.pinned (OpenSpec.ofChange sheetTurnsSpec)

/-- ITS FALSE NEIGHBOUR: 'it returns false'. Refute it at one input. -/
def sheetTurnsWrong : ChangeSpec := { name := "sheetTurns", fn := fun _ => fun
  | [d] => { results := [.lit (.bool false)], args := [d] }
  | _ => none }
def SheetTurnsWrongFalsely : Prop := sheetTurnsRow.holds Try.pinned (OpenSpec.ofChange sheetTurnsWrong)

/-- 'inklaw2.SheetGaps': WHATEVER THE INPUT: true; the input reads as it did. -/
def sheetGapsSpec : ChangeSpec := { name := "sheetGaps", fn := fun _ => fun
  | [d1, d2] => { results := [.lit (.bool true)], args := [d1, d2] }
  | _ => none }
def sheetGapsRow : OpenClaim := { program := "ytanedepdhbdcgaa", sum := "3aa654a7a97537337c88a00275489a984e9853a22becaeff79b24131bf2ef48b", func := "inkwell/inklaw2.SheetGaps", spec := "sheetGaps", inPlace := ["internal/bytealg.IndexByteString", "internal/bytealg.IndexString", "internal/abi.NoEscape"], unfollowed := true, recurses := true, named := ["internal/bytealg.MaxLen"], apart := false }
def SheetGapsSaid : Prop := sheetGapsRow.holds Try.pinned (OpenSpec.ofChange sheetGapsSpec)

/-- ITS FALSE NEIGHBOUR: 'it returns false'. Refute it at one input. -/
def sheetGapsWrong : ChangeSpec := { name := "sheetGaps", fn := fun _ => fun
  | [d1, d2] => { results := [.lit (.bool false)], args := [d1, d2] }
  | _ => none }
def SheetGapsWrongFalsely : Prop := sheetGapsRow.holds Try.pinned (OpenSpec.ofChange sheetGapsWrong)

/-- 'inklaw2.SheetPlaces': WHATEVER THE INPUT: true; the input reads as it did. -/
def sheetPlacesSpec : ChangeSpec := { name := "sheetPlaces", fn := fun _ => fun
  | [d] => { results := [.lit (.bool true)], args := [d] }
  | _ => none }
def sheetPlacesRow : OpenClaim := { program := "ytanedepdhbdcgaa", sum := "3aa654a7a97537337c88a00275489a984e9853a22becaeff79b24131bf2ef48b", func := "inkwell/inklaw2.SheetPlaces", spec := "sheetPlaces", inPlace := ["internal/bytealg.IndexByteString", "internal/bytealg.IndexString", "internal/abi.NoEscape"], unfollowed := true, recurses := true, named := ["internal/bytealg.MaxLen"], apart := false }
def SheetPlacesSaid : Prop := sheetPlacesRow.holds Try.pinned (OpenSpec.ofChange sheetPlacesSpec)

/-- ITS FALSE NEIGHBOUR: 'it returns false'. Refute it at one input. -/
def sheetPlacesWrong : ChangeSpec := { name := "sheetPlaces", fn := fun _ => fun
  | [d] => { results := [.lit (.bool false)], args := [d] }
  | _ => none }
def SheetPlacesWrongFalsely : Prop := sheetPlacesRow.holds Try.pinned (OpenSpec.ofChange sheetPlacesWrong)

/-- 'inklaw2.SheetJoined': WHATEVER THE INPUT: true; the input reads as it did. -/
def sheetJoinedSpec : ChangeSpec := { name := "sheetJoined", fn := fun _ => fun
  | [d1, d2] => { results := [.lit (.bool true)], args := [d1, d2] }
  | _ => none }
def sheetJoinedRow : OpenClaim := { program := "ytanedepdhbdcgaa", sum := "3aa654a7a97537337c88a00275489a984e9853a22becaeff79b24131bf2ef48b", func := "inkwell/inklaw2.SheetJoined", spec := "sheetJoined", inPlace := ["internal/bytealg.IndexByteString", "internal/bytealg.IndexString", "internal/abi.NoEscape"], unfollowed := true, recurses := true, named := ["internal/bytealg.MaxLen"], apart := false }
def SheetJoinedSaid : Prop := sheetJoinedRow.holds Try.pinned (OpenSpec.ofChange sheetJoinedSpec)

/-- ITS FALSE NEIGHBOUR: 'it returns false'. Refute it at one input. -/
def sheetJoinedWrong : ChangeSpec := { name := "sheetJoined", fn := fun _ => fun
  | [d1, d2] => { results := [.lit (.bool false)], args := [d1, d2] }
  | _ => none }
def SheetJoinedWrongFalsely : Prop := sheetJoinedRow.holds Try.pinned (OpenSpec.ofChange sheetJoinedWrong)

/-- 'inklaw2.SheetMedia': WHATEVER THE INPUT: true; the input reads as it did. -/
def sheetMediaSpec : ChangeSpec := { name := "sheetMedia", fn := fun _ => fun
  | [d] => { results := [.lit (.bool true)], args := [d] }
  | _ => none }
def sheetMediaRow : OpenClaim := { program := "ytanedepdhbdcgaa", sum := "3aa654a7a97537337c88a00275489a984e9853a22becaeff79b24131bf2ef48b", func := "inkwell/inklaw2.SheetMedia", spec := "sheetMedia", inPlace := ["internal/bytealg.IndexByteString", "internal/bytealg.IndexString", "internal/abi.NoEscape"], unfollowed := true, recurses := true, named := ["internal/bytealg.MaxLen"], apart := false }
def SheetMediaSaid : Prop := sheetMediaRow.holds Try.pinned (OpenSpec.ofChange sheetMediaSpec)

/-- ITS FALSE NEIGHBOUR: 'it returns false'. Refute it at one input. -/
def sheetMediaWrong : ChangeSpec := { name := "sheetMedia", fn := fun _ => fun
  | [d] => { results := [.lit (.bool false)], args := [d] }
  | _ => none }
def SheetMediaWrongFalsely : Prop := sheetMediaRow.holds Try.pinned (OpenSpec.ofChange sheetMediaWrong)

/- THE SECOND FORM. 'bulk': how many values and letters a reading holds, each counted each time it is reached (what is shared counts as often as it is met; a slice's spare places count too). A statement '..UptoSaid' is the law's where the arguments, and the package variables that the reading takes, are together of bulk at most 1048576: NARROWER than '..Said'. Prove '..Said' where nothing that the law and all that it calls make is longer than what came in: it says more and counts as full. Else prove '..UptoSaid'. A law counts once. -/
mutual
def uptoBulk {H : Type} : DataW H → Nat
  | .lit (.string bytes) => bytes.length + 1
  | .lit _ => 1
  | .nil => 1
  | .ptr d => uptoBulk d + 1
  | .slice elems spare => uptoBulkAll elems + uptoBulkAll spare + 1
  | .agg parts => uptoBulkAll parts + 1
  | .iface _ d => uptoBulk d + 1
  | .map entries => uptoBulkEntries entries + 1
  | .held _ => 1
def uptoBulkAll {H : Type} : List (DataW H) → Nat
  | [] => 0
  | d :: r => uptoBulk d + uptoBulkAll r
def uptoBulkEntries {H : Type} : List (Lit × DataW H) → Nat
  | [] => 0
  | x :: r => uptoBulkEntry x + uptoBulkEntries r
def uptoBulkEntry {H : Type} : Lit × DataW H → Nat
  | (.string bytes, d) => bytes.length + uptoBulk d + 1
  | (_, d) => uptoBulk d + 1
 end
def uptoSmall : (H : Type) → List (DataW H) → Bool := fun _ ds => decide (uptoBulkAll ds ≤ 1048576)
def OpenSpec.upto (s : _root_.Go.ChangeSpec) : _root_.Go.OpenSpec := { _root_.Go.OpenSpec.ofChange s with cond := some uptoSmall }

/-- 'inklaw1.PageTells', WHERE WHAT IT READS IS OF BULK AT MOST 1048576: true; the input reads as it did. -/
def pageTellsUptoRow : OpenClaim := { program := "ytanedepdhbdcgaa", sum := "3aa654a7a97537337c88a00275489a984e9853a22becaeff79b24131bf2ef48b", func := "inkwell/inklaw1.PageTells", spec := "pageTells", inPlace := ["internal/bytealg.IndexByteString", "internal/bytealg.IndexString"], unfollowed := true, recurses := true, named := ["internal/bytealg.MaxLen"], apart := false, narrowed := true }
def PageTellsUptoSaid : Prop := pageTellsUptoRow.holds Try.pinned (OpenSpec.upto pageTellsSpec)

/-- 'inklaw1.PagePlaces', WHERE WHAT IT READS IS OF BULK AT MOST 1048576: true; the input reads as it did. -/
def pagePlacesUptoRow : OpenClaim := { program := "ytanedepdhbdcgaa", sum := "3aa654a7a97537337c88a00275489a984e9853a22becaeff79b24131bf2ef48b", func := "inkwell/inklaw1.PagePlaces", spec := "pagePlaces", inPlace := ["internal/bytealg.IndexByteString", "internal/bytealg.IndexString"], unfollowed := true, recurses := true, named := ["internal/bytealg.MaxLen"], apart := false, narrowed := true }
def PagePlacesUptoSaid : Prop := pagePlacesUptoRow.holds Try.pinned (OpenSpec.upto pagePlacesSpec)

/-- 'inklaw1.PageJoined', WHERE WHAT IT READS IS OF BULK AT MOST 1048576: true; the input reads as it did. -/
def pageJoinedUptoRow : OpenClaim := { program := "ytanedepdhbdcgaa", sum := "3aa654a7a97537337c88a00275489a984e9853a22becaeff79b24131bf2ef48b", func := "inkwell/inklaw1.PageJoined", spec := "pageJoined", inPlace := ["internal/bytealg.IndexByteString", "internal/bytealg.IndexString"], unfollowed := true, recurses := true, named := ["internal/bytealg.MaxLen"], apart := false, narrowed := true }
def PageJoinedUptoSaid : Prop := pageJoinedUptoRow.holds Try.pinned (OpenSpec.upto pageJoinedSpec)

/-- 'inklaw1.PageWrapped', WHERE WHAT IT READS IS OF BULK AT MOST 1048576: true; the input reads as it did. -/
def pageWrappedUptoRow : OpenClaim := { program := "ytanedepdhbdcgaa", sum := "3aa654a7a97537337c88a00275489a984e9853a22becaeff79b24131bf2ef48b", func := "inkwell/inklaw1.PageWrapped", spec := "pageWrapped", inPlace := ["internal/bytealg.IndexByteString", "internal/bytealg.IndexString"], unfollowed := true, recurses := true, named := ["internal/bytealg.MaxLen"], apart := false, narrowed := true }
def PageWrappedUptoSaid : Prop := pageWrappedUptoRow.holds Try.pinned (OpenSpec.upto pageWrappedSpec)

/-- 'inklaw2.SheetTells', WHERE WHAT IT READS IS OF BULK AT MOST 1048576: true; the input reads as it did. -/
def sheetTellsUptoRow : OpenClaim := { program := "ytanedepdhbdcgaa", sum := "3aa654a7a97537337c88a00275489a984e9853a22becaeff79b24131bf2ef48b", func := "inkwell/inklaw2.SheetTells", spec := "sheetTells", inPlace := ["internal/bytealg.IndexByteString", "internal/bytealg.IndexString", "internal/abi.NoEscape"], unfollowed := true, recurses := true, named := ["internal/bytealg.MaxLen"], apart := false, narrowed := true }
def SheetTellsUptoSaid : Prop := sheetTellsUptoRow.holds Try.pinned (OpenSpec.upto sheetTellsSpec)

/-- 'inklaw2.SheetTurns', WHERE WHAT IT READS IS OF BULK AT MOST 1048576: true; the input reads as it did. -/
def sheetTurnsUptoRow : OpenClaim := { program := "ytanedepdhbdcgaa", sum := "3aa654a7a97537337c88a00275489a984e9853a22becaeff79b24131bf2ef48b", func := "inkwell/inklaw2.SheetTurns", spec := "sheetTurns", inPlace := ["internal/bytealg.IndexByteString", "internal/bytealg.IndexString", "internal/abi.NoEscape"], unfollowed := true, recurses := true, named := ["internal/bytealg.MaxLen"], apart := false, narrowed := true }
def SheetTurnsUptoSaid : Prop := sheetTurnsUptoRow.holds Try.pinned (OpenSpec.upto sheetTurnsSpec)

/-- 'inklaw2.SheetGaps', WHERE WHAT IT READS IS OF BULK AT MOST 1048576: true; the input reads as it did. -/
def sheetGapsUptoRow : OpenClaim := { program := "ytanedepdhbdcgaa", sum := "3aa654a7a97537337c88a00275489a984e9853a22becaeff79b24131bf2ef48b", func := "inkwell/inklaw2.SheetGaps", spec := "sheetGaps", inPlace := ["internal/bytealg.IndexByteString", "internal/bytealg.IndexString", "internal/abi.NoEscape"], unfollowed := true, recurses := true, named := ["internal/bytealg.MaxLen"], apart := false, narrowed := true }
def SheetGapsUptoSaid : Prop := sheetGapsUptoRow.holds Try.pinned (OpenSpec.upto sheetGapsSpec)

/-- 'inklaw2.SheetPlaces', WHERE WHAT IT READS IS OF BULK AT MOST 1048576: true; the input reads as it did. -/
def sheetPlacesUptoRow : OpenClaim := { program := "ytanedepdhbdcgaa", sum := "3aa654a7a97537337c88a00275489a984e9853a22becaeff79b24131bf2ef48b", func := "inkwell/inklaw2.SheetPlaces", spec := "sheetPlaces", inPlace := ["internal/bytealg.IndexByteString", "internal/bytealg.IndexString", "internal/abi.NoEscape"], unfollowed := true, recurses := true, named := ["internal/bytealg.MaxLen"], apart := false, narrowed := true }
def SheetPlacesUptoSaid : Prop := sheetPlacesUptoRow.holds Try.pinned (OpenSpec.upto sheetPlacesSpec)

/-- 'inklaw2.SheetJoined', WHERE WHAT IT READS IS OF BULK AT MOST 1048576: true; the input reads as it did. -/
def sheetJoinedUptoRow : OpenClaim := { program := "ytanedepdhbdcgaa", sum := "3aa654a7a97537337c88a00275489a984e9853a22becaeff79b24131bf2ef48b", func := "inkwell/inklaw2.SheetJoined", spec := "sheetJoined", inPlace := ["internal/bytealg.IndexByteString", "internal/bytealg.IndexString", "internal/abi.NoEscape"], unfollowed := true, recurses := true, named := ["internal/bytealg.MaxLen"], apart := false, narrowed := true }
def SheetJoinedUptoSaid : Prop := sheetJoinedUptoRow.holds Try.pinned (OpenSpec.upto sheetJoinedSpec)

/-- 'inklaw2.SheetMedia', WHERE WHAT IT READS IS OF BULK AT MOST 1048576: true; the input reads as it did. -/
def sheetMediaUptoRow : OpenClaim := { program := "ytanedepdhbdcgaa", sum := "3aa654a7a97537337c88a00275489a984e9853a22becaeff79b24131bf2ef48b", func := "inkwell/inklaw2.SheetMedia", spec := "sheetMedia", inPlace := ["internal/bytealg.IndexByteString", "internal/bytealg.IndexString", "internal/abi.NoEscape"], unfollowed := true, recurses := true, named := ["internal/bytealg.MaxLen"], apart := false, narrowed := true }
def SheetMediaUptoSaid : Prop := sheetMediaUptoRow.holds Try.pinned (OpenSpec.upto sheetMediaSpec)

end Rows
end Go.Proofs.Ytanedepdhbdcgaa
