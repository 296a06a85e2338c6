/-
  DERIVED. GIVEN WITH THE SEED: THE CARDS: each row of YtfobkiglmphgjabGreatDoorRows.lean that lists a variable, with what it lists TIED to the program's text (the seventh form; the later family's looks); each row that meets fmt, with fmt's text TOLD by the authors' own Lean function (tested against real Go, not proved from fmt's source: count such statements apart). THE CARD IS WHAT COUNTS. Prove the row's statement (the work); the ties are given (YtfobkiglmphgjabGreatDoorTie.lean); close each card by the builder's one call (the guide's Derived/Test/ToyasCard.lean, 'card_holds'). Laid BY PROGRAM, IN A SANDBOX (cutbox-door.mjs). By AI agents, Wed Nov 11 2026. No macro, syntax, notation, axiom, sorry.
-/
import Derived.Test.YtfobkiglmphgjabGreatDoorRows
import GoSem.ClaimSeven
namespace Go.Proofs.YtfobkiglmphgjabGreatDoor
namespace Rows

/-- THE TIED CARD OF 'inklaw5.CascadeTells'. -/
def cascadeTellsCard : Claim7 := { stood := { row := cascadeTellsRow, standIns := [], harness := (true, "297e1f44e954abf73daab21e5998bed6a291b59ab05830c01f92292064cdff65"), looks := true }, kinds := [], alts := [], laidByText := true, laidKinds := [.data, .data, .data, .pinned], laidTests := true, laidLooks := .later }
def CascadeTellsCardSaid : Prop := Claim7.holds Tryz.pinned (.plain (OpenSpec.ofChange cascadeTellsSpec)) cascadeTellsCard

/-- THE TIED CARD OF 'inklaw5.CascadeOrder'. -/
def cascadeOrderCard : Claim7 := { stood := { row := cascadeOrderRow, standIns := [], harness := (true, "297e1f44e954abf73daab21e5998bed6a291b59ab05830c01f92292064cdff65"), looks := true }, kinds := [], alts := [], laidByText := true, laidKinds := [.data, .data, .data, .pinned], laidTests := true, laidLooks := .later }
def CascadeOrderCardSaid : Prop := Claim7.holds Tryz.pinned (.plain (OpenSpec.ofChange cascadeOrderSpec)) cascadeOrderCard

/-- THE TIED CARD OF 'inklaw5.CascadeStrong'. -/
def cascadeStrongCard : Claim7 := { stood := { row := cascadeStrongRow, standIns := [], harness := (true, "297e1f44e954abf73daab21e5998bed6a291b59ab05830c01f92292064cdff65"), looks := true }, kinds := [], alts := [], laidByText := true, laidKinds := [.data, .data, .data, .pinned], laidTests := true, laidLooks := .later }
def CascadeStrongCardSaid : Prop := Claim7.holds Tryz.pinned (.plain (OpenSpec.ofChange cascadeStrongSpec)) cascadeStrongCard

/-- THE TIED CARD OF 'inklaw5.CascadeInherits'. -/
def cascadeInheritsCard : Claim7 := { stood := { row := cascadeInheritsRow, standIns := [], harness := (true, "297e1f44e954abf73daab21e5998bed6a291b59ab05830c01f92292064cdff65"), looks := true }, kinds := [], alts := [], laidByText := true, laidKinds := [.data, .data, .data, .pinned], laidTests := true, laidLooks := .later }
def CascadeInheritsCardSaid : Prop := Claim7.holds Tryz.pinned (.plain (OpenSpec.ofChange cascadeInheritsSpec)) cascadeInheritsCard

/-- THE TIED CARD OF 'inklaw5.CascadeMedia'. -/
def cascadeMediaCard : Claim7 := { stood := { row := cascadeMediaRow, standIns := [], harness := (true, "297e1f44e954abf73daab21e5998bed6a291b59ab05830c01f92292064cdff65"), looks := true }, kinds := [], alts := [], laidByText := true, laidKinds := [.data, .data, .data, .pinned], laidTests := true, laidLooks := .later }
def CascadeMediaCardSaid : Prop := Claim7.holds Tryz.pinned (.plain (OpenSpec.ofChange cascadeMediaSpec)) cascadeMediaCard

/-- THE TIED CARD OF 'inklaw5.CascadeSplit'. -/
def cascadeSplitCard : Claim7 := { stood := { row := cascadeSplitRow, standIns := [], harness := (true, "297e1f44e954abf73daab21e5998bed6a291b59ab05830c01f92292064cdff65"), looks := true }, kinds := [], alts := [], laidByText := true, laidKinds := [.data, .data, .data, .pinned], laidTests := true, laidLooks := .later }
def CascadeSplitCardSaid : Prop := Claim7.holds Tryz.pinned (.plain (OpenSpec.ofChange cascadeSplitSpec)) cascadeSplitCard

/-- THE SECOND FORM's CARD OF 'inklaw5.CascadeTells'. -/
def cascadeTellsUptoCard : Claim7 := { stood := { row := cascadeTellsUptoRow, standIns := [], harness := (true, "297e1f44e954abf73daab21e5998bed6a291b59ab05830c01f92292064cdff65"), looks := true }, kinds := [], alts := [], laidByText := true, laidKinds := [.data, .data, .data, .pinned], laidTests := true, laidLooks := .later }
def CascadeTellsUptoCardSaid : Prop := Claim7.holds Tryz.pinned (.plain (OpenSpec.upto cascadeTellsSpec)) cascadeTellsUptoCard

/-- THE SECOND FORM's CARD OF 'inklaw5.CascadeOrder'. -/
def cascadeOrderUptoCard : Claim7 := { stood := { row := cascadeOrderUptoRow, standIns := [], harness := (true, "297e1f44e954abf73daab21e5998bed6a291b59ab05830c01f92292064cdff65"), looks := true }, kinds := [], alts := [], laidByText := true, laidKinds := [.data, .data, .data, .pinned], laidTests := true, laidLooks := .later }
def CascadeOrderUptoCardSaid : Prop := Claim7.holds Tryz.pinned (.plain (OpenSpec.upto cascadeOrderSpec)) cascadeOrderUptoCard

/-- THE SECOND FORM's CARD OF 'inklaw5.CascadeStrong'. -/
def cascadeStrongUptoCard : Claim7 := { stood := { row := cascadeStrongUptoRow, standIns := [], harness := (true, "297e1f44e954abf73daab21e5998bed6a291b59ab05830c01f92292064cdff65"), looks := true }, kinds := [], alts := [], laidByText := true, laidKinds := [.data, .data, .data, .pinned], laidTests := true, laidLooks := .later }
def CascadeStrongUptoCardSaid : Prop := Claim7.holds Tryz.pinned (.plain (OpenSpec.upto cascadeStrongSpec)) cascadeStrongUptoCard

/-- THE SECOND FORM's CARD OF 'inklaw5.CascadeInherits'. -/
def cascadeInheritsUptoCard : Claim7 := { stood := { row := cascadeInheritsUptoRow, standIns := [], harness := (true, "297e1f44e954abf73daab21e5998bed6a291b59ab05830c01f92292064cdff65"), looks := true }, kinds := [], alts := [], laidByText := true, laidKinds := [.data, .data, .data, .pinned], laidTests := true, laidLooks := .later }
def CascadeInheritsUptoCardSaid : Prop := Claim7.holds Tryz.pinned (.plain (OpenSpec.upto cascadeInheritsSpec)) cascadeInheritsUptoCard

/-- THE SECOND FORM's CARD OF 'inklaw5.CascadeMedia'. -/
def cascadeMediaUptoCard : Claim7 := { stood := { row := cascadeMediaUptoRow, standIns := [], harness := (true, "297e1f44e954abf73daab21e5998bed6a291b59ab05830c01f92292064cdff65"), looks := true }, kinds := [], alts := [], laidByText := true, laidKinds := [.data, .data, .data, .pinned], laidTests := true, laidLooks := .later }
def CascadeMediaUptoCardSaid : Prop := Claim7.holds Tryz.pinned (.plain (OpenSpec.upto cascadeMediaSpec)) cascadeMediaUptoCard

/-- THE SECOND FORM's CARD OF 'inklaw5.CascadeSplit'. -/
def cascadeSplitUptoCard : Claim7 := { stood := { row := cascadeSplitUptoRow, standIns := [], harness := (true, "297e1f44e954abf73daab21e5998bed6a291b59ab05830c01f92292064cdff65"), looks := true }, kinds := [], alts := [], laidByText := true, laidKinds := [.data, .data, .data, .pinned], laidTests := true, laidLooks := .later }
def CascadeSplitUptoCardSaid : Prop := Claim7.holds Tryz.pinned (.plain (OpenSpec.upto cascadeSplitSpec)) cascadeSplitUptoCard
end Rows
end Go.Proofs.YtfobkiglmphgjabGreatDoor
