/-
  DERIVED. GIVEN WITH THE SEED: THE CARDS: each row of YtnigckmaklbiaabDoorRows.lean that lists a variable, with what it lists TIED to the program's text (the seventh form; the later family's looks); each row that meets fmt, with fmt's text TOLD by the authors' own Lean function (tested against real Go, not proved from fmt's source: count such statements apart). THE CARD IS WHAT COUNTS. Prove the row's statement (the work); the ties are given (YtnigckmaklbiaabDoorTie.lean); close each card by the builder's one call (the guide's Derived/Test/ToyasCard.lean, 'card_holds'). Laid BY PROGRAM, IN A SANDBOX (cutbox-door.mjs). By AI agents, Wed Nov 11 2026. No macro, syntax, notation, axiom, sorry.
-/
import Derived.Test.YtnigckmaklbiaabDoorRows
import GoSem.ClaimSeven
namespace Go.Proofs.YtnigckmaklbiaabDoor
namespace Rows

/-- THE TIED CARD OF 'inklaw3.MatchJoins'. -/
def matchJoinsCard : Claim7 := { stood := { row := matchJoinsRow, standIns := [], harness := (true, "ea1c5c09e5b8b2ff5afb7c63204a23f7ad9600b359f8c72ceb7c1160c0fa51bc"), looks := false }, kinds := [], alts := [], laidByText := true, laidKinds := [.data, .pinned], laidTests := true, laidLooks := .later }
def MatchJoinsCardSaid : Prop := Claim7.holds Tryd.pinned (.plain (OpenSpec.ofChange matchJoinsSpec)) matchJoinsCard

/-- THE TIED CARD OF 'inklaw3.MatchRule'. -/
def matchRuleCard : Claim7 := { stood := { row := matchRuleRow, standIns := [], harness := (true, "ea1c5c09e5b8b2ff5afb7c63204a23f7ad9600b359f8c72ceb7c1160c0fa51bc"), looks := false }, kinds := [], alts := [], laidByText := true, laidKinds := [.data, .pinned], laidTests := true, laidLooks := .later }
def MatchRuleCardSaid : Prop := Claim7.holds Tryd.pinned (.plain (OpenSpec.ofChange matchRuleSpec)) matchRuleCard

/-- THE TIED CARD OF 'inklaw4.PropsTells'. -/
def propsTellsCard : Claim7 := { stood := { row := propsTellsRow, standIns := [], harness := (true, "ea1c5c09e5b8b2ff5afb7c63204a23f7ad9600b359f8c72ceb7c1160c0fa51bc"), looks := false }, kinds := [], alts := [], laidByText := true, laidKinds := [.data, .data, .data, .pinned], laidTests := true, laidLooks := .later }
def PropsTellsCardSaid : Prop := Claim7.holds Tryd.pinned (.plain (OpenSpec.ofChange propsTellsSpec)) propsTellsCard

/-- THE TIED CARD OF 'inklaw4.PropsPlain'. -/
def propsPlainCard : Claim7 := { stood := { row := propsPlainRow, standIns := [], harness := (true, "ea1c5c09e5b8b2ff5afb7c63204a23f7ad9600b359f8c72ceb7c1160c0fa51bc"), looks := false }, kinds := [], alts := [], laidByText := true, laidKinds := [.data, .data, .data, .pinned], laidTests := true, laidLooks := .later }
def PropsPlainCardSaid : Prop := Claim7.holds Tryd.pinned (.plain (OpenSpec.ofChange propsPlainSpec)) propsPlainCard

/-- THE TIED CARD OF 'inklaw4.PropsEdge'. -/
def propsEdgeCard : Claim7 := { stood := { row := propsEdgeRow, standIns := [], harness := (true, "ea1c5c09e5b8b2ff5afb7c63204a23f7ad9600b359f8c72ceb7c1160c0fa51bc"), looks := false }, kinds := [], alts := [], laidByText := true, laidKinds := [.data, .data, .data, .pinned], laidTests := true, laidLooks := .later }
def PropsEdgeCardSaid : Prop := Claim7.holds Tryd.pinned (.plain (OpenSpec.ofChange propsEdgeSpec)) propsEdgeCard

/-- THE SECOND FORM's CARD OF 'inklaw3.MatchJoins'. -/
def matchJoinsUptoCard : Claim7 := { stood := { row := matchJoinsUptoRow, standIns := [], harness := (true, "ea1c5c09e5b8b2ff5afb7c63204a23f7ad9600b359f8c72ceb7c1160c0fa51bc"), looks := false }, kinds := [], alts := [], laidByText := true, laidKinds := [.data, .pinned], laidTests := true, laidLooks := .later }
def MatchJoinsUptoCardSaid : Prop := Claim7.holds Tryd.pinned (.plain (OpenSpec.upto matchJoinsSpec)) matchJoinsUptoCard

/-- THE SECOND FORM's CARD OF 'inklaw3.MatchRule'. -/
def matchRuleUptoCard : Claim7 := { stood := { row := matchRuleUptoRow, standIns := [], harness := (true, "ea1c5c09e5b8b2ff5afb7c63204a23f7ad9600b359f8c72ceb7c1160c0fa51bc"), looks := false }, kinds := [], alts := [], laidByText := true, laidKinds := [.data, .pinned], laidTests := true, laidLooks := .later }
def MatchRuleUptoCardSaid : Prop := Claim7.holds Tryd.pinned (.plain (OpenSpec.upto matchRuleSpec)) matchRuleUptoCard

/-- THE SECOND FORM's CARD OF 'inklaw4.PropsTells'. -/
def propsTellsUptoCard : Claim7 := { stood := { row := propsTellsUptoRow, standIns := [], harness := (true, "ea1c5c09e5b8b2ff5afb7c63204a23f7ad9600b359f8c72ceb7c1160c0fa51bc"), looks := false }, kinds := [], alts := [], laidByText := true, laidKinds := [.data, .data, .data, .pinned], laidTests := true, laidLooks := .later }
def PropsTellsUptoCardSaid : Prop := Claim7.holds Tryd.pinned (.plain (OpenSpec.upto propsTellsSpec)) propsTellsUptoCard

/-- THE SECOND FORM's CARD OF 'inklaw4.PropsPlain'. -/
def propsPlainUptoCard : Claim7 := { stood := { row := propsPlainUptoRow, standIns := [], harness := (true, "ea1c5c09e5b8b2ff5afb7c63204a23f7ad9600b359f8c72ceb7c1160c0fa51bc"), looks := false }, kinds := [], alts := [], laidByText := true, laidKinds := [.data, .data, .data, .pinned], laidTests := true, laidLooks := .later }
def PropsPlainUptoCardSaid : Prop := Claim7.holds Tryd.pinned (.plain (OpenSpec.upto propsPlainSpec)) propsPlainUptoCard

/-- THE SECOND FORM's CARD OF 'inklaw4.PropsEdge'. -/
def propsEdgeUptoCard : Claim7 := { stood := { row := propsEdgeUptoRow, standIns := [], harness := (true, "ea1c5c09e5b8b2ff5afb7c63204a23f7ad9600b359f8c72ceb7c1160c0fa51bc"), looks := false }, kinds := [], alts := [], laidByText := true, laidKinds := [.data, .data, .data, .pinned], laidTests := true, laidLooks := .later }
def PropsEdgeUptoCardSaid : Prop := Claim7.holds Tryd.pinned (.plain (OpenSpec.upto propsEdgeSpec)) propsEdgeUptoCard
end Rows
end Go.Proofs.YtnigckmaklbiaabDoor
