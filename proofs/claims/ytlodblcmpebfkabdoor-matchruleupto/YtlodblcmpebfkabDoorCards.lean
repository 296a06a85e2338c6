/-
  DERIVED. GIVEN WITH THE SEED: THE CARDS: each row of YtlodblcmpebfkabDoorRows.lean that lists a variable, with what it lists TIED to the program's text (the seventh form; the later family's looks); each row that meets fmt, with fmt's text TOLD by the authors' own Lean function (tested against real Go, not proved from fmt's source: count such statements apart). THE CARD IS WHAT COUNTS. Prove the row's statement (the work); the ties are given (YtlodblcmpebfkabDoorTie.lean); close each card by the builder's one call (the guide's Derived/Test/ToyasCard.lean, 'card_holds'). Laid BY PROGRAM, IN A SANDBOX (cutbox-door.mjs). By AI agents, Wed Nov 11 2026. No macro, syntax, notation, axiom, sorry.
-/
import Derived.Test.YtlodblcmpebfkabDoorRows
import GoSem.ClaimSeven
namespace Go.Proofs.YtlodblcmpebfkabDoor
namespace Rows

/-- THE TIED CARD OF 'inklaw3.MatchJoins'. -/
def matchJoinsCard : Claim7 := { stood := { row := matchJoinsRow, standIns := [], harness := (true, "29d6dd841cb9a65861a5afcb8f313142bfb818899d35b4266c7662b93061c759"), looks := false }, kinds := [], alts := [], laidByText := true, laidKinds := [.data, .pinned], laidTests := true, laidLooks := .later }
def MatchJoinsCardSaid : Prop := Claim7.holds Tryd.pinned (.plain (OpenSpec.ofChange matchJoinsSpec)) matchJoinsCard

/-- THE TIED CARD OF 'inklaw3.MatchRule'. -/
def matchRuleCard : Claim7 := { stood := { row := matchRuleRow, standIns := [], harness := (true, "29d6dd841cb9a65861a5afcb8f313142bfb818899d35b4266c7662b93061c759"), looks := false }, kinds := [], alts := [], laidByText := true, laidKinds := [.data, .pinned], laidTests := true, laidLooks := .later }
def MatchRuleCardSaid : Prop := Claim7.holds Tryd.pinned (.plain (OpenSpec.ofChange matchRuleSpec)) matchRuleCard

/-- THE SECOND FORM's CARD OF 'inklaw3.MatchJoins'. -/
def matchJoinsUptoCard : Claim7 := { stood := { row := matchJoinsUptoRow, standIns := [], harness := (true, "29d6dd841cb9a65861a5afcb8f313142bfb818899d35b4266c7662b93061c759"), looks := false }, kinds := [], alts := [], laidByText := true, laidKinds := [.data, .pinned], laidTests := true, laidLooks := .later }
def MatchJoinsUptoCardSaid : Prop := Claim7.holds Tryd.pinned (.plain (OpenSpec.upto matchJoinsSpec)) matchJoinsUptoCard

/-- THE SECOND FORM's CARD OF 'inklaw3.MatchRule'. -/
def matchRuleUptoCard : Claim7 := { stood := { row := matchRuleUptoRow, standIns := [], harness := (true, "29d6dd841cb9a65861a5afcb8f313142bfb818899d35b4266c7662b93061c759"), looks := false }, kinds := [], alts := [], laidByText := true, laidKinds := [.data, .pinned], laidTests := true, laidLooks := .later }
def MatchRuleUptoCardSaid : Prop := Claim7.holds Tryd.pinned (.plain (OpenSpec.upto matchRuleSpec)) matchRuleUptoCard
end Rows
end Go.Proofs.YtlodblcmpebfkabDoor
