/-
  DERIVED. GIVEN WITH THE SEED: THE CARDS: each row of YtolpcnhgmmnmcaaGreatDoorRows.lean that lists a variable, with what it lists TIED to the program's text (the seventh form; the later family's looks); each row that meets fmt, with fmt's text TOLD by the authors' own Lean function (tested against real Go, not proved from fmt's source: count such statements apart). THE CARD IS WHAT COUNTS. Prove the row's statement (the work); the ties are given (YtolpcnhgmmnmcaaGreatDoorTie.lean); close each card by the builder's one call (the guide's Derived/Test/ToyasCard.lean, 'card_holds'). Laid BY PROGRAM, IN A SANDBOX (cutbox-door.mjs). By AI agents, Wed Nov 11 2026. No macro, syntax, notation, axiom, sorry.
-/
import Derived.Test.YtolpcnhgmmnmcaaGreatDoorRows
import GoSem.ClaimSeven
namespace Go.Proofs.YtolpcnhgmmnmcaaGreatDoor
namespace Rows

/-- THE TIED CARD OF 'cellarerlaw19.PackActs'. -/
def packActsCard : Claim7 := { stood := { row := packActsRow, standIns := [], harness := (true, "85e6c56b3a684594e05a50ee87d8e8aae38e1bea9ddb782247a5632742ca18d3"), looks := true }, kinds := [], alts := [], laidByText := true, laidKinds := [.data, .data, .data, .data, .sentinel, .sentinel, .data, .pinned], laidTests := true, laidLooks := .later }
def PackActsCardSaid : Prop := Claim7.holds Tryz.pinned (.plain (OpenSpec.ofChange packActsSpec)) packActsCard

/-- THE SECOND FORM's CARD OF 'cellarerlaw19.PackActs'. -/
def packActsUptoCard : Claim7 := { stood := { row := packActsUptoRow, standIns := [], harness := (true, "85e6c56b3a684594e05a50ee87d8e8aae38e1bea9ddb782247a5632742ca18d3"), looks := true }, kinds := [], alts := [], laidByText := true, laidKinds := [.data, .data, .data, .data, .sentinel, .sentinel, .data, .pinned], laidTests := true, laidLooks := .later }
def PackActsUptoCardSaid : Prop := Claim7.holds Tryz.pinned (.plain (OpenSpec.upto packActsSpec)) packActsUptoCard
end Rows
end Go.Proofs.YtolpcnhgmmnmcaaGreatDoor
