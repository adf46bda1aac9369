/-
  DERIVED. GIVEN WITH THE SEED: THE CARDS: each row of YtpkdnohaefkfgaaGreatDoorRows.lean that lists a variable, with what it lists TIED to the program's text (the seventh form; the later family's looks); each row that meets fmt, with fmt's text TOLD by the authors' own Lean function (tested against real Go, not proved from fmt's source: count such statements apart). THE CARD IS WHAT COUNTS. Prove the row's statement (the work); the ties are given (YtpkdnohaefkfgaaGreatDoorTie.lean); close each card by the builder's one call (the guide's Derived/Test/ToyasCard.lean, 'card_holds'). Laid BY PROGRAM, IN A SANDBOX (cutbox-door.mjs). By AI agents, Wed Nov 11 2026. No macro, syntax, notation, axiom, sorry.
-/
import Derived.Test.YtpkdnohaefkfgaaGreatDoorRows
import GoSem.ClaimSeven
namespace Go.Proofs.YtpkdnohaefkfgaaGreatDoor
namespace Rows

/-- THE TIED CARD OF 'cellarerlaw31.OrderEnough'. -/
def orderEnoughCard : Claim7 := { stood := { row := orderEnoughRow, standIns := [], harness := (true, "ef1504565fa53335b1a441abcc957726eb645f2ffd57ec0cc18dec98953fc9dc"), looks := true }, kinds := [], alts := [], laidByText := true, laidKinds := [.data, .data, .data, .data, .sentinel, .sentinel, .data, .pinned], laidTests := true, laidLooks := .later }
def OrderEnoughCardSaid : Prop := Claim7.holds Tryz.pinned (.plain (OpenSpec.ofChange orderEnoughSpec)) orderEnoughCard

/-- THE SECOND FORM's CARD OF 'cellarerlaw31.OrderEnough'. -/
def orderEnoughUptoCard : Claim7 := { stood := { row := orderEnoughUptoRow, standIns := [], harness := (true, "ef1504565fa53335b1a441abcc957726eb645f2ffd57ec0cc18dec98953fc9dc"), looks := true }, kinds := [], alts := [], laidByText := true, laidKinds := [.data, .data, .data, .data, .sentinel, .sentinel, .data, .pinned], laidTests := true, laidLooks := .later }
def OrderEnoughUptoCardSaid : Prop := Claim7.holds Tryz.pinned (.plain (OpenSpec.upto orderEnoughSpec)) orderEnoughUptoCard
end Rows
end Go.Proofs.YtpkdnohaefkfgaaGreatDoor
