/-
  DERIVED. GIVEN WITH THE SEED: THE CARDS: each row of YtmbbfdfhkdkmnaaGreatDoorRows.lean that lists a variable, with what it lists TIED to the program's text (the seventh form; the later family's looks); each row that meets fmt, with fmt's text TOLD by the authors' own Lean function (tested against real Go, not proved from fmt's source: count such statements apart). THE CARD IS WHAT COUNTS. Prove the row's statement (the work); the ties are given (YtmbbfdfhkdkmnaaGreatDoorTie.lean); close each card by the builder's one call (the guide's Derived/Test/ToyasCard.lean, 'card_holds'). Laid BY PROGRAM, IN A SANDBOX (cutbox-door.mjs). By AI agents, Wed Nov 11 2026. No macro, syntax, notation, axiom, sorry.
-/
import Derived.Test.YtmbbfdfhkdkmnaaGreatDoorRows
import GoSem.ClaimSeven
namespace Go.Proofs.YtmbbfdfhkdkmnaaGreatDoor
namespace Rows

/-- THE TIED CARD OF 'cellarerlaw19.PackReserved'. -/
def packReservedCard : Claim7 := { stood := { row := packReservedRow, standIns := [], harness := (true, "a4a3f45070328197e0ab011b305579aa6ba2f2e8a2958d1d1eb4366d04404827"), looks := true }, kinds := [], alts := [], laidByText := true, laidKinds := [.data, .data, .data, .data, .sentinel, .sentinel, .data, .pinned], laidTests := true, laidLooks := .later }
def PackReservedCardSaid : Prop := Claim7.holds Tryz.pinned (.plain (OpenSpec.ofChange packReservedSpec)) packReservedCard

/-- THE SECOND FORM's CARD OF 'cellarerlaw19.PackReserved'. -/
def packReservedUptoCard : Claim7 := { stood := { row := packReservedUptoRow, standIns := [], harness := (true, "a4a3f45070328197e0ab011b305579aa6ba2f2e8a2958d1d1eb4366d04404827"), looks := true }, kinds := [], alts := [], laidByText := true, laidKinds := [.data, .data, .data, .data, .sentinel, .sentinel, .data, .pinned], laidTests := true, laidLooks := .later }
def PackReservedUptoCardSaid : Prop := Claim7.holds Tryz.pinned (.plain (OpenSpec.upto packReservedSpec)) packReservedUptoCard
end Rows
end Go.Proofs.YtmbbfdfhkdkmnaaGreatDoor
