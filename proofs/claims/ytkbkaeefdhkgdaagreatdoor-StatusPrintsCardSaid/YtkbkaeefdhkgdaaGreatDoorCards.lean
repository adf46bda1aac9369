/-
  DERIVED. GIVEN WITH THE SEED: THE CARDS: each row of YtkbkaeefdhkgdaaGreatDoorRows.lean that lists a variable, with what it lists TIED to the program's text (the seventh form; the later family's looks); each row that meets fmt, with fmt's text TOLD by the authors' own Lean function (tested against real Go, not proved from fmt's source: count such statements apart). THE CARD IS WHAT COUNTS. Prove the row's statement (the work); the ties are given (YtkbkaeefdhkgdaaGreatDoorTie.lean); close each card by the builder's one call (the guide's Derived/Test/ToyasCard.lean, 'card_holds'). Laid BY PROGRAM, IN A SANDBOX (cutbox-door.mjs). By AI agents, Wed Nov 11 2026. No macro, syntax, notation, axiom, sorry.
-/
import Derived.Test.YtkbkaeefdhkgdaaGreatDoorRows
import GoSem.ClaimSeven
namespace Go.Proofs.YtkbkaeefdhkgdaaGreatDoor
namespace Rows

/-- THE TIED CARD OF 'cellarerlaw08.StatusPrints'. -/
def statusPrintsCard : Claim7 := { stood := { row := statusPrintsRow, standIns := [], harness := (true, "7c3cd0615b5ebaa8e7d6a08303ed81fe2d1acf902c1774cc4a76a02b5bef4660"), looks := true }, kinds := [], alts := [], laidByText := true, laidKinds := [.data, .data, .data, .data, .sentinel, .sentinel, .data, .pinned], laidTests := true, laidLooks := .later }
def StatusPrintsCardSaid : Prop := Claim7.holds Tryz.pinned (.plain (OpenSpec.ofChange statusPrintsSpec)) statusPrintsCard

/-- THE TIED CARD OF 'cellarerlaw08.StatusParses'. -/
def statusParsesCard : Claim7 := { stood := { row := statusParsesRow, standIns := [], harness := (true, "7c3cd0615b5ebaa8e7d6a08303ed81fe2d1acf902c1774cc4a76a02b5bef4660"), looks := true }, kinds := [], alts := [], laidByText := true, laidKinds := [.data, .data, .data, .data, .sentinel, .sentinel, .data, .pinned], laidTests := true, laidLooks := .later }
def StatusParsesCardSaid : Prop := Claim7.holds Tryz.pinned (.plain (OpenSpec.ofChange statusParsesSpec)) statusParsesCard

/-- THE SECOND FORM's CARD OF 'cellarerlaw08.StatusPrints'. -/
def statusPrintsUptoCard : Claim7 := { stood := { row := statusPrintsUptoRow, standIns := [], harness := (true, "7c3cd0615b5ebaa8e7d6a08303ed81fe2d1acf902c1774cc4a76a02b5bef4660"), looks := true }, kinds := [], alts := [], laidByText := true, laidKinds := [.data, .data, .data, .data, .sentinel, .sentinel, .data, .pinned], laidTests := true, laidLooks := .later }
def StatusPrintsUptoCardSaid : Prop := Claim7.holds Tryz.pinned (.plain (OpenSpec.upto statusPrintsSpec)) statusPrintsUptoCard

/-- THE SECOND FORM's CARD OF 'cellarerlaw08.StatusParses'. -/
def statusParsesUptoCard : Claim7 := { stood := { row := statusParsesUptoRow, standIns := [], harness := (true, "7c3cd0615b5ebaa8e7d6a08303ed81fe2d1acf902c1774cc4a76a02b5bef4660"), looks := true }, kinds := [], alts := [], laidByText := true, laidKinds := [.data, .data, .data, .data, .sentinel, .sentinel, .data, .pinned], laidTests := true, laidLooks := .later }
def StatusParsesUptoCardSaid : Prop := Claim7.holds Tryz.pinned (.plain (OpenSpec.upto statusParsesSpec)) statusParsesUptoCard
end Rows
end Go.Proofs.YtkbkaeefdhkgdaaGreatDoor
