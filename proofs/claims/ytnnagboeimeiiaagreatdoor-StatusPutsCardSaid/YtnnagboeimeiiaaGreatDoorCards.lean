/-
  DERIVED. GIVEN WITH THE SEED: THE CARDS: each row of YtnnagboeimeiiaaGreatDoorRows.lean that lists a variable, with what it lists TIED to the program's text (the seventh form; the later family's looks); each row that meets fmt, with fmt's text TOLD by the authors' own Lean function (tested against real Go, not proved from fmt's source: count such statements apart). THE CARD IS WHAT COUNTS. Prove the row's statement (the work); the ties are given (YtnnagboeimeiiaaGreatDoorTie.lean); close each card by the builder's one call (the guide's Derived/Test/ToyasCard.lean, 'card_holds'). Laid BY PROGRAM, IN A SANDBOX (cutbox-door.mjs). By AI agents, Wed Nov 11 2026. No macro, syntax, notation, axiom, sorry.
-/
import Derived.Test.YtnnagboeimeiiaaGreatDoorRows
import GoSem.ClaimSeven
namespace Go.Proofs.YtnnagboeimeiiaaGreatDoor
namespace Rows

/-- THE TIED CARD OF 'cellarerlaw08.StatusPrints'. -/
def statusPrintsCard : Claim7 := { stood := { row := statusPrintsRow, standIns := [], harness := (true, "d3be7f48a16de4a91477b3671b3d6dfa56d30837315f11105bd4d14e554b05c4"), looks := true }, kinds := [], alts := [], laidByText := true, laidKinds := [.data, .data, .data, .data, .sentinel, .sentinel, .data, .pinned], laidTests := true, laidLooks := .later }
def StatusPrintsCardSaid : Prop := Claim7.holds Tryz.pinned (.plain (OpenSpec.ofChange statusPrintsSpec)) statusPrintsCard

/-- THE TIED CARD OF 'cellarerlaw08.StatusParses'. -/
def statusParsesCard : Claim7 := { stood := { row := statusParsesRow, standIns := [], harness := (true, "d3be7f48a16de4a91477b3671b3d6dfa56d30837315f11105bd4d14e554b05c4"), looks := true }, kinds := [], alts := [], laidByText := true, laidKinds := [.data, .data, .data, .data, .sentinel, .sentinel, .data, .pinned], laidTests := true, laidLooks := .later }
def StatusParsesCardSaid : Prop := Claim7.holds Tryz.pinned (.plain (OpenSpec.ofChange statusParsesSpec)) statusParsesCard

/-- THE TIED CARD OF 'cellarerlaw08.StatusRight'. -/
def statusRightCard : Claim7 := { stood := { row := statusRightRow, standIns := [], harness := (true, "d3be7f48a16de4a91477b3671b3d6dfa56d30837315f11105bd4d14e554b05c4"), looks := true }, kinds := [], alts := [], laidByText := true, laidKinds := [.data, .data, .data, .data, .sentinel, .sentinel, .data, .pinned], laidTests := true, laidLooks := .later }
def StatusRightCardSaid : Prop := Claim7.holds Tryz.pinned (.plain (OpenSpec.ofChange statusRightSpec)) statusRightCard

/-- THE TIED CARD OF 'cellarerlaw08.StatusPuts'. -/
def statusPutsCard : Claim7 := { stood := { row := statusPutsRow, standIns := [], harness := (true, "d3be7f48a16de4a91477b3671b3d6dfa56d30837315f11105bd4d14e554b05c4"), looks := true }, kinds := [], alts := [], laidByText := true, laidKinds := [.data, .data, .data, .data, .sentinel, .sentinel, .data, .pinned], laidTests := true, laidLooks := .later }
def StatusPutsCardSaid : Prop := Claim7.holds Tryz.pinned (.plain (OpenSpec.ofChange statusPutsSpec)) statusPutsCard

/-- THE SECOND FORM's CARD OF 'cellarerlaw08.StatusPrints'. -/
def statusPrintsUptoCard : Claim7 := { stood := { row := statusPrintsUptoRow, standIns := [], harness := (true, "d3be7f48a16de4a91477b3671b3d6dfa56d30837315f11105bd4d14e554b05c4"), looks := true }, kinds := [], alts := [], laidByText := true, laidKinds := [.data, .data, .data, .data, .sentinel, .sentinel, .data, .pinned], laidTests := true, laidLooks := .later }
def StatusPrintsUptoCardSaid : Prop := Claim7.holds Tryz.pinned (.plain (OpenSpec.upto statusPrintsSpec)) statusPrintsUptoCard

/-- THE SECOND FORM's CARD OF 'cellarerlaw08.StatusParses'. -/
def statusParsesUptoCard : Claim7 := { stood := { row := statusParsesUptoRow, standIns := [], harness := (true, "d3be7f48a16de4a91477b3671b3d6dfa56d30837315f11105bd4d14e554b05c4"), looks := true }, kinds := [], alts := [], laidByText := true, laidKinds := [.data, .data, .data, .data, .sentinel, .sentinel, .data, .pinned], laidTests := true, laidLooks := .later }
def StatusParsesUptoCardSaid : Prop := Claim7.holds Tryz.pinned (.plain (OpenSpec.upto statusParsesSpec)) statusParsesUptoCard

/-- THE SECOND FORM's CARD OF 'cellarerlaw08.StatusRight'. -/
def statusRightUptoCard : Claim7 := { stood := { row := statusRightUptoRow, standIns := [], harness := (true, "d3be7f48a16de4a91477b3671b3d6dfa56d30837315f11105bd4d14e554b05c4"), looks := true }, kinds := [], alts := [], laidByText := true, laidKinds := [.data, .data, .data, .data, .sentinel, .sentinel, .data, .pinned], laidTests := true, laidLooks := .later }
def StatusRightUptoCardSaid : Prop := Claim7.holds Tryz.pinned (.plain (OpenSpec.upto statusRightSpec)) statusRightUptoCard

/-- THE SECOND FORM's CARD OF 'cellarerlaw08.StatusPuts'. -/
def statusPutsUptoCard : Claim7 := { stood := { row := statusPutsUptoRow, standIns := [], harness := (true, "d3be7f48a16de4a91477b3671b3d6dfa56d30837315f11105bd4d14e554b05c4"), looks := true }, kinds := [], alts := [], laidByText := true, laidKinds := [.data, .data, .data, .data, .sentinel, .sentinel, .data, .pinned], laidTests := true, laidLooks := .later }
def StatusPutsUptoCardSaid : Prop := Claim7.holds Tryz.pinned (.plain (OpenSpec.upto statusPutsSpec)) statusPutsUptoCard
end Rows
end Go.Proofs.YtnnagboeimeiiaaGreatDoor
