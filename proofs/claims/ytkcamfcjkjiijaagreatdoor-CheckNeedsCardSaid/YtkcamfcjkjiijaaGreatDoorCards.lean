/-
  DERIVED. GIVEN WITH THE SEED: THE CARDS: each row of YtkcamfcjkjiijaaGreatDoorRows.lean that lists a variable, with what it lists TIED to the program's text (the seventh form; the later family's looks); each row that meets fmt, with fmt's text TOLD by the authors' own Lean function (tested against real Go, not proved from fmt's source: count such statements apart). THE CARD IS WHAT COUNTS. Prove the row's statement (the work); the ties are given (YtkcamfcjkjiijaaGreatDoorTie.lean); close each card by the builder's one call (the guide's Derived/Test/ToyasCard.lean, 'card_holds'). Laid BY PROGRAM, IN A SANDBOX (cutbox-door.mjs). By AI agents, Wed Nov 11 2026. No macro, syntax, notation, axiom, sorry.
-/
import Derived.Test.YtkcamfcjkjiijaaGreatDoorRows
import GoSem.ClaimSeven
namespace Go.Proofs.YtkcamfcjkjiijaaGreatDoor
namespace Rows

/-- THE TIED CARD OF 'cellarerlaw20.CheckNeeds'. -/
def checkNeedsCard : Claim7 := { stood := { row := checkNeedsRow, standIns := [], harness := (true, "318b36e53c967feec9620c681250dde904e84088483ac60baec6b6cfe0ad832d"), looks := true }, kinds := [], alts := [], laidByText := true, laidKinds := [.data, .data, .data, .data, .sentinel, .sentinel, .pinned], laidTests := true, laidLooks := .later }
def CheckNeedsCardSaid : Prop := Claim7.holds Tryz.pinned (.plain (OpenSpec.ofChange checkNeedsSpec)) checkNeedsCard

/-- THE TIED CARD OF 'cellarerlaw20.CheckConflicts'. -/
def checkConflictsCard : Claim7 := { stood := { row := checkConflictsRow, standIns := [], harness := (true, "318b36e53c967feec9620c681250dde904e84088483ac60baec6b6cfe0ad832d"), looks := true }, kinds := [], alts := [], laidByText := true, laidKinds := [.data, .data, .data, .data, .sentinel, .sentinel, .pinned], laidTests := true, laidLooks := .later }
def CheckConflictsCardSaid : Prop := Claim7.holds Tryz.pinned (.plain (OpenSpec.ofChange checkConflictsSpec)) checkConflictsCard

/-- THE TIED CARD OF 'cellarerlaw20.CheckOwners'. -/
def checkOwnersCard : Claim7 := { stood := { row := checkOwnersRow, standIns := [], harness := (true, "318b36e53c967feec9620c681250dde904e84088483ac60baec6b6cfe0ad832d"), looks := true }, kinds := [], alts := [], laidByText := true, laidKinds := [.data, .data, .data, .data, .sentinel, .sentinel, .pinned], laidTests := true, laidLooks := .later }
def CheckOwnersCardSaid : Prop := Claim7.holds Tryz.pinned (.plain (OpenSpec.ofChange checkOwnersSpec)) checkOwnersCard

/-- THE TIED CARD OF 'cellarerlaw20.CheckLoses'. -/
def checkLosesCard : Claim7 := { stood := { row := checkLosesRow, standIns := [], harness := (true, "318b36e53c967feec9620c681250dde904e84088483ac60baec6b6cfe0ad832d"), looks := true }, kinds := [], alts := [], laidByText := true, laidKinds := [.data, .data, .data, .data, .sentinel, .sentinel, .pinned], laidTests := true, laidLooks := .later }
def CheckLosesCardSaid : Prop := Claim7.holds Tryz.pinned (.plain (OpenSpec.ofChange checkLosesSpec)) checkLosesCard

/-- THE SECOND FORM's CARD OF 'cellarerlaw20.CheckNeeds'. -/
def checkNeedsUptoCard : Claim7 := { stood := { row := checkNeedsUptoRow, standIns := [], harness := (true, "318b36e53c967feec9620c681250dde904e84088483ac60baec6b6cfe0ad832d"), looks := true }, kinds := [], alts := [], laidByText := true, laidKinds := [.data, .data, .data, .data, .sentinel, .sentinel, .pinned], laidTests := true, laidLooks := .later }
def CheckNeedsUptoCardSaid : Prop := Claim7.holds Tryz.pinned (.plain (OpenSpec.upto checkNeedsSpec)) checkNeedsUptoCard

/-- THE SECOND FORM's CARD OF 'cellarerlaw20.CheckConflicts'. -/
def checkConflictsUptoCard : Claim7 := { stood := { row := checkConflictsUptoRow, standIns := [], harness := (true, "318b36e53c967feec9620c681250dde904e84088483ac60baec6b6cfe0ad832d"), looks := true }, kinds := [], alts := [], laidByText := true, laidKinds := [.data, .data, .data, .data, .sentinel, .sentinel, .pinned], laidTests := true, laidLooks := .later }
def CheckConflictsUptoCardSaid : Prop := Claim7.holds Tryz.pinned (.plain (OpenSpec.upto checkConflictsSpec)) checkConflictsUptoCard

/-- THE SECOND FORM's CARD OF 'cellarerlaw20.CheckOwners'. -/
def checkOwnersUptoCard : Claim7 := { stood := { row := checkOwnersUptoRow, standIns := [], harness := (true, "318b36e53c967feec9620c681250dde904e84088483ac60baec6b6cfe0ad832d"), looks := true }, kinds := [], alts := [], laidByText := true, laidKinds := [.data, .data, .data, .data, .sentinel, .sentinel, .pinned], laidTests := true, laidLooks := .later }
def CheckOwnersUptoCardSaid : Prop := Claim7.holds Tryz.pinned (.plain (OpenSpec.upto checkOwnersSpec)) checkOwnersUptoCard

/-- THE SECOND FORM's CARD OF 'cellarerlaw20.CheckLoses'. -/
def checkLosesUptoCard : Claim7 := { stood := { row := checkLosesUptoRow, standIns := [], harness := (true, "318b36e53c967feec9620c681250dde904e84088483ac60baec6b6cfe0ad832d"), looks := true }, kinds := [], alts := [], laidByText := true, laidKinds := [.data, .data, .data, .data, .sentinel, .sentinel, .pinned], laidTests := true, laidLooks := .later }
def CheckLosesUptoCardSaid : Prop := Claim7.holds Tryz.pinned (.plain (OpenSpec.upto checkLosesSpec)) checkLosesUptoCard
end Rows
end Go.Proofs.YtkcamfcjkjiijaaGreatDoor
