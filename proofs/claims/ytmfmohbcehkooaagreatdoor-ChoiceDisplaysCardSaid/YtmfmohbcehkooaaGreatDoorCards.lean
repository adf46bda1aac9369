/-
  DERIVED. GIVEN WITH THE SEED: THE CARDS: each row of YtmfmohbcehkooaaGreatDoorRows.lean that lists a variable, with what it lists TIED to the program's text (the seventh form; the later family's looks); each row that meets fmt, with fmt's text TOLD by the authors' own Lean function (tested against real Go, not proved from fmt's source: count such statements apart). THE CARD IS WHAT COUNTS. Prove the row's statement (the work); the ties are given (YtmfmohbcehkooaaGreatDoorTie.lean); close each card by the builder's one call (the guide's Derived/Test/ToyasCard.lean, 'card_holds'). Laid BY PROGRAM, IN A SANDBOX (cutbox-door.mjs). By AI agents, Wed Nov 11 2026. No macro, syntax, notation, axiom, sorry.
-/
import Derived.Test.YtmfmohbcehkooaaGreatDoorRows
import GoSem.ClaimSeven
namespace Go.Proofs.YtmfmohbcehkooaaGreatDoor
namespace Rows

/-- THE TIED CARD OF 'cellarerlaw30.ChoiceDisplays'. -/
def choiceDisplaysCard : Claim7 := { stood := { row := choiceDisplaysRow, standIns := [], harness := (true, "e5a884b6a36ade8673304f1877ba8ff21b702ef07e3fd359a34d92c9763bbe32"), looks := true }, kinds := [], alts := [], laidByText := true, laidKinds := [.data, .data, .data, .data, .pinned], laidTests := true, laidLooks := .later }
def ChoiceDisplaysCardSaid : Prop := Claim7.holds Tryz.pinned (.plain (OpenSpec.ofChange choiceDisplaysSpec)) choiceDisplaysCard

/-- THE TIED CARD OF 'cellarerlaw11.AltsBest'. -/
def altsBestCard : Claim7 := { stood := { row := altsBestRow, standIns := [], harness := (true, "e5a884b6a36ade8673304f1877ba8ff21b702ef07e3fd359a34d92c9763bbe32"), looks := true }, kinds := [], alts := [], laidByText := true, laidKinds := [.data, .data, .data, .data, .sentinel, .sentinel, .pinned], laidTests := true, laidLooks := .later }
def AltsBestCardSaid : Prop := Claim7.holds Tryz.pinned (.plain (OpenSpec.ofChange altsBestSpec)) altsBestCard

/-- THE TIED CARD OF 'cellarerlaw11.AltsChecks'. -/
def altsChecksCard : Claim7 := { stood := { row := altsChecksRow, standIns := [], harness := (true, "e5a884b6a36ade8673304f1877ba8ff21b702ef07e3fd359a34d92c9763bbe32"), looks := true }, kinds := [], alts := [], laidByText := true, laidKinds := [.data, .data, .data, .data, .sentinel, .sentinel, .pinned], laidTests := true, laidLooks := .later }
def AltsChecksCardSaid : Prop := Claim7.holds Tryz.pinned (.plain (OpenSpec.ofChange altsChecksSpec)) altsChecksCard

/-- THE TIED CARD OF 'cellarerlaw11.AltsPuts'. -/
def altsPutsCard : Claim7 := { stood := { row := altsPutsRow, standIns := [], harness := (true, "e5a884b6a36ade8673304f1877ba8ff21b702ef07e3fd359a34d92c9763bbe32"), looks := true }, kinds := [], alts := [], laidByText := true, laidKinds := [.data, .data, .data, .data, .sentinel, .sentinel, .pinned], laidTests := true, laidLooks := .later }
def AltsPutsCardSaid : Prop := Claim7.holds Tryz.pinned (.plain (OpenSpec.ofChange altsPutsSpec)) altsPutsCard

/-- THE SECOND FORM's CARD OF 'cellarerlaw30.ChoiceDisplays'. -/
def choiceDisplaysUptoCard : Claim7 := { stood := { row := choiceDisplaysUptoRow, standIns := [], harness := (true, "e5a884b6a36ade8673304f1877ba8ff21b702ef07e3fd359a34d92c9763bbe32"), looks := true }, kinds := [], alts := [], laidByText := true, laidKinds := [.data, .data, .data, .data, .pinned], laidTests := true, laidLooks := .later }
def ChoiceDisplaysUptoCardSaid : Prop := Claim7.holds Tryz.pinned (.plain (OpenSpec.upto choiceDisplaysSpec)) choiceDisplaysUptoCard

/-- THE SECOND FORM's CARD OF 'cellarerlaw11.AltsBest'. -/
def altsBestUptoCard : Claim7 := { stood := { row := altsBestUptoRow, standIns := [], harness := (true, "e5a884b6a36ade8673304f1877ba8ff21b702ef07e3fd359a34d92c9763bbe32"), looks := true }, kinds := [], alts := [], laidByText := true, laidKinds := [.data, .data, .data, .data, .sentinel, .sentinel, .pinned], laidTests := true, laidLooks := .later }
def AltsBestUptoCardSaid : Prop := Claim7.holds Tryz.pinned (.plain (OpenSpec.upto altsBestSpec)) altsBestUptoCard

/-- THE SECOND FORM's CARD OF 'cellarerlaw11.AltsChecks'. -/
def altsChecksUptoCard : Claim7 := { stood := { row := altsChecksUptoRow, standIns := [], harness := (true, "e5a884b6a36ade8673304f1877ba8ff21b702ef07e3fd359a34d92c9763bbe32"), looks := true }, kinds := [], alts := [], laidByText := true, laidKinds := [.data, .data, .data, .data, .sentinel, .sentinel, .pinned], laidTests := true, laidLooks := .later }
def AltsChecksUptoCardSaid : Prop := Claim7.holds Tryz.pinned (.plain (OpenSpec.upto altsChecksSpec)) altsChecksUptoCard

/-- THE SECOND FORM's CARD OF 'cellarerlaw11.AltsPuts'. -/
def altsPutsUptoCard : Claim7 := { stood := { row := altsPutsUptoRow, standIns := [], harness := (true, "e5a884b6a36ade8673304f1877ba8ff21b702ef07e3fd359a34d92c9763bbe32"), looks := true }, kinds := [], alts := [], laidByText := true, laidKinds := [.data, .data, .data, .data, .sentinel, .sentinel, .pinned], laidTests := true, laidLooks := .later }
def AltsPutsUptoCardSaid : Prop := Claim7.holds Tryz.pinned (.plain (OpenSpec.upto altsPutsSpec)) altsPutsUptoCard
end Rows
end Go.Proofs.YtmfmohbcehkooaaGreatDoor
