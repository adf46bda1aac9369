/-
  DERIVED. GIVEN WITH THE SEED: THE CARDS: each row of YteoomeknlfcfaaaGreatDoorRows.lean that lists a variable, with what it lists TIED to the program's text (the seventh form; the later family's looks); each row that meets fmt, with fmt's text TOLD by the authors' own Lean function (tested against real Go, not proved from fmt's source: count such statements apart). THE CARD IS WHAT COUNTS. Prove the row's statement (the work); the ties are given (YteoomeknlfcfaaaGreatDoorTie.lean); close each card by the builder's one call (the guide's Derived/Test/ToyasCard.lean, 'card_holds'). Laid BY PROGRAM, IN A SANDBOX (cutbox-door.mjs). By AI agents, Wed Nov 11 2026. No macro, syntax, notation, axiom, sorry.
-/
import Derived.Test.YteoomeknlfcfaaaGreatDoorRows
import GoSem.ClaimSeven
namespace Go.Proofs.YteoomeknlfcfaaaGreatDoor
namespace Rows

/-- THE TIED CARD OF 'cellarerlaw07.RelationTexts'. -/
def relationTextsCard : Claim7 := { stood := { row := relationTextsRow, standIns := [], harness := (true, "a6e4700d2cd2afde147bdef416b0ee9989317a6079e79f811459d9b958d21ee4"), looks := true }, kinds := [], alts := [], laidByText := true, laidKinds := [.data, .data, .data, .data, .sentinel, .sentinel, .pinned], laidTests := true, laidLooks := .later }
def RelationTextsCardSaid : Prop := Claim7.holds Tryz.pinned (.plain (OpenSpec.ofChange relationTextsSpec)) relationTextsCard

/-- THE TIED CARD OF 'cellarerlaw07.RelationGroups'. -/
def relationGroupsCard : Claim7 := { stood := { row := relationGroupsRow, standIns := [], harness := (true, "a6e4700d2cd2afde147bdef416b0ee9989317a6079e79f811459d9b958d21ee4"), looks := true }, kinds := [], alts := [], laidByText := true, laidKinds := [.data, .data, .data, .data, .sentinel, .sentinel, .pinned], laidTests := true, laidLooks := .later }
def RelationGroupsCardSaid : Prop := Claim7.holds Tryz.pinned (.plain (OpenSpec.ofChange relationGroupsSpec)) relationGroupsCard

/-- THE TIED CARD OF 'cellarerlaw07.RelationParses'. -/
def relationParsesCard : Claim7 := { stood := { row := relationParsesRow, standIns := [], harness := (true, "a6e4700d2cd2afde147bdef416b0ee9989317a6079e79f811459d9b958d21ee4"), looks := true }, kinds := [], alts := [], laidByText := true, laidKinds := [.data, .data, .data, .data, .sentinel, .sentinel, .pinned], laidTests := true, laidLooks := .later }
def RelationParsesCardSaid : Prop := Claim7.holds Tryz.pinned (.plain (OpenSpec.ofChange relationParsesSpec)) relationParsesCard

/-- THE TIED CARD OF 'cellarerlaw07.RelationLists'. -/
def relationListsCard : Claim7 := { stood := { row := relationListsRow, standIns := [], harness := (true, "a6e4700d2cd2afde147bdef416b0ee9989317a6079e79f811459d9b958d21ee4"), looks := true }, kinds := [], alts := [], laidByText := true, laidKinds := [.data, .data, .data, .data, .sentinel, .sentinel, .pinned], laidTests := true, laidLooks := .later }
def RelationListsCardSaid : Prop := Claim7.holds Tryz.pinned (.plain (OpenSpec.ofChange relationListsSpec)) relationListsCard

/-- THE TIED CARD OF 'cellarerlaw07.RelationLacks'. -/
def relationLacksCard : Claim7 := { stood := { row := relationLacksRow, standIns := [], harness := (true, "a6e4700d2cd2afde147bdef416b0ee9989317a6079e79f811459d9b958d21ee4"), looks := true }, kinds := [], alts := [], laidByText := true, laidKinds := [.data, .data, .data, .data, .sentinel, .sentinel, .pinned], laidTests := true, laidLooks := .later }
def RelationLacksCardSaid : Prop := Claim7.holds Tryz.pinned (.plain (OpenSpec.ofChange relationLacksSpec)) relationLacksCard

/-- THE SECOND FORM's CARD OF 'cellarerlaw07.RelationTexts'. -/
def relationTextsUptoCard : Claim7 := { stood := { row := relationTextsUptoRow, standIns := [], harness := (true, "a6e4700d2cd2afde147bdef416b0ee9989317a6079e79f811459d9b958d21ee4"), looks := true }, kinds := [], alts := [], laidByText := true, laidKinds := [.data, .data, .data, .data, .sentinel, .sentinel, .pinned], laidTests := true, laidLooks := .later }
def RelationTextsUptoCardSaid : Prop := Claim7.holds Tryz.pinned (.plain (OpenSpec.upto relationTextsSpec)) relationTextsUptoCard

/-- THE SECOND FORM's CARD OF 'cellarerlaw07.RelationGroups'. -/
def relationGroupsUptoCard : Claim7 := { stood := { row := relationGroupsUptoRow, standIns := [], harness := (true, "a6e4700d2cd2afde147bdef416b0ee9989317a6079e79f811459d9b958d21ee4"), looks := true }, kinds := [], alts := [], laidByText := true, laidKinds := [.data, .data, .data, .data, .sentinel, .sentinel, .pinned], laidTests := true, laidLooks := .later }
def RelationGroupsUptoCardSaid : Prop := Claim7.holds Tryz.pinned (.plain (OpenSpec.upto relationGroupsSpec)) relationGroupsUptoCard

/-- THE SECOND FORM's CARD OF 'cellarerlaw07.RelationParses'. -/
def relationParsesUptoCard : Claim7 := { stood := { row := relationParsesUptoRow, standIns := [], harness := (true, "a6e4700d2cd2afde147bdef416b0ee9989317a6079e79f811459d9b958d21ee4"), looks := true }, kinds := [], alts := [], laidByText := true, laidKinds := [.data, .data, .data, .data, .sentinel, .sentinel, .pinned], laidTests := true, laidLooks := .later }
def RelationParsesUptoCardSaid : Prop := Claim7.holds Tryz.pinned (.plain (OpenSpec.upto relationParsesSpec)) relationParsesUptoCard

/-- THE SECOND FORM's CARD OF 'cellarerlaw07.RelationLists'. -/
def relationListsUptoCard : Claim7 := { stood := { row := relationListsUptoRow, standIns := [], harness := (true, "a6e4700d2cd2afde147bdef416b0ee9989317a6079e79f811459d9b958d21ee4"), looks := true }, kinds := [], alts := [], laidByText := true, laidKinds := [.data, .data, .data, .data, .sentinel, .sentinel, .pinned], laidTests := true, laidLooks := .later }
def RelationListsUptoCardSaid : Prop := Claim7.holds Tryz.pinned (.plain (OpenSpec.upto relationListsSpec)) relationListsUptoCard

/-- THE SECOND FORM's CARD OF 'cellarerlaw07.RelationLacks'. -/
def relationLacksUptoCard : Claim7 := { stood := { row := relationLacksUptoRow, standIns := [], harness := (true, "a6e4700d2cd2afde147bdef416b0ee9989317a6079e79f811459d9b958d21ee4"), looks := true }, kinds := [], alts := [], laidByText := true, laidKinds := [.data, .data, .data, .data, .sentinel, .sentinel, .pinned], laidTests := true, laidLooks := .later }
def RelationLacksUptoCardSaid : Prop := Claim7.holds Tryz.pinned (.plain (OpenSpec.upto relationLacksSpec)) relationLacksUptoCard
end Rows
end Go.Proofs.YteoomeknlfcfaaaGreatDoor
