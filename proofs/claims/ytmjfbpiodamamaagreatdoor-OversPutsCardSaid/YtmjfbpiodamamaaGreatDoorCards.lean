/-
  DERIVED. GIVEN WITH THE SEED: THE CARDS: each row of YtmjfbpiodamamaaGreatDoorRows.lean that lists a variable, with what it lists TIED to the program's text (the seventh form; the later family's looks); each row that meets fmt, with fmt's text TOLD by the authors' own Lean function (tested against real Go, not proved from fmt's source: count such statements apart). THE CARD IS WHAT COUNTS. Prove the row's statement (the work); the ties are given (YtmjfbpiodamamaaGreatDoorTie.lean); close each card by the builder's one call (the guide's Derived/Test/ToyasCard.lean, 'card_holds'). Laid BY PROGRAM, IN A SANDBOX (cutbox-door.mjs). By AI agents, Wed Nov 11 2026. No macro, syntax, notation, axiom, sorry.
-/
import Derived.Test.YtmjfbpiodamamaaGreatDoorRows
import GoSem.ClaimSeven
namespace Go.Proofs.YtmjfbpiodamamaaGreatDoor
namespace Rows

/-- THE TIED CARD OF 'cellarerlaw10.OversPrints'. -/
def oversPrintsCard : Claim7 := { stood := { row := oversPrintsRow, standIns := [], harness := (true, "e17d19c7f79fdc762fb110050883b09af958bc77e5df554b811db4fff187f652"), looks := true }, kinds := [], alts := [], laidByText := true, laidKinds := [.data, .data, .data, .data, .sentinel, .sentinel, .pinned], laidTests := true, laidLooks := .later }
def OversPrintsCardSaid : Prop := Claim7.holds Tryz.pinned (.plain (OpenSpec.ofChange oversPrintsSpec)) oversPrintsCard

/-- THE TIED CARD OF 'cellarerlaw10.OversParses'. -/
def oversParsesCard : Claim7 := { stood := { row := oversParsesRow, standIns := [], harness := (true, "e17d19c7f79fdc762fb110050883b09af958bc77e5df554b811db4fff187f652"), looks := true }, kinds := [], alts := [], laidByText := true, laidKinds := [.data, .data, .data, .data, .sentinel, .sentinel, .pinned], laidTests := true, laidLooks := .later }
def OversParsesCardSaid : Prop := Claim7.holds Tryz.pinned (.plain (OpenSpec.ofChange oversParsesSpec)) oversParsesCard

/-- THE TIED CARD OF 'cellarerlaw10.OversPuts'. -/
def oversPutsCard : Claim7 := { stood := { row := oversPutsRow, standIns := [], harness := (true, "e17d19c7f79fdc762fb110050883b09af958bc77e5df554b811db4fff187f652"), looks := true }, kinds := [], alts := [], laidByText := true, laidKinds := [.data, .data, .data, .data, .sentinel, .sentinel, .pinned], laidTests := true, laidLooks := .later }
def OversPutsCardSaid : Prop := Claim7.holds Tryz.pinned (.plain (OpenSpec.ofChange oversPutsSpec)) oversPutsCard

/-- THE TIED CARD OF 'cellarerlaw10.OversMetas'. -/
def oversMetasCard : Claim7 := { stood := { row := oversMetasRow, standIns := [], harness := (true, "e17d19c7f79fdc762fb110050883b09af958bc77e5df554b811db4fff187f652"), looks := true }, kinds := [], alts := [], laidByText := true, laidKinds := [.data, .data, .data, .data, .sentinel, .sentinel, .pinned], laidTests := true, laidLooks := .later }
def OversMetasCardSaid : Prop := Claim7.holds Tryz.pinned (.plain (OpenSpec.ofChange oversMetasSpec)) oversMetasCard

/-- THE SECOND FORM's CARD OF 'cellarerlaw10.OversPrints'. -/
def oversPrintsUptoCard : Claim7 := { stood := { row := oversPrintsUptoRow, standIns := [], harness := (true, "e17d19c7f79fdc762fb110050883b09af958bc77e5df554b811db4fff187f652"), looks := true }, kinds := [], alts := [], laidByText := true, laidKinds := [.data, .data, .data, .data, .sentinel, .sentinel, .pinned], laidTests := true, laidLooks := .later }
def OversPrintsUptoCardSaid : Prop := Claim7.holds Tryz.pinned (.plain (OpenSpec.upto oversPrintsSpec)) oversPrintsUptoCard

/-- THE SECOND FORM's CARD OF 'cellarerlaw10.OversParses'. -/
def oversParsesUptoCard : Claim7 := { stood := { row := oversParsesUptoRow, standIns := [], harness := (true, "e17d19c7f79fdc762fb110050883b09af958bc77e5df554b811db4fff187f652"), looks := true }, kinds := [], alts := [], laidByText := true, laidKinds := [.data, .data, .data, .data, .sentinel, .sentinel, .pinned], laidTests := true, laidLooks := .later }
def OversParsesUptoCardSaid : Prop := Claim7.holds Tryz.pinned (.plain (OpenSpec.upto oversParsesSpec)) oversParsesUptoCard

/-- THE SECOND FORM's CARD OF 'cellarerlaw10.OversPuts'. -/
def oversPutsUptoCard : Claim7 := { stood := { row := oversPutsUptoRow, standIns := [], harness := (true, "e17d19c7f79fdc762fb110050883b09af958bc77e5df554b811db4fff187f652"), looks := true }, kinds := [], alts := [], laidByText := true, laidKinds := [.data, .data, .data, .data, .sentinel, .sentinel, .pinned], laidTests := true, laidLooks := .later }
def OversPutsUptoCardSaid : Prop := Claim7.holds Tryz.pinned (.plain (OpenSpec.upto oversPutsSpec)) oversPutsUptoCard

/-- THE SECOND FORM's CARD OF 'cellarerlaw10.OversMetas'. -/
def oversMetasUptoCard : Claim7 := { stood := { row := oversMetasUptoRow, standIns := [], harness := (true, "e17d19c7f79fdc762fb110050883b09af958bc77e5df554b811db4fff187f652"), looks := true }, kinds := [], alts := [], laidByText := true, laidKinds := [.data, .data, .data, .data, .sentinel, .sentinel, .pinned], laidTests := true, laidLooks := .later }
def OversMetasUptoCardSaid : Prop := Claim7.holds Tryz.pinned (.plain (OpenSpec.upto oversMetasSpec)) oversMetasUptoCard
end Rows
end Go.Proofs.YtmjfbpiodamamaaGreatDoor
