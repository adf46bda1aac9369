/-
  DERIVED. GIVEN WITH THE SEED: THE CARDS: each row of YtomplnncbfdldaaDoorRows.lean that lists a variable, with what it lists TIED to the program's text (the seventh form; the later family's looks); each row that meets fmt, with fmt's text TOLD by the authors' own Lean function (tested against real Go, not proved from fmt's source: count such statements apart). THE CARD IS WHAT COUNTS. Prove the row's statement (the work); the ties are given (YtomplnncbfdldaaDoorTie.lean); close each card by the builder's one call (the guide's Derived/Test/ToyasCard.lean, 'card_holds'). Laid BY PROGRAM, IN A SANDBOX (cutbox-door.mjs). By AI agents, Wed Nov 11 2026. No macro, syntax, notation, axiom, sorry.
-/
import Derived.Test.YtomplnncbfdldaaDoorRows
import GoSem.ClaimSeven
namespace Go.Proofs.YtomplnncbfdldaaDoor
namespace Rows

/-- THE TIED CARD OF 'cellarerlaw06.StanzaLines'. -/
def stanzaLinesCard : Claim7 := { stood := { row := stanzaLinesRow, standIns := [], harness := (true, "e9b59f6860b2b3e6b6f7d44c028bc7a4b619f88b06515d290630c90d19a3ae13"), looks := false }, kinds := [], alts := [], laidByText := true, laidKinds := [.data, .pinned], laidTests := true, laidLooks := .later }
def StanzaLinesCardSaid : Prop := Claim7.holds Tryd.pinned (.plain (OpenSpec.ofChange stanzaLinesSpec)) stanzaLinesCard

/-- THE SECOND FORM's CARD OF 'cellarerlaw06.StanzaLines'. -/
def stanzaLinesUptoCard : Claim7 := { stood := { row := stanzaLinesUptoRow, standIns := [], harness := (true, "e9b59f6860b2b3e6b6f7d44c028bc7a4b619f88b06515d290630c90d19a3ae13"), looks := false }, kinds := [], alts := [], laidByText := true, laidKinds := [.data, .pinned], laidTests := true, laidLooks := .later }
def StanzaLinesUptoCardSaid : Prop := Claim7.holds Tryd.pinned (.plain (OpenSpec.upto stanzaLinesSpec)) stanzaLinesUptoCard
end Rows
end Go.Proofs.YtomplnncbfdldaaDoor
