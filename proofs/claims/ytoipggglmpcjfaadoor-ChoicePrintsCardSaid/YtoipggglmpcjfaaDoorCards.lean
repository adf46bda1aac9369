/-
  DERIVED. GIVEN WITH THE SEED: THE CARDS: each row of YtoipggglmpcjfaaDoorRows.lean that lists a variable, with what it lists TIED to the program's text (the seventh form; the later family's looks); each row that meets fmt, with fmt's text TOLD by the authors' own Lean function (tested against real Go, not proved from fmt's source: count such statements apart). THE CARD IS WHAT COUNTS. Prove the row's statement (the work); the ties are given (YtoipggglmpcjfaaDoorTie.lean); close each card by the builder's one call (the guide's Derived/Test/ToyasCard.lean, 'card_holds'). Laid BY PROGRAM, IN A SANDBOX (cutbox-door.mjs). By AI agents, Wed Nov 11 2026. No macro, syntax, notation, axiom, sorry.
-/
import Derived.Test.YtoipggglmpcjfaaDoorRows
import GoSem.ClaimSeven
namespace Go.Proofs.YtoipggglmpcjfaaDoor
namespace Rows

/-- THE TIED CARD OF 'cellarerlaw30.ChoicePrints'. -/
def choicePrintsCard : Claim7 := { stood := { row := choicePrintsRow, standIns := [], harness := (true, "80da180955c0201046d6677432d2df6df7cdbf595dfacc58abf6fa7108da4202"), looks := false }, kinds := [], alts := [], laidByText := true, laidKinds := [.data, .pinned], laidTests := true, laidLooks := .later }
def ChoicePrintsCardSaid : Prop := Claim7.holds Tryd.pinned (.plain (OpenSpec.ofChange choicePrintsSpec)) choicePrintsCard

/-- THE TIED CARD OF 'cellarerlaw30.ChoiceParses'. -/
def choiceParsesCard : Claim7 := { stood := { row := choiceParsesRow, standIns := [], harness := (true, "80da180955c0201046d6677432d2df6df7cdbf595dfacc58abf6fa7108da4202"), looks := false }, kinds := [], alts := [], laidByText := true, laidKinds := [.data, .pinned], laidTests := true, laidLooks := .later }
def ChoiceParsesCardSaid : Prop := Claim7.holds Tryd.pinned (.plain (OpenSpec.ofChange choiceParsesSpec)) choiceParsesCard

/-- THE SECOND FORM's CARD OF 'cellarerlaw30.ChoicePrints'. -/
def choicePrintsUptoCard : Claim7 := { stood := { row := choicePrintsUptoRow, standIns := [], harness := (true, "80da180955c0201046d6677432d2df6df7cdbf595dfacc58abf6fa7108da4202"), looks := false }, kinds := [], alts := [], laidByText := true, laidKinds := [.data, .pinned], laidTests := true, laidLooks := .later }
def ChoicePrintsUptoCardSaid : Prop := Claim7.holds Tryd.pinned (.plain (OpenSpec.upto choicePrintsSpec)) choicePrintsUptoCard

/-- THE SECOND FORM's CARD OF 'cellarerlaw30.ChoiceParses'. -/
def choiceParsesUptoCard : Claim7 := { stood := { row := choiceParsesUptoRow, standIns := [], harness := (true, "80da180955c0201046d6677432d2df6df7cdbf595dfacc58abf6fa7108da4202"), looks := false }, kinds := [], alts := [], laidByText := true, laidKinds := [.data, .pinned], laidTests := true, laidLooks := .later }
def ChoiceParsesUptoCardSaid : Prop := Claim7.holds Tryd.pinned (.plain (OpenSpec.upto choiceParsesSpec)) choiceParsesUptoCard
end Rows
end Go.Proofs.YtoipggglmpcjfaaDoor
