/-
  DERIVED. GIVEN WITH THE SEED: THE CARDS: each row of YtgoekfonbpffdaaDoorRows.lean that lists a variable, with what it lists TIED to the program's text (the seventh form; the later family's looks); each row that meets fmt, with fmt's text TOLD by the authors' own Lean function (tested against real Go, not proved from fmt's source: count such statements apart). THE CARD IS WHAT COUNTS. Prove the row's statement (the work); the ties are given (YtgoekfonbpffdaaDoorTie.lean); close each card by the builder's one call (the guide's Derived/Test/ToyasCard.lean, 'card_holds'). Laid BY PROGRAM, IN A SANDBOX (cutbox-door.mjs). By AI agents, Wed Nov 11 2026. No macro, syntax, notation, axiom, sorry.
-/
import Derived.Test.YtgoekfonbpffdaaDoorRows
import GoSem.ClaimSeven
namespace Go.Proofs.YtgoekfonbpffdaaDoor
namespace Rows

/-- THE TIED CARD OF 'cellarerlaw01.BitsOctal'. -/
def bitsOctalCard : Claim7 := { stood := { row := bitsOctalRow, standIns := [], harness := (true, "4af59393812a223d2159510ef7af30024a035f51ef9629aa0cafb3743e3ce040"), looks := true }, kinds := [], alts := [], laidByText := true, laidKinds := [.data, .data, .data, .sentinel, .sentinel, .data], laidTests := true, laidLooks := .later }
def BitsOctalCardSaid : Prop := Claim7.holds Tryd.pinned (.plain (OpenSpec.ofChange bitsOctalSpec)) bitsOctalCard

/-- THE TIED CARD OF 'cellarerlaw01.BitsPacks'. -/
def bitsPacksCard : Claim7 := { stood := { row := bitsPacksRow, standIns := [], harness := (true, "4af59393812a223d2159510ef7af30024a035f51ef9629aa0cafb3743e3ce040"), looks := true }, kinds := [], alts := [], laidByText := true, laidKinds := [.data, .data, .data, .data], laidTests := true, laidLooks := .later }
def BitsPacksCardSaid : Prop := Claim7.holds Tryd.pinned (.plain (OpenSpec.ofChange bitsPacksSpec)) bitsPacksCard

/-- THE TIED CARD OF 'cellarerlaw01.BitsLetters'. -/
def bitsLettersCard : Claim7 := { stood := { row := bitsLettersRow, standIns := [], harness := (true, "4af59393812a223d2159510ef7af30024a035f51ef9629aa0cafb3743e3ce040"), looks := true }, kinds := [], alts := [], laidByText := true, laidKinds := [.data, .data, .data, .data], laidTests := true, laidLooks := .later }
def BitsLettersCardSaid : Prop := Claim7.holds Tryd.pinned (.plain (OpenSpec.ofChange bitsLettersSpec)) bitsLettersCard

/-- THE TIED CARD OF 'cellarerlaw01.BitsMasks'. -/
def bitsMasksCard : Claim7 := { stood := { row := bitsMasksRow, standIns := [], harness := (true, "4af59393812a223d2159510ef7af30024a035f51ef9629aa0cafb3743e3ce040"), looks := true }, kinds := [], alts := [], laidByText := true, laidKinds := [.data, .data, .data, .data], laidTests := true, laidLooks := .later }
def BitsMasksCardSaid : Prop := Claim7.holds Tryd.pinned (.plain (OpenSpec.ofChange bitsMasksSpec)) bitsMasksCard

/-- THE TIED CARD OF 'cellarerlaw01.BitsMay'. -/
def bitsMayCard : Claim7 := { stood := { row := bitsMayRow, standIns := [], harness := (true, "4af59393812a223d2159510ef7af30024a035f51ef9629aa0cafb3743e3ce040"), looks := true }, kinds := [], alts := [], laidByText := true, laidKinds := [.data, .data, .data, .data], laidTests := true, laidLooks := .later }
def BitsMayCardSaid : Prop := Claim7.holds Tryd.pinned (.plain (OpenSpec.ofChange bitsMaySpec)) bitsMayCard

/-- THE TIED CARD OF 'cellarerlaw01.BitsSums'. -/
def bitsSumsCard : Claim7 := { stood := { row := bitsSumsRow, standIns := [], harness := (true, "4af59393812a223d2159510ef7af30024a035f51ef9629aa0cafb3743e3ce040"), looks := true }, kinds := [], alts := [], laidByText := true, laidKinds := [.data, .data, .data, .sentinel, .sentinel, .data], laidTests := true, laidLooks := .later }
def BitsSumsCardSaid : Prop := Claim7.holds Tryd.pinned (.plain (OpenSpec.ofChange bitsSumsSpec)) bitsSumsCard

/-- THE TIED CARD OF 'cellarerlaw01.BitsTexts'. -/
def bitsTextsCard : Claim7 := { stood := { row := bitsTextsRow, standIns := [], harness := (true, "4af59393812a223d2159510ef7af30024a035f51ef9629aa0cafb3743e3ce040"), looks := true }, kinds := [], alts := [], laidByText := true, laidKinds := [.data, .data, .data, .sentinel, .sentinel, .data], laidTests := true, laidLooks := .later }
def BitsTextsCardSaid : Prop := Claim7.holds Tryd.pinned (.plain (OpenSpec.ofChange bitsTextsSpec)) bitsTextsCard

/-- THE SECOND FORM's CARD OF 'cellarerlaw01.BitsOctal'. -/
def bitsOctalUptoCard : Claim7 := { stood := { row := bitsOctalUptoRow, standIns := [], harness := (true, "4af59393812a223d2159510ef7af30024a035f51ef9629aa0cafb3743e3ce040"), looks := true }, kinds := [], alts := [], laidByText := true, laidKinds := [.data, .data, .data, .sentinel, .sentinel, .data], laidTests := true, laidLooks := .later }
def BitsOctalUptoCardSaid : Prop := Claim7.holds Tryd.pinned (.plain (OpenSpec.upto bitsOctalSpec)) bitsOctalUptoCard

/-- THE SECOND FORM's CARD OF 'cellarerlaw01.BitsPacks'. -/
def bitsPacksUptoCard : Claim7 := { stood := { row := bitsPacksUptoRow, standIns := [], harness := (true, "4af59393812a223d2159510ef7af30024a035f51ef9629aa0cafb3743e3ce040"), looks := true }, kinds := [], alts := [], laidByText := true, laidKinds := [.data, .data, .data, .data], laidTests := true, laidLooks := .later }
def BitsPacksUptoCardSaid : Prop := Claim7.holds Tryd.pinned (.plain (OpenSpec.upto bitsPacksSpec)) bitsPacksUptoCard

/-- THE SECOND FORM's CARD OF 'cellarerlaw01.BitsLetters'. -/
def bitsLettersUptoCard : Claim7 := { stood := { row := bitsLettersUptoRow, standIns := [], harness := (true, "4af59393812a223d2159510ef7af30024a035f51ef9629aa0cafb3743e3ce040"), looks := true }, kinds := [], alts := [], laidByText := true, laidKinds := [.data, .data, .data, .data], laidTests := true, laidLooks := .later }
def BitsLettersUptoCardSaid : Prop := Claim7.holds Tryd.pinned (.plain (OpenSpec.upto bitsLettersSpec)) bitsLettersUptoCard

/-- THE SECOND FORM's CARD OF 'cellarerlaw01.BitsMasks'. -/
def bitsMasksUptoCard : Claim7 := { stood := { row := bitsMasksUptoRow, standIns := [], harness := (true, "4af59393812a223d2159510ef7af30024a035f51ef9629aa0cafb3743e3ce040"), looks := true }, kinds := [], alts := [], laidByText := true, laidKinds := [.data, .data, .data, .data], laidTests := true, laidLooks := .later }
def BitsMasksUptoCardSaid : Prop := Claim7.holds Tryd.pinned (.plain (OpenSpec.upto bitsMasksSpec)) bitsMasksUptoCard

/-- THE SECOND FORM's CARD OF 'cellarerlaw01.BitsMay'. -/
def bitsMayUptoCard : Claim7 := { stood := { row := bitsMayUptoRow, standIns := [], harness := (true, "4af59393812a223d2159510ef7af30024a035f51ef9629aa0cafb3743e3ce040"), looks := true }, kinds := [], alts := [], laidByText := true, laidKinds := [.data, .data, .data, .data], laidTests := true, laidLooks := .later }
def BitsMayUptoCardSaid : Prop := Claim7.holds Tryd.pinned (.plain (OpenSpec.upto bitsMaySpec)) bitsMayUptoCard

/-- THE SECOND FORM's CARD OF 'cellarerlaw01.BitsSums'. -/
def bitsSumsUptoCard : Claim7 := { stood := { row := bitsSumsUptoRow, standIns := [], harness := (true, "4af59393812a223d2159510ef7af30024a035f51ef9629aa0cafb3743e3ce040"), looks := true }, kinds := [], alts := [], laidByText := true, laidKinds := [.data, .data, .data, .sentinel, .sentinel, .data], laidTests := true, laidLooks := .later }
def BitsSumsUptoCardSaid : Prop := Claim7.holds Tryd.pinned (.plain (OpenSpec.upto bitsSumsSpec)) bitsSumsUptoCard

/-- THE SECOND FORM's CARD OF 'cellarerlaw01.BitsTexts'. -/
def bitsTextsUptoCard : Claim7 := { stood := { row := bitsTextsUptoRow, standIns := [], harness := (true, "4af59393812a223d2159510ef7af30024a035f51ef9629aa0cafb3743e3ce040"), looks := true }, kinds := [], alts := [], laidByText := true, laidKinds := [.data, .data, .data, .sentinel, .sentinel, .data], laidTests := true, laidLooks := .later }
def BitsTextsUptoCardSaid : Prop := Claim7.holds Tryd.pinned (.plain (OpenSpec.upto bitsTextsSpec)) bitsTextsUptoCard
end Rows
end Go.Proofs.YtgoekfonbpffdaaDoor
