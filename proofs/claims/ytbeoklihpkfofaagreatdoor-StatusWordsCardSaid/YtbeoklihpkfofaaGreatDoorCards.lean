/-
  DERIVED. GIVEN WITH THE SEED: THE CARDS: each row of YtbeoklihpkfofaaGreatDoorRows.lean that lists a variable, with what it lists TIED to the program's text (the seventh form; the later family's looks); each row that meets fmt, with fmt's text TOLD by the authors' own Lean function (tested against real Go, not proved from fmt's source: count such statements apart). THE CARD IS WHAT COUNTS. Prove the row's statement (the work); the ties are given (YtbeoklihpkfofaaGreatDoorTie.lean); close each card by the builder's one call (the guide's Derived/Test/ToyasCard.lean, 'card_holds'). Laid BY PROGRAM, IN A SANDBOX (cutbox-door.mjs). By AI agents, Wed Nov 11 2026. No macro, syntax, notation, axiom, sorry.
-/
import Derived.Test.YtbeoklihpkfofaaGreatDoorRows
import GoSem.ClaimSeven
namespace Go.Proofs.YtbeoklihpkfofaaGreatDoor
namespace Rows

/-- THE TIED CARD OF 'cellarerlaw08.StatusWords'. -/
def statusWordsCard : Claim7 := { stood := { row := statusWordsRow, standIns := [], harness := (true, "b184895db240aa959f9bc8d21f2684bbce6bd17f01e343b7dee43374bf3f2540"), looks := true }, kinds := [], alts := [], laidByText := true, laidKinds := [.data, .data, .data, .data, .sentinel, .sentinel, .data, .pinned], laidTests := true, laidLooks := .later }
def StatusWordsCardSaid : Prop := Claim7.holds Tryz.pinned (.plain (OpenSpec.ofChange statusWordsSpec)) statusWordsCard

/-- THE TIED CARD OF 'cellarerlaw08.StatusRight'. -/
def statusRightCard : Claim7 := { stood := { row := statusRightRow, standIns := [], harness := (true, "b184895db240aa959f9bc8d21f2684bbce6bd17f01e343b7dee43374bf3f2540"), looks := true }, kinds := [], alts := [], laidByText := true, laidKinds := [.data, .data, .data, .data, .sentinel, .sentinel, .data, .pinned], laidTests := true, laidLooks := .later }
def StatusRightCardSaid : Prop := Claim7.holds Tryz.pinned (.plain (OpenSpec.ofChange statusRightSpec)) statusRightCard

/-- THE TIED CARD OF 'cellarerlaw08.StatusPuts'. -/
def statusPutsCard : Claim7 := { stood := { row := statusPutsRow, standIns := [], harness := (true, "b184895db240aa959f9bc8d21f2684bbce6bd17f01e343b7dee43374bf3f2540"), looks := true }, kinds := [], alts := [], laidByText := true, laidKinds := [.data, .data, .data, .data, .sentinel, .sentinel, .data, .pinned], laidTests := true, laidLooks := .later }
def StatusPutsCardSaid : Prop := Claim7.holds Tryz.pinned (.plain (OpenSpec.ofChange statusPutsSpec)) statusPutsCard

/-- THE TIED CARD OF 'cellarerlaw08.StatusPrints'. -/
def statusPrintsCard : Claim7 := { stood := { row := statusPrintsRow, standIns := [], harness := (true, "b184895db240aa959f9bc8d21f2684bbce6bd17f01e343b7dee43374bf3f2540"), looks := true }, kinds := [], alts := [], laidByText := true, laidKinds := [.data, .data, .data, .data, .sentinel, .sentinel, .data, .pinned], laidTests := true, laidLooks := .later }
def StatusPrintsCardSaid : Prop := Claim7.holds Tryz.pinned (.plain (OpenSpec.ofChange statusPrintsSpec)) statusPrintsCard

/-- THE TIED CARD OF 'cellarerlaw08.StatusParses'. -/
def statusParsesCard : Claim7 := { stood := { row := statusParsesRow, standIns := [], harness := (true, "b184895db240aa959f9bc8d21f2684bbce6bd17f01e343b7dee43374bf3f2540"), looks := true }, kinds := [], alts := [], laidByText := true, laidKinds := [.data, .data, .data, .data, .sentinel, .sentinel, .data, .pinned], laidTests := true, laidLooks := .later }
def StatusParsesCardSaid : Prop := Claim7.holds Tryz.pinned (.plain (OpenSpec.ofChange statusParsesSpec)) statusParsesCard

/-- THE SECOND FORM's CARD OF 'cellarerlaw08.StatusWords'. -/
def statusWordsUptoCard : Claim7 := { stood := { row := statusWordsUptoRow, standIns := [], harness := (true, "b184895db240aa959f9bc8d21f2684bbce6bd17f01e343b7dee43374bf3f2540"), looks := true }, kinds := [], alts := [], laidByText := true, laidKinds := [.data, .data, .data, .data, .sentinel, .sentinel, .data, .pinned], laidTests := true, laidLooks := .later }
def StatusWordsUptoCardSaid : Prop := Claim7.holds Tryz.pinned (.plain (OpenSpec.upto statusWordsSpec)) statusWordsUptoCard

/-- THE SECOND FORM's CARD OF 'cellarerlaw08.StatusRight'. -/
def statusRightUptoCard : Claim7 := { stood := { row := statusRightUptoRow, standIns := [], harness := (true, "b184895db240aa959f9bc8d21f2684bbce6bd17f01e343b7dee43374bf3f2540"), looks := true }, kinds := [], alts := [], laidByText := true, laidKinds := [.data, .data, .data, .data, .sentinel, .sentinel, .data, .pinned], laidTests := true, laidLooks := .later }
def StatusRightUptoCardSaid : Prop := Claim7.holds Tryz.pinned (.plain (OpenSpec.upto statusRightSpec)) statusRightUptoCard

/-- THE SECOND FORM's CARD OF 'cellarerlaw08.StatusPuts'. -/
def statusPutsUptoCard : Claim7 := { stood := { row := statusPutsUptoRow, standIns := [], harness := (true, "b184895db240aa959f9bc8d21f2684bbce6bd17f01e343b7dee43374bf3f2540"), looks := true }, kinds := [], alts := [], laidByText := true, laidKinds := [.data, .data, .data, .data, .sentinel, .sentinel, .data, .pinned], laidTests := true, laidLooks := .later }
def StatusPutsUptoCardSaid : Prop := Claim7.holds Tryz.pinned (.plain (OpenSpec.upto statusPutsSpec)) statusPutsUptoCard

/-- THE SECOND FORM's CARD OF 'cellarerlaw08.StatusPrints'. -/
def statusPrintsUptoCard : Claim7 := { stood := { row := statusPrintsUptoRow, standIns := [], harness := (true, "b184895db240aa959f9bc8d21f2684bbce6bd17f01e343b7dee43374bf3f2540"), looks := true }, kinds := [], alts := [], laidByText := true, laidKinds := [.data, .data, .data, .data, .sentinel, .sentinel, .data, .pinned], laidTests := true, laidLooks := .later }
def StatusPrintsUptoCardSaid : Prop := Claim7.holds Tryz.pinned (.plain (OpenSpec.upto statusPrintsSpec)) statusPrintsUptoCard

/-- THE SECOND FORM's CARD OF 'cellarerlaw08.StatusParses'. -/
def statusParsesUptoCard : Claim7 := { stood := { row := statusParsesUptoRow, standIns := [], harness := (true, "b184895db240aa959f9bc8d21f2684bbce6bd17f01e343b7dee43374bf3f2540"), looks := true }, kinds := [], alts := [], laidByText := true, laidKinds := [.data, .data, .data, .data, .sentinel, .sentinel, .data, .pinned], laidTests := true, laidLooks := .later }
def StatusParsesUptoCardSaid : Prop := Claim7.holds Tryz.pinned (.plain (OpenSpec.upto statusParsesSpec)) statusParsesUptoCard
end Rows
end Go.Proofs.YtbeoklihpkfofaaGreatDoor
