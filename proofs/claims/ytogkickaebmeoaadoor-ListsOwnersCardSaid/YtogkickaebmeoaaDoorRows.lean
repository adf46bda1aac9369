/-
  NARROWER THAN 'FOR EVERY INPUT', by the rows' own cells (each row's printed sentence says how): ListsPrints: laid · ListsParses: laid · ListsPuts: laid · ListsOwners: laid · DivsPuts: laid.
  DERIVED. THE GIVEN ROWS OF THIS SEAT. 5 by the template 'for every input the law returns true; each argument reads behind the call as it read before'; 0 by the template 'total and deterministic' (their statements: YtogkickaebmeoaaDoorTotals.lean).
  GIVEN WITH THE SEED: the statements are not yours to turn. If you find one false, say at which input.
  Laid BY PROGRAM, IN A SANDBOX (cutbox-rows.mjs): the forced cells as the released guide's own fill.sh prints them over the translation 7baed0e7eb89fbfe… (all of the seat's roots in one cut). By AI agents, Wed Nov 11 2026. No macro, syntax, notation, axiom, sorry.
-/
import Derived.Test.YtogkickaebmeoaaDoorChecked
import GoSem.PinnedTables
import GoSem.Claim
import GoSem.ClaimJoined
import GoSem.ClaimMapViews
import Derived.JoinedTies
import Derived.KernelRfl
namespace Go.Proofs.YtogkickaebmeoaaDoor
/- THE CELL 'sum', in the pinned program and in every row, IS THE sha256 OF THE DUMP (.gsa) THAT YtogkickaebmeoaaDoorProg.lean LOADS. Nothing in Lean hashes anything: it is a label: what it is worth is what the hold of that sum in a sandbox is worth. -/
noncomputable def Tryd.pinned : Pinned := { name := "ytogkickaebmeoaadoor", sum := "7baed0e7eb89fbfe3c71a6e662e05b646ef856e0b090d7732a3ee851e96efd5c", checked := Tryd.checked }
namespace Rows
def none {H : Type} : Left H := { results := [], args := [] }

/- WHAT THE LISTED PACKAGE-LEVEL VARIABLES READ AS WHEN THE CALL BEGINS. Each datum BY PROGRAM (the guide's laid-datum.mjs) off the statement by which the dump's own 'gosem.cut.vars' lays the variable. In a bare row this is a premise. The card (YtogkickaebmeoaaDoorCards.lean) ties it to the program's text. -/
def laid_unicode_utf8_acceptRanges {H : Type} : DataW H := .agg [.agg [.lit (.int .u8 128), .lit (.int .u8 191)], .agg [.lit (.int .u8 160), .lit (.int .u8 191)], .agg [.lit (.int .u8 128), .lit (.int .u8 159)], .agg [.lit (.int .u8 144), .lit (.int .u8 191)], .agg [.lit (.int .u8 128), .lit (.int .u8 143)], .agg [.lit (.int .u8 0), .lit (.int .u8 0)], .agg [.lit (.int .u8 0), .lit (.int .u8 0)], .agg [.lit (.int .u8 0), .lit (.int .u8 0)], .agg [.lit (.int .u8 0), .lit (.int .u8 0)], .agg [.lit (.int .u8 0), .lit (.int .u8 0)], .agg [.lit (.int .u8 0), .lit (.int .u8 0)], .agg [.lit (.int .u8 0), .lit (.int .u8 0)], .agg [.lit (.int .u8 0), .lit (.int .u8 0)], .agg [.lit (.int .u8 0), .lit (.int .u8 0)], .agg [.lit (.int .u8 0), .lit (.int .u8 0)], .agg [.lit (.int .u8 0), .lit (.int .u8 0)]]
/-- One of Go's own tables, pinned by name: the form's constant. -/
def laid_unicode_utf8_first : DataW Unit := Go.Pinned.utf8First

/-- 'cellarerlaw13.ListsPrints': WHATEVER THE INPUT: true; the input reads as it did. -/
def listsPrintsSpec : ChangeSpec := { name := "listsPrints", fn := fun _ => fun
  | [d1, d2] => { results := [.lit (.bool true)], args := [d1, d2] }
  | _ => none }
def listsPrintsRow : OpenClaim := { program := "ytogkickaebmeoaadoor", sum := "7baed0e7eb89fbfe3c71a6e662e05b646ef856e0b090d7732a3ee851e96efd5c", func := "cellarer/cellarerlaw13.ListsPrints", spec := "listsPrints", inPlace := ["internal/bytealg.IndexByteString", "internal/bytealg.CountString", "internal/bytealg.IndexString", "internal/abi.NoEscape", "internal/bytealg.MakeNoZero"], unfollowed := true, recurses := true, named := ["unicode/utf8.first", "unicode/utf8.acceptRanges", "internal/bytealg.MaxLen"], apart := false, laid := [("unicode/utf8.acceptRanges", laid_unicode_utf8_acceptRanges), ("unicode/utf8.first", laid_unicode_utf8_first)] }
def ListsPrintsSaid : Prop := listsPrintsRow.holds Tryd.pinned (OpenSpec.ofChange listsPrintsSpec)

/-- ITS FALSE NEIGHBOUR: 'it returns false'. Refute it at one input. -/
def listsPrintsWrong : ChangeSpec := { name := "listsPrints", fn := fun _ => fun
  | [d1, d2] => { results := [.lit (.bool false)], args := [d1, d2] }
  | _ => none }
def ListsPrintsWrongFalsely : Prop := listsPrintsRow.holds Tryd.pinned (OpenSpec.ofChange listsPrintsWrong)

/-- 'cellarerlaw13.ListsParses': WHATEVER THE INPUT: true; the input reads as it did. -/
def listsParsesSpec : ChangeSpec := { name := "listsParses", fn := fun _ => fun
  | [d1, d2] => { results := [.lit (.bool true)], args := [d1, d2] }
  | _ => none }
def listsParsesRow : OpenClaim := { program := "ytogkickaebmeoaadoor", sum := "7baed0e7eb89fbfe3c71a6e662e05b646ef856e0b090d7732a3ee851e96efd5c", func := "cellarer/cellarerlaw13.ListsParses", spec := "listsParses", inPlace := ["internal/bytealg.IndexByteString", "internal/bytealg.CountString", "internal/bytealg.IndexString", "internal/abi.NoEscape", "internal/bytealg.MakeNoZero"], unfollowed := true, recurses := true, named := ["unicode/utf8.first", "unicode/utf8.acceptRanges", "internal/bytealg.MaxLen"], apart := false, laid := [("unicode/utf8.acceptRanges", laid_unicode_utf8_acceptRanges), ("unicode/utf8.first", laid_unicode_utf8_first)] }
def ListsParsesSaid : Prop := listsParsesRow.holds Tryd.pinned (OpenSpec.ofChange listsParsesSpec)

/-- ITS FALSE NEIGHBOUR: 'it returns false'. Refute it at one input. -/
def listsParsesWrong : ChangeSpec := { name := "listsParses", fn := fun _ => fun
  | [d1, d2] => { results := [.lit (.bool false)], args := [d1, d2] }
  | _ => none }
def ListsParsesWrongFalsely : Prop := listsParsesRow.holds Tryd.pinned (OpenSpec.ofChange listsParsesWrong)

/-- 'cellarerlaw13.ListsPuts': WHATEVER THE INPUT: true; the input reads as it did. -/
def listsPutsSpec : ChangeSpec := { name := "listsPuts", fn := fun _ => fun
  | [d1, d2, d3] => { results := [.lit (.bool true)], args := [d1, d2, d3] }
  | _ => none }
def listsPutsRow : OpenClaim := { program := "ytogkickaebmeoaadoor", sum := "7baed0e7eb89fbfe3c71a6e662e05b646ef856e0b090d7732a3ee851e96efd5c", func := "cellarer/cellarerlaw13.ListsPuts", spec := "listsPuts", inPlace := ["internal/bytealg.IndexByteString", "internal/bytealg.CountString", "internal/bytealg.IndexString", "internal/abi.NoEscape", "internal/bytealg.MakeNoZero", "slices.overlaps[cellarer/api.List]"], unfollowed := true, recurses := true, named := ["unicode/utf8.first", "unicode/utf8.acceptRanges", "internal/bytealg.MaxLen"], apart := false, laid := [("unicode/utf8.acceptRanges", laid_unicode_utf8_acceptRanges), ("unicode/utf8.first", laid_unicode_utf8_first)] }
def ListsPutsSaid : Prop := listsPutsRow.holds Tryd.pinned (OpenSpec.ofChange listsPutsSpec)

/-- ITS FALSE NEIGHBOUR: 'it returns false'. Refute it at one input. -/
def listsPutsWrong : ChangeSpec := { name := "listsPuts", fn := fun _ => fun
  | [d1, d2, d3] => { results := [.lit (.bool false)], args := [d1, d2, d3] }
  | _ => none }
def ListsPutsWrongFalsely : Prop := listsPutsRow.holds Tryd.pinned (OpenSpec.ofChange listsPutsWrong)

/-- 'cellarerlaw13.ListsOwners': WHATEVER THE INPUT: true; the input reads as it did. -/
def listsOwnersSpec : ChangeSpec := { name := "listsOwners", fn := fun _ => fun
  | [d1, d2, d3] => { results := [.lit (.bool true)], args := [d1, d2, d3] }
  | _ => none }
def listsOwnersRow : OpenClaim := { program := "ytogkickaebmeoaadoor", sum := "7baed0e7eb89fbfe3c71a6e662e05b646ef856e0b090d7732a3ee851e96efd5c", func := "cellarer/cellarerlaw13.ListsOwners", spec := "listsOwners", inPlace := ["internal/bytealg.IndexByteString", "internal/bytealg.CountString", "internal/bytealg.IndexString", "internal/abi.NoEscape", "internal/bytealg.MakeNoZero"], unfollowed := true, recurses := true, named := ["unicode/utf8.first", "unicode/utf8.acceptRanges", "internal/bytealg.MaxLen"], apart := false, laid := [("unicode/utf8.acceptRanges", laid_unicode_utf8_acceptRanges), ("unicode/utf8.first", laid_unicode_utf8_first)] }
def ListsOwnersSaid : Prop := listsOwnersRow.holds Tryd.pinned (OpenSpec.ofChange listsOwnersSpec)

/-- ITS FALSE NEIGHBOUR: 'it returns false'. Refute it at one input. -/
def listsOwnersWrong : ChangeSpec := { name := "listsOwners", fn := fun _ => fun
  | [d1, d2, d3] => { results := [.lit (.bool false)], args := [d1, d2, d3] }
  | _ => none }
def ListsOwnersWrongFalsely : Prop := listsOwnersRow.holds Tryd.pinned (OpenSpec.ofChange listsOwnersWrong)

/-- 'cellarerlaw09.DivsPuts': WHATEVER THE INPUT: true; the input reads as it did. -/
def divsPutsSpec : ChangeSpec := { name := "divsPuts", fn := fun _ => fun
  | [d1, d2, d3] => { results := [.lit (.bool true)], args := [d1, d2, d3] }
  | _ => none }
def divsPutsRow : OpenClaim := { program := "ytogkickaebmeoaadoor", sum := "7baed0e7eb89fbfe3c71a6e662e05b646ef856e0b090d7732a3ee851e96efd5c", func := "cellarer/cellarerlaw09.DivsPuts", spec := "divsPuts", inPlace := ["internal/bytealg.CountString", "internal/bytealg.IndexByteString", "internal/bytealg.IndexString", "internal/abi.NoEscape", "internal/bytealg.MakeNoZero", "slices.overlaps[cellarer/api.Divert]"], unfollowed := true, recurses := true, named := ["unicode/utf8.first", "unicode/utf8.acceptRanges", "internal/bytealg.MaxLen"], apart := false, laid := [("unicode/utf8.acceptRanges", laid_unicode_utf8_acceptRanges), ("unicode/utf8.first", laid_unicode_utf8_first)] }
def DivsPutsSaid : Prop := divsPutsRow.holds Tryd.pinned (OpenSpec.ofChange divsPutsSpec)

/-- ITS FALSE NEIGHBOUR: 'it returns false'. Refute it at one input. -/
def divsPutsWrong : ChangeSpec := { name := "divsPuts", fn := fun _ => fun
  | [d1, d2, d3] => { results := [.lit (.bool false)], args := [d1, d2, d3] }
  | _ => none }
def DivsPutsWrongFalsely : Prop := divsPutsRow.holds Tryd.pinned (OpenSpec.ofChange divsPutsWrong)

/- THE SECOND FORM. 'bulk': how many values and letters a reading holds, each counted each time it is reached (what is shared counts as often as it is met; a slice's spare places count too). A statement '..UptoSaid' is the law's where the arguments, and the package variables that the reading takes, are together of bulk at most 1048576: NARROWER than '..Said'. Prove '..Said' where nothing that the law and all that it calls make is longer than what came in: it says more and counts as full. Else prove '..UptoSaid'. A law counts once. -/
mutual
def uptoBulk {H : Type} : DataW H → Nat
  | .lit (.string bytes) => bytes.length + 1
  | .lit _ => 1
  | .nil => 1
  | .ptr d => uptoBulk d + 1
  | .slice elems spare => uptoBulkAll elems + uptoBulkAll spare + 1
  | .agg parts => uptoBulkAll parts + 1
  | .iface _ d => uptoBulk d + 1
  | .map entries => uptoBulkEntries entries + 1
  | .held _ => 1
def uptoBulkAll {H : Type} : List (DataW H) → Nat
  | [] => 0
  | d :: r => uptoBulk d + uptoBulkAll r
def uptoBulkEntries {H : Type} : List (Lit × DataW H) → Nat
  | [] => 0
  | x :: r => uptoBulkEntry x + uptoBulkEntries r
def uptoBulkEntry {H : Type} : Lit × DataW H → Nat
  | (.string bytes, d) => bytes.length + uptoBulk d + 1
  | (_, d) => uptoBulk d + 1
 end
def uptoSmall : (H : Type) → List (DataW H) → Bool := fun _ ds => decide (uptoBulkAll ds ≤ 1048576)
def OpenSpec.upto (s : _root_.Go.ChangeSpec) : _root_.Go.OpenSpec := { _root_.Go.OpenSpec.ofChange s with cond := some uptoSmall }

/-- 'cellarerlaw13.ListsPrints', WHERE WHAT IT READS IS OF BULK AT MOST 1048576: true; the input reads as it did. -/
def listsPrintsUptoRow : OpenClaim := { program := "ytogkickaebmeoaadoor", sum := "7baed0e7eb89fbfe3c71a6e662e05b646ef856e0b090d7732a3ee851e96efd5c", func := "cellarer/cellarerlaw13.ListsPrints", spec := "listsPrints", inPlace := ["internal/bytealg.IndexByteString", "internal/bytealg.CountString", "internal/bytealg.IndexString", "internal/abi.NoEscape", "internal/bytealg.MakeNoZero"], unfollowed := true, recurses := true, named := ["unicode/utf8.first", "unicode/utf8.acceptRanges", "internal/bytealg.MaxLen"], apart := false, laid := [("unicode/utf8.acceptRanges", laid_unicode_utf8_acceptRanges), ("unicode/utf8.first", laid_unicode_utf8_first)], narrowed := true }
def ListsPrintsUptoSaid : Prop := listsPrintsUptoRow.holds Tryd.pinned (OpenSpec.upto listsPrintsSpec)

/-- 'cellarerlaw13.ListsParses', WHERE WHAT IT READS IS OF BULK AT MOST 1048576: true; the input reads as it did. -/
def listsParsesUptoRow : OpenClaim := { program := "ytogkickaebmeoaadoor", sum := "7baed0e7eb89fbfe3c71a6e662e05b646ef856e0b090d7732a3ee851e96efd5c", func := "cellarer/cellarerlaw13.ListsParses", spec := "listsParses", inPlace := ["internal/bytealg.IndexByteString", "internal/bytealg.CountString", "internal/bytealg.IndexString", "internal/abi.NoEscape", "internal/bytealg.MakeNoZero"], unfollowed := true, recurses := true, named := ["unicode/utf8.first", "unicode/utf8.acceptRanges", "internal/bytealg.MaxLen"], apart := false, laid := [("unicode/utf8.acceptRanges", laid_unicode_utf8_acceptRanges), ("unicode/utf8.first", laid_unicode_utf8_first)], narrowed := true }
def ListsParsesUptoSaid : Prop := listsParsesUptoRow.holds Tryd.pinned (OpenSpec.upto listsParsesSpec)

/-- 'cellarerlaw13.ListsPuts', WHERE WHAT IT READS IS OF BULK AT MOST 1048576: true; the input reads as it did. -/
def listsPutsUptoRow : OpenClaim := { program := "ytogkickaebmeoaadoor", sum := "7baed0e7eb89fbfe3c71a6e662e05b646ef856e0b090d7732a3ee851e96efd5c", func := "cellarer/cellarerlaw13.ListsPuts", spec := "listsPuts", inPlace := ["internal/bytealg.IndexByteString", "internal/bytealg.CountString", "internal/bytealg.IndexString", "internal/abi.NoEscape", "internal/bytealg.MakeNoZero", "slices.overlaps[cellarer/api.List]"], unfollowed := true, recurses := true, named := ["unicode/utf8.first", "unicode/utf8.acceptRanges", "internal/bytealg.MaxLen"], apart := false, laid := [("unicode/utf8.acceptRanges", laid_unicode_utf8_acceptRanges), ("unicode/utf8.first", laid_unicode_utf8_first)], narrowed := true }
def ListsPutsUptoSaid : Prop := listsPutsUptoRow.holds Tryd.pinned (OpenSpec.upto listsPutsSpec)

/-- 'cellarerlaw13.ListsOwners', WHERE WHAT IT READS IS OF BULK AT MOST 1048576: true; the input reads as it did. -/
def listsOwnersUptoRow : OpenClaim := { program := "ytogkickaebmeoaadoor", sum := "7baed0e7eb89fbfe3c71a6e662e05b646ef856e0b090d7732a3ee851e96efd5c", func := "cellarer/cellarerlaw13.ListsOwners", spec := "listsOwners", inPlace := ["internal/bytealg.IndexByteString", "internal/bytealg.CountString", "internal/bytealg.IndexString", "internal/abi.NoEscape", "internal/bytealg.MakeNoZero"], unfollowed := true, recurses := true, named := ["unicode/utf8.first", "unicode/utf8.acceptRanges", "internal/bytealg.MaxLen"], apart := false, laid := [("unicode/utf8.acceptRanges", laid_unicode_utf8_acceptRanges), ("unicode/utf8.first", laid_unicode_utf8_first)], narrowed := true }
def ListsOwnersUptoSaid : Prop := listsOwnersUptoRow.holds Tryd.pinned (OpenSpec.upto listsOwnersSpec)

/-- 'cellarerlaw09.DivsPuts', WHERE WHAT IT READS IS OF BULK AT MOST 1048576: true; the input reads as it did. -/
def divsPutsUptoRow : OpenClaim := { program := "ytogkickaebmeoaadoor", sum := "7baed0e7eb89fbfe3c71a6e662e05b646ef856e0b090d7732a3ee851e96efd5c", func := "cellarer/cellarerlaw09.DivsPuts", spec := "divsPuts", inPlace := ["internal/bytealg.CountString", "internal/bytealg.IndexByteString", "internal/bytealg.IndexString", "internal/abi.NoEscape", "internal/bytealg.MakeNoZero", "slices.overlaps[cellarer/api.Divert]"], unfollowed := true, recurses := true, named := ["unicode/utf8.first", "unicode/utf8.acceptRanges", "internal/bytealg.MaxLen"], apart := false, laid := [("unicode/utf8.acceptRanges", laid_unicode_utf8_acceptRanges), ("unicode/utf8.first", laid_unicode_utf8_first)], narrowed := true }
def DivsPutsUptoSaid : Prop := divsPutsUptoRow.holds Tryd.pinned (OpenSpec.upto divsPutsSpec)

end Rows
end Go.Proofs.YtogkickaebmeoaaDoor
