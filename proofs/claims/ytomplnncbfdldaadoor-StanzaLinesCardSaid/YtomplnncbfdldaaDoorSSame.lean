/-
  The reference's Same of two lists of stanzas that are alike.
-/
import Derived.Test.YtomplnncbfdldaaDoorSHead
import Derived.Laws.StructEq
namespace Go.Proofs.YtomplnncbfdldaaDoor
open Go.RowKit
end Go.Proofs.YtomplnncbfdldaaDoor
