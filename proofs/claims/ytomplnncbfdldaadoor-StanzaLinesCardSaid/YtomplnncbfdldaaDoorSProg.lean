/-
  The contracts of the program's stanza that the walks want; nothing old turns.
-/
import Derived.Test.YtomplnncbfdldaaDoorSPParse
namespace Go.Proofs.YtomplnncbfdldaaDoor
open Go.RowKit
theorem sparse_any (s : ByteArray) (hs : s.size ≤ 20000) (w : World) : Calls Tryd.prog 10 #[.string s] w fun e w' => ∃ v z, e = .returned (.tuple #[v, .int .i64 z]) ∧ (∀ l, parseS s.data.toList = some l → z = 0 ∧ HoldRR 2 w' v (l.map (·.map rowF))) ∧ (parseS s.data.toList = none → z = 2 ∧ HoldRR 2 w' v []) ∧ Below w.heap.size w w' := sparse_post s hs w
end Go.Proofs.YtomplnncbfdldaaDoor
