/-
  The reference's Name and Split, under one roof.
-/
import Derived.Test.YtbndndpjbhodbaaGreatDoorPNameRef
import Derived.Test.YtbndndpjbhodbaaGreatDoorSSplit
namespace Go.Proofs.YtbndndpjbhodbaaGreatDoor
open Go.RowKit
end Go.Proofs.YtbndndpjbhodbaaGreatDoor
