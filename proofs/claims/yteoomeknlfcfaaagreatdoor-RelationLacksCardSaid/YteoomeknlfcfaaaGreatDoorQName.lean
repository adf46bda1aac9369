/-
  The reference's Name and Split, under one roof.
-/
import Derived.Test.YteoomeknlfcfaaaGreatDoorPNameRef
import Derived.Test.YteoomeknlfcfaaaGreatDoorSSplit
namespace Go.Proofs.YteoomeknlfcfaaaGreatDoor
open Go.RowKit
end Go.Proofs.YteoomeknlfcfaaaGreatDoor
