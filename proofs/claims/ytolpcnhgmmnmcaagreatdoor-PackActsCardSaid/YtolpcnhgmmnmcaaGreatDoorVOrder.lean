/-
  The reference's Order: what it returns; of the world nothing turns but draws.
-/
import Derived.Test.YtolpcnhgmmnmcaaGreatDoorVPiece
namespace Go.Proofs.YtolpcnhgmmnmcaaGreatDoor
open Go.RowKit
theorem noughts_le (l : Bs) : (noughts l).length ≤ l.length := (List.dropWhile_sublist _).length_le
end Go.Proofs.YtolpcnhgmmnmcaaGreatDoor
