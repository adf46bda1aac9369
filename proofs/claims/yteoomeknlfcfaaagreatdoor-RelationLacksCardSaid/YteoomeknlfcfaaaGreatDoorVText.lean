/-
  The reference's Text of a version: what it returns; nothing old turns.
-/
import Derived.Test.YteoomeknlfcfaaaGreatDoorVParse
import Derived.Test.YteoomeknlfcfaaaGreatDoorRText
import Derived.Deep.DeepCutAuto
import Derived.Deep.CutRange
namespace Go.Proofs.YteoomeknlfcfaaaGreatDoor
open Go.RowKit
def headT (e : Int) (u : Bs) : Bs := if 0 < e ∨ (58 : UInt8) ∈ u then Lib.itoa (max e 0) ++ [58] else []
def tailT (u r : Bs) : Bs := if r ≠ [48] ∨ (45 : UInt8) ∈ u then 45 :: r else []
theorem verText_is (e : Int) (u r : Bs) : verText (e, u, r) = (headT e u ++ u) ++ tailT u r := by unfold verText headT tailT; simp
theorem itoa_sz (n : Int) (h0 : 0 ≤ n) (h1 : n ≤ 9223372036854775807) : (Lib.itoa n).length ≤ 20 := by
  rw [itoa_nat n h0]
  have := dec_len 19 n.toNat (by omega)
  omega
theorem appL (a b : ByteArray) : (a ++ b).data.toList = a.data.toList ++ b.data.toList := by simp
end Go.Proofs.YteoomeknlfcfaaaGreatDoor
