/-
  The program's Text of a version: what it returns; nothing old turns. Condition: LaidV.
-/
import Derived.Test.YteoomeknlfcfaaaGreatDoorVPEpoch
import Derived.Test.YteoomeknlfcfaaaGreatDoorVCompare
namespace Go.Proofs.YteoomeknlfcfaaaGreatDoor
open Go.RowKit Go.Sort
theorem below_grown (w : World) (k : Nat) (os : Array Obj) : Below w.heap.size w (grow (w.drewN k) os) :=
  ⟨rfl, rfl, rfl, by show w.heap.size ≤ (w.heap ++ os).size; rw [Array.size_append]; omega, fun j hj => by show (w.heap ++ os)[j]? = w.heap[j]?; rw [Array.getElem?_append_left hj]⟩
def headP (e : Int) (u : Bs) : Bs := if max e 0 ≠ 0 ∨ (58 : UInt8) ∈ u then Lib.itoa (max e 0) ++ [58] else []
theorem headP_is (e : Int) (u : Bs) : headP e u = headT e u := by
  unfold headP headT
  congr 1
  exact propext ⟨fun h => h.imp (fun g => by omega) id, fun h => h.imp (fun g => by omega) id⟩
end Go.Proofs.YteoomeknlfcfaaaGreatDoor
