/-
  The frame of the selections' cards: LaidP out of the world's shape.
-/
import Derived.Test.YtoipggglmpcjfaaDoorShFrame
import Derived.Test.YtoipggglmpcjfaaDoorPResolved
namespace Go.Proofs.YtoipggglmpcjfaaDoor
open Go.ChangeShapes Go.WideShapes Go.ChangeAt Go.RowKit
theorem maxlen_zero : ((begin Tryd.prog (fun _ _ => 0) default).world.heap[0]?).bind Obj.row? = some (#[.int .i64 0], 3) := by kernel_rfl
theorem laidP_of {w : World} (h : w.ShapedOpen Tryd.prog) (hs : 0 < w.heap.size) : LaidP w :=
  ⟨cell_of_shapedOpen_int h (of_decide_eq_true (by kernel_rfl)) maxlen_zero rfl (by kernel_rfl) (by kernel_rfl) Tryd.underlying3, hs⟩
theorem laidP_shaped {w : World} (h : w.ShapedOpen Tryd.prog) : LaidP w := by
  refine laidP_of h ?_
  obtain ⟨cs, hc, _⟩ := h.1 0 _ _ (of_decide_eq_true (by kernel_rfl)) maxlen_zero
  exact (Array.getElem?_eq_some_iff.1 hc).1
end Go.Proofs.YtoipggglmpcjfaaDoor
