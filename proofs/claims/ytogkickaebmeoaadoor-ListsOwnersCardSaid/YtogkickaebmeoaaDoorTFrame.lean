/-
  The frame of the lists' cards: LaidP out of the world's shape.
-/
import Derived.Test.YtogkickaebmeoaaDoorShFrame
import Derived.Test.YtogkickaebmeoaaDoorPResolved
namespace Go.Proofs.YtogkickaebmeoaaDoor
open Go.ChangeShapes Go.WideShapes Go.ChangeAt Go.RowKit
theorem maxlen_zero : ((begin Tryd.prog (fun _ _ => 0) default).world.heap[0]?).bind Obj.row? = some (#[.int .i64 0], 3) := by kernel_rfl
theorem laidP_of {w : World} (h : w.ShapedOpen Tryd.prog) (hs : 0 < w.heap.size) : LaidP w :=
  ⟨cell_of_shapedOpen_int h (of_decide_eq_true (by kernel_rfl)) maxlen_zero rfl (by kernel_rfl) (by kernel_rfl) Tryd.underlying3, hs⟩
theorem laidP_shaped {w : World} (h : w.ShapedOpen Tryd.prog) : LaidP w := by
  refine laidP_of h ?_
  obtain ⟨cs, hc, _⟩ := h.1 0 _ _ (of_decide_eq_true (by kernel_rfl)) maxlen_zero
  exact (Array.getElem?_eq_some_iff.1 hc).1
theorem spotNone {w : World} {a : Addr} {v : Value} (h : w.cell? a = some v) : a.spot = none := by
  unfold World.cell? at h
  split at h
  · split at h
    · cases h
    · rename_i hs; simpa using hs
  · cases h
theorem litAddr {W : World} {a : Addr} {u : Value} (h : W.cell? (a.add 0) = some u) : ∃ b o, a = ⟨b, o, none⟩ ∧ b < W.heap.size := by
  have h2 : W.cell? a = some u := by simpa [Addr.add] using h
  have hs := spotNone h2
  refine ⟨a.block, a.off, by cases a; simp_all, ?_⟩
  unfold World.cell? at h2
  split at h2
  · rename_i hq; exact (Array.getElem?_eq_some_iff.1 hq).1
  · cases h2
end Go.Proofs.YtogkickaebmeoaaDoor
