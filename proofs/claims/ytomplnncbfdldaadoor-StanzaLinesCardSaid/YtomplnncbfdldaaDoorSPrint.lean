/-
  The reference's Print of stanzas: what it returns; nothing old turns.
-/
import Derived.Test.YtomplnncbfdldaaDoorSPrintM
import Derived.Deep.DeepCutAuto
import Derived.Deep.CutRange
namespace Go.Proofs.YtomplnncbfdldaaDoor
open Go.RowKit
def PrintPost (l : List (List Fld)) (w : World) (e : Ending) (w' : World) : Prop := e = .returned (.tuple #[.string ⟨(printE l).1.toArray⟩, .int .i64 (printE l).2]) ∧ Below w.heap.size w w'
theorem box2 {A B : World} {b : Nat} {x y : ByteArray} (h : A.cell? ⟨b, 0, none⟩ = some (.string x) ∧ A.cell? ⟨b, 1, none⟩ = some (.string y)) (hb : Below A.heap.size A B) : B.cell? ⟨b, 0, none⟩ = some (.string x) ∧ B.cell? ⟨b, 1, none⟩ = some (.string y) := by
  have hlt := World.block_lt_of_cell? A _ h.1
  have k := fun o => hb.cell (p := ⟨b, o, none⟩) hlt
  exact ⟨by rw [k]; exact h.1, by rw [k]; exact h.2⟩
theorem boxNew (A : World) (x y : ByteArray) (t : TypeId) (q : Nat) : ((A.alloc (.cells #[.string x, .string y] t)).drewN q).cell? ⟨A.heap.size, 0, none⟩ = some (.string x) ∧ ((A.alloc (.cells #[.string x, .string y] t)).drewN q).cell? ⟨A.heap.size, 1, none⟩ = some (.string y) := by
  rw [World.cell?_drewN, World.cell?_drewN]; simp [World.cell?_alloc_new]
theorem len_of {a b c : Bs} (h : a ++ b = c) : a.length + b.length = c.length := by rw [← h, List.length_append]
end Go.Proofs.YtomplnncbfdldaaDoor
