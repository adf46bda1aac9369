/-
  The reference's Parse of stanzas: what it returns; nothing old turns.
-/
import Derived.Test.YtomplnncbfdldaaDoorSParseM
import Derived.BigRegion
namespace Go.Proofs.YtomplnncbfdldaaDoor
open Go.RowKit
def ParsePost6 (s : Bs) (w : World) (e : Ending) (w' : World) : Prop := ∃ v b, e = .returned (.tuple #[v, .bool b]) ∧ (∀ l, parseS s = some l → b = true ∧ HoldRR 2 w' v (l.map (·.map rowF)) ∧ Small l (4 * (s.length + 1) + 1)) ∧ (parseS s = none → b = false) ∧ Below w.heap.size w w'
theorem news2 {w : World} {b : Nat} (X Y : ByteArray) (t : TypeId) (hb : b = w.heap.size) : ∀ j u, [Value.string X, .string Y][j]? = some u → (w.alloc (.cells #[.string X, .string Y] t)).cell? ((⟨b, 0, none⟩ : Addr).add j) = some u := by
  subst hb
  intro j u hj
  match j, hj with
  | 0, hj => simp at hj; subst hj; simp [Addr.add, World.cell?_alloc_new]
  | 1, hj => simp at hj; subst hj; simp [Addr.add, World.cell?_alloc_new]
  | j + 2, hj => simp at hj
theorem one2 (X Y : ByteArray) : ∀ u ∈ [Value.string X, .string Y], u.oneCell' = true := by
  intro u hu
  simp at hu
  rcases hu with rfl | rfl <;> rfl
theorem news1 {w : World} {b : Nat} (v : Value) (t : TypeId) (hb : b = w.heap.size) : ∀ j u, [v][j]? = some u → (w.alloc (.cells #[v] t)).cell? ((⟨b, 0, none⟩ : Addr).add j) = some u := by
  subst hb
  intro j u hj
  match j, hj with
  | 0, hj => simp at hj; subst hj; simp [Addr.add, World.cell?_alloc_new]
  | j + 1, hj => simp at hj
theorem one1 (a : Option Addr) (n c : Nat) : ∀ u ∈ [Value.slice a n c], u.oneCell' = true := by
  intro u hu
  simp at hu
  subst hu; rfl
end Go.Proofs.YtomplnncbfdldaaDoor
