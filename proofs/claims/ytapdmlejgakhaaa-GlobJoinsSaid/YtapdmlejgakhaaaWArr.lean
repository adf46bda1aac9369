/-
  The 256 answers of a set in memory; what a set's function tells; nothing old turns.
-/
import Derived.Test.YtapdmlejgakhaaaWLit
import Derived.Test.YtapdmlejgakhaaaBoxV
import Derived.Shelf.Abstract
import Derived.Maps.AppendAt
import Derived.Deep.AppendLies
namespace Go.Proofs.Ytapdmlejgakhaaa
open Go.RowKit
abbrev Z256 : Array Value := Array.replicate 256 (.bool false)
theorem zero256 (W : World) : (zeroValue 54).run Try.prog W = .ok (.agg Z256) W := by kernel_rfl
def arr (f : Nat → Bool) : Array Value := ((List.range 256).map fun k => Value.bool (f k)).toArray
theorem arr_zero : arr (fun _ => false) = Z256 := by
  apply Array.ext
  · simp [arr]
  · intro i h1 h2
    simp [arr]
theorem arr_at (f : Nat → Bool) (k : Nat) (h : k < 256) : (arr f)[k]? = some (.bool (f k)) := by
  unfold arr
  rw [List.getElem?_toArray, List.getElem?_map, List.getElem?_range h]; rfl
theorem arr_set (f : Nat → Bool) (k : Nat) : (arr f).setIfInBounds k (.bool true) = arr (fun x => f x || decide (x = k)) := by
  apply Array.ext
  · simp [arr]
  · intro i h1 h2
    simp only [arr, List.size_toArray, List.length_map, List.length_range, Array.size_setIfInBounds] at h1 h2
    rw [Array.getElem_setIfInBounds (by simpa [arr] using h1)]
    by_cases e : k = i
    · subst e; rw [if_pos rfl]; simp [arr]
    · rw [if_neg e]
      simp [arr, show ¬ i = k from fun g => e (Eq.symm g)]
/-- The block holds the answers. -/
def ArrB (W : World) (g : Nat) (f : Nat → Bool) : Prop := W.heap[g]? = some (.cells (arr f) 54 (0, 0))
theorem ArrB.cell {W : World} {g : Nat} {f : Nat → Bool} (h : ArrB W g f) (k : Nat) (hk : k < 256) : W.cell? ⟨g, k, none⟩ = some (.bool (f k)) := by
  rw [cellRow W g k _ _ (0, 0) h]; exact arr_at f k hk
theorem ArrB.frz {W : World} {g : Nat} {f : Nat → Bool} (h : ArrB W g f) (k : Nat) : W.frozen? ⟨g, k, none⟩ = false := frozen_of_row _ g k _ _ h
theorem ArrB.on {W W' : World} {g : Nat} {f : Nat → Bool} (h : ArrB W g f) (hb : Below W.heap.size W W') : ArrB W' g f := by
  have hl := (Array.getElem?_eq_some_iff.1 h).1
  exact (hb.block g hl).trans h
theorem ArrB.set {W : World} {g : Nat} {f : Nat → Bool} (h : ArrB W g f) (k : Nat) : ArrB (W.setCell ⟨g, k, none⟩ (.bool true)) g (fun x => f x || decide (x = k)) := by
  unfold ArrB
  rw [setCell_eq_setRow W g k (arr f) _ (0, 0) _ h, ← arr_set]
  exact setRow_heap W g (arr f) _ _ _ h
theorem ArrB.new (W : World) : ArrB (W.alloc (.cells Z256 54)) W.heap.size (fun _ => false) := by
  unfold ArrB; rw [arr_zero]; exact heap_alloc_new W _
theorem ArrB.ext {W : World} {g : Nat} {f f' : Nat → Bool} (h : ArrB W g f) (he : ∀ k, k < 256 → f k = f' k) : ArrB W g f' := by
  have : arr f = arr f' := by
    apply Array.ext
    · simp [arr]
    · intro i h1 h2
      simp [arr] at h1 ⊢
      exact he i h1
  unfold ArrB at *; rw [← this]; exact h
set_option maxRecDepth 100000 in
set_option maxHeartbeats 4000000 in
theorem set1_any (g b : Nat) (f : Nat → Bool) (neg : Bool) (c : UInt8) (W : World) (h : ArrB W g f) (hn : W.cell? ⟨b, 0, none⟩ = some (.bool neg)) :
    Calls Try.prog 28 #[.int .u8 c.toNat, .pointer (some ⟨g, 0, none⟩), .pointer (some ⟨b, 0, none⟩)] W fun e w' => e = .returned (.bool (f c.toNat != neg)) ∧ Below W.heap.size W w' := by
  have hc := c.toNat_lt
  have h1 := h.cell c.toNat (by omega)
  generalize c.toNat = k at *
  have h0 : (0 : Int) ≤ (k : Int) := by omega
  have h2 : (k : Int) < 256 := by omega
  have h3 : k < 256 := by omega
  clear h
  go_enter Try.func28, Try.ntmps28
  go_wp2
  go_region
  go_wp2
  go_ret
  exact ⟨rfl, (Below.refl _ _).drew⟩
end Go.Proofs.Ytapdmlejgakhaaa
