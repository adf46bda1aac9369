/-
  A strings.Builder in a loop: what it holds; the lines of a text are few.
-/
import Derived.Test.YtnfhccnicojdcaaGreatDoorRowV
import Derived.Test.YtnfhccnicojdcaaGreatDoorSMath
import Derived.Shelf.Strings.BuilderK
import Derived.Test.YtnfhccnicojdcaaGreatDoorShelf
namespace Go.Proofs.YtnfhccnicojdcaaGreatDoor
open Go.RowKit Go.Shelf
abbrev tB : TypeId := 111
abbrev tU : TypeId := 5
/-- The Builder at block b (all that is its own from B on) holds the bytes l. -/
abbrev Bld (B b : Nat) (l : Bs) (w : World) : Prop := Lib.IsBuilderF tB tU B b (Lib.byteCells l) w
/-- What no writing into the Builder turns. -/
abbrev Oth (b : Nat) (w w' : World) : Prop := Lib.OthersKept tU (some b) w w'
theorem wstr_any (B b : Nat) (l : Bs) (s : ByteArray) (w : World) (h : Bld B b l w) (hl : l.length ≤ 100000000000) (hs : s.size ≤ 1000000) (hB : B ≤ w.heap.size) :
    Calls Tryz.prog 93 #[.pointer (some ⟨b, 0, none⟩), .string s] w fun e w' => ∃ v, e = .returned v ∧ Bld B b (l ++ s.data.toList) w' ∧ Below B w w' ∧ Oth b w w' := by
  have := Any.Builder_WriteString_k (ρ := Tryz.lays156_ren) { Tryz.lays156 with } Tryz.Builder_Extra_156 B b (Lib.byteCells l) s w h (by rw [Lib.byteCells_length]; omega) hB
  refine Calls.mono this fun e w' hp => ⟨_, hp.1, .inr ?_, hp.2.2.1, hp.2.2.2⟩
  rw [Lib.byteCells_append]; exact hp.2.1
theorem bld_new (B : Nat) (w : World) (h : B ≤ w.heap.size) : Bld B w.heap.size [] (w.alloc (.cells #[.pointer none, .slice none 0 0] tB)) :=
  .inl ⟨h, .slice none 0 0, heap_alloc_new w _, World.ownsRowF_nil _ _ _ _, by simp [Value.ownBlock]⟩
theorem bstr_any (B b : Nat) (l : Bs) (w : World) (h : Bld B b l w) (hB : B ≤ w.heap.size) : Calls Tryz.prog 94 #[.pointer (some ⟨b, 0, none⟩)] w fun e w' => e = .returned (.string ⟨l.toArray⟩) ∧ Below B w w' :=
  (Tryz.Builder_String_any_k B b l w h hB).mono fun _ _ hp => ⟨hp.1, hp.2.2.1⟩
theorem heap_oth {W W' : World} {b k : Nat} {cs : Array Value} {t : TypeId} {fz : Nat × Nat} (h : W.heap[k]? = some (.cells cs t fz)) (ho : Oth b W W') (hk : k ≠ b) (ht : t ≠ tU) : W'.heap[k]? = some (.cells cs t fz) :=
  ho k _ h (fun e => hk (Option.some.inj e)) (fun c fz' e => by cases e; exact ht rfl)
theorem cell_heap {W : World} {k i : Nat} {cs : Array Value} {t : TypeId} {fz : Nat × Nat} {v : Value} (h : W.heap[k]? = some (.cells cs t fz)) (hv : cs[i]? = some v) : W.cell? ⟨k, i, none⟩ = some v := by rw [cellRow W k i cs t fz h, hv]
theorem lines_len {s : Bs} {ls : List Bs} (h : linesO s = some ls) : ls.length ≤ s.length ∧ ∀ p ∈ ls, p ∈ spl 10 s := by
  unfold linesO at h
  split at h
  · cases h
    have := spl_len 10 s
    exact ⟨by rw [List.length_dropLast]; omega, fun p hp => (List.dropLast_sublist _).subset hp⟩
  · cases h
end Go.Proofs.YtnfhccnicojdcaaGreatDoor
