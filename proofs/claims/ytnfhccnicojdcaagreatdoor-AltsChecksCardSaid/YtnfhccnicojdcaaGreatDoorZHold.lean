/-
  Alternatives in memory: their slaves, their choices, held; nothing of the program's.
-/
import Derived.Test.YtnfhccnicojdcaaGreatDoorRowV
import Derived.Lib.SliceRun
import Derived.RangeFuncRecord
namespace Go.Proofs.YtnfhccnicojdcaaGreatDoor
open Go.RowKit
/-- A slave: its name, its link. -/
abbrev Sv := Bs × Bs
/-- A choice: its path, its priority, what it has for the slaves; and the slice value of these. -/
abbrev Cv := (Bs × Int × List Bs) × Value
/-- An alternative, and the slice values of its slaves and of its choices. -/
structure Av where
  nm : Bs
  lk : Bs
  mn : Bool
  cr : Bs
  sl : List Sv
  ch : List Cv
  sv : Value
  cv : Value
abbrev cellsS (x : Sv) : Rw := [.string (⟨x.1.toArray⟩ : ByteArray), .string (⟨x.2.toArray⟩ : ByteArray)]
abbrev cellsC (x : Cv) : Rw := [.string (⟨x.1.1.toArray⟩ : ByteArray), .int .i64 x.1.2.1, x.2]
abbrev cellsA (x : Av) : Rw := [.string (⟨x.nm.toArray⟩ : ByteArray), .string (⟨x.lk.toArray⟩ : ByteArray), .bool x.mn, .string (⟨x.cr.toArray⟩ : ByteArray), x.sv, x.cv]
abbrev HoldS (w : World) (v : Value) (l : List Sv) : Prop := HoldV 2 w v (l.map cellsS)
abbrev HoldC (w : World) (v : Value) (l : List Cv) : Prop := HoldV 3 w v (l.map cellsC) ∧ ∀ x ∈ l, HoldT w x.2 x.1.2.2
abbrev InA (w : World) (x : Av) : Prop := HoldS w x.sv x.sl ∧ HoldC w x.cv x.ch
abbrev HoldA (w : World) (v : Value) (l : List Av) : Prop := HoldV 6 w v (l.map cellsA) ∧ ∀ x ∈ l, InA w x
theorem HoldC.on {w w' : World} {v : Value} {l : List Cv} (h : HoldC w v l) (hb : Below w.heap.size w w') : HoldC w' v l := ⟨HoldV.on h.1 hb, fun x hx => (h.2 x hx).on hb⟩
theorem InA.on {w w' : World} {x : Av} (h : InA w x) (hb : Below w.heap.size w w') : InA w' x := ⟨HoldV.on h.1 hb, HoldC.on h.2 hb⟩
theorem HoldA.on {w w' : World} {v : Value} {l : List Av} (h : HoldA w v l) (hb : Below w.heap.size w w') : HoldA w' v l := ⟨HoldV.on h.1 hb, fun x hx => (h.2 x hx).on hb⟩
theorem HoldS.parts {w : World} {v : Value} {l : List Sv} (h : HoldS w v l) : ∃ (a : Option Addr) (c b o : Nat), v = .slice a l.length c ∧ l.length ≤ c ∧ (0 < l.length → a = some ⟨b, o, none⟩ ∧ b < w.heap.size) ∧
    ∀ (j : Nat) x, l[j]? = some x → w.cell? ⟨b, o + j * 2, none⟩ = some (.string (⟨x.1.toArray⟩ : ByteArray)) ∧ w.cell? ⟨b, o + j * 2 + 1, none⟩ = some (.string (⟨x.2.toArray⟩ : ByteArray)) := by
  obtain ⟨a, c, b, o, e, hc, ha, hcell⟩ := h
  rw [List.length_map] at e hc ha
  refine ⟨a, c, b, o, e, hc, ha, fun j x hx => ?_⟩
  have := hcell j (cellsS x) (by rw [List.getElem?_map, hx]; rfl)
  exact ⟨this 0 _ (by omega) rfl, this 1 _ (by omega) rfl⟩
theorem HoldC.parts {w : World} {v : Value} {l : List Cv} (h : HoldC w v l) : ∃ (a : Option Addr) (c b o : Nat), v = .slice a l.length c ∧ l.length ≤ c ∧ (0 < l.length → a = some ⟨b, o, none⟩ ∧ b < w.heap.size) ∧
    ∀ (j : Nat) x, l[j]? = some x → w.cell? ⟨b, o + j * 3, none⟩ = some (.string (⟨x.1.1.toArray⟩ : ByteArray)) ∧ w.cell? ⟨b, o + j * 3 + 1, none⟩ = some (.int .i64 x.1.2.1) ∧ w.cell? ⟨b, o + j * 3 + 2, none⟩ = some x.2 := by
  obtain ⟨⟨a, c, b, o, e, hc, ha, hcell⟩, -⟩ := h
  rw [List.length_map] at e hc ha
  refine ⟨a, c, b, o, e, hc, ha, fun j x hx => ?_⟩
  have := hcell j (cellsC x) (by rw [List.getElem?_map, hx]; rfl)
  exact ⟨this 0 _ (by omega) rfl, this 1 _ (by omega) rfl, this 2 _ (by omega) rfl⟩
theorem HoldA.parts {w : World} {v : Value} {l : List Av} (h : HoldA w v l) : ∃ (a : Option Addr) (c b o : Nat), v = .slice a l.length c ∧ l.length ≤ c ∧ (0 < l.length → a = some ⟨b, o, none⟩ ∧ b < w.heap.size) ∧
    ∀ (j : Nat) x, l[j]? = some x → w.cell? ⟨b, o + j * 6, none⟩ = some (.string (⟨x.nm.toArray⟩ : ByteArray)) ∧ w.cell? ⟨b, o + j * 6 + 1, none⟩ = some (.string (⟨x.lk.toArray⟩ : ByteArray)) ∧ w.cell? ⟨b, o + j * 6 + 2, none⟩ = some (.bool x.mn) ∧ w.cell? ⟨b, o + j * 6 + 3, none⟩ = some (.string (⟨x.cr.toArray⟩ : ByteArray)) ∧ w.cell? ⟨b, o + j * 6 + 4, none⟩ = some x.sv ∧ w.cell? ⟨b, o + j * 6 + 5, none⟩ = some x.cv := by
  obtain ⟨⟨a, c, b, o, e, hc, ha, hcell⟩, -⟩ := h
  rw [List.length_map] at e hc ha
  refine ⟨a, c, b, o, e, hc, ha, fun j x hx => ?_⟩
  have := hcell j (cellsA x) (by rw [List.getElem?_map, hx]; rfl)
  exact ⟨this 0 _ (by omega) rfl, this 1 _ (by omega) rfl, this 2 _ (by omega) rfl, this 3 _ (by omega) rfl, this 4 _ (by omega) rfl, this 5 _ (by omega) rfl⟩
theorem boxV6 (W : World) (a b c d e f : Value) (t : TypeId) : (W.alloc (.cells #[a, b, c, d, e, f] t)).cell? ⟨W.heap.size, 0, none⟩ = some a ∧ (W.alloc (.cells #[a, b, c, d, e, f] t)).cell? ⟨W.heap.size, 1, none⟩ = some b ∧ (W.alloc (.cells #[a, b, c, d, e, f] t)).cell? ⟨W.heap.size, 2, none⟩ = some c ∧ (W.alloc (.cells #[a, b, c, d, e, f] t)).cell? ⟨W.heap.size, 3, none⟩ = some d ∧ (W.alloc (.cells #[a, b, c, d, e, f] t)).cell? ⟨W.heap.size, 4, none⟩ = some e ∧ (W.alloc (.cells #[a, b, c, d, e, f] t)).cell? ⟨W.heap.size, 5, none⟩ = some f := by
  refine ⟨?_, ?_, ?_, ?_, ?_, ?_⟩ <;> (rw [World.cell?_alloc_new]; rfl)
-- How large
def FitS (x : Sv) : Prop := x.1.length ≤ maxLen ∧ x.2.length ≤ maxLen
def FitC (x : Cv) : Prop := x.1.1.length ≤ maxLen ∧ x.1.2.2.length ≤ maxLen ∧ ∀ q ∈ x.1.2.2, q.length ≤ maxLen
structure FitA (x : Av) : Prop where
  nm : x.nm.length ≤ maxLen
  lk : x.lk.length ≤ maxLen
  cr : x.cr.length ≤ maxLen
  sl : x.sl.length ≤ maxLen
  ch : x.ch.length ≤ maxLen
  ss : ∀ s ∈ x.sl, FitS s
  cs : ∀ c ∈ x.ch, FitC c
def FewS (x : Sv) : Prop := x.1.length ≤ 300 ∧ x.2.length ≤ 300
def FewC (x : Cv) : Prop := x.1.1.length ≤ 300 ∧ x.1.2.2.length ≤ 70 ∧ ∀ q ∈ x.1.2.2, q.length ≤ 3000
structure FewOne (x : Av) : Prop where
  nm : x.nm.length ≤ 300
  lk : x.lk.length ≤ 300
  cr : x.cr.length ≤ 300
  sl : x.sl.length ≤ 70
  ch : x.ch.length ≤ 70
  ss : ∀ s ∈ x.sl, FewS s
  cs : ∀ c ∈ x.ch, FewC c
def FewA (l : List Av) : Prop := l.length ≤ 70 ∧ ∀ x ∈ l, FewOne x
end Go.Proofs.YtnfhccnicojdcaaGreatDoor
