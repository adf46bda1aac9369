/-
  Slices of rows of texts in memory: what they hold; how that is carried.
-/
import Derived.Test.YtogkickaebmeoaaDoorLList
namespace Go.Proofs.YtogkickaebmeoaaDoor
open Go.RowKit
-- Rows
/-- The slice value v holds the rows rs, of k texts each. -/
def HoldR (k : Nat) (w : World) (v : Value) (rs : List (List Bs)) : Prop :=
  ∃ (a : Option Addr) (c b o : Nat), v = .slice a rs.length c ∧ rs.length ≤ c ∧ (0 < rs.length → a = some ⟨b, o, none⟩ ∧ b < w.heap.size) ∧
    ∀ (j : Nat) r, rs[j]? = some r → ∀ (i : Nat) x, i < k → r[i]? = some x → w.cell? ⟨b, o + j * k + i, none⟩ = some (.string ⟨x.toArray⟩)
theorem HoldR.on {k : Nat} {w w' : World} {v : Value} {rs : List (List Bs)} (h : HoldR k w v rs) (hb : Below w.heap.size w w') : HoldR k w' v rs := by
  obtain ⟨a, c, b, o, rfl, hc, ha, hcell⟩ := h
  refine ⟨a, c, b, o, rfl, hc, fun h0 => ⟨(ha h0).1, Nat.lt_of_lt_of_le (ha h0).2 hb.size⟩, fun j r hj i x hi hx => ?_⟩
  have h0 : 0 < rs.length := by have := (List.getElem?_eq_some_iff.1 hj).1; omega
  rw [hb.cell (ha h0).2]
  exact hcell j r hj i x hi hx
theorem HoldR.cut {k : Nat} {w : World} {a : Option Addr} {c n : Nat} {rs : List (List Bs)} (h : HoldR k w (.slice a n c) rs) (m : Nat) (hm : m ≤ n) : HoldR k w (.slice a m c) (rs.take m) := by
  obtain ⟨a', c', b, o, e, hc, ha, hcell⟩ := h
  simp only [Value.slice.injEq] at e
  obtain ⟨rfl, rfl, rfl⟩ := e
  have hl : (rs.take m).length = m := by rw [List.length_take]; omega
  refine ⟨a, c, b, o, by rw [hl], by omega, fun h0 => ha (by omega), fun j r hj => ?_⟩
  rw [List.getElem?_take] at hj
  split at hj
  · exact hcell j r hj
  · cases hj
end Go.Proofs.YtogkickaebmeoaaDoor
