/-
  Lists of texts in memory: what a slice of texts that was made by the call, or that came in, holds; how it is carried.
-/
import Derived.Test.YtmfmohbcehkooaaGreatDoorPSmall
import Derived.OwnWalk
namespace Go.Proofs.YtmfmohbcehkooaaGreatDoor
open Go.RowKit Go.Sort
theorem infoS : (Tryz.prog.info? 9).map (fun i => (i.zero, i.size, i.bytes)) = some (some (.string ⟨#[]⟩), 1, 16) := by kernel_rfl
/-- The slice value v holds the texts ls, wherever it lies. -/
def Holds' (w : World) (v : Value) (ls : List Bs) : Prop :=
  ∃ (a : Option Addr) (c b o : Nat), v = .slice a ls.length c ∧ ls.length ≤ c ∧ (0 < ls.length → a = some ⟨b, o, none⟩ ∧ b < w.heap.size) ∧ ∀ (j : Nat) l, ls[j]? = some l → w.cell? ⟨b, o + j, none⟩ = some (.string ⟨l.toArray⟩)
theorem Holds'.on {w w' : World} {v : Value} {ls : List Bs} (h : Holds' w v ls) (hb : Below w.heap.size w w') : Holds' w' v ls := by
  obtain ⟨a, c, b, o, rfl, hc, ha, hcell⟩ := h
  refine ⟨a, c, b, o, rfl, hc, fun h0 => ⟨(ha h0).1, Nat.lt_of_lt_of_le (ha h0).2 hb.size⟩, fun j l hj => ?_⟩
  have h0 : 0 < ls.length := by
    have := (List.getElem?_eq_some_iff.1 hj).1; omega
  rw [hb.cell (ha h0).2]
  exact hcell j l hj
abbrev strs (ls : List Bs) : List Value := ls.map fun l => Value.string ⟨l.toArray⟩
/-- The slice value v owns the texts ls (in blocks from base on). -/
def OwnS (w : World) (base : Nat) (v : Value) (ls : List Bs) : Prop := w.ownsRow base 9 1 v ls.length (strs ls)
theorem OwnS.nil (w : World) (base : Nat) : OwnS w base (.slice none 0 0) [] := World.ownsRow_nil _ _ _ _
theorem OwnS.holds {w : World} {base : Nat} {v : Value} {ls : List Bs} (h : OwnS w base v ls) : Holds' w v ls := by
  rcases h.2 with ⟨rfl, h0⟩ | ⟨g, cap, cur, rfl, hb, hg, hn, hm, hs, ht⟩
  · have : ls = [] := List.eq_nil_of_length_eq_zero h0
    subst this
    exact ⟨none, 0, 0, 0, rfl, Nat.le_refl _, fun h => absurd h (by simp), fun j l hj => by simp at hj⟩
  · refine ⟨some ⟨g, 0, none⟩, cap, g, 0, rfl, hn, fun _ => ⟨rfl, (Array.getElem?_eq_some_iff.1 hg).1⟩, fun j l hj => ?_⟩
    have hj' := (List.getElem?_eq_some_iff.1 hj).1
    have e1 : (cur.toList.take (ls.length * 1))[j]? = (strs ls)[j]? := by rw [ht]
    rw [List.getElem?_take, if_pos (by omega), Array.getElem?_toList, List.getElem?_map, hj] at e1
    rw [Nat.zero_add, cell_of_row w g j cur 9 (0, 0) hg, e1]
    rfl
theorem OwnS.mono {w : World} {base base' : Nat} {v : Value} {ls : List Bs} (h : OwnS w base v ls) (hb : base' ≤ base) : OwnS w base' v ls := by
  refine ⟨h.1, ?_⟩
  rcases h.2 with hn | ⟨g, cap, cur, hv, hb', rest⟩
  · exact .inl hn
  · exact .inr ⟨g, cap, cur, hv, by omega, rest⟩
/-- Cut at its end. -/
theorem OwnS.cut {w : World} {base : Nat} {a : Option Addr} {c n : Nat} {ls : List Bs} (h : OwnS w base (.slice a n c) ls) (hl : 0 < ls.length) : OwnS w base (.slice a (n - 1) c) ls.dropLast := by
  rcases h.2 with ⟨_, h0⟩ | ⟨g, cap, cur, hv, hb, hg, hn, hm, hs, ht⟩
  · omega
  · simp only [Value.slice.injEq] at hv
    obtain ⟨rfl, rfl, rfl⟩ := hv
    refine ⟨by simp [strs], .inr ⟨g, c, cur, by rw [List.length_dropLast], hb, hg, by rw [List.length_dropLast]; omega, hm, hs, ?_⟩⟩
    rw [List.length_dropLast]
    have : cur.toList.take ((ls.length - 1) * 1) = (cur.toList.take (ls.length * 1)).take (ls.length - 1) := by rw [List.take_take]; congr 1; omega
    rw [this, ht, strs, strs, List.dropLast_eq_take, List.map_take]
/-- A slice that the library laid in a new block. -/
theorem OwnS.made (w : World) (xs : List ByteArray) (hn : xs.length ≤ maxLen) : OwnS (w.alloc (.cells (xs.map Value.string).toArray 9)) w.heap.size (.slice (some ⟨w.heap.size, 0, none⟩) xs.length xs.length) (xs.map (·.data.toList)) := by
  refine ⟨by simp [strs], .inr ⟨w.heap.size, xs.length, (xs.map Value.string).toArray, by simp, Nat.le_refl _, heap_alloc_new w _, by simp, hn, by simp, ?_⟩⟩
  rw [List.length_map, Nat.mul_one, List.take_of_length_le (by simp)]
  simp [strs]
theorem OwnS.app {w' : World} {base : Nat} {v' : Value} {ls : List Bs} {x : ByteArray} {l : Bs} (hx : x.data.toList = l) (h : w'.ownsRow base 9 1 v' (ls.length + 1) (strs ls ++ [.string x])) : OwnS w' base v' (ls ++ [l]) := by
  have e : strs (ls ++ [l]) = strs ls ++ [.string x] := by simp [strs, str_of hx]
  unfold OwnS
  rw [e, List.length_append]
  exact h
/-- Of a slice whose block the row turned: everything below base stays. -/
theorem below_grown {B : Nat} {w0 w w' : World} {o : Obj} {base : Nat} {v : Value} {ls : List Bs} (h : Below B w0 w) (hown : OwnS w base v ls) (hg : (w.alloc o).grownBy w' v.ownBlock) (hB : B ≤ base) (hBw : B ≤ w.heap.size) : Below B w0 w' :=
  (h.alloc hBw o).grown hg (by simp; omega) (fun k hk => by have := (hown.lt k hk).1; omega)
end Go.Proofs.YtmfmohbcehkooaaGreatDoor
