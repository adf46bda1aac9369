/-
  Slices of structs of one-cell fields in memory, row by row: what one holds, what one of the call's own owns; how it is carried. Nothing of the program.
-/
import Derived.Test.YtmfmohbcehkooaaGreatDoorLList
import Derived.Laws.OwnMore
namespace Go.Proofs.YtmfmohbcehkooaaGreatDoor
open Go.RowKit
abbrev Rw := List Value
/-- The slice value v holds these rows of k cells, wherever they lie. -/
def HoldV (k : Nat) (w : World) (v : Value) (rows : List Rw) : Prop :=
  ∃ (a : Option Addr) (c b o : Nat), v = .slice a rows.length c ∧ rows.length ≤ c ∧ (0 < rows.length → a = some ⟨b, o, none⟩ ∧ b < w.heap.size) ∧
    ∀ (j : Nat) r, rows[j]? = some r → ∀ (i : Nat) y, i < k → r[i]? = some y → w.cell? ⟨b, o + j * k + i, none⟩ = some y
theorem HoldV.on {k : Nat} {w w' : World} {v : Value} {rows : List Rw} (h : HoldV k w v rows) (hb : Below w.heap.size w w') : HoldV k w' v rows := by
  obtain ⟨a, c, b, o, rfl, hc, ha, hcell⟩ := h
  refine ⟨a, c, b, o, rfl, hc, fun h0 => ⟨(ha h0).1, Nat.lt_of_lt_of_le (ha h0).2 hb.size⟩, fun j r hj i y hi hy => ?_⟩
  have h0 : 0 < rows.length := by have := (List.getElem?_eq_some_iff.1 hj).1; omega
  rw [hb.cell (p := ⟨b, o + j * k + i, none⟩) (ha h0).2]
  exact hcell j r hj i y hi hy
theorem HoldV.nil (k : Nat) (w : World) : HoldV k w (.slice none 0 0) [] := ⟨none, 0, 0, 0, rfl, Nat.le_refl _, fun h => absurd h (by simp), fun j l hj => by simp at hj⟩
theorem flat_len (k : Nat) : ∀ (rows : List Rw), (∀ r ∈ rows, r.length = k) → rows.flatten.length = rows.length * k
  | [], _ => by simp
  | r :: rows, h => by
    rw [List.flatten_cons, List.length_append, flat_len k rows (fun q hq => h q (List.mem_cons_of_mem _ hq)), h r (by simp), List.length_cons, Nat.add_mul]; omega
theorem flat_at (k : Nat) : ∀ (rows : List Rw), (∀ r ∈ rows, r.length = k) → ∀ (j : Nat) r (i : Nat), rows[j]? = some r → i < k → rows.flatten[j * k + i]? = r[i]?
  | [], _, j, r, i, h, _ => by simp at h
  | q :: rows, hk, 0, r, i, h, hi => by
    simp only [List.getElem?_cons_zero, Option.some.injEq] at h
    subst h
    rw [List.flatten_cons, Nat.zero_mul, Nat.zero_add, List.getElem?_append_left (by rw [hk q (by simp)]; exact hi)]
  | q :: rows, hk, j + 1, r, i, h, hi => by
    have hq := hk q (by simp)
    rw [List.flatten_cons, List.getElem?_append_right (by rw [hq, Nat.add_mul]; omega), hq, show (j + 1) * k + i - k = j * k + i by rw [Nat.add_mul]; omega]
    exact flat_at k rows (fun x hx => hk x (List.mem_cons_of_mem _ hx)) j r i (by simpa using h) hi
theorem flat_get (k : Nat) (hk : 0 < k) : ∀ (rows : List Rw), (∀ r ∈ rows, r.length = k) → ∀ (m : Nat) u, rows.flatten[m]? = some u → ∃ (j i : Nat) (r : Rw), m = j * k + i ∧ i < k ∧ rows[j]? = some r ∧ r[i]? = some u := fun rows hr m u hu => by
  have hm := (List.getElem?_eq_some_iff.1 hu).1
  rw [flat_len k rows hr] at hm
  have hj : m / k < rows.length := (Nat.div_lt_iff_lt_mul hk).2 hm
  refine ⟨m / k, m % k, rows[m / k], by rw [Nat.mul_comm]; exact (Nat.div_add_mod m k).symm, Nat.mod_lt _ hk, List.getElem?_eq_getElem hj, ?_⟩
  rw [← flat_at k rows hr (m / k) _ (m % k) (List.getElem?_eq_getElem hj) (Nat.mod_lt _ hk), ← hu]
  congr 1
  rw [Nat.mul_comm]; exact Nat.div_add_mod m k
/-- The slice value v owns these rows of k cells, in a block from base on. -/
def OwnV (T : TypeId) (k : Nat) (w : World) (base : Nat) (v : Value) (rows : List Rw) : Prop := (∀ r ∈ rows, r.length = k) ∧ w.ownsRow base T k v rows.length rows.flatten
theorem OwnV.nil (T : TypeId) (k : Nat) (w : World) (base : Nat) : OwnV T k w base (.slice none 0 0) [] := ⟨fun r hr => by simp at hr, World.ownsRow_nil _ _ _ _⟩
theorem OwnV.holds {T : TypeId} {k : Nat} {w : World} {base : Nat} {v : Value} {rows : List Rw} (h : OwnV T k w base v rows) : HoldV k w v rows := by
  obtain ⟨hk, h⟩ := h
  rcases h.2 with ⟨rfl, h0⟩ | ⟨g, cap, cur, rfl, hb, hg, hn, hm, hs, ht⟩
  · have : rows = [] := List.eq_nil_of_length_eq_zero h0
    subst this
    exact HoldV.nil k w
  · refine ⟨some ⟨g, 0, none⟩, cap, g, 0, rfl, hn, fun _ => ⟨rfl, (Array.getElem?_eq_some_iff.1 hg).1⟩, fun j r hj i y hi hy => ?_⟩
    have hj' := (List.getElem?_eq_some_iff.1 hj).1
    have hlt : j * k + i < rows.length * k := by
      have : (j + 1) * k ≤ rows.length * k := Nat.mul_le_mul_right k hj'
      rw [Nat.add_mul] at this; omega
    rw [Nat.zero_add, cellRow w g _ cur T (0, 0) hg, ← Array.getElem?_toList, ← hy, ← flat_at k rows hk j r i hj hi, ← ht, List.getElem?_take, if_pos hlt]
theorem OwnV.mono {T : TypeId} {k : Nat} {w : World} {base B : Nat} {v : Value} {rows : List Rw} (h : OwnV T k w base v rows) (hB : B ≤ base) : OwnV T k w B v rows := by
  refine ⟨h.1, h.2.1, ?_⟩
  rcases h.2.2 with hn | ⟨g, cap, cur, hv, hb', rest⟩
  · exact .inl hn
  · exact .inr ⟨g, cap, cur, hv, by omega, rest⟩
theorem grownV {w w' : World} (h : Below w.heap.size w w') : w.grownBy w' none := ⟨h.os, h.tape, h.output, h.size, fun k hk _ => h.block k hk⟩
theorem OwnV.on {T : TypeId} {k : Nat} {w w' : World} {base : Nat} {v : Value} {rows : List Rw} (h : OwnV T k w base v rows) (hb : Below w.heap.size w w') : OwnV T k w' base v rows := ⟨h.1, World.ownsRow.kept h.2 (grownV hb) (by cases v.ownBlock <;> simp)⟩
theorem OwnV.app {T : TypeId} {k : Nat} {w' : World} {base : Nat} {v' : Value} {rows : List Rw} {r : Rw} (hk : ∀ r ∈ rows, r.length = k) (hr : r.length = k) (h : w'.ownsRow base T k v' (rows.length + 1) (rows.flatten ++ r)) : OwnV T k w' base v' (rows ++ [r]) := by
  refine ⟨fun q hq => ?_, ?_⟩
  · rcases List.mem_append.1 hq with hq | hq
    · exact hk q hq
    · simp at hq; subst hq; exact hr
  · rw [List.length_append, List.flatten_append, List.flatten_cons, List.flatten_nil, List.append_nil]; exact h
theorem OwnV.below {T : TypeId} {k : Nat} {B : Nat} {w0 w w' : World} {o : Obj} {base : Nat} {v : Value} {rows : List Rw} (h : Below B w0 w) (hown : OwnV T k w base v rows) (hg : (w.alloc o).grownBy w' v.ownBlock) (hB : B ≤ base) (hBw : B ≤ w.heap.size) : Below B w0 w' :=
  (h.alloc hBw o).grown hg (by simp; omega) (fun k hk => by have := (World.ownsRow.lt hown.2 k hk).1; omega)
theorem OwnV.form {T : TypeId} {k : Nat} {w : World} {base : Nat} {v : Value} {rows : List Rw} (h : OwnV T k w base v rows) : ∃ a c, v = .slice a rows.length c := by
  obtain ⟨a, c, b, o, e, _⟩ := h.holds; exact ⟨a, c, e⟩
end Go.Proofs.YtmfmohbcehkooaaGreatDoor
