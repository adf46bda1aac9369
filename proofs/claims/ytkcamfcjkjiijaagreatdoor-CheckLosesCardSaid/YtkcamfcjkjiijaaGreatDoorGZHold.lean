/-
  Alternatives in memory: their slaves, their choices, held; nothing of the program's.
-/
import Derived.Test.YtkcamfcjkjiijaaGreatDoorGLList
import Derived.Laws.OwnMore
import Derived.Test.YtkcamfcjkjiijaaGreatDoorGBoxV
import Derived.Lib.SliceRun
import Derived.RangeFuncRecord
namespace Go.Proofs.YtkcamfcjkjiijaaGreatDoor
open Go.RowKit
abbrev Rw := List Value
/-- The slice value v holds these rows of k cells, wherever they lie. -/
def HoldV (k : Nat) (w : World) (v : Value) (rows : List Rw) : Prop :=
  ∃ (a : Option Addr) (c b o : Nat), v = .slice a rows.length c ∧ rows.length ≤ c ∧ (0 < rows.length → a = some ⟨b, o, none⟩ ∧ b < w.heap.size) ∧
    ∀ (j : Nat) r, rows[j]? = some r → ∀ (i : Nat) y, i < k → r[i]? = some y → w.cell? ⟨b, o + j * k + i, none⟩ = some y
theorem HoldV.on {k : Nat} {w w' : World} {v : Value} {rows : List Rw} (h : HoldV k w v rows) (hb : Below w.heap.size w w') : HoldV k w' v rows := by
  obtain ⟨a, c, b, o, rfl, hc, ha, hcell⟩ := h
  refine ⟨a, c, b, o, rfl, hc, fun h0 => ⟨(ha h0).1, Nat.lt_of_lt_of_le (ha h0).2 hb.size⟩, fun j r hj i y hi hy => ?_⟩
  have h0 : 0 < rows.length := by have := (List.getElem?_eq_some_iff.1 hj).1; omega
  rw [hb.cell (p := ⟨b, o + j * k + i, none⟩) (ha h0).2]
  exact hcell j r hj i y hi hy
theorem HoldV.nil (k : Nat) (w : World) : HoldV k w (.slice none 0 0) [] := ⟨none, 0, 0, 0, rfl, Nat.le_refl _, fun h => absurd h (by simp), fun j l hj => by simp at hj⟩
theorem flat_at (k : Nat) : ∀ (rows : List Rw), (∀ r ∈ rows, r.length = k) → ∀ (j : Nat) r (i : Nat), rows[j]? = some r → i < k → rows.flatten[j * k + i]? = r[i]?
  | [], _, j, r, i, h, _ => by simp at h
  | q :: rows, hk, 0, r, i, h, hi => by
    simp only [List.getElem?_cons_zero, Option.some.injEq] at h
    subst h
    rw [List.flatten_cons, Nat.zero_mul, Nat.zero_add, List.getElem?_append_left (by rw [hk q (by simp)]; exact hi)]
  | q :: rows, hk, j + 1, r, i, h, hi => by
    have hq := hk q (by simp)
    rw [List.flatten_cons, List.getElem?_append_right (by rw [hq, Nat.add_mul]; omega), hq, show (j + 1) * k + i - k = j * k + i by rw [Nat.add_mul]; omega]
    exact flat_at k rows (fun x hx => hk x (List.mem_cons_of_mem _ hx)) j r i (by simpa using h) hi
/-- The slice value v owns these rows of k cells, in a block from base on. -/
def OwnV (T : TypeId) (k : Nat) (w : World) (base : Nat) (v : Value) (rows : List Rw) : Prop := (∀ r ∈ rows, r.length = k) ∧ w.ownsRow base T k v rows.length rows.flatten
theorem OwnV.nil (T : TypeId) (k : Nat) (w : World) (base : Nat) : OwnV T k w base (.slice none 0 0) [] := ⟨fun r hr => by simp at hr, World.ownsRow_nil _ _ _ _⟩
theorem OwnV.holds {T : TypeId} {k : Nat} {w : World} {base : Nat} {v : Value} {rows : List Rw} (h : OwnV T k w base v rows) : HoldV k w v rows := by
  obtain ⟨hk, h⟩ := h
  rcases h.2 with ⟨rfl, h0⟩ | ⟨g, cap, cur, rfl, hb, hg, hn, hm, hs, ht⟩
  · have : rows = [] := List.eq_nil_of_length_eq_zero h0
    subst this
    exact HoldV.nil k w
  · refine ⟨some ⟨g, 0, none⟩, cap, g, 0, rfl, hn, fun _ => ⟨rfl, (Array.getElem?_eq_some_iff.1 hg).1⟩, fun j r hj i y hi hy => ?_⟩
    have hj' := (List.getElem?_eq_some_iff.1 hj).1
    have hlt : j * k + i < rows.length * k := by
      have : (j + 1) * k ≤ rows.length * k := Nat.mul_le_mul_right k hj'
      rw [Nat.add_mul] at this; omega
    rw [Nat.zero_add, cellRow w g _ cur T (0, 0) hg, ← Array.getElem?_toList, ← hy, ← flat_at k rows hk j r i hj hi, ← ht, List.getElem?_take, if_pos hlt]
theorem OwnV.mono {T : TypeId} {k : Nat} {w : World} {base B : Nat} {v : Value} {rows : List Rw} (h : OwnV T k w base v rows) (hB : B ≤ base) : OwnV T k w B v rows := by
  refine ⟨h.1, h.2.1, ?_⟩
  rcases h.2.2 with hn | ⟨g, cap, cur, hv, hb', rest⟩
  · exact .inl hn
  · exact .inr ⟨g, cap, cur, hv, by omega, rest⟩
theorem grownV {w w' : World} (h : Below w.heap.size w w') : w.grownBy w' none := ⟨h.os, h.tape, h.output, h.size, fun k hk _ => h.block k hk⟩
theorem OwnV.on {T : TypeId} {k : Nat} {w w' : World} {base : Nat} {v : Value} {rows : List Rw} (h : OwnV T k w base v rows) (hb : Below w.heap.size w w') : OwnV T k w' base v rows := ⟨h.1, World.ownsRow.kept h.2 (grownV hb) (by cases v.ownBlock <;> simp)⟩
theorem OwnV.app {T : TypeId} {k : Nat} {w' : World} {base : Nat} {v' : Value} {rows : List Rw} {r : Rw} (hk : ∀ r ∈ rows, r.length = k) (hr : r.length = k) (h : w'.ownsRow base T k v' (rows.length + 1) (rows.flatten ++ r)) : OwnV T k w' base v' (rows ++ [r]) := by
  refine ⟨fun q hq => ?_, ?_⟩
  · rcases List.mem_append.1 hq with hq | hq
    · exact hk q hq
    · simp at hq; subst hq; exact hr
  · rw [List.length_append, List.flatten_append, List.flatten_cons, List.flatten_nil, List.append_nil]; exact h
theorem OwnV.below {T : TypeId} {k : Nat} {B : Nat} {w0 w w' : World} {o : Obj} {base : Nat} {v : Value} {rows : List Rw} (h : Below B w0 w) (hown : OwnV T k w base v rows) (hg : (w.alloc o).grownBy w' v.ownBlock) (hB : B ≤ base) (hBw : B ≤ w.heap.size) : Below B w0 w' :=
  (h.alloc hBw o).grown hg (by simp; omega) (fun k hk => by have := (World.ownsRow.lt hown.2 k hk).1; omega)
theorem OwnV.form {T : TypeId} {k : Nat} {w : World} {base : Nat} {v : Value} {rows : List Rw} (h : OwnV T k w base v rows) : ∃ a c, v = .slice a rows.length c := by
  obtain ⟨a, c, b, o, e, _⟩ := h.holds; exact ⟨a, c, e⟩
end Go.Proofs.YtkcamfcjkjiijaaGreatDoor
namespace Go.Proofs.YtkcamfcjkjiijaaGreatDoor
open Go.RowKit
/-- A slave: its name, its link. -/
abbrev Sv := Bs × Bs
/-- A choice: its path, its priority, what it has for the slaves; and the slice value of these. -/
abbrev Cv := (Bs × Int × List Bs) × Value
/-- An alternative, and the slice values of its slaves and of its choices. -/
structure Av where
  nm : Bs
  lk : Bs
  mn : Bool
  cr : Bs
  sl : List Sv
  ch : List Cv
  sv : Value
  cv : Value
abbrev cellsS (x : Sv) : Rw := [.string (⟨x.1.toArray⟩ : ByteArray), .string (⟨x.2.toArray⟩ : ByteArray)]
abbrev cellsC (x : Cv) : Rw := [.string (⟨x.1.1.toArray⟩ : ByteArray), .int .i64 x.1.2.1, x.2]
abbrev cellsA (x : Av) : Rw := [.string (⟨x.nm.toArray⟩ : ByteArray), .string (⟨x.lk.toArray⟩ : ByteArray), .bool x.mn, .string (⟨x.cr.toArray⟩ : ByteArray), x.sv, x.cv]
abbrev HoldS (w : World) (v : Value) (l : List Sv) : Prop := HoldV 2 w v (l.map cellsS)
abbrev HoldC (w : World) (v : Value) (l : List Cv) : Prop := HoldV 3 w v (l.map cellsC) ∧ ∀ x ∈ l, HoldT w x.2 x.1.2.2
abbrev InA (w : World) (x : Av) : Prop := HoldS w x.sv x.sl ∧ HoldC w x.cv x.ch
abbrev HoldA (w : World) (v : Value) (l : List Av) : Prop := HoldV 6 w v (l.map cellsA) ∧ ∀ x ∈ l, InA w x
theorem HoldC.on {w w' : World} {v : Value} {l : List Cv} (h : HoldC w v l) (hb : Below w.heap.size w w') : HoldC w' v l := ⟨HoldV.on h.1 hb, fun x hx => (h.2 x hx).on hb⟩
theorem InA.on {w w' : World} {x : Av} (h : InA w x) (hb : Below w.heap.size w w') : InA w' x := ⟨HoldV.on h.1 hb, HoldC.on h.2 hb⟩
theorem HoldA.on {w w' : World} {v : Value} {l : List Av} (h : HoldA w v l) (hb : Below w.heap.size w w') : HoldA w' v l := ⟨HoldV.on h.1 hb, fun x hx => (h.2 x hx).on hb⟩
theorem HoldS.parts {w : World} {v : Value} {l : List Sv} (h : HoldS w v l) : ∃ (a : Option Addr) (c b o : Nat), v = .slice a l.length c ∧ l.length ≤ c ∧ (0 < l.length → a = some ⟨b, o, none⟩ ∧ b < w.heap.size) ∧
    ∀ (j : Nat) x, l[j]? = some x → w.cell? ⟨b, o + j * 2, none⟩ = some (.string (⟨x.1.toArray⟩ : ByteArray)) ∧ w.cell? ⟨b, o + j * 2 + 1, none⟩ = some (.string (⟨x.2.toArray⟩ : ByteArray)) := by
  obtain ⟨a, c, b, o, e, hc, ha, hcell⟩ := h
  rw [List.length_map] at e hc ha
  refine ⟨a, c, b, o, e, hc, ha, fun j x hx => ?_⟩
  have := hcell j (cellsS x) (by rw [List.getElem?_map, hx]; rfl)
  exact ⟨this 0 _ (by omega) rfl, this 1 _ (by omega) rfl⟩
theorem HoldC.parts {w : World} {v : Value} {l : List Cv} (h : HoldC w v l) : ∃ (a : Option Addr) (c b o : Nat), v = .slice a l.length c ∧ l.length ≤ c ∧ (0 < l.length → a = some ⟨b, o, none⟩ ∧ b < w.heap.size) ∧
    ∀ (j : Nat) x, l[j]? = some x → w.cell? ⟨b, o + j * 3, none⟩ = some (.string (⟨x.1.1.toArray⟩ : ByteArray)) ∧ w.cell? ⟨b, o + j * 3 + 1, none⟩ = some (.int .i64 x.1.2.1) ∧ w.cell? ⟨b, o + j * 3 + 2, none⟩ = some x.2 := by
  obtain ⟨⟨a, c, b, o, e, hc, ha, hcell⟩, -⟩ := h
  rw [List.length_map] at e hc ha
  refine ⟨a, c, b, o, e, hc, ha, fun j x hx => ?_⟩
  have := hcell j (cellsC x) (by rw [List.getElem?_map, hx]; rfl)
  exact ⟨this 0 _ (by omega) rfl, this 1 _ (by omega) rfl, this 2 _ (by omega) rfl⟩
theorem HoldA.parts {w : World} {v : Value} {l : List Av} (h : HoldA w v l) : ∃ (a : Option Addr) (c b o : Nat), v = .slice a l.length c ∧ l.length ≤ c ∧ (0 < l.length → a = some ⟨b, o, none⟩ ∧ b < w.heap.size) ∧
    ∀ (j : Nat) x, l[j]? = some x → w.cell? ⟨b, o + j * 6, none⟩ = some (.string (⟨x.nm.toArray⟩ : ByteArray)) ∧ w.cell? ⟨b, o + j * 6 + 1, none⟩ = some (.string (⟨x.lk.toArray⟩ : ByteArray)) ∧ w.cell? ⟨b, o + j * 6 + 2, none⟩ = some (.bool x.mn) ∧ w.cell? ⟨b, o + j * 6 + 3, none⟩ = some (.string (⟨x.cr.toArray⟩ : ByteArray)) ∧ w.cell? ⟨b, o + j * 6 + 4, none⟩ = some x.sv ∧ w.cell? ⟨b, o + j * 6 + 5, none⟩ = some x.cv := by
  obtain ⟨⟨a, c, b, o, e, hc, ha, hcell⟩, -⟩ := h
  rw [List.length_map] at e hc ha
  refine ⟨a, c, b, o, e, hc, ha, fun j x hx => ?_⟩
  have := hcell j (cellsA x) (by rw [List.getElem?_map, hx]; rfl)
  exact ⟨this 0 _ (by omega) rfl, this 1 _ (by omega) rfl, this 2 _ (by omega) rfl, this 3 _ (by omega) rfl, this 4 _ (by omega) rfl, this 5 _ (by omega) rfl⟩
theorem boxV6 (W : World) (a b c d e f : Value) (t : TypeId) : (W.alloc (.cells #[a, b, c, d, e, f] t)).cell? ⟨W.heap.size, 0, none⟩ = some a ∧ (W.alloc (.cells #[a, b, c, d, e, f] t)).cell? ⟨W.heap.size, 1, none⟩ = some b ∧ (W.alloc (.cells #[a, b, c, d, e, f] t)).cell? ⟨W.heap.size, 2, none⟩ = some c ∧ (W.alloc (.cells #[a, b, c, d, e, f] t)).cell? ⟨W.heap.size, 3, none⟩ = some d ∧ (W.alloc (.cells #[a, b, c, d, e, f] t)).cell? ⟨W.heap.size, 4, none⟩ = some e ∧ (W.alloc (.cells #[a, b, c, d, e, f] t)).cell? ⟨W.heap.size, 5, none⟩ = some f := by
  refine ⟨?_, ?_, ?_, ?_, ?_, ?_⟩ <;> (rw [World.cell?_alloc_new]; rfl)
-- How large
def FitS (x : Sv) : Prop := x.1.length ≤ maxLen ∧ x.2.length ≤ maxLen
def FitC (x : Cv) : Prop := x.1.1.length ≤ maxLen ∧ x.1.2.2.length ≤ maxLen ∧ ∀ q ∈ x.1.2.2, q.length ≤ maxLen
structure FitA (x : Av) : Prop where
  nm : x.nm.length ≤ maxLen
  lk : x.lk.length ≤ maxLen
  cr : x.cr.length ≤ maxLen
  sl : x.sl.length ≤ maxLen
  ch : x.ch.length ≤ maxLen
  ss : ∀ s ∈ x.sl, FitS s
  cs : ∀ c ∈ x.ch, FitC c
def FewS (x : Sv) : Prop := x.1.length ≤ 300 ∧ x.2.length ≤ 300
def FewC (x : Cv) : Prop := x.1.1.length ≤ 300 ∧ x.1.2.2.length ≤ 70 ∧ ∀ q ∈ x.1.2.2, q.length ≤ 3000
structure FewOne (x : Av) : Prop where
  nm : x.nm.length ≤ 300
  lk : x.lk.length ≤ 300
  cr : x.cr.length ≤ 300
  sl : x.sl.length ≤ 70
  ch : x.ch.length ≤ 70
  ss : ∀ s ∈ x.sl, FewS s
  cs : ∀ c ∈ x.ch, FewC c
def FewA (l : List Av) : Prop := l.length ≤ 70 ∧ ∀ x ∈ l, FewOne x
end Go.Proofs.YtkcamfcjkjiijaaGreatDoor
