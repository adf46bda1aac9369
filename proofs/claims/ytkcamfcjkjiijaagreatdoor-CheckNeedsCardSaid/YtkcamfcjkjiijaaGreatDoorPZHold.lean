/-
  Alternatives in memory: their slaves, their choices, held; nothing of the program's.
-/
import Derived.Test.YtkcamfcjkjiijaaGreatDoorPQGroup2
import Derived.Deep.RegionHeld3
import Derived.Laws.OwnMore
import Derived.Lib.SliceRun
import Derived.RangeFuncRecord
namespace Go.Proofs.YtkcamfcjkjiijaaGreatDoor
open Go.RowKit
section
variable {P : Program} {ops : Array Oper} {Q : Exit → Act → World → Prop} {md : Region.Mode} {S : World → Prop}
theorem heldYes (i d : Nat) (v : Value) {fuel : Nat} {listed : Array Bool} {a : Act} {w : World} (hd : (ops[i]?).map (·.dst) = some (some d)) (hs : Region.noSelect ops = true) (hf : Region.free md ops listed i = true) (hr : (Region.ready md ops listed).contains i = true)
    (hQ : ∀ c a w, Q (.panic c) (a.put (some d) v) w → Q (.panic c) a w) (hw : ((ops[i]?).map fun o => Region.wanted o (yielded ops a.tmps)) = some true) (hS : S w)
    (hy : ∀ w, S w → ((ops[i]?).map fun o => (execOp a.eval o).run P w) = some (.ok (.value v) w))
    (h : wpAnyH P md ops Q S fuel (listed.setIfInBounds i true) { tmps := a.tmps.setIfInBounds d v, defers := a.defers } w) : wpAnyH P md ops Q S (fuel + 1) listed a w := by
  cases ho : ops[i]? with
  | none => rw [ho] at hd; cases hd
  | some o =>
    rw [ho] at hd hw hy
    simp only [Option.map_some, Option.some.injEq] at hd hw hy
    refine wpAnyH_take ho hs hf hr (v := v) (fun c a w => by rw [hd]; exact hQ c a w) (Or.inl ⟨hw, hy⟩) hS ?_
    rw [hd]; exact h
theorem heldNo (i d : Nat) {fuel : Nat} {listed : Array Bool} {a : Act} {w : World} (hd : (ops[i]?).map (·.dst) = some (some d)) (hs : Region.noSelect ops = true) (hf : Region.free md ops listed i = true) (hr : (Region.ready md ops listed).contains i = true)
    (hQ : ∀ c a w, Q (.panic c) (a.put (some d) undef) w → Q (.panic c) a w) (hw : ((ops[i]?).map fun o => Region.wanted o (yielded ops a.tmps)) = some false) (hS : S w)
    (h : wpAnyH P md ops Q S fuel (listed.setIfInBounds i true) { tmps := a.tmps.setIfInBounds d undef, defers := a.defers } w) : wpAnyH P md ops Q S (fuel + 1) listed a w := by
  cases ho : ops[i]? with
  | none => rw [ho] at hd; cases hd
  | some o =>
    rw [ho] at hd hw
    simp only [Option.map_some, Option.some.injEq] at hd hw
    refine wpAnyH_take ho hs hf hr (v := undef) (fun c a w => by rw [hd]; exact hQ c a w) (Or.inr ⟨hw, rfl⟩) hS ?_
    rw [hd]; exact h
end
end Go.Proofs.YtkcamfcjkjiijaaGreatDoor
namespace Go.Proofs.YtkcamfcjkjiijaaGreatDoor
open Go.RowKit
def AtF (w : World) : List (Addr × Value) → World → Prop
  | [], V => Below w.heap.size w V
  | (a, v) :: l, V => V.cell? a = some v ∧ AtF w l V
theorem AtF.be {w V : World} : ∀ {l : List (Addr × Value)}, AtF w l V → Below w.heap.size w V
  | [], h => h
  | (_, _) :: _, h => AtF.be h.2
theorem AtF.on {w V V' : World} : ∀ {l : List (Addr × Value)}, AtF w l V → Below V.heap.size V V' → AtF w l V'
  | [], h, hb => Below.trans h (hb.mono (Below.size h))
  | (_, _) :: _, h, hb => ⟨(hb.cell (World.block_lt_of_cell? V _ h.1)).trans h.1, AtF.on h.2 hb⟩
theorem AtF.dr {w V : World} {l : List (Addr × Value)} (h : AtF w l V) : AtF w l V.drew := h.on (Below.refl _ _).drew
section
variable {P : Program} {ops : Array Oper} {Q : Exit → Act → World → Prop} {md : Region.Mode} {S : World → Prop}
theorem heldY (i d : Nat) (v : Value) (o : Oper) {fuel : Nat} {listed : Array Bool} {a : Act} {w : World} (ho : ops[i]? = some o) (hd : o.dst = some d) (hs : Region.noSelect ops = true) (hf : Region.free md ops listed i = true) (hr : (Region.ready md ops listed).contains i = true)
    (hQ : ∀ c a w, Q (.panic c) (a.put (some d) v) w → Q (.panic c) a w) (hw : Region.wanted o (yielded ops a.tmps) = true) (hS : S w)
    (hy : ∀ w, S w → (execOp a.eval o).run P w = .ok (.value v) w)
    (h : wpAnyH P md ops Q S fuel (listed.setIfInBounds i true) { tmps := a.tmps.setIfInBounds d v, defers := a.defers } w) : wpAnyH P md ops Q S (fuel + 1) listed a w :=
  heldYes i d v (by rw [ho]; exact congrArg some hd) hs hf hr hQ (by rw [ho]; exact congrArg some hw) hS (fun w hw => by rw [ho]; exact congrArg some (hy w hw)) h
end
theorem AtF.al {w V : World} {l : List (Addr × Value)} (h : AtF w l V) (o : Obj) : AtF w l (V.alloc o) := h.on ((Below.refl _ _).alloc (Nat.le_refl _) o)
theorem AtF.ald {w V : World} {l : List (Addr × Value)} (h : AtF w l V) (o : Obj) : AtF w l (V.alloc o).drew := (h.al o).dr
theorem boxV1 (W : World) (x : Value) (t : TypeId) : (W.alloc (.cells #[x] t)).cell? ⟨W.heap.size, 0, none⟩ = some x := by
  rw [cellRow _ W.heap.size 0 _ t (0, 0) (heap_alloc_new W _)]; rfl
theorem boxV2 (W : World) (x y : Value) (t : TypeId) : (W.alloc (.cells #[x, y] t)).cell? ⟨W.heap.size, 0, none⟩ = some x ∧ (W.alloc (.cells #[x, y] t)).cell? ⟨W.heap.size, 1, none⟩ = some y := by
  have h := heap_alloc_new W (.cells #[x, y] t)
  exact ⟨by rw [cellRow _ W.heap.size 0 _ t (0, 0) h]; rfl, by rw [cellRow _ W.heap.size 1 _ t (0, 0) h]; rfl⟩
theorem boxV3 (W : World) (x y z : Value) (t : TypeId) : (W.alloc (.cells #[x, y, z] t)).cell? ⟨W.heap.size, 0, none⟩ = some x ∧ (W.alloc (.cells #[x, y, z] t)).cell? ⟨W.heap.size, 1, none⟩ = some y ∧ (W.alloc (.cells #[x, y, z] t)).cell? ⟨W.heap.size, 2, none⟩ = some z := by
  have h := heap_alloc_new W (.cells #[x, y, z] t)
  exact ⟨by rw [cellRow _ W.heap.size 0 _ t (0, 0) h]; rfl, by rw [cellRow _ W.heap.size 1 _ t (0, 0) h]; rfl, by rw [cellRow _ W.heap.size 2 _ t (0, 0) h]; rfl⟩
end Go.Proofs.YtkcamfcjkjiijaaGreatDoor
namespace Go.Proofs.YtkcamfcjkjiijaaGreatDoor
open Go.RowKit
structure Box2 (w : World) (b : Nat) (x y : Value) : Prop where
  c0 : w.cell? ⟨b, 0, none⟩ = some x
  c1 : w.cell? ⟨b, 1, none⟩ = some y
  f : ∀ i, w.frozen? ⟨b, i, none⟩ = false
theorem Box2.new (A : World) (x y : Value) (t : TypeId) : Box2 (A.alloc (.cells #[x, y] t)) A.heap.size x y :=
  ⟨(boxV2 A x y t).1, (boxV2 A x y t).2, fun i => frozen_of_row _ A.heap.size i _ t (heap_alloc_new A _)⟩
theorem Box2.on {A B : World} {b : Nat} {x y : Value} (h : Box2 A b x y) (hb : Below A.heap.size A B) : Box2 B b x y := by
  have hlt := World.block_lt_of_cell? A _ h.c0
  have k := fun o => hb.cell (p := ⟨b, o, none⟩) hlt
  exact ⟨by rw [k]; exact h.c0, by rw [k]; exact h.c1, fun i => by rw [hb.frozen (p := ⟨b, i, none⟩) hlt]; exact h.f i⟩
abbrev put2 (w : World) (b : Nat) (x y : Value) : World := (w.setCell ⟨b, 0, none⟩ x).setCell ⟨b, 1, none⟩ y
theorem Box2.put {w : World} {b : Nat} {x y : Value} (h : Box2 w b x y) (x' y' : Value) : (put2 w b x' y').cell? ⟨b, 0, none⟩ = some x' ∧ (put2 w b x' y').cell? ⟨b, 1, none⟩ = some y' := by
  have o : ∀ (A : World) (i j : Nat) (u v : Value), i ≠ j → A.cell? ⟨b, j, none⟩ = some v → (A.setCell ⟨b, i, none⟩ u).cell? ⟨b, j, none⟩ = some v := fun A i j u v hij hv => (World.cell?_setCell_other _ _ _ _ (fun e => hij (congrArg Addr.off e))).trans hv
  have s0 : ∀ (A : World) (i : Nat) (u v : Value), A.cell? ⟨b, i, none⟩ = some v → (A.setCell ⟨b, i, none⟩ u).cell? ⟨b, i, none⟩ = some u := fun A i u v hv => World.cell?_setCell_same _ _ _ hv
  exact ⟨o _ 1 0 _ _ (by omega) (s0 _ 0 _ _ h.c0), s0 _ 1 _ _ (o _ 0 1 _ _ (by omega) h.c1)⟩
structure Box3 (w : World) (b : Nat) (x y z : Value) : Prop where
  c0 : w.cell? ⟨b, 0, none⟩ = some x
  c1 : w.cell? ⟨b, 1, none⟩ = some y
  c2 : w.cell? ⟨b, 2, none⟩ = some z
  f : ∀ i, w.frozen? ⟨b, i, none⟩ = false
theorem Box3.new (A : World) (x y z : Value) (t : TypeId) : Box3 (A.alloc (.cells #[x, y, z] t)) A.heap.size x y z :=
  ⟨(boxV3 A x y z t).1, (boxV3 A x y z t).2.1, (boxV3 A x y z t).2.2, fun i => frozen_of_row _ A.heap.size i _ t (heap_alloc_new A _)⟩
theorem Box3.on {A B : World} {b : Nat} {x y z : Value} (h : Box3 A b x y z) (hb : Below A.heap.size A B) : Box3 B b x y z := by
  have hlt := World.block_lt_of_cell? A _ h.c0
  have k := fun o => hb.cell (p := ⟨b, o, none⟩) hlt
  exact ⟨by rw [k]; exact h.c0, by rw [k]; exact h.c1, by rw [k]; exact h.c2, fun i => by rw [hb.frozen (p := ⟨b, i, none⟩) hlt]; exact h.f i⟩
abbrev put3 (w : World) (b : Nat) (x y z : Value) : World := ((w.setCell ⟨b, 0, none⟩ x).setCell ⟨b, 1, none⟩ y).setCell ⟨b, 2, none⟩ z
theorem Box3.put {w : World} {b : Nat} {x y z : Value} (h : Box3 w b x y z) (x' y' z' : Value) : (put3 w b x' y' z').cell? ⟨b, 0, none⟩ = some x' ∧ (put3 w b x' y' z').cell? ⟨b, 1, none⟩ = some y' ∧ (put3 w b x' y' z').cell? ⟨b, 2, none⟩ = some z' := by
  have o : ∀ (A : World) (i j : Nat) (u v : Value), i ≠ j → A.cell? ⟨b, j, none⟩ = some v → (A.setCell ⟨b, i, none⟩ u).cell? ⟨b, j, none⟩ = some v := fun A i j u v hij hv => (World.cell?_setCell_other _ _ _ _ (fun e => hij (congrArg Addr.off e))).trans hv
  have s0 : ∀ (A : World) (i : Nat) (u v : Value), A.cell? ⟨b, i, none⟩ = some v → (A.setCell ⟨b, i, none⟩ u).cell? ⟨b, i, none⟩ = some u := fun A i u v hv => World.cell?_setCell_same _ _ _ hv
  exact ⟨o _ 2 0 _ _ (by omega) (o _ 1 0 _ _ (by omega) (s0 _ 0 _ _ h.c0)), o _ 2 1 _ _ (by omega) (s0 _ 1 _ _ (o _ 0 1 _ _ (by omega) h.c1)), s0 _ 2 _ _ (o _ 1 2 _ _ (by omega) (o _ 0 2 _ _ (by omega) h.c2))⟩
theorem OwnT.form {w : World} {base : Nat} {v : Value} {l : List Bs} (h : OwnT w base v l) : ∃ a n c, v = .slice a n c := by
  obtain ⟨a, c, b, o, rfl, _⟩ := h.holds
  exact ⟨_, _, _, rfl⟩
end Go.Proofs.YtkcamfcjkjiijaaGreatDoor
namespace Go.Proofs.YtkcamfcjkjiijaaGreatDoor
open Go.RowKit
abbrev Rw := List Value
/-- The slice value v holds these rows of k cells, wherever they lie. -/
def HoldV (k : Nat) (w : World) (v : Value) (rows : List Rw) : Prop :=
  ∃ (a : Option Addr) (c b o : Nat), v = .slice a rows.length c ∧ rows.length ≤ c ∧ (0 < rows.length → a = some ⟨b, o, none⟩ ∧ b < w.heap.size) ∧
    ∀ (j : Nat) r, rows[j]? = some r → ∀ (i : Nat) y, i < k → r[i]? = some y → w.cell? ⟨b, o + j * k + i, none⟩ = some y
theorem HoldV.on {k : Nat} {w w' : World} {v : Value} {rows : List Rw} (h : HoldV k w v rows) (hb : Below w.heap.size w w') : HoldV k w' v rows := by
  obtain ⟨a, c, b, o, rfl, hc, ha, hcell⟩ := h
  refine ⟨a, c, b, o, rfl, hc, fun h0 => ⟨(ha h0).1, Nat.lt_of_lt_of_le (ha h0).2 hb.size⟩, fun j r hj i y hi hy => ?_⟩
  have h0 : 0 < rows.length := by have := (List.getElem?_eq_some_iff.1 hj).1; omega
  rw [hb.cell (p := ⟨b, o + j * k + i, none⟩) (ha h0).2]
  exact hcell j r hj i y hi hy
theorem HoldV.nil (k : Nat) (w : World) : HoldV k w (.slice none 0 0) [] := ⟨none, 0, 0, 0, rfl, Nat.le_refl _, fun h => absurd h (by simp), fun j l hj => by simp at hj⟩
theorem flat_at (k : Nat) : ∀ (rows : List Rw), (∀ r ∈ rows, r.length = k) → ∀ (j : Nat) r (i : Nat), rows[j]? = some r → i < k → rows.flatten[j * k + i]? = r[i]?
  | [], _, j, r, i, h, _ => by simp at h
  | q :: rows, hk, 0, r, i, h, hi => by
    simp only [List.getElem?_cons_zero, Option.some.injEq] at h
    subst h
    rw [List.flatten_cons, Nat.zero_mul, Nat.zero_add, List.getElem?_append_left (by rw [hk q (by simp)]; exact hi)]
  | q :: rows, hk, j + 1, r, i, h, hi => by
    have hq := hk q (by simp)
    rw [List.flatten_cons, List.getElem?_append_right (by rw [hq, Nat.add_mul]; omega), hq, show (j + 1) * k + i - k = j * k + i by rw [Nat.add_mul]; omega]
    exact flat_at k rows (fun x hx => hk x (List.mem_cons_of_mem _ hx)) j r i (by simpa using h) hi
/-- The slice value v owns these rows of k cells, in a block from base on. -/
def OwnV (T : TypeId) (k : Nat) (w : World) (base : Nat) (v : Value) (rows : List Rw) : Prop := (∀ r ∈ rows, r.length = k) ∧ w.ownsRow base T k v rows.length rows.flatten
theorem OwnV.nil (T : TypeId) (k : Nat) (w : World) (base : Nat) : OwnV T k w base (.slice none 0 0) [] := ⟨fun r hr => by simp at hr, World.ownsRow_nil _ _ _ _⟩
theorem OwnV.holds {T : TypeId} {k : Nat} {w : World} {base : Nat} {v : Value} {rows : List Rw} (h : OwnV T k w base v rows) : HoldV k w v rows := by
  obtain ⟨hk, h⟩ := h
  rcases h.2 with ⟨rfl, h0⟩ | ⟨g, cap, cur, rfl, hb, hg, hn, hm, hs, ht⟩
  · have : rows = [] := List.eq_nil_of_length_eq_zero h0
    subst this
    exact HoldV.nil k w
  · refine ⟨some ⟨g, 0, none⟩, cap, g, 0, rfl, hn, fun _ => ⟨rfl, (Array.getElem?_eq_some_iff.1 hg).1⟩, fun j r hj i y hi hy => ?_⟩
    have hj' := (List.getElem?_eq_some_iff.1 hj).1
    have hlt : j * k + i < rows.length * k := by
      have : (j + 1) * k ≤ rows.length * k := Nat.mul_le_mul_right k hj'
      rw [Nat.add_mul] at this; omega
    rw [Nat.zero_add, cellRow w g _ cur T (0, 0) hg, ← Array.getElem?_toList, ← hy, ← flat_at k rows hk j r i hj hi, ← ht, List.getElem?_take, if_pos hlt]
theorem OwnV.mono {T : TypeId} {k : Nat} {w : World} {base B : Nat} {v : Value} {rows : List Rw} (h : OwnV T k w base v rows) (hB : B ≤ base) : OwnV T k w B v rows := by
  refine ⟨h.1, h.2.1, ?_⟩
  rcases h.2.2 with hn | ⟨g, cap, cur, hv, hb', rest⟩
  · exact .inl hn
  · exact .inr ⟨g, cap, cur, hv, by omega, rest⟩
theorem grownV {w w' : World} (h : Below w.heap.size w w') : w.grownBy w' none := ⟨h.os, h.tape, h.output, h.size, fun k hk _ => h.block k hk⟩
theorem OwnV.on {T : TypeId} {k : Nat} {w w' : World} {base : Nat} {v : Value} {rows : List Rw} (h : OwnV T k w base v rows) (hb : Below w.heap.size w w') : OwnV T k w' base v rows := ⟨h.1, World.ownsRow.kept h.2 (grownV hb) (by cases v.ownBlock <;> simp)⟩
theorem OwnV.app {T : TypeId} {k : Nat} {w' : World} {base : Nat} {v' : Value} {rows : List Rw} {r : Rw} (hk : ∀ r ∈ rows, r.length = k) (hr : r.length = k) (h : w'.ownsRow base T k v' (rows.length + 1) (rows.flatten ++ r)) : OwnV T k w' base v' (rows ++ [r]) := by
  refine ⟨fun q hq => ?_, ?_⟩
  · rcases List.mem_append.1 hq with hq | hq
    · exact hk q hq
    · simp at hq; subst hq; exact hr
  · rw [List.length_append, List.flatten_append, List.flatten_cons, List.flatten_nil, List.append_nil]; exact h
theorem OwnV.below {T : TypeId} {k : Nat} {B : Nat} {w0 w w' : World} {o : Obj} {base : Nat} {v : Value} {rows : List Rw} (h : Below B w0 w) (hown : OwnV T k w base v rows) (hg : (w.alloc o).grownBy w' v.ownBlock) (hB : B ≤ base) (hBw : B ≤ w.heap.size) : Below B w0 w' :=
  (h.alloc hBw o).grown hg (by simp; omega) (fun k hk => by have := (World.ownsRow.lt hown.2 k hk).1; omega)
theorem OwnV.form {T : TypeId} {k : Nat} {w : World} {base : Nat} {v : Value} {rows : List Rw} (h : OwnV T k w base v rows) : ∃ a c, v = .slice a rows.length c := by
  obtain ⟨a, c, b, o, e, _⟩ := h.holds; exact ⟨a, c, e⟩
end Go.Proofs.YtkcamfcjkjiijaaGreatDoor
namespace Go.Proofs.YtkcamfcjkjiijaaGreatDoor
open Go.RowKit
/-- A slave: its name, its link. -/
abbrev Sv := Bs × Bs
/-- A choice: its path, its priority, what it has for the slaves; and the slice value of these. -/
abbrev Cv := (Bs × Int × List Bs) × Value
/-- An alternative, and the slice values of its slaves and of its choices. -/
structure Av where
  nm : Bs
  lk : Bs
  mn : Bool
  cr : Bs
  sl : List Sv
  ch : List Cv
  sv : Value
  cv : Value
abbrev cellsS (x : Sv) : Rw := [.string (⟨x.1.toArray⟩ : ByteArray), .string (⟨x.2.toArray⟩ : ByteArray)]
abbrev cellsC (x : Cv) : Rw := [.string (⟨x.1.1.toArray⟩ : ByteArray), .int .i64 x.1.2.1, x.2]
abbrev cellsA (x : Av) : Rw := [.string (⟨x.nm.toArray⟩ : ByteArray), .string (⟨x.lk.toArray⟩ : ByteArray), .bool x.mn, .string (⟨x.cr.toArray⟩ : ByteArray), x.sv, x.cv]
abbrev HoldS (w : World) (v : Value) (l : List Sv) : Prop := HoldV 2 w v (l.map cellsS)
abbrev HoldC (w : World) (v : Value) (l : List Cv) : Prop := HoldV 3 w v (l.map cellsC) ∧ ∀ x ∈ l, HoldT w x.2 x.1.2.2
abbrev InA (w : World) (x : Av) : Prop := HoldS w x.sv x.sl ∧ HoldC w x.cv x.ch
abbrev HoldA (w : World) (v : Value) (l : List Av) : Prop := HoldV 6 w v (l.map cellsA) ∧ ∀ x ∈ l, InA w x
theorem HoldC.on {w w' : World} {v : Value} {l : List Cv} (h : HoldC w v l) (hb : Below w.heap.size w w') : HoldC w' v l := ⟨HoldV.on h.1 hb, fun x hx => (h.2 x hx).on hb⟩
theorem InA.on {w w' : World} {x : Av} (h : InA w x) (hb : Below w.heap.size w w') : InA w' x := ⟨HoldV.on h.1 hb, HoldC.on h.2 hb⟩
theorem HoldA.on {w w' : World} {v : Value} {l : List Av} (h : HoldA w v l) (hb : Below w.heap.size w w') : HoldA w' v l := ⟨HoldV.on h.1 hb, fun x hx => (h.2 x hx).on hb⟩
theorem HoldS.parts {w : World} {v : Value} {l : List Sv} (h : HoldS w v l) : ∃ (a : Option Addr) (c b o : Nat), v = .slice a l.length c ∧ l.length ≤ c ∧ (0 < l.length → a = some ⟨b, o, none⟩ ∧ b < w.heap.size) ∧
    ∀ (j : Nat) x, l[j]? = some x → w.cell? ⟨b, o + j * 2, none⟩ = some (.string (⟨x.1.toArray⟩ : ByteArray)) ∧ w.cell? ⟨b, o + j * 2 + 1, none⟩ = some (.string (⟨x.2.toArray⟩ : ByteArray)) := by
  obtain ⟨a, c, b, o, e, hc, ha, hcell⟩ := h
  rw [List.length_map] at e hc ha
  refine ⟨a, c, b, o, e, hc, ha, fun j x hx => ?_⟩
  have := hcell j (cellsS x) (by rw [List.getElem?_map, hx]; rfl)
  exact ⟨this 0 _ (by omega) rfl, this 1 _ (by omega) rfl⟩
theorem HoldC.parts {w : World} {v : Value} {l : List Cv} (h : HoldC w v l) : ∃ (a : Option Addr) (c b o : Nat), v = .slice a l.length c ∧ l.length ≤ c ∧ (0 < l.length → a = some ⟨b, o, none⟩ ∧ b < w.heap.size) ∧
    ∀ (j : Nat) x, l[j]? = some x → w.cell? ⟨b, o + j * 3, none⟩ = some (.string (⟨x.1.1.toArray⟩ : ByteArray)) ∧ w.cell? ⟨b, o + j * 3 + 1, none⟩ = some (.int .i64 x.1.2.1) ∧ w.cell? ⟨b, o + j * 3 + 2, none⟩ = some x.2 := by
  obtain ⟨⟨a, c, b, o, e, hc, ha, hcell⟩, -⟩ := h
  rw [List.length_map] at e hc ha
  refine ⟨a, c, b, o, e, hc, ha, fun j x hx => ?_⟩
  have := hcell j (cellsC x) (by rw [List.getElem?_map, hx]; rfl)
  exact ⟨this 0 _ (by omega) rfl, this 1 _ (by omega) rfl, this 2 _ (by omega) rfl⟩
theorem HoldA.parts {w : World} {v : Value} {l : List Av} (h : HoldA w v l) : ∃ (a : Option Addr) (c b o : Nat), v = .slice a l.length c ∧ l.length ≤ c ∧ (0 < l.length → a = some ⟨b, o, none⟩ ∧ b < w.heap.size) ∧
    ∀ (j : Nat) x, l[j]? = some x → w.cell? ⟨b, o + j * 6, none⟩ = some (.string (⟨x.nm.toArray⟩ : ByteArray)) ∧ w.cell? ⟨b, o + j * 6 + 1, none⟩ = some (.string (⟨x.lk.toArray⟩ : ByteArray)) ∧ w.cell? ⟨b, o + j * 6 + 2, none⟩ = some (.bool x.mn) ∧ w.cell? ⟨b, o + j * 6 + 3, none⟩ = some (.string (⟨x.cr.toArray⟩ : ByteArray)) ∧ w.cell? ⟨b, o + j * 6 + 4, none⟩ = some x.sv ∧ w.cell? ⟨b, o + j * 6 + 5, none⟩ = some x.cv := by
  obtain ⟨⟨a, c, b, o, e, hc, ha, hcell⟩, -⟩ := h
  rw [List.length_map] at e hc ha
  refine ⟨a, c, b, o, e, hc, ha, fun j x hx => ?_⟩
  have := hcell j (cellsA x) (by rw [List.getElem?_map, hx]; rfl)
  exact ⟨this 0 _ (by omega) rfl, this 1 _ (by omega) rfl, this 2 _ (by omega) rfl, this 3 _ (by omega) rfl, this 4 _ (by omega) rfl, this 5 _ (by omega) rfl⟩
theorem boxV6 (W : World) (a b c d e f : Value) (t : TypeId) : (W.alloc (.cells #[a, b, c, d, e, f] t)).cell? ⟨W.heap.size, 0, none⟩ = some a ∧ (W.alloc (.cells #[a, b, c, d, e, f] t)).cell? ⟨W.heap.size, 1, none⟩ = some b ∧ (W.alloc (.cells #[a, b, c, d, e, f] t)).cell? ⟨W.heap.size, 2, none⟩ = some c ∧ (W.alloc (.cells #[a, b, c, d, e, f] t)).cell? ⟨W.heap.size, 3, none⟩ = some d ∧ (W.alloc (.cells #[a, b, c, d, e, f] t)).cell? ⟨W.heap.size, 4, none⟩ = some e ∧ (W.alloc (.cells #[a, b, c, d, e, f] t)).cell? ⟨W.heap.size, 5, none⟩ = some f := by
  refine ⟨?_, ?_, ?_, ?_, ?_, ?_⟩ <;> (rw [World.cell?_alloc_new]; rfl)
-- How large
def FitS (x : Sv) : Prop := x.1.length ≤ maxLen ∧ x.2.length ≤ maxLen
def FitC (x : Cv) : Prop := x.1.1.length ≤ maxLen ∧ x.1.2.2.length ≤ maxLen ∧ ∀ q ∈ x.1.2.2, q.length ≤ maxLen
structure FitA (x : Av) : Prop where
  nm : x.nm.length ≤ maxLen
  lk : x.lk.length ≤ maxLen
  cr : x.cr.length ≤ maxLen
  sl : x.sl.length ≤ maxLen
  ch : x.ch.length ≤ maxLen
  ss : ∀ s ∈ x.sl, FitS s
  cs : ∀ c ∈ x.ch, FitC c
def FewS (x : Sv) : Prop := x.1.length ≤ 300 ∧ x.2.length ≤ 300
def FewC (x : Cv) : Prop := x.1.1.length ≤ 300 ∧ x.1.2.2.length ≤ 70 ∧ ∀ q ∈ x.1.2.2, q.length ≤ 3000
structure FewOne (x : Av) : Prop where
  nm : x.nm.length ≤ 300
  lk : x.lk.length ≤ 300
  cr : x.cr.length ≤ 300
  sl : x.sl.length ≤ 70
  ch : x.ch.length ≤ 70
  ss : ∀ s ∈ x.sl, FewS s
  cs : ∀ c ∈ x.ch, FewC c
def FewA (l : List Av) : Prop := l.length ≤ 70 ∧ ∀ x ∈ l, FewOne x
end Go.Proofs.YtkcamfcjkjiijaaGreatDoor
