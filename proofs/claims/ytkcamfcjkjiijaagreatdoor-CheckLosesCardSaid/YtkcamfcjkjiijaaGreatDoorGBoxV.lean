/-
  Boxes of two and of three cells that may be written.
-/
import Derived.Test.YtkcamfcjkjiijaaGreatDoorGLList
import Derived.Deep.RegionHeld3
namespace Go.Proofs.YtkcamfcjkjiijaaGreatDoor
open Go.RowKit
section
variable {P : Program} {ops : Array Oper} {Q : Exit → Act → World → Prop} {md : Region.Mode} {S : World → Prop}
theorem heldYes (i d : Nat) (v : Value) {fuel : Nat} {listed : Array Bool} {a : Act} {w : World} (hd : (ops[i]?).map (·.dst) = some (some d)) (hs : Region.noSelect ops = true) (hf : Region.free md ops listed i = true) (hr : (Region.ready md ops listed).contains i = true)
    (hQ : ∀ c a w, Q (.panic c) (a.put (some d) v) w → Q (.panic c) a w) (hw : ((ops[i]?).map fun o => Region.wanted o (yielded ops a.tmps)) = some true) (hS : S w)
    (hy : ∀ w, S w → ((ops[i]?).map fun o => (execOp a.eval o).run P w) = some (.ok (.value v) w))
    (h : wpAnyH P md ops Q S fuel (listed.setIfInBounds i true) { tmps := a.tmps.setIfInBounds d v, defers := a.defers } w) : wpAnyH P md ops Q S (fuel + 1) listed a w := by
  cases ho : ops[i]? with
  | none => rw [ho] at hd; cases hd
  | some o =>
    rw [ho] at hd hw hy
    simp only [Option.map_some, Option.some.injEq] at hd hw hy
    refine wpAnyH_take ho hs hf hr (v := v) (fun c a w => by rw [hd]; exact hQ c a w) (Or.inl ⟨hw, hy⟩) hS ?_
    rw [hd]; exact h
theorem heldNo (i d : Nat) {fuel : Nat} {listed : Array Bool} {a : Act} {w : World} (hd : (ops[i]?).map (·.dst) = some (some d)) (hs : Region.noSelect ops = true) (hf : Region.free md ops listed i = true) (hr : (Region.ready md ops listed).contains i = true)
    (hQ : ∀ c a w, Q (.panic c) (a.put (some d) undef) w → Q (.panic c) a w) (hw : ((ops[i]?).map fun o => Region.wanted o (yielded ops a.tmps)) = some false) (hS : S w)
    (h : wpAnyH P md ops Q S fuel (listed.setIfInBounds i true) { tmps := a.tmps.setIfInBounds d undef, defers := a.defers } w) : wpAnyH P md ops Q S (fuel + 1) listed a w := by
  cases ho : ops[i]? with
  | none => rw [ho] at hd; cases hd
  | some o =>
    rw [ho] at hd hw
    simp only [Option.map_some, Option.some.injEq] at hd hw
    refine wpAnyH_take ho hs hf hr (v := undef) (fun c a w => by rw [hd]; exact hQ c a w) (Or.inr ⟨hw, rfl⟩) hS ?_
    rw [hd]; exact h
end
end Go.Proofs.YtkcamfcjkjiijaaGreatDoor
namespace Go.Proofs.YtkcamfcjkjiijaaGreatDoor
open Go.RowKit
def AtF (w : World) : List (Addr × Value) → World → Prop
  | [], V => Below w.heap.size w V
  | (a, v) :: l, V => V.cell? a = some v ∧ AtF w l V
theorem AtF.be {w V : World} : ∀ {l : List (Addr × Value)}, AtF w l V → Below w.heap.size w V
  | [], h => h
  | (_, _) :: _, h => AtF.be h.2
theorem AtF.on {w V V' : World} : ∀ {l : List (Addr × Value)}, AtF w l V → Below V.heap.size V V' → AtF w l V'
  | [], h, hb => Below.trans h (hb.mono (Below.size h))
  | (_, _) :: _, h, hb => ⟨(hb.cell (World.block_lt_of_cell? V _ h.1)).trans h.1, AtF.on h.2 hb⟩
theorem AtF.dr {w V : World} {l : List (Addr × Value)} (h : AtF w l V) : AtF w l V.drew := h.on (Below.refl _ _).drew
section
variable {P : Program} {ops : Array Oper} {Q : Exit → Act → World → Prop} {md : Region.Mode} {S : World → Prop}
theorem heldY (i d : Nat) (v : Value) (o : Oper) {fuel : Nat} {listed : Array Bool} {a : Act} {w : World} (ho : ops[i]? = some o) (hd : o.dst = some d) (hs : Region.noSelect ops = true) (hf : Region.free md ops listed i = true) (hr : (Region.ready md ops listed).contains i = true)
    (hQ : ∀ c a w, Q (.panic c) (a.put (some d) v) w → Q (.panic c) a w) (hw : Region.wanted o (yielded ops a.tmps) = true) (hS : S w)
    (hy : ∀ w, S w → (execOp a.eval o).run P w = .ok (.value v) w)
    (h : wpAnyH P md ops Q S fuel (listed.setIfInBounds i true) { tmps := a.tmps.setIfInBounds d v, defers := a.defers } w) : wpAnyH P md ops Q S (fuel + 1) listed a w :=
  heldYes i d v (by rw [ho]; exact congrArg some hd) hs hf hr hQ (by rw [ho]; exact congrArg some hw) hS (fun w hw => by rw [ho]; exact congrArg some (hy w hw)) h
end
theorem AtF.al {w V : World} {l : List (Addr × Value)} (h : AtF w l V) (o : Obj) : AtF w l (V.alloc o) := h.on ((Below.refl _ _).alloc (Nat.le_refl _) o)
theorem AtF.ald {w V : World} {l : List (Addr × Value)} (h : AtF w l V) (o : Obj) : AtF w l (V.alloc o).drew := (h.al o).dr
theorem boxV1 (W : World) (x : Value) (t : TypeId) : (W.alloc (.cells #[x] t)).cell? ⟨W.heap.size, 0, none⟩ = some x := by
  rw [cellRow _ W.heap.size 0 _ t (0, 0) (heap_alloc_new W _)]; rfl
theorem boxV2 (W : World) (x y : Value) (t : TypeId) : (W.alloc (.cells #[x, y] t)).cell? ⟨W.heap.size, 0, none⟩ = some x ∧ (W.alloc (.cells #[x, y] t)).cell? ⟨W.heap.size, 1, none⟩ = some y := by
  have h := heap_alloc_new W (.cells #[x, y] t)
  exact ⟨by rw [cellRow _ W.heap.size 0 _ t (0, 0) h]; rfl, by rw [cellRow _ W.heap.size 1 _ t (0, 0) h]; rfl⟩
theorem boxV3 (W : World) (x y z : Value) (t : TypeId) : (W.alloc (.cells #[x, y, z] t)).cell? ⟨W.heap.size, 0, none⟩ = some x ∧ (W.alloc (.cells #[x, y, z] t)).cell? ⟨W.heap.size, 1, none⟩ = some y ∧ (W.alloc (.cells #[x, y, z] t)).cell? ⟨W.heap.size, 2, none⟩ = some z := by
  have h := heap_alloc_new W (.cells #[x, y, z] t)
  exact ⟨by rw [cellRow _ W.heap.size 0 _ t (0, 0) h]; rfl, by rw [cellRow _ W.heap.size 1 _ t (0, 0) h]; rfl, by rw [cellRow _ W.heap.size 2 _ t (0, 0) h]; rfl⟩
end Go.Proofs.YtkcamfcjkjiijaaGreatDoor
namespace Go.Proofs.YtkcamfcjkjiijaaGreatDoor
open Go.RowKit
structure Box2 (w : World) (b : Nat) (x y : Value) : Prop where
  c0 : w.cell? ⟨b, 0, none⟩ = some x
  c1 : w.cell? ⟨b, 1, none⟩ = some y
  f : ∀ i, w.frozen? ⟨b, i, none⟩ = false
theorem Box2.new (A : World) (x y : Value) (t : TypeId) : Box2 (A.alloc (.cells #[x, y] t)) A.heap.size x y :=
  ⟨(boxV2 A x y t).1, (boxV2 A x y t).2, fun i => frozen_of_row _ A.heap.size i _ t (heap_alloc_new A _)⟩
theorem Box2.on {A B : World} {b : Nat} {x y : Value} (h : Box2 A b x y) (hb : Below A.heap.size A B) : Box2 B b x y := by
  have hlt := World.block_lt_of_cell? A _ h.c0
  have k := fun o => hb.cell (p := ⟨b, o, none⟩) hlt
  exact ⟨by rw [k]; exact h.c0, by rw [k]; exact h.c1, fun i => by rw [hb.frozen (p := ⟨b, i, none⟩) hlt]; exact h.f i⟩
abbrev put2 (w : World) (b : Nat) (x y : Value) : World := (w.setCell ⟨b, 0, none⟩ x).setCell ⟨b, 1, none⟩ y
theorem Box2.put {w : World} {b : Nat} {x y : Value} (h : Box2 w b x y) (x' y' : Value) : (put2 w b x' y').cell? ⟨b, 0, none⟩ = some x' ∧ (put2 w b x' y').cell? ⟨b, 1, none⟩ = some y' := by
  have o : ∀ (A : World) (i j : Nat) (u v : Value), i ≠ j → A.cell? ⟨b, j, none⟩ = some v → (A.setCell ⟨b, i, none⟩ u).cell? ⟨b, j, none⟩ = some v := fun A i j u v hij hv => (World.cell?_setCell_other _ _ _ _ (fun e => hij (congrArg Addr.off e))).trans hv
  have s0 : ∀ (A : World) (i : Nat) (u v : Value), A.cell? ⟨b, i, none⟩ = some v → (A.setCell ⟨b, i, none⟩ u).cell? ⟨b, i, none⟩ = some u := fun A i u v hv => World.cell?_setCell_same _ _ _ hv
  exact ⟨o _ 1 0 _ _ (by omega) (s0 _ 0 _ _ h.c0), s0 _ 1 _ _ (o _ 0 1 _ _ (by omega) h.c1)⟩
structure Box3 (w : World) (b : Nat) (x y z : Value) : Prop where
  c0 : w.cell? ⟨b, 0, none⟩ = some x
  c1 : w.cell? ⟨b, 1, none⟩ = some y
  c2 : w.cell? ⟨b, 2, none⟩ = some z
  f : ∀ i, w.frozen? ⟨b, i, none⟩ = false
theorem Box3.new (A : World) (x y z : Value) (t : TypeId) : Box3 (A.alloc (.cells #[x, y, z] t)) A.heap.size x y z :=
  ⟨(boxV3 A x y z t).1, (boxV3 A x y z t).2.1, (boxV3 A x y z t).2.2, fun i => frozen_of_row _ A.heap.size i _ t (heap_alloc_new A _)⟩
theorem Box3.on {A B : World} {b : Nat} {x y z : Value} (h : Box3 A b x y z) (hb : Below A.heap.size A B) : Box3 B b x y z := by
  have hlt := World.block_lt_of_cell? A _ h.c0
  have k := fun o => hb.cell (p := ⟨b, o, none⟩) hlt
  exact ⟨by rw [k]; exact h.c0, by rw [k]; exact h.c1, by rw [k]; exact h.c2, fun i => by rw [hb.frozen (p := ⟨b, i, none⟩) hlt]; exact h.f i⟩
abbrev put3 (w : World) (b : Nat) (x y z : Value) : World := ((w.setCell ⟨b, 0, none⟩ x).setCell ⟨b, 1, none⟩ y).setCell ⟨b, 2, none⟩ z
theorem Box3.put {w : World} {b : Nat} {x y z : Value} (h : Box3 w b x y z) (x' y' z' : Value) : (put3 w b x' y' z').cell? ⟨b, 0, none⟩ = some x' ∧ (put3 w b x' y' z').cell? ⟨b, 1, none⟩ = some y' ∧ (put3 w b x' y' z').cell? ⟨b, 2, none⟩ = some z' := by
  have o : ∀ (A : World) (i j : Nat) (u v : Value), i ≠ j → A.cell? ⟨b, j, none⟩ = some v → (A.setCell ⟨b, i, none⟩ u).cell? ⟨b, j, none⟩ = some v := fun A i j u v hij hv => (World.cell?_setCell_other _ _ _ _ (fun e => hij (congrArg Addr.off e))).trans hv
  have s0 : ∀ (A : World) (i : Nat) (u v : Value), A.cell? ⟨b, i, none⟩ = some v → (A.setCell ⟨b, i, none⟩ u).cell? ⟨b, i, none⟩ = some u := fun A i u v hv => World.cell?_setCell_same _ _ _ hv
  exact ⟨o _ 2 0 _ _ (by omega) (o _ 1 0 _ _ (by omega) (s0 _ 0 _ _ h.c0)), o _ 2 1 _ _ (by omega) (s0 _ 1 _ _ (o _ 0 1 _ _ (by omega) h.c1)), s0 _ 2 _ _ (o _ 1 2 _ _ (by omega) (o _ 0 2 _ _ (by omega) h.c2))⟩
theorem HoldT.set {w : World} {v : Value} {l : List Bs} (h : HoldT w v l) {b : Nat} (hn : ∀ a n c, v = .slice (some a) n c → a.block ≠ b) (i : Nat) (u : Value) : HoldT (w.setCell ⟨b, i, none⟩ u) v l := by
  obtain ⟨a, c, b', o, rfl, hc, ha, hcell⟩ := h
  refine ⟨a, c, b', o, rfl, hc, fun h0 => ⟨(ha h0).1, by rw [World.size_setCell]; exact (ha h0).2⟩, fun j l hj => ?_⟩
  have h0 : 0 < _ := Nat.lt_of_le_of_lt (Nat.zero_le _) (List.getElem?_eq_some_iff.1 hj).1
  have hbb := hn _ _ _ (by rw [(ha h0).1])
  exact (World.cell?_setCell_other _ _ _ _ (fun e => hbb (by rw [Addr.mk.injEq] at e; exact e.1.symm))).trans (hcell j l hj)
theorem OwnT.apart {w : World} {base : Nat} {v : Value} {l : List Bs} (h : OwnT w base v l) {b : Nat} (hb : b < base) : ∀ a n c, v = .slice (some a) n c → a.block ≠ b := fun a n c e e2 => by
  subst e
  have := (World.ownsRow.lt h a.block rfl).1
  omega
theorem OwnT.form {w : World} {base : Nat} {v : Value} {l : List Bs} (h : OwnT w base v l) : ∃ a n c, v = .slice a n c := by
  obtain ⟨a, c, b, o, rfl, _⟩ := h.holds
  exact ⟨_, _, _, rfl⟩
end Go.Proofs.YtkcamfcjkjiijaaGreatDoor
