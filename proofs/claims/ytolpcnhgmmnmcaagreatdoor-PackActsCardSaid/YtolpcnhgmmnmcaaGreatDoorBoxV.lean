/-
  Boxes of two and of three cells that may be written.
-/
import Derived.Test.YtolpcnhgmmnmcaaGreatDoorAtB
namespace Go.Proofs.YtolpcnhgmmnmcaaGreatDoor
open Go.RowKit
structure Box2 (w : World) (b : Nat) (x y : Value) : Prop where
  c0 : w.cell? ⟨b, 0, none⟩ = some x
  c1 : w.cell? ⟨b, 1, none⟩ = some y
  f : ∀ i, w.frozen? ⟨b, i, none⟩ = false
theorem Box2.new (A : World) (x y : Value) (t : TypeId) : Box2 (A.alloc (.cells #[x, y] t)) A.heap.size x y :=
  ⟨(boxV2 A x y t).1, (boxV2 A x y t).2, fun i => frozen_of_row _ A.heap.size i _ t (heap_alloc_new A _)⟩
theorem Box2.on {A B : World} {b : Nat} {x y : Value} (h : Box2 A b x y) (hb : Below A.heap.size A B) : Box2 B b x y := by
  have hlt := World.block_lt_of_cell? A _ h.c0
  have k := fun o => hb.cell (p := ⟨b, o, none⟩) hlt
  exact ⟨by rw [k]; exact h.c0, by rw [k]; exact h.c1, fun i => by rw [hb.frozen (p := ⟨b, i, none⟩) hlt]; exact h.f i⟩
abbrev put2 (w : World) (b : Nat) (x y : Value) : World := (w.setCell ⟨b, 0, none⟩ x).setCell ⟨b, 1, none⟩ y
theorem Box2.put {w : World} {b : Nat} {x y : Value} (h : Box2 w b x y) (x' y' : Value) : (put2 w b x' y').cell? ⟨b, 0, none⟩ = some x' ∧ (put2 w b x' y').cell? ⟨b, 1, none⟩ = some y' := by
  have o : ∀ (A : World) (i j : Nat) (u v : Value), i ≠ j → A.cell? ⟨b, j, none⟩ = some v → (A.setCell ⟨b, i, none⟩ u).cell? ⟨b, j, none⟩ = some v := fun A i j u v hij hv => (World.cell?_setCell_other _ _ _ _ (fun e => hij (congrArg Addr.off e))).trans hv
  have s0 : ∀ (A : World) (i : Nat) (u v : Value), A.cell? ⟨b, i, none⟩ = some v → (A.setCell ⟨b, i, none⟩ u).cell? ⟨b, i, none⟩ = some u := fun A i u v hv => World.cell?_setCell_same _ _ _ hv
  exact ⟨o _ 1 0 _ _ (by omega) (s0 _ 0 _ _ h.c0), s0 _ 1 _ _ (o _ 0 1 _ _ (by omega) h.c1)⟩
theorem put2_below {B : Nat} {w0 w : World} {b : Nat} (h : Below B w0 w) (hb : B ≤ b) (x y : Value) : Below B w0 (put2 w b x y) := (h.setCell (p := ⟨b, 0, none⟩) hb _).setCell (p := ⟨b, 1, none⟩) hb _
structure Box3 (w : World) (b : Nat) (x y z : Value) : Prop where
  c0 : w.cell? ⟨b, 0, none⟩ = some x
  c1 : w.cell? ⟨b, 1, none⟩ = some y
  c2 : w.cell? ⟨b, 2, none⟩ = some z
  f : ∀ i, w.frozen? ⟨b, i, none⟩ = false
theorem Box3.new (A : World) (x y z : Value) (t : TypeId) : Box3 (A.alloc (.cells #[x, y, z] t)) A.heap.size x y z :=
  ⟨(boxV3 A x y z t).1, (boxV3 A x y z t).2.1, (boxV3 A x y z t).2.2, fun i => frozen_of_row _ A.heap.size i _ t (heap_alloc_new A _)⟩
theorem Box3.on {A B : World} {b : Nat} {x y z : Value} (h : Box3 A b x y z) (hb : Below A.heap.size A B) : Box3 B b x y z := by
  have hlt := World.block_lt_of_cell? A _ h.c0
  have k := fun o => hb.cell (p := ⟨b, o, none⟩) hlt
  exact ⟨by rw [k]; exact h.c0, by rw [k]; exact h.c1, by rw [k]; exact h.c2, fun i => by rw [hb.frozen (p := ⟨b, i, none⟩) hlt]; exact h.f i⟩
abbrev put3 (w : World) (b : Nat) (x y z : Value) : World := ((w.setCell ⟨b, 0, none⟩ x).setCell ⟨b, 1, none⟩ y).setCell ⟨b, 2, none⟩ z
theorem Box3.put {w : World} {b : Nat} {x y z : Value} (h : Box3 w b x y z) (x' y' z' : Value) : (put3 w b x' y' z').cell? ⟨b, 0, none⟩ = some x' ∧ (put3 w b x' y' z').cell? ⟨b, 1, none⟩ = some y' ∧ (put3 w b x' y' z').cell? ⟨b, 2, none⟩ = some z' := by
  have o : ∀ (A : World) (i j : Nat) (u v : Value), i ≠ j → A.cell? ⟨b, j, none⟩ = some v → (A.setCell ⟨b, i, none⟩ u).cell? ⟨b, j, none⟩ = some v := fun A i j u v hij hv => (World.cell?_setCell_other _ _ _ _ (fun e => hij (congrArg Addr.off e))).trans hv
  have s0 : ∀ (A : World) (i : Nat) (u v : Value), A.cell? ⟨b, i, none⟩ = some v → (A.setCell ⟨b, i, none⟩ u).cell? ⟨b, i, none⟩ = some u := fun A i u v hv => World.cell?_setCell_same _ _ _ hv
  exact ⟨o _ 2 0 _ _ (by omega) (o _ 1 0 _ _ (by omega) (s0 _ 0 _ _ h.c0)), o _ 2 1 _ _ (by omega) (s0 _ 1 _ _ (o _ 0 1 _ _ (by omega) h.c1)), s0 _ 2 _ _ (o _ 1 2 _ _ (by omega) (o _ 0 2 _ _ (by omega) h.c2))⟩
theorem put3_below {B : Nat} {w0 w : World} {b : Nat} (h : Below B w0 w) (hb : B ≤ b) (x y z : Value) : Below B w0 (put3 w b x y z) := ((h.setCell (p := ⟨b, 0, none⟩) hb _).setCell (p := ⟨b, 1, none⟩) hb _).setCell (p := ⟨b, 2, none⟩) hb _
theorem HoldT.set {w : World} {v : Value} {l : List Bs} (h : HoldT w v l) {b : Nat} (hn : ∀ a n c, v = .slice (some a) n c → a.block ≠ b) (i : Nat) (u : Value) : HoldT (w.setCell ⟨b, i, none⟩ u) v l := by
  obtain ⟨a, c, b', o, rfl, hc, ha, hcell⟩ := h
  refine ⟨a, c, b', o, rfl, hc, fun h0 => ⟨(ha h0).1, by rw [World.size_setCell]; exact (ha h0).2⟩, fun j l hj => ?_⟩
  have h0 : 0 < _ := Nat.lt_of_le_of_lt (Nat.zero_le _) (List.getElem?_eq_some_iff.1 hj).1
  have hbb := hn _ _ _ (by rw [(ha h0).1])
  exact (World.cell?_setCell_other _ _ _ _ (fun e => hbb (by rw [Addr.mk.injEq] at e; exact e.1.symm))).trans (hcell j l hj)
theorem OwnT.apart {w : World} {base : Nat} {v : Value} {l : List Bs} (h : OwnT w base v l) {b : Nat} (hb : b < base) : ∀ a n c, v = .slice (some a) n c → a.block ≠ b := fun a n c e e2 => by
  subst e
  have := (World.ownsRow.lt h a.block rfl).1
  omega
theorem OwnT.form {w : World} {base : Nat} {v : Value} {l : List Bs} (h : OwnT w base v l) : ∃ a n c, v = .slice a n c := by
  obtain ⟨a, c, b, o, rfl, _⟩ := h.holds
  exact ⟨_, _, _, rfl⟩
end Go.Proofs.YtolpcnhgmmnmcaaGreatDoor
