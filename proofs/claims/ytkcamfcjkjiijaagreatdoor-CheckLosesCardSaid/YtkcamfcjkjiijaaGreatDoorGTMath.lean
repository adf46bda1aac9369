/-
  The words of states, by the program and by the reference; the state that is settled; nothing old turns. Condition of the program's: LaidU.
-/
import Derived.Test.YtkcamfcjkjiijaaGreatDoorGBRefR
import Derived.BigRegion
import Derived.Test.YtkcamfcjkjiijaaGreatDoorGQHold
import Derived.Test.YtkcamfcjkjiijaaGreatDoorGPName
import Derived.Test.YtkcamfcjkjiijaaGreatDoorGSPLines
import Derived.Test.YtkcamfcjkjiijaaGreatDoorGPResolved
import Derived.Laws.DeepStrings4
import Derived.Test.YtkcamfcjkjiijaaGreatDoorGPClean
import Derived.Test.YtkcamfcjkjiijaaGreatDoorGLList
import Derived.RangeFuncBox
import Derived.Test.YtkcamfcjkjiijaaGreatDoorGBoxV
import Derived.IntWalk
import Derived.Laws.StructEq
namespace Go.Proofs.YtkcamfcjkjiijaaGreatDoor
open Go.RowKit
/-- A box of three texts that may be written. -/
structure BoxQ (w : World) (b : Nat) (x y z : ByteArray) : Prop where
  c0 : w.cell? ⟨b, 0, none⟩ = some (.string x)
  c1 : w.cell? ⟨b, 1, none⟩ = some (.string y)
  c2 : w.cell? ⟨b, 2, none⟩ = some (.string z)
  f : ∀ i, w.frozen? ⟨b, i, none⟩ = false
theorem BoxQ.new (A : World) (x y z : ByteArray) (t : TypeId) : BoxQ (A.alloc (.cells #[.string x, .string y, .string z] t)) A.heap.size x y z :=
  ⟨(box3New A x y z t).1, (box3New A x y z t).2.1, (box3New A x y z t).2.2, fun i => frozen_of_row _ A.heap.size i _ t (heap_alloc_new A _)⟩
theorem BoxQ.on {A B : World} {b : Nat} {x y z : ByteArray} (h : BoxQ A b x y z) (hb : Below A.heap.size A B) : BoxQ B b x y z := by
  have hlt := World.block_lt_of_cell? A _ h.c0
  have k := fun o => hb.cell (p := ⟨b, o, none⟩) hlt
  exact ⟨by rw [k]; exact h.c0, by rw [k]; exact h.c1, by rw [k]; exact h.c2, fun i => by rw [hb.frozen (p := ⟨b, i, none⟩) hlt]; exact h.f i⟩
abbrev putQ3 (w : World) (b : Nat) (x y z : ByteArray) : World := ((w.setCell ⟨b, 0, none⟩ (.string x)).setCell ⟨b, 1, none⟩ (.string y)).setCell ⟨b, 2, none⟩ (.string z)
theorem BoxQ.put {w : World} {b : Nat} {x y z : ByteArray} (h : BoxQ w b x y z) (x' y' z' : ByteArray) : (putQ3 w b x' y' z').cell? ⟨b, 0, none⟩ = some (.string x') ∧ (putQ3 w b x' y' z').cell? ⟨b, 1, none⟩ = some (.string y') ∧ (putQ3 w b x' y' z').cell? ⟨b, 2, none⟩ = some (.string z') := by
  have o : ∀ (A : World) (i j : Nat) (u v : Value), i ≠ j → A.cell? ⟨b, j, none⟩ = some v → (A.setCell ⟨b, i, none⟩ u).cell? ⟨b, j, none⟩ = some v := fun A i j u v hij hv => (World.cell?_setCell_other _ _ _ _ (fun e => hij (congrArg Addr.off e))).trans hv
  have s0 : ∀ (A : World) (i : Nat) (u v : Value), A.cell? ⟨b, i, none⟩ = some v → (A.setCell ⟨b, i, none⟩ u).cell? ⟨b, i, none⟩ = some u := fun A i u v hv => World.cell?_setCell_same _ _ _ hv
  exact ⟨o _ 2 0 _ _ (by omega) (o _ 1 0 _ _ (by omega) (s0 _ 0 _ _ h.c0)), o _ 2 1 _ _ (by omega) (s0 _ 1 _ _ (o _ 0 1 _ _ (by omega) h.c1)), s0 _ 2 _ _ (o _ 1 2 _ _ (by omega) (o _ 0 2 _ _ (by omega) h.c2))⟩
end Go.Proofs.YtkcamfcjkjiijaaGreatDoor
namespace Go.Proofs.YtkcamfcjkjiijaaGreatDoor
open Go.RowKit
/-- What the walks ask of the program's variables. -/
structure LaidQ (w : World) : Prop where
  v : LaidV w
  m : ∃ m, w.cell? ⟨0, 0, none⟩ = some (.int .i64 m)
theorem LaidQ.on {w w' : World} (h : LaidQ w) (hb : Below w.heap.size w w') : LaidQ w' := by
  obtain ⟨m, hm⟩ := h.m
  exact ⟨h.v.on hb, m, (hb.cell (World.block_lt_of_cell? w _ hm)).trans hm⟩
end Go.Proofs.YtkcamfcjkjiijaaGreatDoor
namespace Go.Proofs.YtkcamfcjkjiijaaGreatDoor
open Go.RowKit
theorem drop_atQ {α : Type} {l : List α} {i : Nat} {x : α} (h : l[i]? = some x) : l.drop i = x :: l.drop (i + 1) := by
  obtain ⟨hi, e⟩ := List.getElem?_eq_some_iff.1 h
  rw [List.drop_eq_getElem_cons hi, e]
end Go.Proofs.YtkcamfcjkjiijaaGreatDoor
namespace Go.Proofs.YtkcamfcjkjiijaaGreatDoor
open Go.RowKit
end Go.Proofs.YtkcamfcjkjiijaaGreatDoor
namespace Go.Proofs.YtkcamfcjkjiijaaGreatDoor
open Go.RowKit
abbrev Dv := Bs × Bs × Bs
def plB (s : Bs) : Bool := right s && decide (s ≠ [47])
def rightD (x : Dv) : Bool := plB x.1 && plB x.2.1 && decide (x.1 ≠ x.2.1) && (decide (x.2.2 = []) || nameB x.2.2)
def stepD (l : List Dv) (i : Nat) (x : Dv) : Prop := rightD x = true ∧ ∀ y, 0 < i → l[i - 1]? = some y → y.1 < x.1
-- Where a path is.
def toD (l : List Dv) (p b : Bs) : Bs := match l.find? (fun x => decide (x.1 = p)) with
  | none => p
  | some x => if b ≠ [] ∧ x.2.2 = b then p else x.2.1
end Go.Proofs.YtkcamfcjkjiijaaGreatDoor
namespace Go.Proofs.YtkcamfcjkjiijaaGreatDoor
open Go.RowKit Go.Sort
end Go.Proofs.YtkcamfcjkjiijaaGreatDoor
namespace Go.Proofs.YtkcamfcjkjiijaaGreatDoor
open Go.RowKit Go.Sort
end Go.Proofs.YtkcamfcjkjiijaaGreatDoor
namespace Go.Proofs.YtkcamfcjkjiijaaGreatDoor
open Go.RowKit
-- Rows
/-- The slice value v holds the rows rs, of k texts each. -/
def HoldR (k : Nat) (w : World) (v : Value) (rs : List (List Bs)) : Prop :=
  ∃ (a : Option Addr) (c b o : Nat), v = .slice a rs.length c ∧ rs.length ≤ c ∧ (0 < rs.length → a = some ⟨b, o, none⟩ ∧ b < w.heap.size) ∧
    ∀ (j : Nat) r, rs[j]? = some r → ∀ (i : Nat) x, i < k → r[i]? = some x → w.cell? ⟨b, o + j * k + i, none⟩ = some (.string ⟨x.toArray⟩)
theorem HoldR.on {k : Nat} {w w' : World} {v : Value} {rs : List (List Bs)} (h : HoldR k w v rs) (hb : Below w.heap.size w w') : HoldR k w' v rs := by
  obtain ⟨a, c, b, o, rfl, hc, ha, hcell⟩ := h
  refine ⟨a, c, b, o, rfl, hc, fun h0 => ⟨(ha h0).1, Nat.lt_of_lt_of_le (ha h0).2 hb.size⟩, fun j r hj i x hi hx => ?_⟩
  have h0 : 0 < rs.length := by have := (List.getElem?_eq_some_iff.1 hj).1; omega
  rw [hb.cell (ha h0).2]
  exact hcell j r hj i x hi hx
theorem HoldR.cut {k : Nat} {w : World} {a : Option Addr} {c n : Nat} {rs : List (List Bs)} (h : HoldR k w (.slice a n c) rs) (m : Nat) (hm : m ≤ n) : HoldR k w (.slice a m c) (rs.take m) := by
  obtain ⟨a', c', b, o, e, hc, ha, hcell⟩ := h
  simp only [Value.slice.injEq] at e
  obtain ⟨rfl, rfl, rfl⟩ := e
  have hl : (rs.take m).length = m := by rw [List.length_take]; omega
  refine ⟨a, c, b, o, by rw [hl], by omega, fun h0 => ha (by omega), fun j r hj => ?_⟩
  rw [List.getElem?_take] at hj
  split at hj
  · exact hcell j r hj
  · cases hj
end Go.Proofs.YtkcamfcjkjiijaaGreatDoor
namespace Go.Proofs.YtkcamfcjkjiijaaGreatDoor
open Go.RowKit
abbrev aggD (a b c : ByteArray) : Value := .agg #[.string a, .string b, .string c]
theorem pathOf_any (a b c : ByteArray) (w : World) : Calls Tryz.prog 89 #[aggD a b c] w fun e w' => e = .returned (.string a) ∧ Below w.heap.size w w' := by
  go_enter Tryz.func89, Tryz.ntmps89
  go_wp2
  go_ret
  exact ⟨rfl, (Below.refl _ _).alloc (Nat.le_refl _) _⟩
end Go.Proofs.YtkcamfcjkjiijaaGreatDoor
namespace Go.Proofs.YtkcamfcjkjiijaaGreatDoor
open Go.RowKit
theorem box3xD (W : World) (x y z : ByteArray) (t : TypeId) : (W.alloc (.cells #[.string x, .string y, .string z] t)).cell? ⟨W.heap.size, 0, none⟩ = some (.string x) ∧ (W.alloc (.cells #[.string x, .string y, .string z] t)).cell? ⟨W.heap.size, 1, none⟩ = some (.string y) ∧ (W.alloc (.cells #[.string x, .string y, .string z] t)).cell? ⟨W.heap.size, 2, none⟩ = some (.string z) := by
  refine ⟨?_, ?_, ?_⟩ <;> (rw [cellRow _ _ _ _ _ (0, 0) (World.alloc_heap_new W _)]; rfl)
/-- Three cells of a block, and that it is there. -/
def At3 (W : World) (b : Nat) (x y z : ByteArray) : Prop := W.cell? ⟨b, 0, none⟩ = some (.string x) ∧ W.cell? ⟨b, 1, none⟩ = some (.string y) ∧ W.cell? ⟨b, 2, none⟩ = some (.string z)
theorem At3.on {W W' : World} {b : Nat} {x y z : ByteArray} (h : At3 W b x y z) (hb : Below W.heap.size W W') : At3 W' b x y z := by
  have l := World.block_lt_of_cell? W _ h.1
  exact ⟨(hb.cell (p := ⟨b, 0, none⟩) l).trans h.1, (hb.cell (p := ⟨b, 1, none⟩) l).trans h.2.1, (hb.cell (p := ⟨b, 2, none⟩) l).trans h.2.2⟩
theorem byEmpty (c : ByteArray) : c.toList.isEmpty = decide (c.data.toList = []) := by rw [ByteArray.toList_eq]; cases c.data.toList <;> simp
end Go.Proofs.YtkcamfcjkjiijaaGreatDoor
namespace Go.Proofs.YtkcamfcjkjiijaaGreatDoor
open Go.RowKit
/-- A record, and the slice values of its lists. -/
structure Uv where
  nm : Bs
  vr : Bs
  st : Int
  dp : List Gv
  cn : List Rl
  rp : List Bs
  cf : List (Bs × Bs)
  pd : List Bs
  aw : List Bs
  dv : Value
  cv : Value
  rv : Value
  fv : Value
  pv : Value
  av : Value
abbrev cellsW2 (x : Bs × Bs) : Rw := [.string ((⟨x.1.toArray⟩ : ByteArray)), .string ((⟨x.2.toArray⟩ : ByteArray))]
abbrev HoldW2 (w : World) (v : Value) (l : List (Bs × Bs)) : Prop := HoldV 2 w v (l.map cellsW2)
abbrev cellsU (x : Uv) : Rw := [.string ((⟨x.nm.toArray⟩ : ByteArray)), .string ((⟨x.vr.toArray⟩ : ByteArray)), .int .i64 x.st, x.dv, x.cv, x.rv, x.fv, x.pv, x.av]
structure InU (w : World) (x : Uv) : Prop where
  dp : HoldGs w x.dv x.dp
  cn : HoldQ w x.cv x.cn
  rp : HoldT w x.rv x.rp
  cf : HoldW2 w x.fv x.cf
  pd : HoldT w x.pv x.pd
  aw : HoldT w x.av x.aw
theorem InU.on {w w' : World} {x : Uv} (h : InU w x) (hb : Below w.heap.size w w') : InU w' x := ⟨HoldGs.on h.dp hb, HoldV.on h.cn hb, h.rp.on hb, HoldV.on h.cf hb, h.pd.on hb, h.aw.on hb⟩
abbrev HoldU (w : World) (v : Value) (l : List Uv) : Prop := HoldV 9 w v (l.map cellsU) ∧ ∀ x ∈ l, InU w x
theorem HoldU.on {w w' : World} {v : Value} {l : List Uv} (h : HoldU w v l) (hb : Below w.heap.size w w') : HoldU w' v l := ⟨HoldV.on h.1 hb, fun x hx => (h.2 x hx).on hb⟩
theorem HoldW2.parts {w : World} {v : Value} {l : List (Bs × Bs)} (h : HoldW2 w v l) : ∃ (a : Option Addr) (c b o : Nat), v = .slice a l.length c ∧ l.length ≤ c ∧ (0 < l.length → a = some ⟨b, o, none⟩ ∧ b < w.heap.size) ∧
    ∀ (j : Nat) x, l[j]? = some x → w.cell? ⟨b, o + j * 2, none⟩ = some (.string ((⟨x.1.toArray⟩ : ByteArray))) ∧ w.cell? ⟨b, o + j * 2 + 1, none⟩ = some (.string ((⟨x.2.toArray⟩ : ByteArray))) := by
  obtain ⟨a, c, b, o, e, hc, ha, hcell⟩ := h
  rw [List.length_map] at e hc ha
  refine ⟨a, c, b, o, e, hc, ha, fun j x hx => ?_⟩
  have := hcell j (cellsW2 x) (by rw [List.getElem?_map, hx]; rfl)
  exact ⟨this 0 _ (by omega) rfl, this 1 _ (by omega) rfl⟩
theorem HoldU.parts {w : World} {v : Value} {l : List Uv} (h : HoldU w v l) : ∃ (a : Option Addr) (c b o : Nat), v = .slice a l.length c ∧ l.length ≤ c ∧ (0 < l.length → a = some ⟨b, o, none⟩ ∧ b < w.heap.size) ∧
    ∀ (j : Nat) x, l[j]? = some x → w.cell? ⟨b, o + j * 9, none⟩ = some (.string ((⟨x.nm.toArray⟩ : ByteArray))) ∧ w.cell? ⟨b, o + j * 9 + 1, none⟩ = some (.string ((⟨x.vr.toArray⟩ : ByteArray))) ∧ w.cell? ⟨b, o + j * 9 + 2, none⟩ = some (.int .i64 x.st) ∧ w.cell? ⟨b, o + j * 9 + 3, none⟩ = some (x.dv) ∧ w.cell? ⟨b, o + j * 9 + 4, none⟩ = some (x.cv) ∧ w.cell? ⟨b, o + j * 9 + 5, none⟩ = some (x.rv) ∧ w.cell? ⟨b, o + j * 9 + 6, none⟩ = some (x.fv) ∧ w.cell? ⟨b, o + j * 9 + 7, none⟩ = some (x.pv) ∧ w.cell? ⟨b, o + j * 9 + 8, none⟩ = some (x.av) := by
  obtain ⟨⟨a, c, b, o, e, hc, ha, hcell⟩, -⟩ := h
  rw [List.length_map] at e hc ha
  refine ⟨a, c, b, o, e, hc, ha, fun j x hx => ?_⟩
  have := hcell j (cellsU x) (by rw [List.getElem?_map, hx]; rfl)
  exact ⟨this 0 _ (by omega) rfl, this 1 _ (by omega) rfl, this 2 _ (by omega) rfl, this 3 _ (by omega) rfl, this 4 _ (by omega) rfl, this 5 _ (by omega) rfl, this 6 _ (by omega) rfl, this 7 _ (by omega) rfl, this 8 _ (by omega) rfl⟩
theorem boxV9 (W : World) (c0 c1 c2 c3 c4 c5 c6 c7 c8 : Value) (t : TypeId) : (W.alloc (.cells #[c0, c1, c2, c3, c4, c5, c6, c7, c8] t)).cell? ⟨W.heap.size, 0, none⟩ = some c0 ∧ (W.alloc (.cells #[c0, c1, c2, c3, c4, c5, c6, c7, c8] t)).cell? ⟨W.heap.size, 1, none⟩ = some c1 ∧ (W.alloc (.cells #[c0, c1, c2, c3, c4, c5, c6, c7, c8] t)).cell? ⟨W.heap.size, 2, none⟩ = some c2 ∧ (W.alloc (.cells #[c0, c1, c2, c3, c4, c5, c6, c7, c8] t)).cell? ⟨W.heap.size, 3, none⟩ = some c3 ∧ (W.alloc (.cells #[c0, c1, c2, c3, c4, c5, c6, c7, c8] t)).cell? ⟨W.heap.size, 4, none⟩ = some c4 ∧ (W.alloc (.cells #[c0, c1, c2, c3, c4, c5, c6, c7, c8] t)).cell? ⟨W.heap.size, 5, none⟩ = some c5 ∧ (W.alloc (.cells #[c0, c1, c2, c3, c4, c5, c6, c7, c8] t)).cell? ⟨W.heap.size, 6, none⟩ = some c6 ∧ (W.alloc (.cells #[c0, c1, c2, c3, c4, c5, c6, c7, c8] t)).cell? ⟨W.heap.size, 7, none⟩ = some c7 ∧ (W.alloc (.cells #[c0, c1, c2, c3, c4, c5, c6, c7, c8] t)).cell? ⟨W.heap.size, 8, none⟩ = some c8 := by
  refine ⟨?_, ?_, ?_, ?_, ?_, ?_, ?_, ?_, ?_⟩ <;> (rw [World.cell?_alloc_new]; rfl)
theorem boxV2U (W : World) (c0 c1 : Value) (t : TypeId) : (W.alloc (.cells #[c0, c1] t)).cell? ⟨W.heap.size, 0, none⟩ = some c0 ∧ (W.alloc (.cells #[c0, c1] t)).cell? ⟨W.heap.size, 1, none⟩ = some c1 := by
  refine ⟨?_, ?_⟩ <;> (rw [World.cell?_alloc_new]; rfl)
end Go.Proofs.YtkcamfcjkjiijaaGreatDoor
namespace Go.Proofs.YtkcamfcjkjiijaaGreatDoor
open Go.RowKit
end Go.Proofs.YtkcamfcjkjiijaaGreatDoor
namespace Go.Proofs.YtkcamfcjkjiijaaGreatDoor
open Go.RowKit
-- What stands ahead of a byte, and behind it
-- A list of texts of which each may be, that rises
-- Interests
abbrev It := Bs × Bs × Bool
-- What a right one has no byte of
-- What is read of a line
-- As the reference reads
-- Fired triggers
abbrev Fr := Bs × List Bs
-- As the reference reads
end Go.Proofs.YtkcamfcjkjiijaaGreatDoor
namespace Go.Proofs.YtkcamfcjkjiijaaGreatDoor
open Go.RowKit
abbrev Ls := Bs × List Bs
def stepP (l : List Bs) (i : Nat) (x : Bs) : Prop := right x = true ∧ ∀ y, 0 < i → l[i - 1]? = some y → y < x
def StepsP (l : List Bs) : Prop := ∀ (i : Nat) x, l[i]? = some x → stepP l i x
open Classical in
noncomputable def chkP (l : List Bs) : Int := if 64 < l.length then 22 else if StepsP l then 0 else 1
theorem chkP_long {l : List Bs} (h : 64 < l.length) : chkP l = 22 := by unfold chkP; rw [if_pos h]
theorem chkP_ok {l : List Bs} (h : ¬ 64 < l.length) (g : StepsP l) : chkP l = 0 := by unfold chkP; rw [if_neg h, if_pos g]
theorem chkP_no {l : List Bs} (h : ¬ 64 < l.length) (g : ¬ StepsP l) : chkP l = 1 := by unfold chkP; rw [if_neg h, if_neg g]
theorem chkP_ways (l : List Bs) : chkP l = 22 ∨ chkP l = 0 ∨ chkP l = 1 := by
  unfold chkP
  split
  · exact .inl rfl
  · split
    · exact .inr (.inl rfl)
    · exact .inr (.inr rfl)
noncomputable def right13 (x : Ls) : Bool := nameB x.1 && decide (chkP x.2 = 0)
def step13 (l : List Ls) (i : Nat) (x : Ls) : Prop := right13 x = true ∧ ∀ y, 0 < i → l[i - 1]? = some y → y.1 < x.1
def Steps13 (l : List Ls) : Prop := ∀ (i : Nat) x, l[i]? = some x → step13 l i x
open Classical in
noncomputable def check13 (l : List Ls) : Int := if 64 < l.length then 22 else if Steps13 l then 0 else 1
theorem check13_long {l : List Ls} (h : 64 < l.length) : check13 l = 22 := by unfold check13; rw [if_pos h]
theorem check13_ok {l : List Ls} (h : ¬ 64 < l.length) (g : Steps13 l) : check13 l = 0 := by unfold check13; rw [if_neg h, if_pos g]
theorem check13_no {l : List Ls} (h : ¬ 64 < l.length) (g : ¬ Steps13 l) : check13 l = 1 := by unfold check13; rw [if_neg h, if_neg g]
theorem check13_ways (l : List Ls) : check13 l = 22 ∨ check13 l = 0 ∨ check13 l = 1 := by
  unfold check13
  split
  · exact .inl rfl
  · split
    · exact .inr (.inl rfl)
    · exact .inr (.inr rfl)
end Go.Proofs.YtkcamfcjkjiijaaGreatDoor
namespace Go.Proofs.YtkcamfcjkjiijaaGreatDoor
open Go.RowKit
/-- What the program lays, of which status speaks. -/
structure LaidU (w : World) : Prop where
  q : LaidQ w
  p : LaidP w
theorem LaidU.on {w w' : World} (h : LaidU w) (hb : Below w.heap.size w w') : LaidU w' :=
  ⟨h.q.on hb, h.p.on hb⟩
end Go.Proofs.YtkcamfcjkjiijaaGreatDoor
