/-
  The program's ParseFired: what it returns; nothing old turns. Condition: LaidP.
-/
import Derived.Test.YtkcamfcjkjiijaaGreatDoorGDPrint
import Derived.Laws.OwnMore
import Derived.Test.YtkcamfcjkjiijaaGreatDoorGSPLines
import Derived.Maps.AppendAt
import Derived.BigRegion
import Derived.Test.YtkcamfcjkjiijaaGreatDoorGLList
import Derived.RangeFuncBox
import Derived.RangeFuncNested
import Derived.RangeFuncBound
import Derived.RangeFuncCalls
import Derived.RangeFuncLeaves
import Derived.Deep.Heap
import Derived.Test.YtkcamfcjkjiijaaGreatDoorGTHold
import Derived.Test.YtkcamfcjkjiijaaGreatDoorGBoxV
import Derived.Sort.LoopGhostIn
import Derived.Stop.RegionWithIn
import Derived.Test.YtkcamfcjkjiijaaGreatDoorGQLacks
namespace Go.Proofs.YtkcamfcjkjiijaaGreatDoor
open Go.RowKit
abbrev dcells (l : List Dv) : List Value := l.flatMap fun x => [.string (bsA x.1), .string (bsA x.2.1), .string (bsA x.2.2)]
theorem dcells_at : ∀ (l : List Dv) (t : Nat) (x : Dv), l[t]? = some x → (dcells l)[t * 3]? = some (.string (bsA x.1)) ∧ (dcells l)[t * 3 + 1]? = some (.string (bsA x.2.1)) ∧ (dcells l)[t * 3 + 2]? = some (.string (bsA x.2.2))
  | [], t, x, h => by simp at h
  | g :: l, 0, x, h => by simp at h; subst h; simp [dcells]
  | g :: l, t + 1, x, h => by
    have := dcells_at l t x (by simpa using h)
    have e : (t + 1) * 3 = t * 3 + 1 + 1 + 1 := by omega
    have e1 : (t + 1) * 3 + 1 = t * 3 + 1 + 1 + 1 + 1 := by omega
    have e2 : (t + 1) * 3 + 2 = t * 3 + 2 + 1 + 1 + 1 := by omega
    simp only [dcells, List.flatMap_cons, List.cons_append, List.nil_append]
    rw [e2, e1, e]
    simp only [List.getElem?_cons_succ]
    exact this
/-- The slice value v owns the diversions l, in a block from base on. -/
def OwnD (w : World) (base : Nat) (v : Value) (l : List Dv) : Prop := w.ownsRow base 100 3 v l.length (dcells l)
theorem OwnD.nil (w : World) (base : Nat) : OwnD w base (.slice none 0 0) [] := World.ownsRow_nil _ _ _ _
theorem OwnD.holds {w : World} {base : Nat} {v : Value} {l : List Dv} (h : OwnD w base v l) : HoldD w v l := by
  rcases h.2 with ⟨rfl, h0⟩ | ⟨g, cap, cur, rfl, hb, hg, hn, hm, hs, ht⟩
  · have : l = [] := List.eq_nil_of_length_eq_zero h0
    subst this
    exact ⟨none, 0, 0, 0, rfl, Nat.le_refl _, fun h => absurd h (by simp), fun j l hj => by simp at hj⟩
  · refine ⟨some ⟨g, 0, none⟩, cap, g, 0, by rw [List.length_map], by rw [List.length_map]; exact hn, fun _ => ⟨rfl, (Array.getElem?_eq_some_iff.1 hg).1⟩, fun j r hj i y hi hy => ?_⟩
    rw [List.getElem?_map] at hj
    cases hf : l[j]? with
    | none => rw [hf] at hj; cases hj
    | some x =>
      rw [hf] at hj
      simp only [Option.map_some, Option.some.injEq] at hj
      subst hj
      have hj' := (List.getElem?_eq_some_iff.1 hf).1
      obtain ⟨e0, e1, e2⟩ := dcells_at l j x hf
      have hc : ∀ q, q < l.length * 3 → w.cell? ⟨g, q, none⟩ = (dcells l)[q]? := fun q hq => by
        rw [cellRow w g q cur 100 (0, 0) hg, ← ht, List.getElem?_take, if_pos hq, Array.getElem?_toList]
      match i, hi with
      | 0, _ => simp [rowD] at hy; subst hy; rw [show 0 + j * 3 + 0 = j * 3 by omega, hc _ (by omega), e0]
      | 1, _ => simp [rowD] at hy; subst hy; rw [show 0 + j * 3 + 1 = j * 3 + 1 by omega, hc _ (by omega), e1]
      | 2, _ => simp [rowD] at hy; subst hy; rw [show 0 + j * 3 + 2 = j * 3 + 2 by omega, hc _ (by omega), e2]
theorem OwnD.app {w' : World} {base : Nat} {v' : Value} {l : List Dv} {x : Dv} {a b c : ByteArray} (ha : a.data.toList = x.1) (hb : b.data.toList = x.2.1) (hc : c.data.toList = x.2.2) (h : w'.ownsRow base 100 3 v' (l.length + 1) (dcells l ++ [.string a, .string b, .string c])) : OwnD w' base v' (l ++ [x]) := by
  have e : dcells (l ++ [x]) = dcells l ++ [.string a, .string b, .string c] := by simp [dcells, strOf ha, strOf hb, strOf hc]
  unfold OwnD
  rw [e, List.length_append]
  exact h
theorem OwnD.below {B : Nat} {w0 w w' : World} {o : Obj} {base : Nat} {v : Value} {l : List Dv} (h : Below B w0 w) (hown : OwnD w base v l) (hg : (w.alloc o).grownBy w' v.ownBlock) (hB : B ≤ base) (hBw : B ≤ w.heap.size) : Below B w0 w' :=
  (h.alloc hBw o).grown hg (by simp; omega) (fun k hk => by have := (World.ownsRow.lt hown k hk).1; omega)
end Go.Proofs.YtkcamfcjkjiijaaGreatDoor
namespace Go.Proofs.YtkcamfcjkjiijaaGreatDoor
open Go.RowKit Go.Shelf
attribute [local go_sem] Oper.semAt_some
end Go.Proofs.YtkcamfcjkjiijaaGreatDoor
namespace Go.Proofs.YtkcamfcjkjiijaaGreatDoor
open Go.RowKit
end Go.Proofs.YtkcamfcjkjiijaaGreatDoor
namespace Go.Proofs.YtkcamfcjkjiijaaGreatDoor
open Go.RowKit
end Go.Proofs.YtkcamfcjkjiijaaGreatDoor
namespace Go.Proofs.YtkcamfcjkjiijaaGreatDoor
open Go.RowKit
/-- The blocks from lo on, below hi, lie as they lay. -/
def MidKept (lo hi : Nat) (A B : World) : Prop := ∀ k, lo ≤ k → k < hi → B.heap[k]? = A.heap[k]?
theorem MidKept.refl (lo hi : Nat) (A : World) : MidKept lo hi A A := fun _ _ _ => rfl
theorem MidKept.trans {lo hi : Nat} {A B C : World} (h : MidKept lo hi A B) (g : MidKept lo hi B C) : MidKept lo hi A C := fun k a b => (g k a b).trans (h k a b)
theorem MidKept.cell {lo hi : Nat} {A B : World} (h : MidKept lo hi A B) {k i : Nat} (h1 : lo ≤ k) (h2 : k < hi) : B.cell? ⟨k, i, none⟩ = A.cell? ⟨k, i, none⟩ := World.cell?_of_block (h k h1 h2)
theorem MidKept.frozen {lo hi : Nat} {A B : World} (h : MidKept lo hi A B) {k i : Nat} (h1 : lo ≤ k) (h2 : k < hi) : B.frozen? ⟨k, i, none⟩ = A.frozen? ⟨k, i, none⟩ := World.frozen?_of_block (h k h1 h2)
variable {F : Fence} {n : Nat} {P : Program}
end Go.Proofs.YtkcamfcjkjiijaaGreatDoor
namespace Go.Proofs.YtkcamfcjkjiijaaGreatDoor
open Go.RowKit
def SmallI (l : List It) : Prop := ∀ x ∈ l, x.1.length ≤ 4000 ∧ x.2.1.length ≤ 4000
end Go.Proofs.YtkcamfcjkjiijaaGreatDoor
namespace Go.Proofs.YtkcamfcjkjiijaaGreatDoor
open Go.RowKit Go.Shelf
end Go.Proofs.YtkcamfcjkjiijaaGreatDoor
namespace Go.Proofs.YtkcamfcjkjiijaaGreatDoor
open Go.RowKit
end Go.Proofs.YtkcamfcjkjiijaaGreatDoor
namespace Go.Proofs.YtkcamfcjkjiijaaGreatDoor
open Go.RowKit
theorem OwnI.one (l : List It) : ∀ u ∈ (l.map cellsI).flatten, u.oneCell' = true := fun u hu => by
  obtain ⟨r, hr, hu⟩ := List.mem_flatten.1 hu
  obtain ⟨x, _, rfl⟩ := List.mem_map.1 hr
  simp at hu
  rcases hu with rfl | rfl | rfl <;> rfl
end Go.Proofs.YtkcamfcjkjiijaaGreatDoor
namespace Go.Proofs.YtkcamfcjkjiijaaGreatDoor
open Go.RowKit Go.Shelf
attribute [local go_sem] Oper.semAt_some
abbrev WordX := { x : ByteArray // x.size ≤ 100000 }
def wdOf (x : WordX) : Bs := x.1.data.toList
def AtW (s : Bs) (pre : List WordX) (R : ByteArray) : Prop := spl 32 s = pre.map wdOf ++ spl 32 R.data.toList
theorem AtW.start (s : ByteArray) : AtW s.data.toList [] s := rfl
theorem AtW.next {s : Bs} {pre : List WordX} {R : ByteArray} (h : AtW s pre R) {k : Nat} (hf : firstI 32 R.data.toList = k) (hk : k < R.size) (x : WordX) (hr : x.1 = R.extract 0 k) : AtW s (pre ++ [x]) (R.extract (k + 1) R.size) := by
  obtain ⟨h1, h2⟩ := first_not hf (by rw [← sizeOf]; exact hk)
  have e1 : (R.extract 0 k).data.toList = R.data.toList.take k := by rw [extL]; simp
  have e2 : (R.extract (k + 1) R.size).data.toList = R.data.toList.drop (k + 1) := by rw [extL, List.take_of_length_le (by rw [List.length_drop, ← sizeOf]; omega)]
  have e3 : spl 32 R.data.toList = R.data.toList.take k :: spl 32 (R.data.toList.drop (k + 1)) := by
    conv => lhs; rw [h2]
    exact spl_at 32 _ _ h1
  unfold AtW at *
  rw [h, e3, List.map_append, e2]
  simp [wdOf, hr]
theorem AtW.len {s : ByteArray} {pre : List WordX} {R : ByteArray} (h : AtW s.data.toList pre R) : pre.length < s.size + 1 := by
  have h1 := spl_len 32 s.data.toList
  unfold AtW at h
  rw [h, List.length_append, List.length_map] at h1
  have h2 := List.length_pos_iff.2 (spl_ne 32 R.data.toList)
  rw [sizeOf]; omega
/-- The iterator's three boxes. -/
structure Boxes (W : World) (B : Nat) (R : ByteArray) : Prop where
  s : Boxed W B 9 (.string R)
  sep : W.cell? ⟨B + 1, 0, none⟩ = some (.string ⟨#[32]⟩)
  save : W.cell? ⟨B + 2, 0, none⟩ = some (.int .i64 0)
theorem Boxes.mid {W W' : World} {B : Nat} {R : ByteArray} (h : Boxes W B R) (hk : MidKept B (B + 3) W W') : Boxes W' B R :=
  ⟨(hk B (Nat.le_refl _) (by omega)).trans h.s, (hk.cell (by omega) (by omega)).trans h.sep, (hk.cell (by omega) (by omega)).trans h.save⟩
theorem Boxes.drew {W : World} {B : Nat} {R : ByteArray} (h : Boxes W B R) (q : Nat) : Boxes (W.drewN q) B R := h.mid (fun _ _ _ => rfl)
theorem Boxes.set {W : World} {B : Nat} {R : ByteArray} (h : Boxes W B R) (R' : ByteArray) : Boxes (W.setCell ⟨B, 0, none⟩ (.string R')) B R' := by
  refine ⟨h.s.set _, ?_, ?_⟩
  · exact (World.cell?_of_block (Deep.blk_setCell_other W ⟨B, 0, none⟩ _ (B + 1) (by simp))).trans h.sep
  · exact (World.cell?_of_block (Deep.blk_setCell_other W ⟨B, 0, none⟩ _ (B + 2) (by simp))).trans h.save
theorem Boxes.new (W : World) (s : ByteArray) : Boxes (((W.alloc (.cells #[.string s] 9)).alloc (.cells #[.string ⟨#[32]⟩] 9)).alloc (.cells #[.int .i64 0] 3)) W.heap.size s :=
  by
  have h1 : Boxed ((W.alloc (.cells #[.string s] 9)).alloc (.cells #[.string ⟨#[32]⟩] 9)) (W.heap.size + 1) 9 (.string ⟨#[32]⟩) := by
    have := Boxed.new (W.alloc (.cells #[.string s] 9)) 9 (.string ⟨#[32]⟩)
    rwa [World.size_alloc] at this
  have h2 := Boxed.new ((W.alloc (.cells #[.string s] 9)).alloc (.cells #[.string ⟨#[32]⟩] 9)) 3 (.int .i64 0)
  rw [World.size_alloc, World.size_alloc] at h2
  exact ⟨((Boxed.new W _ _).alloc _).alloc _, (h1.alloc _).cell, h2.cell⟩
end Go.Proofs.YtkcamfcjkjiijaaGreatDoor
namespace Go.Proofs.YtkcamfcjkjiijaaGreatDoor
open Go.RowKit Go.Shelf
attribute [local go_sem] Oper.semAt_some
def keptW (ys : List WordX) : List WordX := ys.filter fun x => decide (x.1.size ≠ 0)
def txtW (x : WordX) : Value := .string x.1
/-- What holds between two rounds. -/
def InW (w : World) (pre : List WordX) (W : World) : Prop := (∃ v, Boxed W w.heap.size 33 v ∧ W.ownsRow (w.heap.size + 4) 9 1 v (keptW pre).length ((keptW pre).map txtW) ∧ True) ∧ Below w.heap.size w W ∧ w.heap.size + 4 ≤ W.heap.size
theorem InW.set {w : World} {pre : List WordX} {W : World} (h : InW w pre W) (u : Value) : InW w pre (W.setCell ⟨w.heap.size + 1, 0, none⟩ u) := by
  obtain ⟨⟨v, h1, h2, -⟩, h3, h4⟩ := h
  have g := grownBy_setCell' W (w.heap.size + 1) u
  refine ⟨⟨v, h1.kept g (by simp), h2.kept g ?_, trivial⟩, h3.setCell (by simp) _, by rw [Deep.nblk_setCell]; exact h4⟩
  cases e : v.ownBlock with
  | none => exact .inl rfl
  | some k =>
    have := (h2.lt k e).1
    refine .inr fun e2 => ?_
    simp only [Option.some.injEq] at e2
    omega
end Go.Proofs.YtkcamfcjkjiijaaGreatDoor
namespace Go.Proofs.YtkcamfcjkjiijaaGreatDoor
open Go.RowKit
theorem OwnT.set {w : World} {base : Nat} {v : Value} {l : List Bs} (h : OwnT w base v l) {b : Nat} (hb : v.ownBlock ≠ some b) (i : Nat) (u : Value) : OwnT (w.setCell ⟨b, i, none⟩ u) base v l :=
  World.ownsRow.kept h (row := some b) ⟨rfl, rfl, rfl, (KeepsWalks.setCell w ⟨b, i, none⟩ u).size, fun k _ hk => Below.heap_setCell _ _ _ k (fun e => hk (by rw [e]))⟩ (.inr hb)
theorem OwnT.below {w : World} {base : Nat} {v : Value} {l : List Bs} (h : OwnT w base v l) {b : Nat} (hb : b < base) : v.ownBlock ≠ some b := fun e => by
  have := (World.ownsRow.lt h b e).1
  omega
end Go.Proofs.YtkcamfcjkjiijaaGreatDoor
namespace Go.Proofs.YtkcamfcjkjiijaaGreatDoor
open Go.RowKit
end Go.Proofs.YtkcamfcjkjiijaaGreatDoor
