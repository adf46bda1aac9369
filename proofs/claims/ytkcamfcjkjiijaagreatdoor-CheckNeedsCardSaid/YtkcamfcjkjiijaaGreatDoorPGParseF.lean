/-
  The program's Parse of a list of paths, and the reference's: what each returns; nothing old turns. Condition of the program's: LaidP.
-/
import Derived.Test.YtkcamfcjkjiijaaGreatDoorPVRefB
import Derived.Test.YtkcamfcjkjiijaaGreatDoorPQGroup2
import Derived.Test.YtkcamfcjkjiijaaGreatDoorPVPEpoch
import Derived.Test.YtkcamfcjkjiijaaGreatDoorPVPParse
import Derived.Test.YtkcamfcjkjiijaaGreatDoorPShelf
import Derived.Test.YtkcamfcjkjiijaaGreatDoorPDPrint
import Derived.Laws.OwnMore
import Derived.RangeFuncBox
import Derived.RangeFuncNested
import Derived.RangeFuncBound
import Derived.RangeFuncCalls
import Derived.RangeFuncLeaves
import Derived.Shelf.Abstract
import Derived.Shelf.RegionOpen
import Derived.OwnWalkIn
import Derived.TacticsInMore
import Derived.LoopNIn
import Derived.LoopIn
import Derived.Maps.AppendAt
import Derived.BigRegion
import Derived.Test.YtkcamfcjkjiijaaGreatDoorPQOnes
import Derived.Test.YtkcamfcjkjiijaaGreatDoorPZHold
import Derived.Deep.Heap
import Derived.Sort.LoopGhostIn
import Derived.Stop.RegionWithIn
namespace Go.Proofs.YtkcamfcjkjiijaaGreatDoor
open Go.RowKit
-- The first place of a byte, and the last one
end Go.Proofs.YtkcamfcjkjiijaaGreatDoor
namespace Go.Proofs.YtkcamfcjkjiijaaGreatDoor
open Go.RowKit
-- strings.Cut at one byte
end Go.Proofs.YtkcamfcjkjiijaaGreatDoor
namespace Go.Proofs.YtkcamfcjkjiijaaGreatDoor
open Go.RowKit
abbrev dcells (l : List Dv) : List Value := l.flatMap fun x => [.string (bsA x.1), .string (bsA x.2.1), .string (bsA x.2.2)]
theorem dcells_at : ∀ (l : List Dv) (t : Nat) (x : Dv), l[t]? = some x → (dcells l)[t * 3]? = some (.string (bsA x.1)) ∧ (dcells l)[t * 3 + 1]? = some (.string (bsA x.2.1)) ∧ (dcells l)[t * 3 + 2]? = some (.string (bsA x.2.2))
  | [], t, x, h => by simp at h
  | g :: l, 0, x, h => by simp at h; subst h; simp [dcells]
  | g :: l, t + 1, x, h => by
    have := dcells_at l t x (by simpa using h)
    have e : (t + 1) * 3 = t * 3 + 1 + 1 + 1 := by omega
    have e1 : (t + 1) * 3 + 1 = t * 3 + 1 + 1 + 1 + 1 := by omega
    have e2 : (t + 1) * 3 + 2 = t * 3 + 2 + 1 + 1 + 1 := by omega
    simp only [dcells, List.flatMap_cons, List.cons_append, List.nil_append]
    rw [e2, e1, e]
    simp only [List.getElem?_cons_succ]
    exact this
/-- The slice value v owns the diversions l, in a block from base on. -/
def OwnD (w : World) (base : Nat) (v : Value) (l : List Dv) : Prop := w.ownsRow base 100 3 v l.length (dcells l)
theorem OwnD.nil (w : World) (base : Nat) : OwnD w base (.slice none 0 0) [] := World.ownsRow_nil _ _ _ _
theorem OwnD.holds {w : World} {base : Nat} {v : Value} {l : List Dv} (h : OwnD w base v l) : HoldD w v l := by
  rcases h.2 with ⟨rfl, h0⟩ | ⟨g, cap, cur, rfl, hb, hg, hn, hm, hs, ht⟩
  · have : l = [] := List.eq_nil_of_length_eq_zero h0
    subst this
    exact ⟨none, 0, 0, 0, rfl, Nat.le_refl _, fun h => absurd h (by simp), fun j l hj => by simp at hj⟩
  · refine ⟨some ⟨g, 0, none⟩, cap, g, 0, by rw [List.length_map], by rw [List.length_map]; exact hn, fun _ => ⟨rfl, (Array.getElem?_eq_some_iff.1 hg).1⟩, fun j r hj i y hi hy => ?_⟩
    rw [List.getElem?_map] at hj
    cases hf : l[j]? with
    | none => rw [hf] at hj; cases hj
    | some x =>
      rw [hf] at hj
      simp only [Option.map_some, Option.some.injEq] at hj
      subst hj
      have hj' := (List.getElem?_eq_some_iff.1 hf).1
      obtain ⟨e0, e1, e2⟩ := dcells_at l j x hf
      have hc : ∀ q, q < l.length * 3 → w.cell? ⟨g, q, none⟩ = (dcells l)[q]? := fun q hq => by
        rw [cellRow w g q cur 100 (0, 0) hg, ← ht, List.getElem?_take, if_pos hq, Array.getElem?_toList]
      match i, hi with
      | 0, _ => simp [rowD] at hy; subst hy; rw [show 0 + j * 3 + 0 = j * 3 by omega, hc _ (by omega), e0]
      | 1, _ => simp [rowD] at hy; subst hy; rw [show 0 + j * 3 + 1 = j * 3 + 1 by omega, hc _ (by omega), e1]
      | 2, _ => simp [rowD] at hy; subst hy; rw [show 0 + j * 3 + 2 = j * 3 + 2 by omega, hc _ (by omega), e2]
theorem OwnD.app {w' : World} {base : Nat} {v' : Value} {l : List Dv} {x : Dv} {a b c : ByteArray} (ha : a.data.toList = x.1) (hb : b.data.toList = x.2.1) (hc : c.data.toList = x.2.2) (h : w'.ownsRow base 100 3 v' (l.length + 1) (dcells l ++ [.string a, .string b, .string c])) : OwnD w' base v' (l ++ [x]) := by
  have e : dcells (l ++ [x]) = dcells l ++ [.string a, .string b, .string c] := by simp [dcells, strOf ha, strOf hb, strOf hc]
  unfold OwnD
  rw [e, List.length_append]
  exact h
theorem OwnD.below {B : Nat} {w0 w w' : World} {o : Obj} {base : Nat} {v : Value} {l : List Dv} (h : Below B w0 w) (hown : OwnD w base v l) (hg : (w.alloc o).grownBy w' v.ownBlock) (hB : B ≤ base) (hBw : B ≤ w.heap.size) : Below B w0 w' :=
  (h.alloc hBw o).grown hg (by simp; omega) (fun k hk => by have := (World.ownsRow.lt hown k hk).1; omega)
end Go.Proofs.YtkcamfcjkjiijaaGreatDoor
namespace Go.Proofs.YtkcamfcjkjiijaaGreatDoor
open Go.RowKit Go.Shelf
attribute [local go_sem] Oper.semAt_some
/-- A line and its number, as a round is handed them. -/
abbrev LineX := { x : Nat × ByteArray // x.1 ≤ 100000 ∧ x.2.size ≤ 100000 }
def lnOf (x : LineX) : Bs := x.1.2.data.toList
/-- All lines have come, in their order. -/
def AllLn (s : Bs) (ys : List LineX) : Prop := ys.map lnOf = spl 10 s ∧ ∀ (j : Nat) x, ys[j]? = some x → x.1.1 = j
/-- A part has come. -/
def SomeLn (s : Bs) (ys : List LineX) : Prop := ys.map lnOf <+: spl 10 s ∧ ∀ (j : Nat) x, ys[j]? = some x → x.1.1 = j
theorem number_snoc {pre : List LineX} {x : LineX} (h : ∀ (j : Nat) y, pre[j]? = some y → y.1.1 = j) (hx : x.1.1 = pre.length) : ∀ (j : Nat) y, (pre ++ [x])[j]? = some y → y.1.1 = j := by
  intro j y hj
  by_cases hl : j < pre.length
  · rw [List.getElem?_append_left hl] at hj; exact h j y hj
  · rw [List.getElem?_append_right (by omega)] at hj
    have : j - pre.length = 0 := by
      have := (List.getElem?_eq_some_iff.1 hj).1
      simp at this; omega
    rw [this] at hj
    cases hj
    rw [hx]; omega
/-- Where the loop stands. -/
def AtLn (s : Bs) (pre : List LineX) (R : ByteArray) (more : Bool) : Prop :=
  (∀ (j : Nat) y, pre[j]? = some y → y.1.1 = j) ∧ (more = true → spl 10 s = pre.map lnOf ++ spl 10 R.data.toList) ∧ (more = false → spl 10 s = pre.map lnOf)
theorem AtLn.start (s : ByteArray) : AtLn s.data.toList [] s true := ⟨fun j y h => by simp at h, fun _ => rfl, fun h => by cases h⟩
theorem first_not {l : Bs} {c : UInt8} {k : Nat} (h : firstI c l = k) (hk : k < l.length) : c ∉ l.take k ∧ l = l.take k ++ c :: l.drop (k + 1) := by
  have hm : c ∈ l := Decidable.of_not_not fun g => by rw [firstI_no g] at h; omega
  unfold firstI at h
  rw [if_pos hm] at h
  have hk' : (l.takeWhile fun x => decide (x ≠ c)).length = k := by omega
  have e : l.take k = l.takeWhile fun x => decide (x ≠ c) := by
    rw [← hk']; exact (List.prefix_iff_eq_take.1 (List.takeWhile_prefix _)).symm
  constructor
  · rw [e]
    intro g
    have := List.all_eq_true.1 (List.all_takeWhile (p := fun x => decide (x ≠ c)) (l := l)) c g
    simp at this
  · have hc : l[k] = c := by
      have h2 : ∀ (l : Bs) (h : (l.takeWhile fun x => decide (x ≠ c)).length < l.length), l[(l.takeWhile fun x => decide (x ≠ c)).length] = c := by
        intro l
        induction l with
        | nil => intro h; simp at h
        | cons y l ih =>
          intro h
          by_cases hy : y = c
          · subst hy; simp
          · simp only [List.takeWhile_cons, hy, ne_eq, not_false_eq_true, decide_true, if_true, List.length_cons, List.getElem_cons_succ] at h ⊢
            exact ih (Nat.lt_of_succ_lt_succ h)
      have := h2 l (by rw [hk']; exact hk)
      simp only [hk'] at this
      exact this
    rw [← hc, ← List.drop_eq_getElem_cons hk, List.take_append_drop]
theorem AtLn.next {s : Bs} {pre : List LineX} {R : ByteArray} (h : AtLn s pre R true) {k : Nat} (hf : firstI 10 R.data.toList = k) (hk : k < R.size) (x : LineX) (hx : x.1.1 = pre.length) (hr : x.1.2 = R.extract 0 k) : AtLn s (pre ++ [x]) (R.extract (k + 1) R.size) true := by
  obtain ⟨h1, h2⟩ := first_not hf (by rw [← sizeOf]; exact hk)
  refine ⟨number_snoc h.1 hx, fun _ => ?_, fun g => by cases g⟩
  have e1 : (R.extract 0 k).data.toList = R.data.toList.take k := by rw [extL]; simp
  have e2 : (R.extract (k + 1) R.size).data.toList = R.data.toList.drop (k + 1) := by rw [extL, List.take_of_length_le (by rw [List.length_drop, ← sizeOf]; omega)]
  have e3 : spl 10 R.data.toList = R.data.toList.take k :: spl 10 (R.data.toList.drop (k + 1)) := by
    conv => lhs; rw [h2]
    exact spl_at 10 _ _ h1
  rw [h.2.1 rfl, e3, List.map_append, e2]
  simp [lnOf, hr]
theorem AtLn.len {s : ByteArray} {pre : List LineX} {R : ByteArray} (h : AtLn s.data.toList pre R true) : pre.length < s.size + 1 := by
  have h1 := spl_len 10 s.data.toList
  rw [h.2.1 rfl, List.length_append, List.length_map] at h1
  have h2 := List.length_pos_iff.2 (spl_ne 10 R.data.toList)
  rw [sizeOf]; omega
theorem AtLn.all {s : Bs} {pre : List LineX} {R : ByteArray} (h : AtLn s pre R false) : AllLn s pre := ⟨(h.2.2 rfl).symm, h.1⟩
theorem AtLn.some {s : Bs} {pre : List LineX} {R : ByteArray} {m : Bool} (h : AtLn s pre R m) : SomeLn s pre := by
  refine ⟨?_, h.1⟩
  cases m
  · rw [h.2.2 rfl]; exact List.prefix_rfl
  · rw [h.2.1 rfl]; exact List.prefix_append _ _
end Go.Proofs.YtkcamfcjkjiijaaGreatDoor
namespace Go.Proofs.YtkcamfcjkjiijaaGreatDoor
open Go.RowKit Go.Shelf
attribute [local go_sem] Oper.semAt_some
end Go.Proofs.YtkcamfcjkjiijaaGreatDoor
namespace Go.Proofs.YtkcamfcjkjiijaaGreatDoor
open Go.RowKit
end Go.Proofs.YtkcamfcjkjiijaaGreatDoor
namespace Go.Proofs.YtkcamfcjkjiijaaGreatDoor
open Go.RowKit
end Go.Proofs.YtkcamfcjkjiijaaGreatDoor
namespace Go.Proofs.YtkcamfcjkjiijaaGreatDoor
open Go.RowKit
theorem OwnT.on {w w' : World} {base : Nat} {v : Value} {l : List Bs} (h : OwnT w base v l) (hb : Below w.heap.size w w') : OwnT w' base v l := World.ownsRow.kept h (grownV hb) (by cases v.ownBlock <;> simp)
/-- The slice value v owns the fired triggers M; who waits lies in rows of texts. -/
def OwnG (w : World) (base : Nat) (v : Value) (M : List Fr) : Prop := ∃ L : List Fp, L.map (·.1) = M ∧ (∀ p ∈ L, OwnT w 0 p.2 p.1.2) ∧ OwnF w base v L
theorem OwnG.nil (w : World) (base : Nat) : OwnG w base (.slice none 0 0) [] := ⟨[], rfl, fun p hp => by simp at hp, OwnV.nil _ _ _ _⟩
theorem OwnG.on {w w' : World} {base : Nat} {v : Value} {M : List Fr} (h : OwnG w base v M) (hb : Below w.heap.size w w') : OwnG w' base v M := by
  obtain ⟨L, h1, h2, h3⟩ := h
  exact ⟨L, h1, fun p hp => (h2 p hp).on hb, h3.on hb⟩
theorem OwnG.holds {w : World} {base : Nat} {v : Value} {M : List Fr} (h : OwnG w base v M) : ∃ L : List Fp, L.map (·.1) = M ∧ HoldF w v L := by
  obtain ⟨L, h1, h2, h3⟩ := h
  exact ⟨L, h1, fun p hp => (h2 p hp).holds, h3.holds⟩
theorem OwnG.app {w w' : World} {o : Obj} {base : Nat} {v v' : Value} {L : List Fp} {x : Fr} {u : Value} {a : ByteArray} (h2 : ∀ p ∈ L, OwnT w 0 p.2 p.1.2) (h3 : OwnF w base v L) (hu : OwnT w 0 u x.2) (ha : a.data.toList = x.1)
    (hown : w'.ownsRow base 267 2 v' (L.length + 1) ((L.map cellsF).flatten ++ [.string a, u])) (hg : (w.alloc o).grownBy w' v.ownBlock) : OwnG w' base v' (L.map (·.1) ++ [x]) := by
  have hk : ∀ {u : Value} {l : List Bs}, OwnT w 0 u l → OwnT w' 0 u l := fun hu => World.ownsRow.kept (World.ownsRow.alloc hu o) hg (kinds_apart hu h3.2 (by decide))
  refine ⟨L ++ [(x, u)], by rw [List.map_append]; rfl, fun p hp => ?_, OwnF.app (p := (x, u)) ha hown⟩
  rcases List.mem_append.1 hp with hp | hp
  · exact hk (h2 p hp)
  · simp at hp; subst hp; exact hk hu
end Go.Proofs.YtkcamfcjkjiijaaGreatDoor
namespace Go.Proofs.YtkcamfcjkjiijaaGreatDoor
open Go.RowKit
/-- The blocks from lo on, below hi, lie as they lay. -/
def MidKept (lo hi : Nat) (A B : World) : Prop := ∀ k, lo ≤ k → k < hi → B.heap[k]? = A.heap[k]?
theorem MidKept.refl (lo hi : Nat) (A : World) : MidKept lo hi A A := fun _ _ _ => rfl
theorem MidKept.trans {lo hi : Nat} {A B C : World} (h : MidKept lo hi A B) (g : MidKept lo hi B C) : MidKept lo hi A C := fun k a b => (g k a b).trans (h k a b)
theorem MidKept.cell {lo hi : Nat} {A B : World} (h : MidKept lo hi A B) {k i : Nat} (h1 : lo ≤ k) (h2 : k < hi) : B.cell? ⟨k, i, none⟩ = A.cell? ⟨k, i, none⟩ := World.cell?_of_block (h k h1 h2)
theorem MidKept.frozen {lo hi : Nat} {A B : World} (h : MidKept lo hi A B) {k i : Nat} (h1 : lo ≤ k) (h2 : k < hi) : B.frozen? ⟨k, i, none⟩ = A.frozen? ⟨k, i, none⟩ := World.frozen?_of_block (h k h1 h2)
variable {F : Fence} {n : Nat} {P : Program}
end Go.Proofs.YtkcamfcjkjiijaaGreatDoor
namespace Go.Proofs.YtkcamfcjkjiijaaGreatDoor
open Go.RowKit
end Go.Proofs.YtkcamfcjkjiijaaGreatDoor
namespace Go.Proofs.YtkcamfcjkjiijaaGreatDoor
open Go.RowKit Go.Shelf
end Go.Proofs.YtkcamfcjkjiijaaGreatDoor
namespace Go.Proofs.YtkcamfcjkjiijaaGreatDoor
open Go.RowKit
end Go.Proofs.YtkcamfcjkjiijaaGreatDoor
namespace Go.Proofs.YtkcamfcjkjiijaaGreatDoor
open Go.RowKit
end Go.Proofs.YtkcamfcjkjiijaaGreatDoor
namespace Go.Proofs.YtkcamfcjkjiijaaGreatDoor
open Go.RowKit Go.Shelf
attribute [local go_sem] Oper.semAt_some
abbrev WordX := { x : ByteArray // x.size ≤ 100000 }
def wdOf (x : WordX) : Bs := x.1.data.toList
def AtW (s : Bs) (pre : List WordX) (R : ByteArray) : Prop := spl 32 s = pre.map wdOf ++ spl 32 R.data.toList
theorem AtW.start (s : ByteArray) : AtW s.data.toList [] s := rfl
theorem AtW.next {s : Bs} {pre : List WordX} {R : ByteArray} (h : AtW s pre R) {k : Nat} (hf : firstI 32 R.data.toList = k) (hk : k < R.size) (x : WordX) (hr : x.1 = R.extract 0 k) : AtW s (pre ++ [x]) (R.extract (k + 1) R.size) := by
  obtain ⟨h1, h2⟩ := first_not hf (by rw [← sizeOf]; exact hk)
  have e1 : (R.extract 0 k).data.toList = R.data.toList.take k := by rw [extL]; simp
  have e2 : (R.extract (k + 1) R.size).data.toList = R.data.toList.drop (k + 1) := by rw [extL, List.take_of_length_le (by rw [List.length_drop, ← sizeOf]; omega)]
  have e3 : spl 32 R.data.toList = R.data.toList.take k :: spl 32 (R.data.toList.drop (k + 1)) := by
    conv => lhs; rw [h2]
    exact spl_at 32 _ _ h1
  unfold AtW at *
  rw [h, e3, List.map_append, e2]
  simp [wdOf, hr]
theorem AtW.len {s : ByteArray} {pre : List WordX} {R : ByteArray} (h : AtW s.data.toList pre R) : pre.length < s.size + 1 := by
  have h1 := spl_len 32 s.data.toList
  unfold AtW at h
  rw [h, List.length_append, List.length_map] at h1
  have h2 := List.length_pos_iff.2 (spl_ne 32 R.data.toList)
  rw [sizeOf]; omega
/-- The iterator's three boxes. -/
structure Boxes (W : World) (B : Nat) (R : ByteArray) : Prop where
  s : Boxed W B 9 (.string R)
  sep : W.cell? ⟨B + 1, 0, none⟩ = some (.string ⟨#[32]⟩)
  save : W.cell? ⟨B + 2, 0, none⟩ = some (.int .i64 0)
theorem Boxes.mid {W W' : World} {B : Nat} {R : ByteArray} (h : Boxes W B R) (hk : MidKept B (B + 3) W W') : Boxes W' B R :=
  ⟨(hk B (Nat.le_refl _) (by omega)).trans h.s, (hk.cell (by omega) (by omega)).trans h.sep, (hk.cell (by omega) (by omega)).trans h.save⟩
theorem Boxes.drew {W : World} {B : Nat} {R : ByteArray} (h : Boxes W B R) (q : Nat) : Boxes (W.drewN q) B R := h.mid (fun _ _ _ => rfl)
theorem Boxes.new (W : World) (s : ByteArray) : Boxes (((W.alloc (.cells #[.string s] 9)).alloc (.cells #[.string ⟨#[32]⟩] 9)).alloc (.cells #[.int .i64 0] 3)) W.heap.size s :=
  by
  have h1 : Boxed ((W.alloc (.cells #[.string s] 9)).alloc (.cells #[.string ⟨#[32]⟩] 9)) (W.heap.size + 1) 9 (.string ⟨#[32]⟩) := by
    have := Boxed.new (W.alloc (.cells #[.string s] 9)) 9 (.string ⟨#[32]⟩)
    rwa [World.size_alloc] at this
  have h2 := Boxed.new ((W.alloc (.cells #[.string s] 9)).alloc (.cells #[.string ⟨#[32]⟩] 9)) 3 (.int .i64 0)
  rw [World.size_alloc, World.size_alloc] at h2
  exact ⟨((Boxed.new W _ _).alloc _).alloc _, (h1.alloc _).cell, h2.cell⟩
end Go.Proofs.YtkcamfcjkjiijaaGreatDoor
namespace Go.Proofs.YtkcamfcjkjiijaaGreatDoor
open Go.RowKit Go.Shelf
attribute [local go_sem] Oper.semAt_some
end Go.Proofs.YtkcamfcjkjiijaaGreatDoor
namespace Go.Proofs.YtkcamfcjkjiijaaGreatDoor
open Go.RowKit
theorem OwnT.below {w : World} {base : Nat} {v : Value} {l : List Bs} (h : OwnT w base v l) {b : Nat} (hb : b < base) : v.ownBlock ≠ some b := fun e => by
  have := (World.ownsRow.lt h b e).1
  omega
end Go.Proofs.YtkcamfcjkjiijaaGreatDoor
namespace Go.Proofs.YtkcamfcjkjiijaaGreatDoor
open Go.RowKit
end Go.Proofs.YtkcamfcjkjiijaaGreatDoor
namespace Go.Proofs.YtkcamfcjkjiijaaGreatDoor
open Go.RowKit
end Go.Proofs.YtkcamfcjkjiijaaGreatDoor
namespace Go.Proofs.YtkcamfcjkjiijaaGreatDoor
open Go.RowKit
end Go.Proofs.YtkcamfcjkjiijaaGreatDoor
