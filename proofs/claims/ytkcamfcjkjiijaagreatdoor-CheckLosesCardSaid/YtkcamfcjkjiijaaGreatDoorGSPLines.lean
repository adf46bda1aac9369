/-
  The reference's Lines and Words, and (of layer 2) Same: what each returns; nothing old turns.
-/
import Derived.Test.YtkcamfcjkjiijaaGreatDoorGVMath
import Derived.Test.YtkcamfcjkjiijaaGreatDoorGLList
import Derived.Deep.RegionHeld3
import Derived.Test.YtkcamfcjkjiijaaGreatDoorGVOrder
import Derived.Test.YtkcamfcjkjiijaaGreatDoorGVPEpoch
import Derived.Test.YtkcamfcjkjiijaaGreatDoorGVPParse
import Derived.Test.YtkcamfcjkjiijaaGreatDoorGShelf
import Derived.RangeFuncBox
import Derived.RangeFuncNested
import Derived.RangeFuncBound
import Derived.RangeFuncCalls
import Derived.RangeFuncLeaves
import Derived.Shelf.Abstract
import Derived.Shelf.RegionOpen
import Derived.OwnWalkIn
import Derived.TacticsInMore
import Derived.LoopNIn
import Derived.LoopIn
namespace Go.Proofs.YtkcamfcjkjiijaaGreatDoor
open Go.Lib

-- Cut at a byte
def spl (c : UInt8) : Bs → List Bs
  | [] => [[]]
  | x :: s => if x = c then [] :: spl c s else match spl c s with
    | [] => [[x]]
    | p :: ps => (x :: p) :: ps
/-- What goes ahead of the first piece. -/
def glue (u : Bs) : List Bs → List Bs
  | [] => [u]
  | p :: ps => (u ++ p) :: ps
theorem spl_ne (c : UInt8) (s : Bs) : spl c s ≠ [] := by
  cases s with
  | nil => simp [spl]
  | cons x s =>
    unfold spl; split
    · simp
    · split <;> simp
theorem spl_cons (c x : UInt8) (s : Bs) : spl c (x :: s) = if x = c then [] :: spl c s else glue [x] (spl c s) := by
  rw [spl]; split
  · rfl
  · cases spl c s <;> rfl
theorem glue_glue (u v : Bs) (l : List Bs) : glue u (glue v l) = glue (u ++ v) l := by cases l <;> simp [glue]
theorem glue_nil {l : List Bs} (h : l ≠ []) : glue [] l = l := by cases l <;> simp_all [glue]
theorem spl_run (c : UInt8) (u s : Bs) (h : c ∉ u) : spl c (u ++ s) = glue u (spl c s) := by
  induction u with
  | nil => rw [List.nil_append, glue_nil (spl_ne _ _)]
  | cons x u ih =>
    simp only [List.mem_cons, not_or] at h
    rw [List.cons_append, spl_cons, if_neg (fun e => h.1 e.symm), ih h.2, glue_glue]; rfl
theorem spl_at (c : UInt8) (u s : Bs) (h : c ∉ u) : spl c (u ++ c :: s) = u :: spl c s := by
  rw [spl_run c u _ h, spl_cons, if_pos rfl]; simp [glue]
theorem spl_step (c : UInt8) (s : ByteArray) (k : Nat) (h : k < s.size) : spl c (s.data.toList.drop k) = if s[k] = c then [] :: spl c (s.data.toList.drop (k + 1)) else glue [s[k]] (spl c (s.data.toList.drop (k + 1))) := by
  have hl : k < s.data.toList.length := by rw [← Lib.size_eq]; exact h
  rw [List.drop_eq_getElem_cons hl, spl_cons]; rfl
theorem spl_len (c : UInt8) (s : Bs) : (spl c s).length ≤ s.length + 1 := by
  induction s with
  | nil => simp [spl]
  | cons x s ih =>
    rw [spl_cons]; split
    · simp; omega
    · have e : (glue [x] (spl c s)).length = (spl c s).length := by
        have := spl_ne c s
        cases h : spl c s with
        | nil => exact absurd h this
        | cons _ _ => simp [glue]
      rw [e]; simp; omega
-- Lines
-- Fields
abbrev Fld := Bs × Bs
def upB (c : UInt8) : Bool := decide (65 ≤ c.toNat) && decide (c.toNat ≤ 90)
def nmB (c : UInt8) : Bool := ltB c || dgB c || decide (c.toNat = 45)
def txB (c : UInt8) : Bool := decide (c.toNat = 10) || decide (32 ≤ c.toNat) && decide (c.toNat ≤ 126)
def headUp : Bs → Bool
  | [] => false
  | c :: _ => upB c
/-- A line that may be, but for the first one's head. -/
def endB (p : Bs) : Bool := !decide (p.getLast? = some 32)
def linesB : List Bs → Bool
  | [] => true
  | p :: ps => !decide (p.head? = some 32) && endB p && ps.all fun q => endB q && decide (q ≠ [])
-- Printed
-- Parsed
-- What is printed is parsed as it was
structure FldOk (f : Fld) : Prop where
  ne : f.1 ≠ []
  up : headUp f.1 = true
  nm : f.1.all nmB = true
  tx : f.2.all txB = true
  ls : linesB (spl 10 f.2) = true
end Go.Proofs.YtkcamfcjkjiijaaGreatDoor
namespace Go.Proofs.YtkcamfcjkjiijaaGreatDoor
open Go.RowKit
def SplTo (c : UInt8) (s : Bs) (k : Nat) (out : List Bs) (u : Bs) : Prop := spl c s = out ++ glue u (spl c (s.drop k))
theorem SplTo.start (c : UInt8) (s : Bs) : SplTo c s 0 [] [] := by unfold SplTo; rw [List.drop_zero, glue_nil (spl_ne _ _)]; rfl
theorem SplTo.cut {c : UInt8} {s : ByteArray} {k : Nat} {out : List Bs} {u : Bs} (h : SplTo c s.data.toList k out u) (hk : k < s.size) (e : s[k] = c) : SplTo c s.data.toList (k + 1) (out ++ [u]) [] := by
  unfold SplTo at *
  rw [h, spl_step c s k hk, if_pos e, glue_nil (spl_ne _ _)]
  simp [glue]
theorem SplTo.done {c : UInt8} {s : ByteArray} {out : List Bs} {u : Bs} (h : SplTo c s.data.toList s.size out u) : spl c s.data.toList = out ++ [u] := by
  unfold SplTo at h
  rw [h, dropAll]; simp [spl, glue]
end Go.Proofs.YtkcamfcjkjiijaaGreatDoor
namespace Go.Proofs.YtkcamfcjkjiijaaGreatDoor
open Go.RowKit
-- The first place of a byte, and the last one
end Go.Proofs.YtkcamfcjkjiijaaGreatDoor
namespace Go.Proofs.YtkcamfcjkjiijaaGreatDoor
open Go.RowKit
-- strings.Cut at one byte
end Go.Proofs.YtkcamfcjkjiijaaGreatDoor
namespace Go.Proofs.YtkcamfcjkjiijaaGreatDoor
open Go.RowKit Go.Shelf
attribute [local go_sem] Oper.semAt_some
/-- A line and its number, as a round is handed them. -/
abbrev LineX := { x : Nat × ByteArray // x.1 ≤ 100000 ∧ x.2.size ≤ 100000 }
def lnOf (x : LineX) : Bs := x.1.2.data.toList
/-- All lines have come, in their order. -/
def AllLn (s : Bs) (ys : List LineX) : Prop := ys.map lnOf = spl 10 s ∧ ∀ (j : Nat) x, ys[j]? = some x → x.1.1 = j
/-- A part has come. -/
def SomeLn (s : Bs) (ys : List LineX) : Prop := ys.map lnOf <+: spl 10 s ∧ ∀ (j : Nat) x, ys[j]? = some x → x.1.1 = j
theorem number_snoc {pre : List LineX} {x : LineX} (h : ∀ (j : Nat) y, pre[j]? = some y → y.1.1 = j) (hx : x.1.1 = pre.length) : ∀ (j : Nat) y, (pre ++ [x])[j]? = some y → y.1.1 = j := by
  intro j y hj
  by_cases hl : j < pre.length
  · rw [List.getElem?_append_left hl] at hj; exact h j y hj
  · rw [List.getElem?_append_right (by omega)] at hj
    have : j - pre.length = 0 := by
      have := (List.getElem?_eq_some_iff.1 hj).1
      simp at this; omega
    rw [this] at hj
    cases hj
    rw [hx]; omega
/-- Where the loop stands. -/
def AtLn (s : Bs) (pre : List LineX) (R : ByteArray) (more : Bool) : Prop :=
  (∀ (j : Nat) y, pre[j]? = some y → y.1.1 = j) ∧ (more = true → spl 10 s = pre.map lnOf ++ spl 10 R.data.toList) ∧ (more = false → spl 10 s = pre.map lnOf)
theorem AtLn.start (s : ByteArray) : AtLn s.data.toList [] s true := ⟨fun j y h => by simp at h, fun _ => rfl, fun h => by cases h⟩
theorem first_not {l : Bs} {c : UInt8} {k : Nat} (h : firstI c l = k) (hk : k < l.length) : c ∉ l.take k ∧ l = l.take k ++ c :: l.drop (k + 1) := by
  have hm : c ∈ l := Decidable.of_not_not fun g => by rw [firstI_no g] at h; omega
  unfold firstI at h
  rw [if_pos hm] at h
  have hk' : (l.takeWhile fun x => decide (x ≠ c)).length = k := by omega
  have e : l.take k = l.takeWhile fun x => decide (x ≠ c) := by
    rw [← hk']; exact (List.prefix_iff_eq_take.1 (List.takeWhile_prefix _)).symm
  constructor
  · rw [e]
    intro g
    have := List.all_eq_true.1 (List.all_takeWhile (p := fun x => decide (x ≠ c)) (l := l)) c g
    simp at this
  · have hc : l[k] = c := by
      have h2 : ∀ (l : Bs) (h : (l.takeWhile fun x => decide (x ≠ c)).length < l.length), l[(l.takeWhile fun x => decide (x ≠ c)).length] = c := by
        intro l
        induction l with
        | nil => intro h; simp at h
        | cons y l ih =>
          intro h
          by_cases hy : y = c
          · subst hy; simp
          · simp only [List.takeWhile_cons, hy, ne_eq, not_false_eq_true, decide_true, if_true, List.length_cons, List.getElem_cons_succ] at h ⊢
            exact ih (Nat.lt_of_succ_lt_succ h)
      have := h2 l (by rw [hk']; exact hk)
      simp only [hk'] at this
      exact this
    rw [← hc, ← List.drop_eq_getElem_cons hk, List.take_append_drop]
theorem AtLn.next {s : Bs} {pre : List LineX} {R : ByteArray} (h : AtLn s pre R true) {k : Nat} (hf : firstI 10 R.data.toList = k) (hk : k < R.size) (x : LineX) (hx : x.1.1 = pre.length) (hr : x.1.2 = R.extract 0 k) : AtLn s (pre ++ [x]) (R.extract (k + 1) R.size) true := by
  obtain ⟨h1, h2⟩ := first_not hf (by rw [← sizeOf]; exact hk)
  refine ⟨number_snoc h.1 hx, fun _ => ?_, fun g => by cases g⟩
  have e1 : (R.extract 0 k).data.toList = R.data.toList.take k := by rw [extL]; simp
  have e2 : (R.extract (k + 1) R.size).data.toList = R.data.toList.drop (k + 1) := by rw [extL, List.take_of_length_le (by rw [List.length_drop, ← sizeOf]; omega)]
  have e3 : spl 10 R.data.toList = R.data.toList.take k :: spl 10 (R.data.toList.drop (k + 1)) := by
    conv => lhs; rw [h2]
    exact spl_at 10 _ _ h1
  rw [h.2.1 rfl, e3, List.map_append, e2]
  simp [lnOf, hr]
theorem AtLn.len {s : ByteArray} {pre : List LineX} {R : ByteArray} (h : AtLn s.data.toList pre R true) : pre.length < s.size + 1 := by
  have h1 := spl_len 10 s.data.toList
  rw [h.2.1 rfl, List.length_append, List.length_map] at h1
  have h2 := List.length_pos_iff.2 (spl_ne 10 R.data.toList)
  rw [sizeOf]; omega
theorem AtLn.all {s : Bs} {pre : List LineX} {R : ByteArray} (h : AtLn s pre R false) : AllLn s pre := ⟨(h.2.2 rfl).symm, h.1⟩
theorem AtLn.some {s : Bs} {pre : List LineX} {R : ByteArray} {m : Bool} (h : AtLn s pre R m) : SomeLn s pre := by
  refine ⟨?_, h.1⟩
  cases m
  · rw [h.2.2 rfl]; exact List.prefix_rfl
  · rw [h.2.1 rfl]; exact List.prefix_append _ _
end Go.Proofs.YtkcamfcjkjiijaaGreatDoor
namespace Go.Proofs.YtkcamfcjkjiijaaGreatDoor
open Go.RowKit
theorem HoldT.cut {w : World} {a : Option Addr} {c n : Nat} {ls : List Bs} (h : HoldT w (.slice a n c) ls) (k : Nat) (hk : k ≤ n) : HoldT w (.slice a k c) (ls.take k) := by
  obtain ⟨a', c', b, o, e, hc, ha, hcell⟩ := h
  simp only [Value.slice.injEq] at e
  obtain ⟨rfl, rfl, rfl⟩ := e
  have hl : (ls.take k).length = k := by rw [List.length_take]; omega
  refine ⟨a, c, b, o, by rw [hl], by omega, fun h0 => ha (by omega), fun j l hj => ?_⟩
  rw [List.getElem?_take] at hj
  split at hj
  · exact hcell j l hj
  · cases hj
end Go.Proofs.YtkcamfcjkjiijaaGreatDoor
