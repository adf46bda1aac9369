/-
  Lists of paths: which may be, which may be together, their text, what is read of a text; nothing of the program.
-/
import Derived.Test.YtogkickaebmeoaaDoorDMath
namespace Go.Proofs.YtogkickaebmeoaaDoor
open Go.RowKit
abbrev Ls := Bs × List Bs
def stepP (l : List Bs) (i : Nat) (x : Bs) : Prop := right x = true ∧ ∀ y, 0 < i → l[i - 1]? = some y → y < x
def StepsP (l : List Bs) : Prop := ∀ (i : Nat) x, l[i]? = some x → stepP l i x
open Classical in
noncomputable def chkP (l : List Bs) : Int := if 64 < l.length then 22 else if StepsP l then 0 else 1
theorem chkP_long {l : List Bs} (h : 64 < l.length) : chkP l = 22 := by unfold chkP; rw [if_pos h]
theorem chkP_ok {l : List Bs} (h : ¬ 64 < l.length) (g : StepsP l) : chkP l = 0 := by unfold chkP; rw [if_neg h, if_pos g]
theorem chkP_no {l : List Bs} (h : ¬ 64 < l.length) (g : ¬ StepsP l) : chkP l = 1 := by unfold chkP; rw [if_neg h, if_neg g]
theorem chkP_ways (l : List Bs) : chkP l = 22 ∨ chkP l = 0 ∨ chkP l = 1 := by
  unfold chkP
  split
  · exact .inl rfl
  · split
    · exact .inr (.inl rfl)
    · exact .inr (.inr rfl)
theorem chkP_zero {l : List Bs} (h : chkP l = 0) : l.length ≤ 64 ∧ StepsP l := by
  unfold chkP at h
  split at h
  · omega
  · split at h
    · exact ⟨by omega, by assumption⟩
    · omega
noncomputable def right13 (x : Ls) : Bool := nameB x.1 && decide (chkP x.2 = 0)
theorem right13_parts {x : Ls} (h : right13 x = true) : nameB x.1 = true ∧ chkP x.2 = 0 := by
  unfold right13 at h
  simp only [Bool.and_eq_true, decide_eq_true_eq] at h
  exact h
def step13 (l : List Ls) (i : Nat) (x : Ls) : Prop := right13 x = true ∧ ∀ y, 0 < i → l[i - 1]? = some y → y.1 < x.1
def Steps13 (l : List Ls) : Prop := ∀ (i : Nat) x, l[i]? = some x → step13 l i x
open Classical in
noncomputable def check13 (l : List Ls) : Int := if 64 < l.length then 22 else if Steps13 l then 0 else 1
theorem check13_long {l : List Ls} (h : 64 < l.length) : check13 l = 22 := by unfold check13; rw [if_pos h]
theorem check13_ok {l : List Ls} (h : ¬ 64 < l.length) (g : Steps13 l) : check13 l = 0 := by unfold check13; rw [if_neg h, if_pos g]
theorem check13_no {l : List Ls} (h : ¬ 64 < l.length) (g : ¬ Steps13 l) : check13 l = 1 := by unfold check13; rw [if_neg h, if_neg g]
theorem check13_ways (l : List Ls) : check13 l = 22 ∨ check13 l = 0 ∨ check13 l = 1 := by
  unfold check13
  split
  · exact .inl rfl
  · split
    · exact .inr (.inl rfl)
    · exact .inr (.inr rfl)
noncomputable def print13 (x : Ls) : Bs × Int := if right13 x = true then (ended10 x.2, 0) else ([], 1)
theorem print13_ok {x : Ls} (h : right13 x = true) : print13 x = (ended10 x.2, 0) := by unfold print13; rw [if_pos h]
theorem print13_no {x : Ls} (h : right13 x = false) : print13 x = ([], 1) := by unfold print13; rw [h]; rfl
open Classical in
noncomputable def parse13 (n s : Bs) : Option Ls := (linesO s).bind fun ls => if print13 (n, ls) = (s, 0) then some (n, ls) else none
theorem paths_10 {l : List Bs} (h : StepsP l) : ∀ p ∈ l, (10 : UInt8) ∉ p := fun p hp => by
  obtain ⟨i, hi⟩ := List.mem_iff_getElem?.1 hp
  exact ok_10 (right_in (h i p hi).1)
theorem parse_text13 {x : Ls} (h : right13 x = true) : parse13 x.1 (ended10 x.2) = some x := by
  have hs := (chkP_zero (right13_parts h).2).2
  unfold parse13
  rw [lines_ended _ (paths_10 hs), Option.bind_some, if_pos (print13_ok h)]
theorem parse13_none {n s : Bs} (h : linesO s = none) : parse13 n s = none := by unfold parse13; rw [h]; rfl
open Classical in
theorem parse13_some {n s : Bs} {ls : List Bs} (h : linesO s = some ls) : parse13 n s = if print13 (n, ls) = (s, 0) then some (n, ls) else none := by
  unfold parse13; rw [h]; rfl
theorem text_parse13 {n s : Bs} {x : Ls} (h : parse13 n s = some x) : print13 x = (s, 0) ∧ x.1 = n ∧ right13 x = true := by
  unfold parse13 at h
  cases hl : linesO s with
  | none => rw [hl] at h; cases h
  | some ls =>
    rw [hl, Option.bind_some] at h
    split at h
    · rename_i g
      cases h
      refine ⟨g, rfl, ?_⟩
      cases hr : right13 (n, ls)
      · rw [print13_no hr] at g; cases g
      · rfl
    · cases h
end Go.Proofs.YtogkickaebmeoaaDoor
