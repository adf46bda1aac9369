/-
  The reference's Digit, Letter, at, only, weight, words, numbers: what each returns; the world stays as it was.
-/
import Derived.Test.YtolpcnhgmmnmcaaGreatDoorLBase
namespace Go.Proofs.YtolpcnhgmmnmcaaGreatDoor
open Go.RowKit
theorem wt_tilde {c : UInt8} (h : c.toNat = 126) : wt c = -1 := by unfold wt; rw [if_pos h]
theorem wt_letter {c : UInt8} (h : ¬ c.toNat = 126) (g : ltB c = true) : wt c = c.toNat := by unfold wt; rw [if_neg h, if_pos g]
theorem wt_other {c : UInt8} (h : ¬ c.toNat = 126) (g : ltB c = false) : wt c = 256 + (c.toNat : Int) := by unfold wt; rw [if_neg h, if_neg (by rw [g]; simp)]
-- The first place of a byte, and the last one
def firstI (c : UInt8) (l : Bs) : Int := if c ∈ l then ((l.takeWhile fun x => decide (x ≠ c)).length : Int) else -1
def lastI (c : UInt8) (l : Bs) : Int := (l.length : Int) - ((l.reverse.takeWhile fun x => decide (x ≠ c)).length : Int) - 1
theorem firstI_mem {c : UInt8} {l : Bs} (h : c ∈ l) (r : Bs) : firstI c (l ++ r) = firstI c l := by
  unfold firstI
  rw [if_pos h, if_pos (List.mem_append_left _ h)]
  congr 2
  rw [List.takeWhile_append]
  have : ¬ (l.takeWhile fun x => decide (x ≠ c)).length = l.length := fun e => by
    have h2 := (List.takeWhile_sublist (fun x => decide (x ≠ c)) (l := l)).eq_of_length e
    have := List.all_eq_true.1 (List.all_takeWhile (p := fun x => decide (x ≠ c)) (l := l)) c (by rw [h2]; exact h)
    simp at this
  rw [if_neg this]
theorem firstI_new {c : UInt8} {l : Bs} (h : c ∉ l) : firstI c (l ++ [c]) = l.length := by
  unfold firstI
  rw [if_pos (by simp), takeWhile_at _ _ _ _ (fun y hy => by simp; rintro rfl; exact h hy) (by simp)]
theorem firstI_no {c : UInt8} {l : Bs} (h : c ∉ l) : firstI c l = -1 := by unfold firstI; rw [if_neg h]
theorem firstI_ge {c : UInt8} {l : Bs} : -1 ≤ firstI c l ∧ firstI c l < l.length ∨ l = [] ∧ firstI c l = -1 := by
  unfold firstI
  by_cases h : c ∈ l
  · rw [if_pos h]
    left
    have h1 := takeWhile_le (fun x => decide (x ≠ c)) l
    have : ¬ (l.takeWhile fun x => decide (x ≠ c)).length = l.length := fun e => by
      have h2 := (List.takeWhile_sublist (fun x => decide (x ≠ c)) (l := l)).eq_of_length e
      have := List.all_eq_true.1 (List.all_takeWhile (p := fun x => decide (x ≠ c)) (l := l)) c (by rw [h2]; exact h)
      simp at this
    omega
  · rw [if_neg h]
    cases l with
    | nil => right; exact ⟨rfl, rfl⟩
    | cons x l => left; simp; omega
theorem firstI_neg {c : UInt8} {l : Bs} : firstI c l < 0 ↔ c ∉ l := by
  unfold firstI
  by_cases h : c ∈ l
  · rw [if_pos h]; simp [h]
  · rw [if_neg h]; simp [h]
theorem lastI_snoc (c x : UInt8) (l : Bs) : lastI c (l ++ [x]) = if x = c then (l.length : Int) else lastI c l := by
  unfold lastI
  rw [List.reverse_append, List.reverse_singleton, List.singleton_append, List.length_append, List.length_singleton]
  by_cases h : x = c
  · subst h; simp
  · rw [List.takeWhile_cons, if_pos (by simp [h]), if_neg h, List.length_cons]; omega
theorem lastI_bd (c : UInt8) (l : Bs) : -1 ≤ lastI c l ∧ lastI c l < l.length ∨ l = [] ∧ lastI c l = -1 := by
  have := takeWhile_le (fun x => decide (x ≠ c)) l.reverse
  rw [List.length_reverse] at this
  cases l with
  | nil => right; exact ⟨rfl, rfl⟩
  | cons x l => left; unfold lastI; simp at this ⊢; omega
end Go.Proofs.YtolpcnhgmmnmcaaGreatDoor
