/-
  The best of versions: what it is, and how it is come by; nothing of the program.
-/
import Derived.Test.YteoomeknlfcfaaaGreatDoorVMath
namespace Go.Proofs.YteoomeknlfcfaaaGreatDoor
/-- The first place of one that none is above; -1: there is none. -/
def BestOk (ls : List Bs) (z : Int) : Prop := (ls = [] ∧ z = -1) ∨ ∃ k : Nat, z = k ∧ ∃ h : k < ls.length, ∀ i (hi : i < ls.length), compareV ls[i] ls[k] ≤ 0 ∧ (compareV ls[i] ls[k] = 0 → k ≤ i)
/-- .. of the first n. -/
def BestTo (ls : List Bs) (n : Nat) (z : Int) : Prop := (n = 0 ∧ z = -1) ∨ ∃ k : Nat, z = k ∧ k < n ∧ ∃ h : k < ls.length, ∀ i (hi : i < ls.length), i < n → compareV ls[i] ls[k] ≤ 0 ∧ (compareV ls[i] ls[k] = 0 → k ≤ i)
theorem BestTo.start (ls : List Bs) : BestTo ls 0 (-1) := .inl ⟨rfl, rfl⟩
theorem BestTo.first {ls : List Bs} (h : 0 < ls.length) : BestTo ls 1 ((0 : Nat) : Int) := .inr ⟨0, rfl, by omega, h, fun i hi hn => by
  obtain rfl : i = 0 := by omega
  rw [compareV_good.self]; exact ⟨Int.le_refl _, fun _ => Nat.le_refl _⟩⟩
theorem BestTo.keep {ls : List Bs} {n k : Nat} (h : BestTo ls n k) (hn : n < ls.length) (hk : k < ls.length) (hc : compareV ls[n] ls[k] ≤ 0) : BestTo ls (n + 1) k := by
  rcases h with ⟨_, h⟩ | ⟨k', e, hk', hl, hb⟩
  · omega
  · obtain rfl : k = k' := by omega
    refine .inr ⟨k, rfl, by omega, hk, fun i hi hin => ?_⟩
    by_cases hi' : i = n
    · subst hi'; exact ⟨hc, fun _ => by omega⟩
    · exact hb i hi (by omega)
theorem BestTo.more {ls : List Bs} {n k : Nat} (h : BestTo ls n k) (hn : n < ls.length) (hk : k < ls.length) (hc : 0 < compareV ls[n] ls[k]) : BestTo ls (n + 1) n := by
  rcases h with ⟨_, h⟩ | ⟨k', e, hk', hl, hb⟩
  · omega
  · obtain rfl : k = k' := by omega
    refine .inr ⟨n, rfl, by omega, hn, fun i hi hin => ?_⟩
    by_cases hi' : i = n
    · subst hi'; rw [compareV_good.self]; exact ⟨Int.le_refl _, fun _ => Nat.le_refl _⟩
    · have h1 := (hb i hi (by omega)).1
      have h2 : compareV ls[k] ls[n] < 0 := by have := compareV_good.anti ls[k] ls[n]; omega
      have := compareV_good.less' (z := ls[n]) h1 h2
      exact ⟨by omega, fun g => by omega⟩
theorem BestTo.done {ls : List Bs} {z : Int} (h : BestTo ls ls.length z) : BestOk ls z := by
  rcases h with ⟨h, rfl⟩ | ⟨k, e, hk, hl, hb⟩
  · exact .inl ⟨List.eq_nil_of_length_eq_zero h, rfl⟩
  · exact .inr ⟨k, e, hl, fun i hi => hb i hi hi⟩
end Go.Proofs.YteoomeknlfcfaaaGreatDoor
