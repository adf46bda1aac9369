/-
  The plain mathematics of numerals in a base from 8 to 16: the digit's letter, the numeral of a given width, and what a buffer holds while a numeral is written into it from behind. No program here, no conditions but those that each lemma states.
-/
import Derived.Laws.BitsAllLaws
import Derived.Lib.Itoa
import Derived.Lib.ItoaWalk
import Derived.Sort.Row
import Derived.Lib.Hide
import Derived.ShutString
import Derived.Test.YtgoekfonbpffdaaDoorBitsMath
namespace Go.Proofs.YtgoekfonbpffdaaDoor
open Go.Sort Go.RowKit

/-- The letter of a digit below 16. -/
def dgc (d : Nat) : UInt8 := if d < 10 then UInt8.ofNat (48 + d) else UInt8.ofNat (87 + d)
theorem dgc_lt (d : Nat) (h : d < 10) : (dgc d).toNat = 48 + d := by
  unfold dgc; rw [if_pos h, UInt8.toNat_ofNat']; omega
theorem dgc_ge (d : Nat) (h : 10 ≤ d) (h2 : d < 16) : (dgc d).toNat = 87 + d := by
  unfold dgc; rw [if_neg (by omega), UInt8.toNat_ofNat']; omega
theorem dgc_inj (a b : Nat) (ha : a < 16) (hb : b < 16) (h : dgc a = dgc b) : a = b := by
  have h2 : (dgc a).toNat = (dgc b).toNat := by rw [h]
  rcases Nat.lt_or_ge a 10 with ha' | ha' <;> rcases Nat.lt_or_ge b 10 with hb' | hb'
  · rw [dgc_lt a ha', dgc_lt b hb'] at h2; omega
  · rw [dgc_lt a ha', dgc_ge b hb' hb] at h2; omega
  · rw [dgc_ge a ha' ha, dgc_lt b hb'] at h2; omega
  · rw [dgc_ge a ha' ha, dgc_ge b hb' hb] at h2; omega

/-- The L lowest digits of u, the highest first. -/
def digL (b u L : Nat) : List UInt8 := (List.range L).map fun j => dgc (u / b ^ (L - 1 - j) % b)
theorem digL_length (b u L : Nat) : (digL b u L).length = L := by simp [digL]
theorem digL_get (b u L j : Nat) (h : j < (digL b u L).length) : (digL b u L)[j] = dgc (u / b ^ (L - 1 - j) % b) := by simp [digL]
theorem digL_zero (b u : Nat) : digL b u 0 = [] := rfl
theorem digL_succ (b u L : Nat) : digL b u (L + 1) = dgc (u / b ^ L % b) :: digL b u L := by
  apply List.ext_getElem
  · simp [digL_length]
  · intro j h1 h2
    rw [digL_get]
    cases j with
    | zero => simp
    | succ j =>
      rw [List.getElem_cons_succ, digL_get]
      have : L + 1 - 1 - (j + 1) = L - 1 - j := by omega
      rw [this]
/-- Leading zeros. -/
theorem digL_pad (b u L k : Nat) (hb : 0 < b) (h : u < b ^ L) : digL b u (k + L) = List.replicate k 48 ++ digL b u L := by
  induction k with
  | zero => simp
  | succ k ih =>
    have e : k + 1 + L = (k + L) + 1 := by omega
    have hlt : u < b ^ (k + L) := Nat.lt_of_lt_of_le h (Nat.pow_le_pow_right hb (by omega))
    rw [e, digL_succ, ih, Nat.div_eq_of_lt hlt, Nat.zero_mod, List.replicate_succ]
    rfl
theorem pow_bd (b u k : Nat) (hb : 8 ≤ b) (hu : u < 18446744073709551616) (h : b ^ k ≤ u) : k ≤ 21 := by
  rcases Nat.lt_or_ge 21 k with hk | hk
  · have h1 : 8 ^ 22 ≤ 8 ^ k := Nat.pow_le_pow_right (by decide) hk
    have h2 : 8 ^ k ≤ b ^ k := Nat.pow_le_pow_left hb k
    have h3 : (8 : Nat) ^ 22 = 73786976294838206464 := by decide
    omega
  · exact hk

/-- WHAT THE BUFFER OF 65 BYTES HOLDS: from place i on the digits, v what is left of u. -/
structure FInv (b u i v : Nat) (dk : Array UInt8) : Prop where
  size : dk.size = 65
  le : i ≤ 65
  rest : v = u / b ^ (65 - i)
  done : ∀ t, i ≤ t → t < 65 → dk[t]! = dgc (u / b ^ (64 - t) % b)
  pos : i = 65 ∨ 1 ≤ v
theorem FInv.start (b u : Nat) (dk : Array UInt8) (h : dk.size = 65) : FInv b u 65 u dk :=
  ⟨h, Nat.le_refl _, by simp, fun t h1 h2 => by omega, Or.inl rfl⟩
theorem FInv.low {b u i v : Nat} {dk : Array UInt8} (h : FInv b u i v dk) (hb : 8 ≤ b) (hu : u < 18446744073709551616) : 44 ≤ i := by
  rcases h.pos with hp | hp
  · omega
  · have hle := h.le
    have hr := h.rest
    have hb0 : 0 < b ^ (65 - i) := Nat.pow_pos (by omega)
    have h1 : b ^ (65 - i) ≤ u := by
      rw [hr] at hp
      rcases Nat.lt_or_ge u (b ^ (65 - i)) with hlt | hge
      · rw [Nat.div_eq_of_lt hlt] at hp; omega
      · exact hge
    have := pow_bd b u (65 - i) hb hu h1
    omega
theorem getElem!_set_same' (d : Array UInt8) (i : Nat) (x : UInt8) (h : i < d.size) : (d.setIfInBounds i x)[i]! = x := by
  rw [getElem!_pos _ i (by simpa using h)]; simp
theorem getElem!_set_other' (d : Array UInt8) (i j : Nat) (x : UInt8) (h : j ≠ i) : (d.setIfInBounds i x)[j]! = d[j]! := by
  simp only [getElem!_def, Array.getElem?_setIfInBounds]
  rw [if_neg (fun e => h e.symm)]
theorem FInv.step {b u i v : Nat} {dk : Array UInt8} (h : FInv b u (i + 1) v dk) (hb : 0 < b) (hv : b ≤ v) : FInv b u i (v / b) (dk.setIfInBounds i (dgc (v % b))) where
  size := by simpa using h.size
  le := by have := h.le; omega
  rest := by
    have hle := h.le
    have e : 65 - i = (65 - (i + 1)) + 1 := by omega
    rw [h.rest, e, Nat.pow_succ, Nat.div_div_eq_div_mul]
  done := fun t h1 h2 => by
    have hs := h.size
    by_cases ht : t = i
    · subst ht
      rw [getElem!_set_same' _ _ _ (by omega), h.rest]
      have e : 65 - (t + 1) = 64 - t := by omega
      rw [e]
    · rw [getElem!_set_other' _ _ _ _ ht]
      exact h.done t (by omega) h2
  pos := by
    right; exact (Nat.one_le_div_iff hb).2 hv
/-- The last digit: the row reads as the numeral. -/
theorem FInv.last {b u i v : Nat} {dk : Array UInt8} (h : FInv b u (i + 1) v dk) (hv : v < b) :
    (∀ j (hj : j < (digL b u (65 - i)).length), (digL b u (65 - i))[j] = (dk.setIfInBounds i (dgc v))[i + j]!) ∧ u < b ^ (65 - i) := by
  have hle := h.le
  have hs := h.size
  constructor
  · intro j hj
    rw [digL_get]
    rw [digL_length] at hj
    have e : 65 - i - 1 - j = 64 - (i + j) := by omega
    rw [e]
    by_cases hj0 : j = 0
    · subst hj0
      rw [Nat.add_zero, getElem!_set_same' _ _ _ (by omega)]
      have e2 : 64 - i = 65 - (i + 1) := by omega
      rw [e2, ← h.rest, Nat.mod_eq_of_lt hv]
    · rw [getElem!_set_other' _ _ _ _ (by omega)]
      rw [h.done (i + j) (by omega) (by omega)]
  · have hr := h.rest
    rw [hr] at hv
    have e2 : 65 - i = (65 - (i + 1)) + 1 := by omega
    have hb : 0 < b := by omega
    rw [e2, Nat.pow_succ]
    rw [Nat.mul_comm]
    exact (Nat.div_lt_iff_lt_mul (Nat.pow_pos hb)).1 hv
end Go.Proofs.YtgoekfonbpffdaaDoor
