/-
  The plain mathematics of reading numerals in the bases 8 and 16: a digit's value as Go's library takes it (capital letters too), a text's value, and that the numeral of a number reads as that number. No program here.
-/
import Derived.Laws.BitsLemmas
import Derived.Laws.BitsAllLaws
import Derived.Test.YtpkdnohaefkfgaaGreatDoorProg
import Derived.WalkKit
import Derived.WalkSpells
import Derived.WalkLawsBesides
import Derived.Lib.Hide
import Derived.Lib.Itoa
import Derived.Lib.ItoaWalk
import Derived.Sort.Row
import Derived.ShutString
namespace Go.Proofs.YtpkdnohaefkfgaaGreatDoor

end Go.Proofs.YtpkdnohaefkfgaaGreatDoor
namespace Go.Proofs.YtpkdnohaefkfgaaGreatDoor
open Go.RowKit
end Go.Proofs.YtpkdnohaefkfgaaGreatDoor
namespace Go.Proofs.YtpkdnohaefkfgaaGreatDoor
open Go.Sort Go.RowKit

/-- The letter of a digit below 16. -/
def dgc (d : Nat) : UInt8 := if d < 10 then UInt8.ofNat (48 + d) else UInt8.ofNat (87 + d)
/-- The L lowest digits of u, the highest first. -/
def digL (b u L : Nat) : List UInt8 := (List.range L).map fun j => dgc (u / b ^ (L - 1 - j) % b)
theorem digL_length (b u L : Nat) : (digL b u L).length = L := by simp [digL]
theorem digL_get (b u L j : Nat) (h : j < (digL b u L).length) : (digL b u L)[j] = dgc (u / b ^ (L - 1 - j) % b) := by simp [digL]
theorem digL_succ (b u L : Nat) : digL b u (L + 1) = dgc (u / b ^ L % b) :: digL b u L := by
  apply List.ext_getElem
  · simp [digL_length]
  · intro j h1 h2
    rw [digL_get]
    cases j with
    | zero => simp
    | succ j =>
      rw [List.getElem_cons_succ, digL_get]
      have : L + 1 - 1 - (j + 1) = L - 1 - j := by omega
      rw [this]
/-- Leading zeros. -/
theorem digL_pad (b u L k : Nat) (hb : 0 < b) (h : u < b ^ L) : digL b u (k + L) = List.replicate k 48 ++ digL b u L := by
  induction k with
  | zero => simp
  | succ k ih =>
    have e : k + 1 + L = (k + L) + 1 := by omega
    have hlt : u < b ^ (k + L) := Nat.lt_of_lt_of_le h (Nat.pow_le_pow_right hb (by omega))
    rw [e, digL_succ, ih, Nat.div_eq_of_lt hlt, Nat.zero_mod, List.replicate_succ]
    rfl
theorem pow_bd (b u k : Nat) (hb : 8 ≤ b) (hu : u < 18446744073709551616) (h : b ^ k ≤ u) : k ≤ 21 := by
  rcases Nat.lt_or_ge 21 k with hk | hk
  · have h1 : 8 ^ 22 ≤ 8 ^ k := Nat.pow_le_pow_right (by decide) hk
    have h2 : 8 ^ k ≤ b ^ k := Nat.pow_le_pow_left hb k
    have h3 : (8 : Nat) ^ 22 = 73786976294838206464 := by decide
    omega
  · exact hk

/-- WHAT THE BUFFER OF 65 BYTES HOLDS: from place i on the digits, v what is left of u. -/
structure FInv (b u i v : Nat) (dk : Array UInt8) : Prop where
  size : dk.size = 65
  le : i ≤ 65
  rest : v = u / b ^ (65 - i)
  done : ∀ t, i ≤ t → t < 65 → dk[t]! = dgc (u / b ^ (64 - t) % b)
  pos : i = 65 ∨ 1 ≤ v
theorem FInv.start (b u : Nat) (dk : Array UInt8) (h : dk.size = 65) : FInv b u 65 u dk :=
  ⟨h, Nat.le_refl _, by simp, fun t h1 h2 => by omega, Or.inl rfl⟩
theorem FInv.low {b u i v : Nat} {dk : Array UInt8} (h : FInv b u i v dk) (hb : 8 ≤ b) (hu : u < 18446744073709551616) : 44 ≤ i := by
  rcases h.pos with hp | hp
  · omega
  · have hle := h.le
    have hr := h.rest
    have hb0 : 0 < b ^ (65 - i) := Nat.pow_pos (by omega)
    have h1 : b ^ (65 - i) ≤ u := by
      rw [hr] at hp
      rcases Nat.lt_or_ge u (b ^ (65 - i)) with hlt | hge
      · rw [Nat.div_eq_of_lt hlt] at hp; omega
      · exact hge
    have := pow_bd b u (65 - i) hb hu h1
    omega
theorem getElem!_set_same' (d : Array UInt8) (i : Nat) (x : UInt8) (h : i < d.size) : (d.setIfInBounds i x)[i]! = x := by
  rw [getElem!_pos _ i (by simpa using h)]; simp
theorem getElem!_set_other' (d : Array UInt8) (i j : Nat) (x : UInt8) (h : j ≠ i) : (d.setIfInBounds i x)[j]! = d[j]! := by
  simp only [getElem!_def, Array.getElem?_setIfInBounds]
  rw [if_neg (fun e => h e.symm)]
theorem FInv.step {b u i v : Nat} {dk : Array UInt8} (h : FInv b u (i + 1) v dk) (hb : 0 < b) (hv : b ≤ v) : FInv b u i (v / b) (dk.setIfInBounds i (dgc (v % b))) where
  size := by simpa using h.size
  le := by have := h.le; omega
  rest := by
    have hle := h.le
    have e : 65 - i = (65 - (i + 1)) + 1 := by omega
    rw [h.rest, e, Nat.pow_succ, Nat.div_div_eq_div_mul]
  done := fun t h1 h2 => by
    have hs := h.size
    by_cases ht : t = i
    · subst ht
      rw [getElem!_set_same' _ _ _ (by omega), h.rest]
      have e : 65 - (t + 1) = 64 - t := by omega
      rw [e]
    · rw [getElem!_set_other' _ _ _ _ ht]
      exact h.done t (by omega) h2
  pos := by
    right; exact (Nat.one_le_div_iff hb).2 hv
/-- The last digit: the row reads as the numeral. -/
theorem FInv.last {b u i v : Nat} {dk : Array UInt8} (h : FInv b u (i + 1) v dk) (hv : v < b) :
    (∀ j (hj : j < (digL b u (65 - i)).length), (digL b u (65 - i))[j] = (dk.setIfInBounds i (dgc v))[i + j]!) ∧ u < b ^ (65 - i) := by
  have hle := h.le
  have hs := h.size
  constructor
  · intro j hj
    rw [digL_get]
    rw [digL_length] at hj
    have e : 65 - i - 1 - j = 64 - (i + j) := by omega
    rw [e]
    by_cases hj0 : j = 0
    · subst hj0
      rw [Nat.add_zero, getElem!_set_same' _ _ _ (by omega)]
      have e2 : 64 - i = 65 - (i + 1) := by omega
      rw [e2, ← h.rest, Nat.mod_eq_of_lt hv]
    · rw [getElem!_set_other' _ _ _ _ (by omega)]
      rw [h.done (i + j) (by omega) (by omega)]
  · have hr := h.rest
    rw [hr] at hv
    have e2 : 65 - i = (65 - (i + 1)) + 1 := by omega
    have hb : 0 < b := by omega
    rw [e2, Nat.pow_succ]
    rw [Nat.mul_comm]
    exact (Nat.div_lt_iff_lt_mul (Nat.pow_pos hb)).1 hv
end Go.Proofs.YtpkdnohaefkfgaaGreatDoor
namespace Go.Proofs.YtpkdnohaefkfgaaGreatDoor
def lo (c : UInt8) : Nat := c.toNat ||| 32
def dv (c : UInt8) : Option Nat := if 48 ≤ c.toNat ∧ c.toNat ≤ 57 then some (c.toNat - 48) else if 97 ≤ lo c ∧ lo c ≤ 122 then some (lo c - 87) else none
def dvb (b : Nat) (c : UInt8) : Option Nat := match dv c with
  | some d => if d < b then some d else none
  | none => none
def pv (b : Nat) : Nat → List UInt8 → Option Nat
  | acc, [] => some acc
  | acc, c :: l => match dvb b c with
    | some d => pv b (acc * b + d) l
    | none => none
theorem pv_some {b acc d : Nat} {c : UInt8} {l : List UInt8} (h : dvb b c = some d) : pv b acc (c :: l) = pv b (acc * b + d) l := by rw [pv, h]
theorem pv_none {b acc : Nat} {c : UInt8} {l : List UInt8} (h : dvb b c = none) : pv b acc (c :: l) = none := by rw [pv, h]
theorem pv_lt (b : Nat) : ∀ (l : List UInt8) (acc n : Nat), pv b acc l = some n → n < (acc + 1) * b ^ l.length
  | [], acc, n, h => by rw [pv] at h; cases h; simp
  | c :: l, acc, n, h => by
    cases hd : dvb b c with
    | none => rw [pv_none hd] at h; cases h
    | some d =>
      rw [pv_some hd] at h
      have h1 := pv_lt b l _ _ h
      have hdb : d < b := by
        unfold dvb at hd
        split at hd
        · split at hd
          · rename_i hlt; cases hd; exact hlt
          · cases hd
        · cases hd
      have h2 : acc * b + d + 1 ≤ (acc + 1) * b := by rw [Nat.add_mul]; omega
      have h3 := Nat.mul_le_mul_right (b ^ l.length) h2
      rw [List.length_cons, Nat.pow_succ, Nat.mul_comm (b ^ l.length) b, ← Nat.mul_assoc]
      omega
/-- THE TEXT IS THE NUMERAL OF A NUMBER, of just that width: or it is none. -/
def numOf (b W : Nat) (l : List UInt8) : Option Nat := match pv b 0 l with
  | some n => if digL b n W = l then some n else none
  | none => none
theorem numOf_some {b W n : Nat} {l : List UInt8} (h : numOf b W l = some n) : digL b n W = l := by
  unfold numOf at h
  split at h
  · split at h
    · rename_i e; cases h; exact e
    · cases h
  · cases h
theorem numOf_len {b W n : Nat} {l : List UInt8} (h : numOf b W l = some n) : l.length = W := by rw [← numOf_some h, digL_length]
end Go.Proofs.YtpkdnohaefkfgaaGreatDoor
