/-
  The plain mathematics of reading numerals in the bases 8 and 16: a digit's value as Go's library takes it (capital letters too), a text's value, and that the numeral of a number reads as that number. No program here.
-/
import Derived.Test.YtgoekfonbpffdaaDoorDigitsMath
namespace Go.Proofs.YtgoekfonbpffdaaDoor
def lo (c : UInt8) : Nat := c.toNat ||| 32
def dv (c : UInt8) : Option Nat := if 48 ≤ c.toNat ∧ c.toNat ≤ 57 then some (c.toNat - 48) else if 97 ≤ lo c ∧ lo c ≤ 122 then some (lo c - 87) else none
def dvb (b : Nat) (c : UInt8) : Option Nat := match dv c with
  | some d => if d < b then some d else none
  | none => none
def pv (b : Nat) : Nat → List UInt8 → Option Nat
  | acc, [] => some acc
  | acc, c :: l => match dvb b c with
    | some d => pv b (acc * b + d) l
    | none => none
theorem pv_some {b acc d : Nat} {c : UInt8} {l : List UInt8} (h : dvb b c = some d) : pv b acc (c :: l) = pv b (acc * b + d) l := by rw [pv, h]
theorem pv_none {b acc : Nat} {c : UInt8} {l : List UInt8} (h : dvb b c = none) : pv b acc (c :: l) = none := by rw [pv, h]
theorem dv_fin : ∀ q : Fin 16, dv (dgc q.val) = some q.val := by decide +kernel
theorem dvb_dgc (b q : Nat) (hq : q < b) (hb : b ≤ 16) : dvb b (dgc q) = some q := by
  have h := dv_fin ⟨q, by omega⟩
  simp only at h
  unfold dvb
  rw [h]
  simp [hq]
theorem pv_digL (b u : Nat) (hb : 0 < b) (hb2 : b ≤ 16) : ∀ (L acc : Nat), pv b acc (digL b u L) = some (acc * b ^ L + u % b ^ L)
  | 0, acc => by rw [digL_zero, pv]; simp [Nat.mod_one]
  | L + 1, acc => by
    rw [digL_succ, pv_some (dvb_dgc b _ (Nat.mod_lt _ hb) hb2), pv_digL b u hb hb2 L, Nat.mod_pow_succ, Nat.pow_succ]
    congr 1
    rw [Nat.add_mul, Nat.mul_assoc acc b, Nat.mul_comm b (b ^ L), Nat.mul_comm (u / b ^ L % b)]
    omega
theorem pv_lt (b : Nat) : ∀ (l : List UInt8) (acc n : Nat), pv b acc l = some n → n < (acc + 1) * b ^ l.length
  | [], acc, n, h => by rw [pv] at h; cases h; simp
  | c :: l, acc, n, h => by
    cases hd : dvb b c with
    | none => rw [pv_none hd] at h; cases h
    | some d =>
      rw [pv_some hd] at h
      have h1 := pv_lt b l _ _ h
      have hdb : d < b := by
        unfold dvb at hd
        split at hd
        · split at hd
          · rename_i hlt; cases hd; exact hlt
          · cases hd
        · cases hd
      have h2 : acc * b + d + 1 ≤ (acc + 1) * b := by rw [Nat.add_mul]; omega
      have h3 := Nat.mul_le_mul_right (b ^ l.length) h2
      rw [List.length_cons, Nat.pow_succ, Nat.mul_comm (b ^ l.length) b, ← Nat.mul_assoc]
      omega
/-- THE TEXT IS THE NUMERAL OF A NUMBER, of just that width: or it is none. -/
def numOf (b W : Nat) (l : List UInt8) : Option Nat := match pv b 0 l with
  | some n => if digL b n W = l then some n else none
  | none => none
theorem numOf_digL (b W u : Nat) (hb : 0 < b) (hb2 : b ≤ 16) (hu : u < b ^ W) : numOf b W (digL b u W) = some u := by
  have h := pv_digL b u hb hb2 W 0
  rw [Nat.mod_eq_of_lt hu, Nat.zero_mul, Nat.zero_add] at h
  unfold numOf
  rw [h]
  simp
theorem numOf_some {b W n : Nat} {l : List UInt8} (h : numOf b W l = some n) : digL b n W = l := by
  unfold numOf at h
  split at h
  · split at h
    · rename_i e; cases h; exact e
    · cases h
  · cases h
theorem numOf_len {b W n : Nat} {l : List UInt8} (h : numOf b W l = some n) : l.length = W := by rw [← numOf_some h, digL_length]
theorem numOf_lt {b W n : Nat} {l : List UInt8} (hl : l.length = W) (h : numOf b W l = some n) : n < b ^ W := by
  unfold numOf at h
  split at h
  · rename_i m hm
    split at h
    · cases h
      have := pv_lt b l 0 n hm
      rw [hl] at this
      omega
    · cases h
  · cases h
theorem numOf_none (b W : Nat) (l : List UInt8) (hb : 0 < b) (hb2 : b ≤ 16) (h : numOf b W l = none) (u : Nat) (hu : u < b ^ W) : digL b u W ≠ l := by
  intro e
  rw [← e, numOf_digL b W u hb hb2 hu] at h
  cases h
end Go.Proofs.YtgoekfonbpffdaaDoor
