/-
  The plain mathematics of bits: single bits of an int64 as division and remainder, masks as remainders, 'and not' as a difference, sums of low bits. No program here, no conditions but those that each lemma states. The plain mathematics of numerals in a base from 8 to 16: the digit's letter, the numeral of a given width, and what a buffer holds while a numeral is written into it from behind. No program here, no conditions but those that each lemma states. The plain mathematics of reading numerals in the bases 8 and 16: a digit's value as Go's library takes it (capital letters too), a text's value, and that the numeral of a number reads as that number. No program here.
-/
import Derived.Laws.BitsLemmas
import Derived.Laws.BitsAllLaws
import Derived.Lib.Itoa
import Derived.Lib.ItoaWalk
import Derived.Sort.Row
import Derived.Lib.Hide
import Derived.ShutString
namespace Go.Proofs.YtmjfbpiodamamaaGreatDoor

/-- Is bit i of n set? (n as a two's complement number: floor division) -/
def bitB (n : Int) (i : Nat) : Bool := decide (n / 2 ^ i % 2 = 1)

theorem mod_div_mod (n : Int) (i : Nat) (hi : i < 64) : (n % 18446744073709551616) / 2 ^ i % 2 = n / 2 ^ i % 2 := by
  have h1 : (18446744073709551616 : Int) = 2 ^ i * (2 * 2 ^ (63 - i)) := by
    rw [← Int.mul_assoc, Int.mul_comm (2 ^ i) 2, Int.mul_assoc, ← Int.pow_add]
    have : i + (63 - i) = 63 := by omega
    rw [this]; decide
  have h2 : n = n % 18446744073709551616 + 2 ^ i * (2 * (2 ^ (63 - i) * (n / 18446744073709551616))) := by
    have e := Int.emod_add_mul_ediv n 18446744073709551616
    rw [← Int.mul_assoc 2, ← Int.mul_assoc (2 ^ i), ← h1]
    exact e.symm
  have hp : (2 : Int) ^ i ≠ 0 := by
    have : (0 : Int) < 2 ^ i := Int.pow_pos (by decide)
    omega
  conv => rhs; rw [h2, Int.add_mul_ediv_left _ _ hp, Int.add_mul_emod_self_left]

theorem bit_u64 (n : Int) (i : Nat) (hi : i < 64) : ((IntKind.u64.wrap n / 2 ^ i).tmod 2 == 1) = bitB n i := by
  have h0 : 0 ≤ IntKind.u64.wrap n / 2 ^ i := by
    have : 0 ≤ IntKind.u64.wrap n := by rw [IntKind.wrap_u64]; exact Int.emod_nonneg _ (by decide)
    exact Int.ediv_nonneg this (Int.le_of_lt (Int.pow_pos (by decide)))
  rw [Int.tmod_eq_emod_of_nonneg h0, IntKind.wrap_u64, mod_div_mod n i hi]
  unfold bitB
  rw [Bool.eq_iff_iff]; simp

theorem toNat_ofInt64 (x : Int) : (BitVec.ofInt 64 x).toNat = (x % 18446744073709551616).toNat := by
  rw [BitVec.toNat_ofInt]; rfl

theorem wrap_i64_id (n : Int) (h0 : -9223372036854775808 ≤ n) (h1 : n ≤ 9223372036854775807) : IntKind.i64.wrap n = n := by
  rw [IntKind.wrap_i64]; omega

theorem two_pow_le (j k : Nat) (h : j ≤ k) : (2 : Nat) ^ j ≤ 2 ^ k := Nat.pow_le_pow_right (by decide) h

theorem emod_two_pow (x : Int) (j : Nat) (hj : j ≤ 64) : ((x % 18446744073709551616).toNat % 2 ^ j : Nat) = x % 2 ^ j := by
  have h0 : 0 ≤ x % 18446744073709551616 := Int.emod_nonneg _ (by decide)
  rw [Int.natCast_emod, Int.toNat_of_nonneg h0]
  have hc : ((2 ^ j : Nat) : Int) = 2 ^ j := by simp
  rw [hc]
  have h1 : (18446744073709551616 : Int) = 2 ^ j * 2 ^ (64 - j) := by
    rw [← Int.pow_add]
    have : j + (64 - j) = 64 := by omega
    rw [this]; decide
  rw [h1]
  exact Int.emod_emod_of_dvd x ⟨_, rfl⟩

/-- A mask of the lowest j bits is the remainder. -/
theorem and_mask (x : Int) (j : Nat) (hj : j ≤ 63) : bits .and .i64 x ((2 ^ j - 1 : Nat) : Int) = x % 2 ^ j := by
  show IntKind.i64.wrap ((BitVec.ofInt 64 x &&& BitVec.ofInt 64 ((2 ^ j - 1 : Nat) : Int)).toNat : Int) = _
  have hp : 2 ^ j ≤ 2 ^ 63 := two_pow_le j 63 hj
  have hpos : 0 < 2 ^ j := Nat.two_pow_pos j
  have h2 : (BitVec.ofInt 64 ((2 ^ j - 1 : Nat) : Int)).toNat = 2 ^ j - 1 := by
    rw [BitVec.ofInt_natCast, BitVec.toNat_ofNat]; exact Nat.mod_eq_of_lt (by omega)
  rw [BitVec.toNat_and, h2, Nat.and_two_pow_sub_one_eq_mod, toNat_ofInt64, emod_two_pow x j (by omega)]
  have hq : (0 : Int) < 2 ^ j := Int.pow_pos (by decide)
  have h3 := Int.emod_nonneg x (by omega : (2 : Int) ^ j ≠ 0)
  have h4 := Int.emod_lt_of_pos x hq
  have h5 : (2 : Int) ^ j ≤ 9223372036854775808 := by
    have e : ((2 ^ j : Nat) : Int) = 2 ^ j := by simp
    rw [← e]
    have hp' : 2 ^ j ≤ 9223372036854775808 := hp
    omega
  exact wrap_i64_id _ (by omega) (by omega)

theorem and_4095 (x : Int) : bits .and .i64 x 4095 = x % 4096 := and_mask x 12 (by decide)
theorem and_511 (x : Int) : bits .and .i64 x 511 = x % 512 := and_mask x 9 (by decide)
theorem and_73 (x : Int) : bits .and .i64 x 67108863 = x % 67108864 := and_mask x 26 (by decide)
theorem and_7 (x : Int) : bits .and .i64 x 7 = x % 8 := and_mask x 3 (by decide)
theorem and_1 (x : Int) : bits .and .i64 x 1 = x % 2 := and_mask x 1 (by decide)

/-- 'and not' takes away what both have. -/
theorem bv_and_not (a b : BitVec 64) : (a &&& ~~~b).toNat = a.toNat - (a.toNat &&& b.toNat) := by
  have hz : (a &&& ~~~b) &&& (a &&& b) = 0#64 := by
    ext i hi
    simp only [BitVec.getElem_and, BitVec.getElem_not, BitVec.getElem_zero]
    cases a[i] <;> cases b[i] <;> rfl
  have ho : (a &&& ~~~b) ||| (a &&& b) = a := by
    ext i hi
    simp only [BitVec.getElem_and, BitVec.getElem_not, BitVec.getElem_or]
    cases a[i] <;> cases b[i] <;> rfl
  have h := BitVec.add_eq_or_of_and_eq_zero _ _ hz
  rw [ho] at h
  have hle : (a &&& b).toNat ≤ a.toNat := by rw [BitVec.toNat_and]; exact Nat.and_le_left
  have he : a &&& ~~~b = a - (a &&& b) := by
    exact BitVec.eq_sub_iff_add_eq.2 h
  rw [he, BitVec.toNat_sub_of_le (BitVec.le_def.2 hle), BitVec.toNat_and]
theorem bv_and_not_and (a b : BitVec 64) : (a &&& ~~~b).toNat &&& b.toNat = 0 := by
  rw [← BitVec.toNat_and]
  have hz : (a &&& ~~~b) &&& b = 0#64 := by
    ext i hi
    simp only [BitVec.getElem_and, BitVec.getElem_not, BitVec.getElem_zero]
    cases a[i] <;> cases b[i] <;> rfl
  rw [hz]; rfl
theorem ofInt_nat (a : Nat) (ha : a < 9223372036854775808) : (BitVec.ofInt 64 (a : Int)).toNat = a := by
  rw [BitVec.ofInt_natCast, BitVec.toNat_ofNat]; exact Nat.mod_eq_of_lt (by omega)
theorem andNot_nat (a b : Nat) (ha : a < 9223372036854775808) (hb : b < 9223372036854775808) : bits .andNot .i64 (a : Int) (b : Int) = ((a - (a &&& b) : Nat) : Int) := by
  show IntKind.i64.wrap ((BitVec.ofInt 64 (a : Int) &&& ~~~BitVec.ofInt 64 (b : Int)).toNat : Int) = _
  rw [bv_and_not, ofInt_nat a ha, ofInt_nat b hb]
  exact wrap_i64_id _ (by omega) (by omega)
theorem andNot_and (a b : Nat) (ha : a < 9223372036854775808) (hb : b < 9223372036854775808) : (a - (a &&& b)) &&& b = 0 := by
  have h := bv_and_not_and (BitVec.ofInt 64 (a : Int)) (BitVec.ofInt 64 (b : Int))
  rw [bv_and_not, ofInt_nat a ha, ofInt_nat b hb] at h
  exact h
/-- The 64 bits of an int64, as a natural number. -/
def nat64 (x : Int) : Nat := (x % 18446744073709551616).toNat
theorem nat64_lt (x : Int) : nat64 x < 18446744073709551616 := by unfold nat64; omega
theorem nat64_mod (x : Int) (j : Nat) (hj : j ≤ 64) : ((nat64 x % 2 ^ j : Nat) : Int) = x % 2 ^ j := emod_two_pow x j hj
theorem bitB_nat64 (x : Int) (i : Nat) (hi : i < 64) : bitB x i = (nat64 x).testBit i := by
  rw [Nat.testBit_eq_decide_div_mod_eq]
  unfold bitB nat64
  have h0 : 0 ≤ x % 18446744073709551616 := Int.emod_nonneg _ (by decide)
  rw [← mod_div_mod x i hi]
  congr 1
  have e : (((x % 18446744073709551616).toNat / 2 ^ i % 2 : Nat) : Int) = x % 18446744073709551616 / 2 ^ i % 2 := by
    rw [Int.natCast_emod, Int.natCast_ediv, Int.toNat_of_nonneg h0]
    simp
  rw [← e]
  generalize (x % 18446744073709551616).toNat / 2 ^ i % 2 = q
  apply propext
  constructor
  · intro h; omega
  · intro h; omega
theorem nat_mod_succ (x i : Nat) : x % 2 ^ (i + 1) = x % 2 ^ i + if x.testBit i = true then 2 ^ i else 0 := by
  rw [Nat.mod_pow_succ, Nat.testBit_eq_decide_div_mod_eq]
  have h : x / 2 ^ i % 2 = 0 ∨ x / 2 ^ i % 2 = 1 := by omega
  rcases h with h | h <;> rw [h] <;> simp
/-- The low bits of a number, one by one: the remainder. -/
theorem emod_succ (x : Int) (i : Nat) (hi : i < 64) : x % 2 ^ (i + 1) = x % 2 ^ i + if bitB x i = true then 2 ^ i else 0 := by
  rw [← nat64_mod x (i + 1) (by omega), ← nat64_mod x i (by omega), bitB_nat64 x i hi, nat_mod_succ]
  cases (nat64 x).testBit i <;> simp
/-- What two numbers have both, of the lowest bits. -/
def andLow (x y : Int) : Nat → Int
  | 0 => 0
  | i + 1 => andLow x y i + if (bitB x i && bitB y i) = true then 2 ^ i else 0
theorem andLow_eq (x y : Int) (i : Nat) (hi : i ≤ 64) : andLow x y i = (((nat64 x &&& nat64 y) % 2 ^ i : Nat) : Int) := by
  induction i with
  | zero => simp [andLow, Nat.mod_one]
  | succ i ih =>
    rw [andLow, ih (by omega), bitB_nat64 x i (by omega), bitB_nat64 y i (by omega), nat_mod_succ, Nat.testBit_and]
    cases (nat64 x).testBit i <;> cases (nat64 y).testBit i <;> simp
theorem andLow_bd (x y : Int) (i : Nat) (hi : i ≤ 9) : 0 ≤ andLow x y i ∧ andLow x y i ≤ 511 := by
  rw [andLow_eq x y i (by omega)]
  have h : (nat64 x &&& nat64 y) % 2 ^ i < 2 ^ i := Nat.mod_lt _ (Nat.two_pow_pos i)
  have h2 := two_pow_le i 9 hi
  omega
/-- The mask that the document asks. -/
def umaskI (m k : Int) : Int := m % 4096 - andLow m k 9
theorem and_low9 (m k : Int) : (nat64 m % 4096) &&& (nat64 k % 512) = (nat64 m &&& nat64 k) % 512 := by
  have h1 : (nat64 m % 4096) &&& (nat64 k % 512) < 512 := Nat.lt_of_le_of_lt Nat.and_le_right (Nat.mod_lt _ (by decide))
  have h2 := Nat.and_mod_two_pow (a := nat64 m % 4096) (b := nat64 k % 512) (n := 9)
  have h3 := Nat.and_mod_two_pow (a := nat64 m) (b := nat64 k) (n := 9)
  have e1 : nat64 m % 4096 % 2 ^ 9 = nat64 m % 2 ^ 9 := Nat.mod_mod_of_dvd _ (by decide)
  have e2 : nat64 k % 512 % 2 ^ 9 = nat64 k % 2 ^ 9 := Nat.mod_mod_of_dvd _ (by decide)
  rw [e1, e2, ← h3] at h2
  have e3 : (nat64 m % 4096 &&& nat64 k % 512) % 2 ^ 9 = nat64 m % 4096 &&& nat64 k % 512 := Nat.mod_eq_of_lt h1
  rw [e3] at h2
  exact h2
theorem umask_code (m k : Int) : bits .andNot .i64 (m % 4096) (k % 512) = umaskI m k := by
  have hm : m % 4096 = ((nat64 m % 4096 : Nat) : Int) := (nat64_mod m 12 (by decide)).symm
  have hk : k % 512 = ((nat64 k % 512 : Nat) : Int) := (nat64_mod k 9 (by decide)).symm
  have h1 : nat64 m % 4096 < 4096 := Nat.mod_lt _ (by decide)
  have h2 : nat64 k % 512 < 512 := Nat.mod_lt _ (by decide)
  unfold umaskI
  rw [hm, hk, andNot_nat _ _ (by omega) (by omega), andLow_eq m k 9 (by decide), and_low9]
  have h3 : (nat64 m &&& nat64 k) % 512 ≤ nat64 m % 4096 := by rw [← and_low9]; exact Nat.and_le_left
  show _ = ((nat64 m % 4096 : Nat) : Int) - (((nat64 m &&& nat64 k) % 512 : Nat) : Int)
  omega
/-- The masked mode as a natural number, with none of the mask's bits. -/
theorem umask_nat (m k : Int) : ∃ u : Nat, umaskI m k = u ∧ u < 4096 ∧ u &&& (nat64 k % 512) = 0 := by
  have h1 : nat64 m % 4096 < 4096 := Nat.mod_lt _ (by decide)
  have h2 : nat64 k % 512 < 512 := Nat.mod_lt _ (by decide)
  have hm : m % 4096 = ((nat64 m % 4096 : Nat) : Int) := (nat64_mod m 12 (by decide)).symm
  have hk : k % 512 = ((nat64 k % 512 : Nat) : Int) := (nat64_mod k 9 (by decide)).symm
  refine ⟨nat64 m % 4096 - (nat64 m % 4096 &&& nat64 k % 512), ?_, by omega, andNot_and _ _ (by omega) (by omega)⟩
  rw [← umask_code, hm, hk, andNot_nat _ _ (by omega) (by omega)]
theorem umask_bd (m k : Int) : 0 ≤ umaskI m k ∧ umaskI m k < 4096 := by
  obtain ⟨u, e, h, _⟩ := umask_nat m k
  omega
theorem nat64_of (u : Nat) (h : u < 4096) : nat64 u = u := by unfold nat64; omega
theorem umask_twice (m k : Int) : umaskI (umaskI m k) k = umaskI m k := by
  obtain ⟨u, e, h, hz⟩ := umask_nat m k
  rw [e]
  have h3 := and_low9 u k
  rw [nat64_of u h, Nat.mod_eq_of_lt h, hz] at h3
  unfold umaskI
  rw [andLow_eq _ _ 9 (by decide), nat64_of u h]
  show (u : Int) % 4096 - (((u &&& nat64 k) % 512 : Nat) : Int) = u
  rw [← h3]; omega
theorem umask_none (m k : Int) : bits .and .i64 (bits .and .i64 (umaskI m k) k) 511 = 0 := by
  obtain ⟨u, e, h, hz⟩ := umask_nat m k
  rw [e, and_511]
  have h3 := and_low9 u k
  rw [nat64_of u h, Nat.mod_eq_of_lt h, hz] at h3
  have hb : bits .and .i64 (u : Int) k = ((u &&& nat64 k : Nat) : Int) := by
    show IntKind.i64.wrap ((BitVec.ofInt 64 (u : Int) &&& BitVec.ofInt 64 k).toNat : Int) = _
    rw [BitVec.toNat_and, ofInt_nat u (by omega), toNat_ofInt64]
    have hle : u &&& nat64 k ≤ u := Nat.and_le_left
    exact wrap_i64_id _ (by unfold nat64 at hle; omega) (by unfold nat64 at hle; omega)
  rw [hb]
  omega
end Go.Proofs.YtmjfbpiodamamaaGreatDoor
namespace Go.Proofs.YtmjfbpiodamamaaGreatDoor
open Go.Sort Go.RowKit

/-- The letter of a digit below 16. -/
def dgc (d : Nat) : UInt8 := if d < 10 then UInt8.ofNat (48 + d) else UInt8.ofNat (87 + d)
theorem dgc_lt (d : Nat) (h : d < 10) : (dgc d).toNat = 48 + d := by
  unfold dgc; rw [if_pos h, UInt8.toNat_ofNat']; omega
theorem dgc_ge (d : Nat) (h : 10 ≤ d) (h2 : d < 16) : (dgc d).toNat = 87 + d := by
  unfold dgc; rw [if_neg (by omega), UInt8.toNat_ofNat']; omega
theorem dgc_inj (a b : Nat) (ha : a < 16) (hb : b < 16) (h : dgc a = dgc b) : a = b := by
  have h2 : (dgc a).toNat = (dgc b).toNat := by rw [h]
  rcases Nat.lt_or_ge a 10 with ha' | ha' <;> rcases Nat.lt_or_ge b 10 with hb' | hb'
  · rw [dgc_lt a ha', dgc_lt b hb'] at h2; omega
  · rw [dgc_lt a ha', dgc_ge b hb' hb] at h2; omega
  · rw [dgc_ge a ha' ha, dgc_lt b hb'] at h2; omega
  · rw [dgc_ge a ha' ha, dgc_ge b hb' hb] at h2; omega

/-- The L lowest digits of u, the highest first. -/
def digL (b u L : Nat) : List UInt8 := (List.range L).map fun j => dgc (u / b ^ (L - 1 - j) % b)
theorem digL_length (b u L : Nat) : (digL b u L).length = L := by simp [digL]
theorem digL_get (b u L j : Nat) (h : j < (digL b u L).length) : (digL b u L)[j] = dgc (u / b ^ (L - 1 - j) % b) := by simp [digL]
theorem digL_zero (b u : Nat) : digL b u 0 = [] := rfl
theorem digL_succ (b u L : Nat) : digL b u (L + 1) = dgc (u / b ^ L % b) :: digL b u L := by
  apply List.ext_getElem
  · simp [digL_length]
  · intro j h1 h2
    rw [digL_get]
    cases j with
    | zero => simp
    | succ j =>
      rw [List.getElem_cons_succ, digL_get]
      have : L + 1 - 1 - (j + 1) = L - 1 - j := by omega
      rw [this]
/-- Leading zeros. -/
theorem digL_pad (b u L k : Nat) (hb : 0 < b) (h : u < b ^ L) : digL b u (k + L) = List.replicate k 48 ++ digL b u L := by
  induction k with
  | zero => simp
  | succ k ih =>
    have e : k + 1 + L = (k + L) + 1 := by omega
    have hlt : u < b ^ (k + L) := Nat.lt_of_lt_of_le h (Nat.pow_le_pow_right hb (by omega))
    rw [e, digL_succ, ih, Nat.div_eq_of_lt hlt, Nat.zero_mod, List.replicate_succ]
    rfl
theorem pow_bd (b u k : Nat) (hb : 8 ≤ b) (hu : u < 18446744073709551616) (h : b ^ k ≤ u) : k ≤ 21 := by
  rcases Nat.lt_or_ge 21 k with hk | hk
  · have h1 : 8 ^ 22 ≤ 8 ^ k := Nat.pow_le_pow_right (by decide) hk
    have h2 : 8 ^ k ≤ b ^ k := Nat.pow_le_pow_left hb k
    have h3 : (8 : Nat) ^ 22 = 73786976294838206464 := by decide
    omega
  · exact hk

/-- WHAT THE BUFFER OF 65 BYTES HOLDS: from place i on the digits, v what is left of u. -/
structure FInv (b u i v : Nat) (dk : Array UInt8) : Prop where
  size : dk.size = 65
  le : i ≤ 65
  rest : v = u / b ^ (65 - i)
  done : ∀ t, i ≤ t → t < 65 → dk[t]! = dgc (u / b ^ (64 - t) % b)
  pos : i = 65 ∨ 1 ≤ v
theorem FInv.start (b u : Nat) (dk : Array UInt8) (h : dk.size = 65) : FInv b u 65 u dk :=
  ⟨h, Nat.le_refl _, by simp, fun t h1 h2 => by omega, Or.inl rfl⟩
theorem FInv.low {b u i v : Nat} {dk : Array UInt8} (h : FInv b u i v dk) (hb : 8 ≤ b) (hu : u < 18446744073709551616) : 44 ≤ i := by
  rcases h.pos with hp | hp
  · omega
  · have hle := h.le
    have hr := h.rest
    have hb0 : 0 < b ^ (65 - i) := Nat.pow_pos (by omega)
    have h1 : b ^ (65 - i) ≤ u := by
      rw [hr] at hp
      rcases Nat.lt_or_ge u (b ^ (65 - i)) with hlt | hge
      · rw [Nat.div_eq_of_lt hlt] at hp; omega
      · exact hge
    have := pow_bd b u (65 - i) hb hu h1
    omega
theorem getElem!_set_same' (d : Array UInt8) (i : Nat) (x : UInt8) (h : i < d.size) : (d.setIfInBounds i x)[i]! = x := by
  rw [getElem!_pos _ i (by simpa using h)]; simp
theorem getElem!_set_other' (d : Array UInt8) (i j : Nat) (x : UInt8) (h : j ≠ i) : (d.setIfInBounds i x)[j]! = d[j]! := by
  simp only [getElem!_def, Array.getElem?_setIfInBounds]
  rw [if_neg (fun e => h e.symm)]
theorem FInv.step {b u i v : Nat} {dk : Array UInt8} (h : FInv b u (i + 1) v dk) (hb : 0 < b) (hv : b ≤ v) : FInv b u i (v / b) (dk.setIfInBounds i (dgc (v % b))) where
  size := by simpa using h.size
  le := by have := h.le; omega
  rest := by
    have hle := h.le
    have e : 65 - i = (65 - (i + 1)) + 1 := by omega
    rw [h.rest, e, Nat.pow_succ, Nat.div_div_eq_div_mul]
  done := fun t h1 h2 => by
    have hs := h.size
    by_cases ht : t = i
    · subst ht
      rw [getElem!_set_same' _ _ _ (by omega), h.rest]
      have e : 65 - (t + 1) = 64 - t := by omega
      rw [e]
    · rw [getElem!_set_other' _ _ _ _ ht]
      exact h.done t (by omega) h2
  pos := by
    right; exact (Nat.one_le_div_iff hb).2 hv
/-- The last digit: the row reads as the numeral. -/
theorem FInv.last {b u i v : Nat} {dk : Array UInt8} (h : FInv b u (i + 1) v dk) (hv : v < b) :
    (∀ j (hj : j < (digL b u (65 - i)).length), (digL b u (65 - i))[j] = (dk.setIfInBounds i (dgc v))[i + j]!) ∧ u < b ^ (65 - i) := by
  have hle := h.le
  have hs := h.size
  constructor
  · intro j hj
    rw [digL_get]
    rw [digL_length] at hj
    have e : 65 - i - 1 - j = 64 - (i + j) := by omega
    rw [e]
    by_cases hj0 : j = 0
    · subst hj0
      rw [Nat.add_zero, getElem!_set_same' _ _ _ (by omega)]
      have e2 : 64 - i = 65 - (i + 1) := by omega
      rw [e2, ← h.rest, Nat.mod_eq_of_lt hv]
    · rw [getElem!_set_other' _ _ _ _ (by omega)]
      rw [h.done (i + j) (by omega) (by omega)]
  · have hr := h.rest
    rw [hr] at hv
    have e2 : 65 - i = (65 - (i + 1)) + 1 := by omega
    have hb : 0 < b := by omega
    rw [e2, Nat.pow_succ]
    rw [Nat.mul_comm]
    exact (Nat.div_lt_iff_lt_mul (Nat.pow_pos hb)).1 hv
end Go.Proofs.YtmjfbpiodamamaaGreatDoor
namespace Go.Proofs.YtmjfbpiodamamaaGreatDoor
def lo (c : UInt8) : Nat := c.toNat ||| 32
def dv (c : UInt8) : Option Nat := if 48 ≤ c.toNat ∧ c.toNat ≤ 57 then some (c.toNat - 48) else if 97 ≤ lo c ∧ lo c ≤ 122 then some (lo c - 87) else none
def dvb (b : Nat) (c : UInt8) : Option Nat := match dv c with
  | some d => if d < b then some d else none
  | none => none
def pv (b : Nat) : Nat → List UInt8 → Option Nat
  | acc, [] => some acc
  | acc, c :: l => match dvb b c with
    | some d => pv b (acc * b + d) l
    | none => none
theorem pv_some {b acc d : Nat} {c : UInt8} {l : List UInt8} (h : dvb b c = some d) : pv b acc (c :: l) = pv b (acc * b + d) l := by rw [pv, h]
theorem pv_none {b acc : Nat} {c : UInt8} {l : List UInt8} (h : dvb b c = none) : pv b acc (c :: l) = none := by rw [pv, h]
theorem dv_fin : ∀ q : Fin 16, dv (dgc q.val) = some q.val := by decide +kernel
theorem dvb_dgc (b q : Nat) (hq : q < b) (hb : b ≤ 16) : dvb b (dgc q) = some q := by
  have h := dv_fin ⟨q, by omega⟩
  simp only at h
  unfold dvb
  rw [h]
  simp [hq]
theorem pv_digL (b u : Nat) (hb : 0 < b) (hb2 : b ≤ 16) : ∀ (L acc : Nat), pv b acc (digL b u L) = some (acc * b ^ L + u % b ^ L)
  | 0, acc => by rw [digL_zero, pv]; simp [Nat.mod_one]
  | L + 1, acc => by
    rw [digL_succ, pv_some (dvb_dgc b _ (Nat.mod_lt _ hb) hb2), pv_digL b u hb hb2 L, Nat.mod_pow_succ, Nat.pow_succ]
    congr 1
    rw [Nat.add_mul, Nat.mul_assoc acc b, Nat.mul_comm b (b ^ L), Nat.mul_comm (u / b ^ L % b)]
    omega
theorem pv_lt (b : Nat) : ∀ (l : List UInt8) (acc n : Nat), pv b acc l = some n → n < (acc + 1) * b ^ l.length
  | [], acc, n, h => by rw [pv] at h; cases h; simp
  | c :: l, acc, n, h => by
    cases hd : dvb b c with
    | none => rw [pv_none hd] at h; cases h
    | some d =>
      rw [pv_some hd] at h
      have h1 := pv_lt b l _ _ h
      have hdb : d < b := by
        unfold dvb at hd
        split at hd
        · split at hd
          · rename_i hlt; cases hd; exact hlt
          · cases hd
        · cases hd
      have h2 : acc * b + d + 1 ≤ (acc + 1) * b := by rw [Nat.add_mul]; omega
      have h3 := Nat.mul_le_mul_right (b ^ l.length) h2
      rw [List.length_cons, Nat.pow_succ, Nat.mul_comm (b ^ l.length) b, ← Nat.mul_assoc]
      omega
/-- THE TEXT IS THE NUMERAL OF A NUMBER, of just that width: or it is none. -/
def numOf (b W : Nat) (l : List UInt8) : Option Nat := match pv b 0 l with
  | some n => if digL b n W = l then some n else none
  | none => none
theorem numOf_digL (b W u : Nat) (hb : 0 < b) (hb2 : b ≤ 16) (hu : u < b ^ W) : numOf b W (digL b u W) = some u := by
  have h := pv_digL b u hb hb2 W 0
  rw [Nat.mod_eq_of_lt hu, Nat.zero_mul, Nat.zero_add] at h
  unfold numOf
  rw [h]
  simp
theorem numOf_some {b W n : Nat} {l : List UInt8} (h : numOf b W l = some n) : digL b n W = l := by
  unfold numOf at h
  split at h
  · split at h
    · rename_i e; cases h; exact e
    · cases h
  · cases h
theorem numOf_len {b W n : Nat} {l : List UInt8} (h : numOf b W l = some n) : l.length = W := by rw [← numOf_some h, digL_length]
theorem numOf_lt {b W n : Nat} {l : List UInt8} (hl : l.length = W) (h : numOf b W l = some n) : n < b ^ W := by
  unfold numOf at h
  split at h
  · rename_i m hm
    split at h
    · cases h
      have := pv_lt b l 0 n hm
      rw [hl] at this
      omega
    · cases h
  · cases h
theorem numOf_none (b W : Nat) (l : List UInt8) (hb : 0 < b) (hb2 : b ≤ 16) (h : numOf b W l = none) (u : Nat) (hu : u < b ^ W) : digL b u W ≠ l := by
  intro e
  rw [← e, numOf_digL b W u hb hb2 hu] at h
  cases h
end Go.Proofs.YtmjfbpiodamamaaGreatDoor
