/-
  The plain mathematics of May: three bits under three bits, and what 'and' does to single bits. No program here, no conditions but those that each lemma states.
-/
import Derived.Test.YtgoekfonbpffdaaDoorBitsMath
namespace Go.Proofs.YtgoekfonbpffdaaDoor
theorem and_low (A c k : Nat) (h : c < 2 ^ k) : A &&& c = (A % 2 ^ k) &&& c := by
  have h1 := Nat.and_mod_two_pow (a := A) (b := c) (n := k)
  have h2 : A &&& c < 2 ^ k := Nat.lt_of_le_of_lt Nat.and_le_right h
  rw [Nat.mod_eq_of_lt h2, Nat.mod_eq_of_lt h] at h1
  exact h1
theorem and_nat64 (a : Int) (c : Nat) (h : c < 9223372036854775808) : bits .and .i64 a (c : Int) = ((nat64 a &&& c : Nat) : Int) := by
  show IntKind.i64.wrap ((BitVec.ofInt 64 a &&& BitVec.ofInt 64 (c : Int)).toNat : Int) = _
  rw [BitVec.toNat_and, ofInt_nat c h, toNat_ofInt64]
  have hle : nat64 a &&& c ≤ c := Nat.and_le_right
  exact wrap_i64_id _ (by unfold nat64 at hle; omega) (by unfold nat64 at hle; omega)
theorem nat64_and (x y : Int) : nat64 (bits .and .i64 x y) = nat64 x &&& nat64 y := by
  have e : bits .and .i64 x y = IntKind.i64.wrap ((nat64 x &&& nat64 y : Nat) : Int) := by
    show IntKind.i64.wrap ((BitVec.ofInt 64 x &&& BitVec.ofInt 64 y).toNat : Int) = _
    rw [BitVec.toNat_and, toNat_ofInt64, toNat_ofInt64]; rfl
  have hle : nat64 x &&& nat64 y ≤ nat64 x := Nat.and_le_left
  have hlt := nat64_lt x
  rw [e, IntKind.wrap_i64]
  unfold nat64 at hle hlt ⊢
  omega
theorem bitB_and (x y : Int) (i : Nat) (hi : i < 64) : bitB (bits .and .i64 x y) i = (bitB x i && bitB y i) := by
  rw [bitB_nat64 _ i hi, bitB_nat64 x i hi, bitB_nat64 y i hi, nat64_and, Nat.testBit_and]
theorem bitB_shift (m : Int) (s i : Nat) : bitB (m / 2 ^ s) i = bitB m (s + i) := by
  unfold bitB
  rw [Int.ediv_ediv_of_nonneg (Int.le_of_lt (Int.pow_pos (by decide))), ← Int.pow_add]
theorem bitB_low (x : Int) (k i : Nat) (hi : i < k) (hk : k ≤ 64) : bitB x i = (nat64 x % 2 ^ k).testBit i := by
  rw [bitB_nat64 x i (by omega), Nat.testBit_mod_two_pow]
  simp [hi]
/-- All that is wanted (three bits) is there (three bits from 'low' on). -/
def ok3 (m : Int) (low : Nat) (want : Int) : Bool := (!bitB want 0 || bitB m low) && (!bitB want 1 || bitB m (low + 1)) && (!bitB want 2 || bitB m (low + 2))
theorem fin8 : ∀ x y : Fin 8, ((x.val &&& y.val) == y.val) = ((!y.val.testBit 0 || x.val.testBit 0) && (!y.val.testBit 1 || x.val.testBit 1) && (!y.val.testBit 2 || x.val.testBit 2)) := by decide +kernel
theorem fin128 : ∀ x : Fin 128, ((x.val &&& 73) != 0) = (x.val.testBit 0 || x.val.testBit 3 || x.val.testBit 6) := by decide +kernel
theorem ok3_code (a want : Int) : (bits .and .i64 a (want % 8) == want % 8) = ok3 a 0 want := by
  have hw : want % 8 = ((nat64 want % 8 : Nat) : Int) := (nat64_mod want 3 (by decide)).symm
  have hlt : nat64 want % 8 < 8 := Nat.mod_lt _ (by decide)
  have h := fin8 ⟨nat64 a % 8, Nat.mod_lt _ (by decide)⟩ ⟨nat64 want % 8, hlt⟩
  rw [hw, and_nat64 a _ (by omega), and_low (nat64 a) (nat64 want % 8) 3 hlt]
  unfold ok3
  rw [bitB_low want 3 0 (by decide) (by decide), bitB_low want 3 1 (by decide) (by decide), bitB_low want 3 2 (by decide) (by decide), bitB_low a 3 0 (by decide) (by decide), bitB_low a 3 (0 + 1) (by decide) (by decide), bitB_low a 3 (0 + 2) (by decide) (by decide)]
  show ((((nat64 a % 8) &&& (nat64 want % 8) : Nat) : Int) == ((nat64 want % 8 : Nat) : Int)) = _
  have e : ((((nat64 a % 8) &&& (nat64 want % 8) : Nat) : Int) == ((nat64 want % 8 : Nat) : Int)) = (((nat64 a % 8) &&& (nat64 want % 8)) == (nat64 want % 8)) := by
    rw [Bool.eq_iff_iff, beq_iff_eq, beq_iff_eq]; omega
  rw [e]
  exact h
theorem ok3_shift (m : Int) (s : Nat) (want : Int) : ok3 (m / 2 ^ s) 0 want = ok3 m s want := by
  unfold ok3
  rw [bitB_shift, bitB_shift, bitB_shift]
  simp only [Nat.add_zero, Nat.zero_add]
theorem exec_code (m : Int) : (bits .and .i64 m 73 != 0) = (bitB m 0 || bitB m 3 || bitB m 6) := by
  have h := fin128 ⟨nat64 m % 128, Nat.mod_lt _ (by decide)⟩
  have e := and_nat64 m 73 (by omega)
  rw [and_low (nat64 m) 73 7 (by decide)] at e
  rw [bitB_low m 7 0 (by decide) (by decide), bitB_low m 7 3 (by decide) (by decide), bitB_low m 7 6 (by decide) (by decide)]
  have e2 : bits .and .i64 m 73 = (((nat64 m % 128) &&& 73 : Nat) : Int) := e
  rw [e2]
  have e3 : ((((nat64 m % 128) &&& 73 : Nat) : Int) != 0) = (((nat64 m % 128) &&& 73) != 0) := by
    rw [Bool.eq_iff_iff]; simp
  rw [e3]
  exact h
theorem want_code (want : Int) : (bits .and .i64 (want % 8) 1 == 0) = !bitB want 0 := by
  rw [and_1]
  unfold bitB
  rw [Bool.eq_iff_iff]
  simp
  omega
/-- Whether one may do all that is wanted. -/
def mayB (m u g uid gid want : Int) : Bool :=
  if uid = 0 then !bitB want 0 || (bitB m 0 || bitB m 3 || bitB m 6)
  else if uid = u then ok3 m 6 want else if gid = g then ok3 m 3 want else ok3 m 0 want
theorem may_less (m u g uid gid want less : Int) (h : mayB m u g uid gid want = true) : mayB m u g uid gid (bits .and .i64 want less) = true := by
  have ok : ∀ s, ok3 m s want = true → ok3 m s (bits .and .i64 want less) = true := fun s hs => by
    unfold ok3 at hs ⊢
    rw [bitB_and want less 0 (by decide), bitB_and want less 1 (by decide), bitB_and want less 2 (by decide)]
    revert hs
    cases bitB want 0 <;> cases bitB want 1 <;> cases bitB want 2 <;> cases bitB less 0 <;> cases bitB less 1 <;> cases bitB less 2 <;> simp <;> intros <;> simp [*]
  unfold mayB at h ⊢
  rw [bitB_and want less 0 (by decide)]
  split
  · rename_i hu
    rw [if_pos hu] at h
    revert h
    cases bitB want 0 <;> cases bitB less 0 <;> simp
  · rename_i hu
    rw [if_neg hu] at h
    split
    · rename_i h2; rw [if_pos h2] at h; exact ok 6 h
    · rename_i h2; rw [if_neg h2] at h
      split
      · rename_i h3; rw [if_pos h3] at h; exact ok 3 h
      · rename_i h3; rw [if_neg h3] at h; exact ok 0 h
end Go.Proofs.YtgoekfonbpffdaaDoor
