/-
  The plain mathematics of decimal numerals: Go's library reads a number's numeral as that number; so does the reference; and which number a text is the numeral of. No program here.
-/
import Derived.Lib.ItoaNum
import Derived.Lib.AtoiAll
import Derived.Laws.BitsAllLaws
import Derived.Test.YtmjfbpiodamamaaGreatDoorParseMath
namespace Go.Proofs.YtmjfbpiodamamaaGreatDoor
theorem digit_toNat (d : Nat) (h : d < 10) : (UInt8.ofNat (48 + d)).toNat = 48 + d := by rw [UInt8.toNat_ofNat']; omega
theorem dec_big (u : Nat) (h : ¬ u < 10) : Lib.decDigits u = Lib.decDigits (u / 10) ++ [UInt8.ofNat (48 + u % 10)] := by rw [Lib.decDigits, dif_neg h]
theorem dec_small (u : Nat) (h : u < 10) : Lib.decDigits u = [UInt8.ofNat (48 + u)] := by rw [Lib.decDigits, dif_pos h]
theorem dec_digits (u : Nat) : ∀ c ∈ Lib.decDigits u, 48 ≤ c.toNat ∧ c.toNat ≤ 57 := by
  induction u using Nat.strongRecOn with
  | _ u ih =>
    intro c hc
    by_cases h : u < 10
    · rw [dec_small u h] at hc
      simp only [List.mem_singleton] at hc
      rw [hc, digit_toNat u h]; omega
    · rw [dec_big u h, List.mem_append] at hc
      rcases hc with hc | hc
      · exact ih (u / 10) (by omega) c hc
      · simp only [List.mem_singleton] at hc
        rw [hc, digit_toNat _ (by omega)]; omega
theorem dec_ne (u : Nat) : Lib.decDigits u ≠ [] := by
  by_cases h : u < 10
  · rw [dec_small u h]; simp
  · rw [dec_big u h]; simp
theorem pu_append : ∀ (l r : List UInt8) (acc a : Nat), Lib.parseUint10 acc l = .ok a → Lib.parseUint10 acc (l ++ r) = Lib.parseUint10 a r
  | [], r, acc, a, h => by
    simp only [Lib.parseUint10, Lib.NumEnd.ok.injEq] at h
    rw [List.nil_append, h]
  | c :: l, r, acc, a, h => by
    rw [List.cons_append]
    simp only [Lib.parseUint10] at h ⊢
    split at h
    · rename_i h1
      rw [if_pos h1]
      split at h
      · cases h
      · rename_i h2
        rw [if_neg h2]
        split at h
        · cases h
        · rename_i h3
          rw [if_neg h3]
          exact pu_append l r _ a h
    · cases h
theorem pu_one (acc d : Nat) (hd : d < 10) (h : acc * 10 + d < 18446744073709551616) : Lib.parseUint10 acc [UInt8.ofNat (48 + d)] = .ok (acc * 10 + d) := by
  have e := digit_toNat d hd
  simp only [Lib.parseUint10, e]
  rw [if_pos (by omega), if_neg (by omega), if_neg (by omega)]
  congr 1
  omega
theorem pu_dec (u : Nat) (h : u < 18446744073709551616) : Lib.parseUint10 0 (Lib.decDigits u) = .ok u := by
  induction u using Nat.strongRecOn with
  | _ u ih =>
    by_cases hs : u < 10
    · rw [dec_small u hs, pu_one 0 u hs (by omega)]; congr 1; omega
    · rw [dec_big u hs, pu_append _ _ 0 (u / 10) (ih (u / 10) (by omega) (by omega)), pu_one _ _ (by omega) (by omega)]
      congr 1
      omega
theorem mag_dec (u : Nat) (h : u < 18446744073709551616) : Lib.parseMag (Lib.decDigits u) = .ok u := by
  unfold Lib.parseMag
  rw [if_neg (dec_ne u), pu_dec u h]
/-- GO's LIBRARY READS A NUMBER's NUMERAL AS THAT NUMBER. -/
theorem atoi_itoa (n : Int) (h0 : -9223372036854775808 ≤ n) (h1 : n ≤ 9223372036854775807) : Lib.atoiAll (Lib.itoa n) = .ok n := by
  unfold Lib.itoa
  by_cases hn : n < 0
  · rw [if_pos hn]
    have e45 : (45 : UInt8).toNat = 45 := rfl
    simp only [Lib.atoiAll, e45, or_true, if_true, mag_dec n.natAbs (by omega)]
    rw [if_neg (by simp), if_neg (by simp; omega)]
    congr 1
    omega
  · rw [if_neg hn]
    obtain ⟨u, rfl⟩ : ∃ u : Nat, n = u := ⟨n.toNat, by omega⟩
    have hm := mag_dec u (by omega)
    have hd := dec_digits u
    rw [Int.toNat_natCast]
    cases hl : Lib.decDigits u with
    | nil => exact absurd hl (dec_ne u)
    | cons c r =>
      rw [hl] at hm hd
      have hc := hd c (by simp)
      simp only [Lib.atoiAll]
      rw [if_neg (by omega), hm]
      simp only
      rw [if_neg (by omega), if_neg (by omega), if_neg (by omega)]
/-- The reference's value of a text's digits, modulo 2^64; a '-' anywhere is passed over. -/
def ustep (u : Nat) (c : UInt8) : Nat := if c.toNat = 45 then u else (IntKind.u64.wrap (IntKind.u64.wrap (IntKind.u64.wrap (10 * (u : Int)) + c.toNat) - 48)).toNat
def uval (l : List UInt8) : Nat := l.foldl ustep 0
theorem uval_snoc (l : List UInt8) (c : UInt8) : uval (l ++ [c]) = ustep (uval l) c := by unfold uval; rw [List.foldl_append, List.foldl_cons, List.foldl_nil]
theorem wrap_u64_nonneg (n : Int) : 0 ≤ IntKind.u64.wrap n ∧ IntKind.u64.wrap n < 18446744073709551616 := by rw [IntKind.wrap_u64]; omega
theorem ustep_lt (u : Nat) (c : UInt8) (h : u < 18446744073709551616) : ustep u c < 18446744073709551616 := by
  unfold ustep
  split
  · exact h
  · have := wrap_u64_nonneg (IntKind.u64.wrap (IntKind.u64.wrap (10 * (u : Int)) + c.toNat) - 48)
    omega
theorem uval_lt (l : List UInt8) : uval l < 18446744073709551616 := by
  rcases List.eq_nil_or_concat l with rfl | ⟨l', c, rfl⟩
  · show 0 < 18446744073709551616
    omega
  · have : ∀ (m : List UInt8) (a : Nat), a < 18446744073709551616 → m.foldl ustep a < 18446744073709551616 := by
      intro m
      induction m with
      | nil => intro a h; exact h
      | cons c m ih => intro a h; exact ih _ (ustep_lt a c h)
    exact this _ 0 (by omega)
theorem ustep_digit (a d : Nat) (hd : d < 10) (h : a * 10 + d < 18446744073709551616) : ustep a (UInt8.ofNat (48 + d)) = a * 10 + d := by
  unfold ustep
  rw [digit_toNat d hd, if_neg (by omega)]
  simp only [IntKind.wrap_u64]
  omega
theorem uval_dec (u : Nat) (h : u < 18446744073709551616) : (Lib.decDigits u).foldl ustep 0 = u := by
  induction u using Nat.strongRecOn with
  | _ u ih =>
    by_cases hs : u < 10
    · rw [dec_small u hs, List.foldl_cons, List.foldl_nil, ustep_digit 0 u hs (by omega)]; omega
    · rw [dec_big u hs, List.foldl_append, ih (u / 10) (by omega) (by omega), List.foldl_cons, List.foldl_nil, ustep_digit _ _ (by omega) (by omega)]
      omega
/-- The reference's int of a text. -/
def rI (l : List UInt8) : Int := IntKind.i64.wrap (if l.head? = some 45 then IntKind.u64.wrap (-(uval l : Int)) else (uval l : Int))
theorem rI_bd (l : List UInt8) : -9223372036854775808 ≤ rI l ∧ rI l ≤ 9223372036854775807 := by
  unfold rI; rw [IntKind.wrap_i64]; omega
theorem rI_itoa (n : Int) (h0 : -9223372036854775808 ≤ n) (h1 : n ≤ 9223372036854775807) : rI (Lib.itoa n) = n := by
  unfold rI Lib.itoa
  by_cases hn : n < 0
  · rw [if_pos hn, List.head?_cons, if_pos rfl]
    have e : uval (45 :: Lib.decDigits n.natAbs) = n.natAbs := by
      unfold uval
      rw [List.foldl_cons]
      have e2 : ustep 0 45 = 0 := by unfold ustep; rw [if_pos (show (45 : UInt8).toNat = 45 from rfl)]
      rw [e2, uval_dec _ (by omega)]
    rw [e, IntKind.wrap_u64, IntKind.wrap_i64]
    omega
  · rw [if_neg hn]
    have hd := dec_digits n.toNat
    have hh : ¬ (Lib.decDigits n.toNat).head? = some 45 := by
      intro h
      have := hd 45 (List.mem_of_mem_head? h)
      have e45 : (45 : UInt8).toNat = 45 := rfl
      omega
    rw [if_neg hh]
    unfold uval
    rw [uval_dec _ (by omega), IntKind.wrap_i64]
    omega
/-- THE NUMBER WHOSE NUMERAL A TEXT IS: or it is none's. -/
def numI (l : List UInt8) : Option Int := if Lib.itoa (rI l) = l then some (rI l) else none
theorem numI_itoa (n : Int) (h0 : -9223372036854775808 ≤ n) (h1 : n ≤ 9223372036854775807) : numI (Lib.itoa n) = some n := by
  unfold numI; rw [rI_itoa n h0 h1, if_pos rfl]
theorem numI_some {l : List UInt8} {n : Int} (h : numI l = some n) : Lib.itoa n = l ∧ -9223372036854775808 ≤ n ∧ n ≤ 9223372036854775807 := by
  unfold numI at h
  split at h
  · rename_i e
    cases h
    exact ⟨e, rI_bd l⟩
  · cases h
theorem nDigits_le (u : Nat) : ∀ k, u < 10 ^ k → 1 ≤ k → Lib.nDigits u ≤ k := by
  induction u using Nat.strongRecOn with
  | _ u ih =>
    intro k hk h1
    unfold Lib.nDigits
    split
    · exact h1
    · rename_i hs
      rcases Nat.lt_or_ge k 2 with h2 | h2
      · have : k = 1 := by omega
        subst this
        omega
      · obtain ⟨j, rfl⟩ : ∃ j, k = j + 1 := ⟨k - 1, by omega⟩
        have := ih (u / 10) (by omega) j (by rw [Nat.pow_succ] at hk; omega) (by omega)
        omega
theorem itoa_len (n : Int) (h0 : -9223372036854775808 ≤ n) (h1 : n ≤ 9223372036854775807) : (Lib.itoa n).length ≤ 20 := by
  have e : (10 : Nat) ^ 19 = 10000000000000000000 := by decide
  unfold Lib.itoa
  split
  · rw [List.length_cons, Lib.decDigits_length]
    have := nDigits_le n.natAbs 19 (by omega) (by omega)
    omega
  · rw [Lib.decDigits_length]
    have := nDigits_le n.toNat 19 (by omega) (by omega)
    omega
theorem numI_len {l : List UInt8} {n : Int} (h : numI l = some n) : l.length ≤ 20 := by
  obtain ⟨e, h0, h1⟩ := numI_some h
  rw [← e]; exact itoa_len n h0 h1
end Go.Proofs.YtmjfbpiodamamaaGreatDoor
