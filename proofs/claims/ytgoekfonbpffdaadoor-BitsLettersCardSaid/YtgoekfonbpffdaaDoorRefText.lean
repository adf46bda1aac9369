/-
  The reference's Octal, Hex, Sum, ParseOctal and ParseHex: what each returns for every argument (a text of at most 1000 bytes, of at most 4000 for the sum); the world stays as it was.
-/
import Derived.Test.YtgoekfonbpffdaaDoorBase
import Derived.Test.YtgoekfonbpffdaaDoorParseMath
namespace Go.Proofs.YtgoekfonbpffdaaDoor
open Go.RowKit Go.Sort
theorem enc_fin : ∀ d : Fin 16, Utf8.encode ((dgc d.val).toNat : Int) = ⟨#[dgc d.val]⟩ := by decide +kernel
theorem rune_at (d : Nat) (hd : d < 16) (z : Int) (hz : z = ((dgc d).toNat : Int)) (w : World) : (convert 21 9 (.int .i32 z)).run Tryd.prog w = .ok (.string ⟨#[dgc d]⟩) w := by
  rw [run_convert_int_string w 21 9 .i32 _ (by kernel_rfl) Tryd.underlying9, hz]
  have h := enc_fin ⟨d, hd⟩
  simp only at h
  rw [h]
theorem digL_cons (b u k : Nat) : (ByteArray.mk #[dgc (u / b ^ k % b)] ++ ByteArray.mk (digL b u k).toArray) = ByteArray.mk (digL b u (k + 1)).toArray := by
  rw [str_append, digL_succ]
  congr 1
  simp
set_option maxHeartbeats 1000000 in
theorem octal_ref (m : Int) (w : World) :
    Calls Tryd.prog 14 #[.int .i64 m] w fun e w' => e = .returned (.string ⟨(digL 8 (nat64 m % 4096) 4).toArray⟩) ∧ w = w' := by
  have hq : m % 4096 = ((nat64 m % 4096 : Nat) : Int) := (nat64_mod m 12 (by decide)).symm
  have hlt : nat64 m % 4096 < 4096 := Nat.mod_lt _ (by decide)
  have C := fun w => low_any m 12 (by omega) w
  have e12 : (2 : Int) ^ 12 = 4096 := by decide
  rw [e12, hq] at C
  generalize nat64 m % 4096 = q at *
  clear hq e12
  go_enter Tryd.func14, Tryd.ntmps14
  go_wp2_with (go_at_call 16; refine (C _).mono ?_; rintro e w' ⟨rfl, rfl⟩)
  clear C
  go_loop [3, 4, 5] (fun n s i => ∃ (k N : Nat) (S : ByteArray), k ≤ 4 ∧ n = .int .i64 N ∧ s = .string S ∧ i = .int .i64 k ∧ N < 4096 ∧ S.size ≤ k ∧ Hid (N = q / 8 ^ k ∧ S = ⟨(digL 8 q k).toArray⟩)) (fun _ _ i => 4 - (intOf i).toNat)
  case atStart => exact ⟨0, q, ⟨#[]⟩, by omega, rfl, rfl, rfl, hlt, Nat.le_refl _, Lib.hid ⟨by simp, rfl⟩⟩
  case round =>
    obtain ⟨k, N, S, hk, rfl, rfl, rfl, hN, hSz, H⟩ := hrel
    have h1s : ∀ x, (ByteArray.mk #[x]).size = 1 := fun _ => rfl
    by_cases hk4 : k < 4
    · have hch := rune_at (N % 8) (by omega) (48 + (N : Int) % 8) (by rw [dgc_lt _ (by omega)]; omega)
      have HS : Hid (ByteArray.mk #[dgc (N % 8)] ++ S = ⟨(digL 8 q (k + 1)).toArray⟩) := Lib.hid (by rw [H.out.2, H.out.1]; exact digL_cons 8 q k)
      have HD : Hid (N / 8 = q / 8 ^ (k + 1)) := Lib.hid (by rw [H.out.1, Nat.div_div_eq_div_mul, Nat.pow_succ])
      go_wp2
      go_round
      case rel => exact ⟨k + 1, N / 8, ByteArray.mk #[dgc (N % 8)] ++ S, by omega, by go_num, rfl, by go_num, by omega, by rw [ByteArray.size_append, h1s]; omega, Lib.hid ⟨HD.out, HS.out⟩⟩
      case measure => simp [intOf]; omega
    · obtain rfl : k = 4 := by omega
      go_wp2
      go_ret
      exact ⟨ret_str H.out.2, rfl⟩
set_option maxHeartbeats 1000000 in
theorem hex_ref (q : Nat) (hq : q < 18446744073709551616) (w : World) :
    Calls Tryd.prog 36 #[.int .u64 q] w fun e w' => e = .returned (.string ⟨(digL 16 q 16).toArray⟩) ∧ w = w' := by
  go_enter Tryd.func36, Tryd.ntmps36
  go_wp2
  go_loop [0, 3, 4, 5] (fun n s i _ => ∃ (k N : Nat) (S : ByteArray), k ≤ 16 ∧ n = .int .u64 N ∧ s = .string S ∧ i = .int .i64 k ∧ N < 18446744073709551616 ∧ S.size ≤ k ∧ Hid (N = q / 16 ^ k ∧ S = ⟨(digL 16 q k).toArray⟩)) (fun _ _ i _ => 16 - (intOf i).toNat)
  case atStart => exact ⟨0, q, ⟨#[]⟩, by omega, rfl, rfl, rfl, hq, Nat.le_refl _, Lib.hid ⟨by simp, rfl⟩⟩
  case round =>
    obtain ⟨k, N, S, hk, rfl, rfl, rfl, hN, hSz, H⟩ := hrel
    have h1s : ∀ x, (ByteArray.mk #[x]).size = 1 := fun _ => rfl
    by_cases hk4 : k < 16
    · have HS : Hid (ByteArray.mk #[dgc (N % 16)] ++ S = ⟨(digL 16 q (k + 1)).toArray⟩) := Lib.hid (by rw [H.out.2, H.out.1]; exact digL_cons 16 q k)
      have HD : Hid (N / 16 = q / 16 ^ (k + 1)) := Lib.hid (by rw [H.out.1, Nat.div_div_eq_div_mul, Nat.pow_succ])
      by_cases hd : N % 16 < 10
      · have hch := rune_at (N % 16) (by omega) (48 + (N : Int) % 16) (by rw [dgc_lt _ (by omega)]; omega)
        have hdi : (N : Int) % 16 < 10 := by omega
        go_wp2
        go_round
        case rel => exact ⟨k + 1, N / 16, ByteArray.mk #[dgc (N % 16)] ++ S, by omega, by go_num, rfl, by go_num, by omega, by rw [ByteArray.size_append, h1s]; omega, Lib.hid ⟨HD.out, HS.out⟩⟩
        case measure => simp [intOf]; omega
      · have hch := rune_at (N % 16) (by omega) (97 + (N : Int) % 16 - 10) (by rw [dgc_ge _ (by omega) (by omega)]; omega)
        have hdi : 10 ≤ (N : Int) % 16 := by omega
        go_wp2
        go_round
        case rel => exact ⟨k + 1, N / 16, ByteArray.mk #[dgc (N % 16)] ++ S, by omega, by go_num, rfl, by go_num, by omega, by rw [ByteArray.size_append, h1s]; omega, Lib.hid ⟨HD.out, HS.out⟩⟩
        case measure => simp [intOf]; omega
    · obtain rfl : k = 16 := by omega
      go_wp2
      go_ret
      exact ⟨ret_str H.out.2, rfl⟩
/-- The reference's value of an octal text. -/
def rv (l : List UInt8) : Int := l.foldl (fun n c => 8 * n + (c.toNat : Int) - 48) 0
theorem rv_snoc (l : List UInt8) (c : UInt8) : rv (l ++ [c]) = 8 * rv l + (c.toNat : Int) - 48 := by unfold rv; rw [List.foldl_append, List.foldl_cons, List.foldl_nil]
theorem rv_bd0 (l : List UInt8) : ∀ n : Int, ∀ P : Int, 0 < P → -7 * (P - 1) ≤ n → n ≤ 30 * (P - 1) → -7 * (P * 8 ^ l.length - 1) ≤ l.foldl (fun n c => 8 * n + (c.toNat : Int) - 48) n ∧ l.foldl (fun n c => 8 * n + (c.toNat : Int) - 48) n ≤ 30 * (P * 8 ^ l.length - 1) := by
  induction l with
  | nil => intro n P hP h1 h2; simp; omega
  | cons c l ih =>
    intro n P hP h1 h2
    have hc := c.toNat_lt
    have := ih (8 * n + (c.toNat : Int) - 48) (P * 8) (by omega) (by omega) (by omega)
    rw [List.foldl_cons, List.length_cons, Int.pow_succ, Int.mul_comm (8 ^ l.length) 8, ← Int.mul_assoc]
    exact this
theorem rv_bd (l : List UInt8) (h : l.length ≤ 5) : -300000 ≤ rv l ∧ rv l ≤ 1000000 := by
  have h1 := rv_bd0 l 0 1 (by omega) (by omega) (by omega)
  have h2 : (8 : Int) ^ l.length ≤ 32768 := by
    have e : ((8 ^ l.length : Nat) : Int) = 8 ^ l.length := by simp
    have h3 : 8 ^ l.length ≤ 8 ^ 5 := Nat.pow_le_pow_right (by omega) h
    have h4 : (8 : Nat) ^ 5 = 32768 := by decide
    omega
  unfold rv
  omega
theorem rv_digL (u : Nat) : ∀ (L : Nat) (acc : Int), (digL 8 u L).foldl (fun n c => 8 * n + (c.toNat : Int) - 48) acc = acc * 8 ^ L + ((u % 8 ^ L : Nat) : Int)
  | 0, acc => by rw [digL_zero]; simp [Nat.mod_one]
  | L + 1, acc => by
    have hd : u / 8 ^ L % 8 < 8 := Nat.mod_lt _ (by decide)
    rw [digL_succ, List.foldl_cons, rv_digL u L, dgc_lt _ (by omega), Nat.mod_pow_succ, Int.pow_succ]
    have e : ((u % 8 ^ L + 8 ^ L * (u / 8 ^ L % 8) : Nat) : Int) = ((u % 8 ^ L : Nat) : Int) + 8 ^ L * ((u / 8 ^ L % 8 : Nat) : Int) := by
      rw [Int.natCast_add, Int.natCast_mul]; simp
    rw [e]
    generalize ((u % 8 ^ L : Nat) : Int) = x
    have e2 : 8 * acc + ((48 + u / 8 ^ L % 8 : Nat) : Int) - 48 = 8 * acc + ((u / 8 ^ L % 8 : Nat) : Int) := by omega
    rw [e2]
    generalize ((u / 8 ^ L % 8 : Nat) : Int) = y
    rw [Int.add_mul, Int.mul_assoc, Int.mul_comm 8 (acc * 8 ^ L), Int.mul_assoc, Int.mul_comm y]
    omega
theorem rv_num (m : Nat) (h : m < 4096) : rv (digL 8 m 4) = m := by
  unfold rv
  rw [rv_digL, Nat.mod_eq_of_lt h]; omega
theorem rv_neg (l : List UInt8) (h : rv l < 0) : numOf 8 4 l = none := by
  cases hn : numOf 8 4 l with
  | none => rfl
  | some m =>
    have h1 := numOf_lt (numOf_len hn) hn
    rw [← numOf_some hn, rv_num m h1] at h
    omega
theorem rv_eq (l : List UInt8) (h : digL 8 (nat64 (rv l) % 4096) 4 = l) : ∃ m : Nat, numOf 8 4 l = some m ∧ rv l = m := by
  have hlt : nat64 (rv l) % 4096 < 8 ^ 4 := Nat.mod_lt _ (by decide)
  generalize nat64 (rv l) % 4096 = m at h hlt
  subst h
  exact ⟨m, numOf_digL 8 4 m (by decide) (by decide) hlt, rv_num m hlt⟩
theorem rv_ne (l : List UInt8) (h : ¬ digL 8 (nat64 (rv l) % 4096) 4 = l) : numOf 8 4 l = none := by
  cases hn : numOf 8 4 l with
  | none => rfl
  | some m =>
    have h1 := numOf_lt (numOf_len hn) hn
    have h2 : m < 4096 := h1
    exfalso
    apply h
    have e : rv l = m := by rw [← numOf_some hn]; exact rv_num m h2
    rw [e, nat64_of m h2, Nat.mod_eq_of_lt h2]
    exact numOf_some hn
def OctRPost (l : List UInt8) (w : World) (e : Ending) (w' : World) : Prop :=
  (match numOf 8 4 l with
    | some n => e = .returned (.tuple #[.int .i64 n, .bool true])
    | none => e = .returned (.tuple #[.int .i64 0, .bool false])) ∧ w = w'
set_option maxHeartbeats 2000000 in
theorem parseOctal_ref (t : ByteArray) (ht : t.size ≤ 1000) (w : World) :
    Calls Tryd.prog 12 #[.string t] w (OctRPost t.data.toList w) := by
  have hlen : t.data.toList.length = t.size := Lib.size_eq t
  have HLEN := Lib.hid hlen
  clear hlen
  go_enter Tryd.func12, Tryd.ntmps12
  go_wp2
  go_loop [4, 5] (fun n i => ∃ (k : Nat) (N : Int), k ≤ 5 ∧ k ≤ t.size ∧ i = .int .i64 k ∧ n = .int .i64 N ∧ -300000 ≤ N ∧ N ≤ 1000000 ∧ Hid (N = rv (t.data.toList.take k))) (fun _ i => 5 - (intOf i).toNat)
  case atStart => exact ⟨0, 0, by omega, by omega, rfl, rfl, by omega, by omega, Lib.hid rfl⟩
  case round =>
    obtain ⟨k, N, hk5, hks, rfl, rfl, hN0, hN1, H⟩ := hrel
    by_cases hlt : k < t.size ∧ k < 5
    · obtain ⟨hlt, hk4⟩ := hlt
      have hst : rv (t.data.toList.take (k + 1)) = 8 * N + (t[k].toNat : Int) - 48 := by rw [take_snoc t k hlt, rv_snoc, ← H.out]
      have hbd := rv_bd (t.data.toList.take (k + 1)) (by rw [List.length_take]; omega)
      rw [hst] at hbd
      obtain ⟨hb0, hb1⟩ := hbd
      have HS := Lib.hid hst
      have hc := t[k].toNat_lt
      clear hst
      go_wp2
      go_round
      case rel => exact ⟨k + 1, 8 * N + (t[k].toNat : Int) - 48, by omega, by omega, by go_num, rfl, hb0, hb1, Lib.hid HS.out.symm⟩
      case measure => simp [intOf]; omega
    · by_cases hs4 : t.size = 4
      · obtain rfl : k = 4 := by omega
        have hN : N = rv t.data.toList := by rw [H.out, List.take_of_length_le (by have := HLEN.out; omega)]
        have HN := Lib.hid hN
        have hne : ((t.size : Int) != 4) = false := by rw [bne_eq_false_iff_eq]; omega
        have hk4' : ¬ 4 < t.size := by omega
        clear hlt hN hs4 H
        by_cases hneg : N < 0
        · have HR : Hid (numOf 8 4 t.data.toList = none) := Lib.hid (rv_neg _ (by have := HN.out; omega))
          go_wp2
          go_ret2
          unfold OctRPost
          rw [HR.out]
          exact ⟨rfl, rfl⟩
        · have C := fun w => octal_ref N w
          by_cases hq : digL 8 (nat64 N % 4096) 4 = t.data.toList
          · obtain ⟨m, hm, hNm⟩ := rv_eq t.data.toList (by rw [← HN.out]; exact hq)
            have HM := Lib.hid (And.intro hm (HN.out.trans hNm))
            have hqt : (digL 8 (nat64 N % 4096) 4 == t.toList) = true := by rw [ByteArray.toList_eq, hq]; simp
            clear hq hm hNm
            go_wp2_with (go_at_call 14; refine (C _).mono ?_; rintro e w1 ⟨rfl, rfl⟩)
            go_ret2
            unfold OctRPost
            rw [HM.out.1, HM.out.2]
            exact ⟨rfl, rfl⟩
          · have HR : Hid (numOf 8 4 t.data.toList = none) := Lib.hid (rv_ne _ (by rw [← HN.out]; exact hq))
            have hqt : (digL 8 (nat64 N % 4096) 4 == t.toList) = false := by rw [ByteArray.toList_eq]; simpa using hq
            clear hq
            go_wp2_with (go_at_call 14; refine (C _).mono ?_; rintro e w1 ⟨rfl, rfl⟩)
            go_ret2
            unfold OctRPost
            rw [HR.out]
            exact ⟨rfl, rfl⟩
      · have HR : Hid (numOf 8 4 t.data.toList = none) := Lib.hid (by
          cases h2 : numOf 8 4 t.data.toList with
          | none => rfl
          | some n => exact absurd (HLEN.out.symm.trans (numOf_len h2)) hs4)
        have hne : ((t.size : Int) != 4) = true := by rw [bne_iff_ne]; omega
        have hgt : t.size ≤ k ∨ 5 ≤ k ∧ k < t.size := by omega
        clear hlt hs4
        rcases hgt with hgt | ⟨hgt, hgt2⟩
        · go_wp2
          go_ret2
          unfold OctRPost
          rw [HR.out]
          exact ⟨rfl, rfl⟩
        · go_wp2
          go_ret2
          unfold OctRPost
          rw [HR.out]
          exact ⟨rfl, rfl⟩
end Go.Proofs.YtgoekfonbpffdaaDoor
