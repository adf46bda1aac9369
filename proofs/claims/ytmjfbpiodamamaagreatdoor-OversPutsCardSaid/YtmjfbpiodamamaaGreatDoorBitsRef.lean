/-
  The walks of the reference's small functions of layer 1 (Bit, Low, Right, Umask, May, Pack, Unpack) and of the program's own (Umask, May, Pack, Unpack, Right): what each call returns; the world stays as it was. Conditions: the arguments are int64s.
-/
import Derived.Test.YtmjfbpiodamamaaGreatDoorProg
import Derived.Test.YtmjfbpiodamamaaGreatDoorParseMath
import Derived.WalkKit
import Derived.WalkSpells
import Derived.WalkLawsBesides
import Derived.Lib.Hide
namespace Go.Proofs.YtmjfbpiodamamaaGreatDoor
open Go.RowKit
theorem pow_le26 (j : Nat) (h : j ≤ 26) : (0 : Int) < 2 ^ j ∧ (2 : Int) ^ j ≤ 67108864 := by
  have e : ((2 ^ j : Nat) : Int) = 2 ^ j := by simp
  have h1 := two_pow_le j 26 h
  have h2 := Nat.two_pow_pos j
  have h3 : 2 ^ j ≤ 67108864 := h1
  omega
theorem ret_int {k : IntKind} {a b : Int} (h : a = b) : Ending.returned (.int k a) = .returned (.int k b) := by rw [h]
theorem ret_boolB {a b : Bool} (h : a = b) : Ending.returned (.bool a) = .returned (.bool b) := by rw [h]
set_option maxHeartbeats 400000 in
theorem bit_any (n : Int) (i : Nat) (hi : i < 64) (w : World) :
    Calls Tryz.prog 74 #[.int .i64 n, .int .i64 i] w fun e w' => e = .returned (.bool (bitB n i)) ∧ w = w' := by
  go_enter Tryz.func74, Tryz.ntmps74
  go_wp2
  go_ret
  exact ⟨ret_boolB (bit_u64 n i hi), rfl⟩
set_option maxHeartbeats 400000 in
theorem low_any (n : Int) (k : Nat) (hk : k ≤ 26) (w : World) :
    Calls Tryz.prog 53 #[.int .i64 n, .int .i64 k] w fun e w' => e = .returned (.int .i64 (n % 2 ^ k)) ∧ w = w' := by
  go_enter Tryz.func53, Tryz.ntmps53
  go_wp2
  go_loop [5, 6, 7] (fun o p i => ∃ (j : Nat) (P Q : Int), j ≤ k ∧ i = .int .i64 j ∧ p = .int .i64 P ∧ o = .int .i64 Q ∧ 0 < P ∧ P ≤ 67108864 ∧ 0 ≤ Q ∧ Q < P ∧ Hid (P = 2 ^ j ∧ Q = n % 2 ^ j)) (fun _ _ i => k - (intOf i).toNat)
  case atStart => exact ⟨0, 1, 0, Nat.zero_le _, rfl, rfl, rfl, by omega, by omega, by omega, by omega, Lib.hid ⟨rfl, by simp⟩⟩
  case round =>
    obtain ⟨j, P, Q, hj, rfl, rfl, rfl, hP0, hP1, hQ0, hQ1, H⟩ := hrel
    by_cases hlt : j < k
    · have hj2 := pow_le26 (j + 1) (by omega)
      have H1 : Hid (2 * P = 2 ^ (j + 1)) := Lib.hid (by rw [H.out.1, Int.pow_succ, Int.mul_comm])
      have hP2 : 2 * P ≤ 67108864 := by have := H1.out; omega
      clear hj2
      by_cases hb : bitB n j = true
      · have H2 : Hid (Q + P = n % 2 ^ (j + 1)) := Lib.hid (by rw [emod_succ n j (by omega), if_pos hb, H.out.1, H.out.2])
        go_wp2_with (go_at_call 74; refine (bit_any _ _ (by omega) _).mono ?_; rintro e w' ⟨rfl, rfl⟩)
        go_round
        case rel => exact ⟨j + 1, 2 * P, Q + P, by omega, by go_num, rfl, rfl, by omega, by omega, by omega, by omega, Lib.hid ⟨H1.out, H2.out⟩⟩
        case measure => simp [intOf]; omega
      · have hb' : bitB n j = false := by simpa using hb
        clear hb
        have H2 : Hid (Q = n % 2 ^ (j + 1)) := Lib.hid (by rw [emod_succ n j (by omega), if_neg (by simp [hb']), H.out.2]; omega)
        go_wp2_with (go_at_call 74; refine (bit_any _ _ (by omega) _).mono ?_; rintro e w' ⟨rfl, rfl⟩)
        go_round
        case rel => exact ⟨j + 1, 2 * P, Q, by omega, by go_num, rfl, rfl, by omega, by omega, by omega, by omega, Lib.hid ⟨H1.out, H2.out⟩⟩
        case measure => simp [intOf]; omega
    · go_wp2
      go_ret
      obtain rfl : j = k := by omega
      exact ⟨ret_int H.out.2, rfl⟩
end Go.Proofs.YtmjfbpiodamamaaGreatDoor
