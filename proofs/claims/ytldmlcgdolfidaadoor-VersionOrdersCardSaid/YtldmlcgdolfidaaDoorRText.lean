/-
  The reference's Text of an int (of layer 1): its decimal digits; the world stays as it was.
-/
import Derived.Test.YtldmlcgdolfidaaDoorLBase
import Derived.Lib.ItoaMem
import Derived.Laws.BitsAllLaws
import Derived.Lib.ItoaWalk
import Derived.ShutString
namespace Go.Proofs.YtldmlcgdolfidaaDoor.RT
open Go.RowKit Go.Sort
theorem ret_str {a b : ByteArray} (h : a = b) : Ending.returned (.string a) = Ending.returned (.string b) := by rw [h]
theorem str_append (a b : Array UInt8) : ByteArray.mk a ++ ByteArray.mk b = ByteArray.mk (a ++ b) := by apply ByteArray.ext; simp [ByteArray.data_append]
def dgc (d : Nat) : UInt8 := if d < 10 then UInt8.ofNat (48 + d) else UInt8.ofNat (87 + d)
theorem dgc_lt (d : Nat) (h : d < 10) : (dgc d).toNat = 48 + d := by
  unfold dgc; rw [if_pos h, UInt8.toNat_ofNat']; omega
theorem dec_big (u : Nat) (h : ¬ u < 10) : Lib.decDigits u = Lib.decDigits (u / 10) ++ [UInt8.ofNat (48 + u % 10)] := by rw [Lib.decDigits, dif_neg h]
theorem dec_small (u : Nat) (h : u < 10) : Lib.decDigits u = [UInt8.ofNat (48 + u)] := by rw [Lib.decDigits, dif_pos h]
theorem enc_fin : ∀ d : Fin 16, Utf8.encode ((dgc d.val).toNat : Int) = ⟨#[dgc d.val]⟩ := by decide +kernel
theorem rune_at (d : Nat) (hd : d < 16) (z : Int) (hz : z = ((dgc d).toNat : Int)) (w : World) : (convert 21 9 (.int .i32 z)).run Tryd.prog w = .ok (.string ⟨#[dgc d]⟩) w := by
  rw [run_convert_int_string w 21 9 .i32 _ (by kernel_rfl) Tryd.underlying9, hz]
  have h := enc_fin ⟨d, hd⟩
  simp only at h
  rw [h]
/-- The digits above. -/
def dd (u : Nat) : List UInt8 := if u = 0 then [] else Lib.decDigits u
theorem ofNat_dgc (d : Nat) (hd : d < 10) : UInt8.ofNat (48 + d) = dgc d := by unfold dgc; rw [if_pos hd]
theorem dd_step (u : Nat) (h : 0 < u) : dd u = dd (u / 10) ++ [dgc (u % 10)] := by
  unfold dd
  rw [if_neg (by omega), ← ofNat_dgc _ (by omega)]
  by_cases hs : u < 10
  · rw [dec_small u hs, if_pos (by omega), Nat.mod_eq_of_lt hs]; rfl
  · rw [dec_big u hs, if_neg (by omega)]
theorem dd_first (u : Nat) : Lib.decDigits u = dd (u / 10) ++ [dgc (u % 10)] := by
  rw [← ofNat_dgc _ (by omega)]
  by_cases hs : u < 10
  · rw [dec_small u hs]; unfold dd; rw [if_pos (by omega), Nat.mod_eq_of_lt hs]; rfl
  · rw [dec_big u hs]; unfold dd; rw [if_neg (by omega)]
theorem rune_dec (d : Nat) (hd : d < 10) (z : Int) (hz : z = 48 + (d : Int)) (w : World) : (convert 21 9 (.int .i32 z)).run Tryd.prog w = .ok (.string ⟨#[dgc d]⟩) w :=
  rune_at d (by omega) z (by rw [dgc_lt d hd]; omega) w
theorem size_bd (u k U : Nat) (hu : 0 < u) (h : u * 10 ^ k ≤ U) (hU : U < 18446744073709551616) : k ≤ 19 := by
  rcases Nat.lt_or_ge 19 k with hk | hk
  · have h1 : 10 ^ 20 ≤ 10 ^ k := Nat.pow_le_pow_right (by decide) hk
    have h2 : 10 ^ k ≤ u * 10 ^ k := Nat.le_mul_of_pos_left _ hu
    have e : (10 : Nat) ^ 20 = 100000000000000000000 := by decide
    omega
  · exact hk
set_option maxHeartbeats 2000000 in
theorem text_ref (n : Int) (h0 : -9223372036854775808 ≤ n) (h1 : n ≤ 9223372036854775807) (w : World) :
    Calls Tryd.prog 34 #[.int .i64 n] w fun e w' => e = .returned (.string ⟨(Lib.itoa n).toArray⟩) ∧ w = w' := by
  have h1s : ∀ x, (ByteArray.mk #[x]).size = 1 := fun _ => rfl
  by_cases hn : n < 0
  · obtain ⟨U, rfl⟩ : ∃ U : Nat, n = -(U : Int) := ⟨n.natAbs, by omega⟩
    have hU : U < 18446744073709551616 ∧ 1 ≤ U := by omega
    obtain ⟨hU, hU1⟩ := hU
    have hwr : IntKind.u64.wrap (-IntKind.u64.wrap (-(U : Int))) = (U : Int) := by rw [IntKind.wrap_u64, IntKind.wrap_u64]; omega
    have hit : Lib.itoa (-(U : Int)) = 45 :: Lib.decDigits U := Lib.itoa_neg U hU1
    rw [hit]
    have hch := rune_dec (U % 10) (by omega) (48 + (U : Int) % 10) (by omega)
    clear hit h0 h1
    go_enter Tryd.func34, Tryd.ntmps34
    go_wp2
    clear hwr hch
    go_loop [3, 4] (fun x s => ∃ (u : Nat) (S : ByteArray), x = .int .u64 u ∧ s = .string S ∧ u ≤ U ∧ S.size ≤ 20 ∧ Hid (Lib.decDigits U = dd u ++ S.data.toList ∧ u * 10 ^ S.size ≤ U)) (fun x _ => (intOf x).toNat)
    case atStart => exact ⟨U / 10, ⟨#[dgc (U % 10)]⟩, by go_num, rfl, by omega, by rw [h1s]; omega, Lib.hid ⟨dd_first U, by rw [h1s]; omega⟩⟩
    case round =>
      obtain ⟨u, S, rfl, rfl, hu, hSz, H⟩ := hrel
      by_cases hu0 : 0 < u
      · have hbd : S.size ≤ 19 := size_bd u S.size U hu0 H.out.2 hU
        have hch := rune_dec (u % 10) (by omega) (48 + (u : Int) % 10) (by omega)
        have HS : Hid (Lib.decDigits U = dd (u / 10) ++ (ByteArray.mk #[dgc (u % 10)] ++ S).data.toList ∧ u / 10 * 10 ^ (ByteArray.mk #[dgc (u % 10)] ++ S).size ≤ U) := Lib.hid (by
          constructor
          · rw [H.out.1, dd_step u hu0, ByteArray.data_append]; simp
          · rw [ByteArray.size_append, h1s, Nat.pow_add, Nat.pow_one, ← Nat.mul_assoc]
            exact Nat.le_trans (Nat.mul_le_mul_right _ (Nat.div_mul_le_self u 10)) H.out.2)
        go_wp2
        go_round
        case rel => exact ⟨u / 10, ByteArray.mk #[dgc (u % 10)] ++ S, by go_num, rfl, by omega, by rw [ByteArray.size_append, h1s]; omega, HS⟩
        case measure => simp [intOf]; omega
      · obtain rfl : u = 0 := by omega
        have HS : Hid (S = ⟨(Lib.decDigits U).toArray⟩) := Lib.hid (by rw [H.out.1]; apply ByteArray.ext; simp [dd])
        go_wp2
        go_ret
        refine ⟨ret_str ?_, rfl⟩
        rw [HS.out]
        exact (str_append #[45] (Lib.decDigits U).toArray).trans (by congr 1; simp)
  · obtain ⟨U, rfl⟩ : ∃ U : Nat, n = U := ⟨n.toNat, by omega⟩
    have hU : U < 18446744073709551616 := by omega
    have hit : Lib.itoa (U : Int) = Lib.decDigits U := Lib.itoa_nonneg U
    rw [hit]
    have hch := rune_dec (U % 10) (by omega) (48 + (U : Int) % 10) (by omega)
    clear hit h0 hn
    go_enter Tryd.func34, Tryd.ntmps34
    go_wp2
    clear hch
    go_loop [3, 4] (fun x s => ∃ (u : Nat) (S : ByteArray), x = .int .u64 u ∧ s = .string S ∧ u ≤ U ∧ S.size ≤ 20 ∧ Hid (Lib.decDigits U = dd u ++ S.data.toList ∧ u * 10 ^ S.size ≤ U)) (fun x _ => (intOf x).toNat)
    case atStart => exact ⟨U / 10, ⟨#[dgc (U % 10)]⟩, by go_num, rfl, by omega, by rw [h1s]; omega, Lib.hid ⟨dd_first U, by rw [h1s]; omega⟩⟩
    case round =>
      obtain ⟨u, S, rfl, rfl, hu, hSz, H⟩ := hrel
      by_cases hu0 : 0 < u
      · have hbd : S.size ≤ 19 := size_bd u S.size U hu0 H.out.2 hU
        have hch := rune_dec (u % 10) (by omega) (48 + (u : Int) % 10) (by omega)
        have HS : Hid (Lib.decDigits U = dd (u / 10) ++ (ByteArray.mk #[dgc (u % 10)] ++ S).data.toList ∧ u / 10 * 10 ^ (ByteArray.mk #[dgc (u % 10)] ++ S).size ≤ U) := Lib.hid (by
          constructor
          · rw [H.out.1, dd_step u hu0, ByteArray.data_append]; simp
          · rw [ByteArray.size_append, h1s, Nat.pow_add, Nat.pow_one, ← Nat.mul_assoc]
            exact Nat.le_trans (Nat.mul_le_mul_right _ (Nat.div_mul_le_self u 10)) H.out.2)
        go_wp2
        go_round
        case rel => exact ⟨u / 10, ByteArray.mk #[dgc (u % 10)] ++ S, by go_num, rfl, by omega, by rw [ByteArray.size_append, h1s]; omega, HS⟩
        case measure => simp [intOf]; omega
      · obtain rfl : u = 0 := by omega
        have HS : Hid (S = ⟨(Lib.decDigits U).toArray⟩) := Lib.hid (by rw [H.out.1]; apply ByteArray.ext; simp [dd])
        go_wp2
        go_ret
        exact ⟨ret_str HS.out, rfl⟩
end Go.Proofs.YtldmlcgdolfidaaDoor.RT
