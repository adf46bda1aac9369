/-
  The reference's Text of an int (of layer 1): its decimal digits; the world stays as it was.
-/
import Derived.Test.YteoomeknlfcfaaaGreatDoorLBase
import Derived.Lib.ItoaMem
import Derived.Laws.BitsAllLaws
import Derived.Lib.ItoaWalk
import Derived.ShutString
namespace Go.Proofs.YteoomeknlfcfaaaGreatDoor.RT
open Go.RowKit Go.Sort
theorem ret_str {a b : ByteArray} (h : a = b) : Ending.returned (.string a) = Ending.returned (.string b) := by rw [h]
theorem str_append (a b : Array UInt8) : ByteArray.mk a ++ ByteArray.mk b = ByteArray.mk (a ++ b) := by apply ByteArray.ext; simp [ByteArray.data_append]
def dgc (d : Nat) : UInt8 := if d < 10 then UInt8.ofNat (48 + d) else UInt8.ofNat (87 + d)
theorem dgc_lt (d : Nat) (h : d < 10) : (dgc d).toNat = 48 + d := by
  unfold dgc; rw [if_pos h, UInt8.toNat_ofNat']; omega
theorem dec_big (u : Nat) (h : ¬ u < 10) : Lib.decDigits u = Lib.decDigits (u / 10) ++ [UInt8.ofNat (48 + u % 10)] := by rw [Lib.decDigits, dif_neg h]
theorem dec_small (u : Nat) (h : u < 10) : Lib.decDigits u = [UInt8.ofNat (48 + u)] := by rw [Lib.decDigits, dif_pos h]
theorem enc_fin : ∀ d : Fin 16, Utf8.encode ((dgc d.val).toNat : Int) = ⟨#[dgc d.val]⟩ := by decide +kernel
theorem rune_at (d : Nat) (hd : d < 16) (z : Int) (hz : z = ((dgc d).toNat : Int)) (w : World) : (convert 21 9 (.int .i32 z)).run Tryz.prog w = .ok (.string ⟨#[dgc d]⟩) w := by
  rw [run_convert_int_string w 21 9 .i32 _ (by kernel_rfl) Tryz.underlying9, hz]
  have h := enc_fin ⟨d, hd⟩
  simp only at h
  rw [h]
/-- The digits above. -/
def dd (u : Nat) : List UInt8 := if u = 0 then [] else Lib.decDigits u
theorem ofNat_dgc (d : Nat) (hd : d < 10) : UInt8.ofNat (48 + d) = dgc d := by unfold dgc; rw [if_pos hd]
theorem dd_step (u : Nat) (h : 0 < u) : dd u = dd (u / 10) ++ [dgc (u % 10)] := by
  unfold dd
  rw [if_neg (by omega), ← ofNat_dgc _ (by omega)]
  by_cases hs : u < 10
  · rw [dec_small u hs, if_pos (by omega), Nat.mod_eq_of_lt hs]; rfl
  · rw [dec_big u hs, if_neg (by omega)]
theorem dd_first (u : Nat) : Lib.decDigits u = dd (u / 10) ++ [dgc (u % 10)] := by
  rw [← ofNat_dgc _ (by omega)]
  by_cases hs : u < 10
  · rw [dec_small u hs]; unfold dd; rw [if_pos (by omega), Nat.mod_eq_of_lt hs]; rfl
  · rw [dec_big u hs]; unfold dd; rw [if_neg (by omega)]
theorem rune_dec (d : Nat) (hd : d < 10) (z : Int) (hz : z = 48 + (d : Int)) (w : World) : (convert 21 9 (.int .i32 z)).run Tryz.prog w = .ok (.string ⟨#[dgc d]⟩) w :=
  rune_at d (by omega) z (by rw [dgc_lt d hd]; omega) w
theorem size_bd (u k U : Nat) (hu : 0 < u) (h : u * 10 ^ k ≤ U) (hU : U < 18446744073709551616) : k ≤ 19 := by
  rcases Nat.lt_or_ge 19 k with hk | hk
  · have h1 : 10 ^ 20 ≤ 10 ^ k := Nat.pow_le_pow_right (by decide) hk
    have h2 : 10 ^ k ≤ u * 10 ^ k := Nat.le_mul_of_pos_left _ hu
    have e : (10 : Nat) ^ 20 = 100000000000000000000 := by decide
    omega
  · exact hk
end Go.Proofs.YteoomeknlfcfaaaGreatDoor.RT
