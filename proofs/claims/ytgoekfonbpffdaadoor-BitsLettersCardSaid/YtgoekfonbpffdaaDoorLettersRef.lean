/-
  The reference's Rwx: the nine letters of any mode; the world stays as it was. Conditions: none but that the mode is an int64.
-/
import Derived.Test.YtgoekfonbpffdaaDoorRwx
namespace Go.Proofs.YtgoekfonbpffdaaDoor
open Go.RowKit Go.Sort
/-- One of two letters. -/
def pk (b : Bool) (x y : UInt8) : UInt8 := if b = true then x else y
def rn (x a : Bool) (l h : UInt8) : UInt8 := if a = true then pk x l h else pk x 120 45
set_option maxHeartbeats 400000 in
theorem pick_any (b : Bool) (x y : UInt8) (w : World) : Calls Tryd.prog 48 #[.bool b, .string ⟨#[x]⟩, .string ⟨#[y]⟩] w fun e w' => e = .returned (.string ⟨#[pk b x y]⟩) ∧ w = w' := by
  cases b
  all_goals
    go_enter Tryd.func48, Tryd.ntmps48
    go_wp2
    go_ret
    exact ⟨rfl, rfl⟩
set_option maxHeartbeats 400000 in
theorem run_any (x a : Bool) (l h : UInt8) (w : World) : Calls Tryd.prog 49 #[.bool x, .bool a, .string ⟨#[l]⟩, .string ⟨#[h]⟩] w fun e w' => e = .returned (.string ⟨#[rn x a l h]⟩) ∧ w = w' := by
  have P1 := fun w => pick_any x l h w
  have P2 := fun w => pick_any x 120 45 w
  have e1 : rn x true l h = pk x l h := rfl
  have e2 : rn x false l h = pk x 120 45 := rfl
  cases a
  · rw [e2]
    clear e1 e2 P1
    generalize pk x 120 45 = r at *
    go_enter Tryd.func49, Tryd.ntmps49
    go_wp2_with (go_at_call 48; refine (P2 _).mono ?_; rintro e w1 ⟨rfl, rfl⟩)
    go_ret
    exact ⟨rfl, rfl⟩
  · rw [e1]
    clear e1 e2 P2
    generalize pk x l h = r at *
    go_enter Tryd.func49, Tryd.ntmps49
    go_wp2_with (go_at_call 48; refine (P1 _).mono ?_; rintro e w1 ⟨rfl, rfl⟩)
    go_ret
    exact ⟨rfl, rfl⟩
theorem bit0 (n : Int) (w : World) : Calls Tryd.prog 43 #[.int .i64 n, .int .i64 0] w fun e w' => e = .returned (.bool (bitB n 0)) ∧ w = w' := bit_any n 0 (by omega) w
theorem bit1 (n : Int) (w : World) : Calls Tryd.prog 43 #[.int .i64 n, .int .i64 1] w fun e w' => e = .returned (.bool (bitB n 1)) ∧ w = w' := bit_any n 1 (by omega) w
theorem bit2 (n : Int) (w : World) : Calls Tryd.prog 43 #[.int .i64 n, .int .i64 2] w fun e w' => e = .returned (.bool (bitB n 2)) ∧ w = w' := bit_any n 2 (by omega) w
theorem bit3 (n : Int) (w : World) : Calls Tryd.prog 43 #[.int .i64 n, .int .i64 3] w fun e w' => e = .returned (.bool (bitB n 3)) ∧ w = w' := bit_any n 3 (by omega) w
theorem bit4 (n : Int) (w : World) : Calls Tryd.prog 43 #[.int .i64 n, .int .i64 4] w fun e w' => e = .returned (.bool (bitB n 4)) ∧ w = w' := bit_any n 4 (by omega) w
theorem bit5 (n : Int) (w : World) : Calls Tryd.prog 43 #[.int .i64 n, .int .i64 5] w fun e w' => e = .returned (.bool (bitB n 5)) ∧ w = w' := bit_any n 5 (by omega) w
theorem bit6 (n : Int) (w : World) : Calls Tryd.prog 43 #[.int .i64 n, .int .i64 6] w fun e w' => e = .returned (.bool (bitB n 6)) ∧ w = w' := bit_any n 6 (by omega) w
theorem bit7 (n : Int) (w : World) : Calls Tryd.prog 43 #[.int .i64 n, .int .i64 7] w fun e w' => e = .returned (.bool (bitB n 7)) ∧ w = w' := bit_any n 7 (by omega) w
theorem bit8 (n : Int) (w : World) : Calls Tryd.prog 43 #[.int .i64 n, .int .i64 8] w fun e w' => e = .returned (.bool (bitB n 8)) ∧ w = w' := bit_any n 8 (by omega) w
theorem bit9 (n : Int) (w : World) : Calls Tryd.prog 43 #[.int .i64 n, .int .i64 9] w fun e w' => e = .returned (.bool (bitB n 9)) ∧ w = w' := bit_any n 9 (by omega) w
theorem bit10 (n : Int) (w : World) : Calls Tryd.prog 43 #[.int .i64 n, .int .i64 10] w fun e w' => e = .returned (.bool (bitB n 10)) ∧ w = w' := bit_any n 10 (by omega) w
theorem bit11 (n : Int) (w : World) : Calls Tryd.prog 43 #[.int .i64 n, .int .i64 11] w fun e w' => e = .returned (.bool (bitB n 11)) ∧ w = w' := bit_any n 11 (by omega) w
theorem rwx_cat (a0 a1 a2 a3 a4 a5 a6 a7 a8 : UInt8) : (ByteArray.mk #[a0] ++ ByteArray.mk #[a1] ++ ByteArray.mk #[a2] ++ ByteArray.mk #[a3] ++ ByteArray.mk #[a4] ++ ByteArray.mk #[a5] ++ ByteArray.mk #[a6] ++ ByteArray.mk #[a7] ++ ByteArray.mk #[a8]) = ByteArray.mk #[a0, a1, a2, a3, a4, a5, a6, a7, a8] := by
  rw [str_append, str_append, str_append, str_append, str_append, str_append, str_append, str_append]
  rfl
theorem rwxL_pk (m : Int) : (rwxL m).toArray = #[pk (bitB m 8) 114 45, pk (bitB m 7) 119 45, rn (bitB m 6) (bitB m 11) 115 83, pk (bitB m 5) 114 45, pk (bitB m 4) 119 45, rn (bitB m 3) (bitB m 10) 115 83, pk (bitB m 2) 114 45, pk (bitB m 1) 119 45, rn (bitB m 0) (bitB m 9) 116 84] := by
  have e : List.range 9 = [0, 1, 2, 3, 4, 5, 6, 7, 8] := by decide
  unfold rwxL
  rw [e]
  simp [letAt, pk, rn]
set_option maxRecDepth 100000 in
set_option maxHeartbeats 4000000 in
theorem rwx_ref (m : Int) (w : World) :
    Calls Tryd.prog 26 #[.int .i64 m] w fun e w' => e = .returned (.string ⟨(rwxL m).toArray⟩) ∧ w = w' := by
  have h1s : ∀ x, (ByteArray.mk #[x]).size = 1 := fun _ => rfl
  rw [rwxL_pk]
  have B0 := fun w => bit0 m w
  have B1 := fun w => bit1 m w
  have B2 := fun w => bit2 m w
  have B3 := fun w => bit3 m w
  have B4 := fun w => bit4 m w
  have B5 := fun w => bit5 m w
  have B6 := fun w => bit6 m w
  have B7 := fun w => bit7 m w
  have B8 := fun w => bit8 m w
  have B9 := fun w => bit9 m w
  have B10 := fun w => bit10 m w
  have B11 := fun w => bit11 m w
  have HP := Lib.hid pick_any
  have HR := Lib.hid run_any
  generalize bitB m 0 = b0 at *
  generalize bitB m 1 = b1 at *
  generalize bitB m 2 = b2 at *
  generalize bitB m 3 = b3 at *
  generalize bitB m 4 = b4 at *
  generalize bitB m 5 = b5 at *
  generalize bitB m 6 = b6 at *
  generalize bitB m 7 = b7 at *
  generalize bitB m 8 = b8 at *
  generalize bitB m 9 = b9 at *
  generalize bitB m 10 = b10 at *
  generalize bitB m 11 = b11 at *
  go_enter Tryd.func26, Tryd.ntmps26
  go_wp2_with (first | (go_at_call 43; first | ((with_reducible refine (B0 _).mono ?_); rintro e w1 ⟨rfl, rfl⟩) | ((with_reducible refine (B1 _).mono ?_); rintro e w1 ⟨rfl, rfl⟩) | ((with_reducible refine (B2 _).mono ?_); rintro e w1 ⟨rfl, rfl⟩) | ((with_reducible refine (B3 _).mono ?_); rintro e w1 ⟨rfl, rfl⟩) | ((with_reducible refine (B4 _).mono ?_); rintro e w1 ⟨rfl, rfl⟩) | ((with_reducible refine (B5 _).mono ?_); rintro e w1 ⟨rfl, rfl⟩) | ((with_reducible refine (B6 _).mono ?_); rintro e w1 ⟨rfl, rfl⟩) | ((with_reducible refine (B7 _).mono ?_); rintro e w1 ⟨rfl, rfl⟩) | ((with_reducible refine (B8 _).mono ?_); rintro e w1 ⟨rfl, rfl⟩) | ((with_reducible refine (B9 _).mono ?_); rintro e w1 ⟨rfl, rfl⟩) | ((with_reducible refine (B10 _).mono ?_); rintro e w1 ⟨rfl, rfl⟩) | ((with_reducible refine (B11 _).mono ?_); rintro e w1 ⟨rfl, rfl⟩)) | (go_at_call 48; refine (HP.out _ _ _ _).mono ?_; rintro e w1 ⟨rfl, rfl⟩) | (go_at_call 49; refine (HR.out _ _ _ _ _).mono ?_; rintro e w1 ⟨rfl, rfl⟩))
  go_ret
  exact ⟨ret_str (rwx_cat _ _ _ _ _ _ _ _ _), rfl⟩
end Go.Proofs.YtgoekfonbpffdaaDoor
