/-
  The laws' last word 'awake' of layer 1: it is true in every world that holds what the program lays; of what was there nothing has turned.
-/
import Derived.Test.YtgoekfonbpffdaaDoorRwx
namespace Go.Proofs.YtgoekfonbpffdaaDoor
open Go.RowKit Go.Sort
theorem octal_493 (w : World) (h : Laid w) : Calls Tryd.prog 13 #[.int .i64 493] w fun e w' => e = .returned (.string ⟨#[48, 55, 53, 53]⟩) ∧ Below w.heap.size w w' := by
  have H := octal_any 493 w h
  have e : (digL 8 (nat64 493 % 4096) 4).toArray = #[48, 55, 53, 53] := by decide +kernel
  rw [e] at H
  exact H
theorem rwx_493 (w : World) (h : Laid w) : Calls Tryd.prog 25 #[.int .i64 493] w fun e w' => e = .returned (.string ⟨#[114, 119, 120, 114, 45, 120, 114, 45, 120]⟩) ∧ Below w.heap.size w w' := by
  have H := rwx_any 493 w h
  have e : (rwxL 493).toArray = #[114, 119, 120, 114, 45, 120, 114, 45, 120] := by decide +kernel
  rw [e] at H
  exact H
theorem sum_empty (w : World) (h : Laid w) : Calls Tryd.prog 34 #[.string ⟨#[]⟩] w fun e w' => e = .returned (.string ⟨#[99, 98, 102, 50, 57, 99, 101, 52, 56, 52, 50, 50, 50, 51, 50, 53]⟩) ∧ Below w.heap.size w w' := by
  have H := sum_any ⟨#[]⟩ (by decide) w h
  have e : (digL 16 (sumN (ByteArray.mk #[]).data.toList) 16).toArray = #[99, 98, 102, 50, 57, 99, 101, 52, 56, 52, 50, 50, 50, 51, 50, 53] := by decide +kernel
  rw [e] at H
  exact H
theorem text_7 (w : World) (h : Laid w) : Calls Tryd.prog 39 #[.int .i64 (-7)] w fun e w' => e = .returned (.string ⟨#[45, 55]⟩) ∧ Below w.heap.size w w' := by
  have H := text_any (-7) (by omega) (by omega) w h
  have e : (Lib.itoa (-7)).toArray = #[45, 55] := by decide +kernel
  rw [e] at H
  exact H
set_option maxHeartbeats 400000 in
theorem inRange_any (n k : Int) (w : World) :
    Calls Tryd.prog 44 #[.int .i64 n, .int .i64 k] w fun e w' => e = .returned (.bool (decide (0 ≤ n) && decide (n ≤ k))) ∧ w = w' := by
  by_cases h0 : 0 ≤ n <;> by_cases h1 : n ≤ k
  all_goals
    go_enter Tryd.func44, Tryd.ntmps44
    go_wp2
    go_ret
    exact ⟨ret_bool (by simp [*]), rfl⟩
def rightB (m u g : Int) : Bool := (decide (0 ≤ m) && decide (m ≤ 4095)) && (decide (0 ≤ u) && decide (u ≤ 67108863)) && (decide (0 ≤ g) && decide (g ≤ 67108863))
set_option maxHeartbeats 1000000 in
theorem right_any (m u g : Int) (w : World) :
    Calls Tryd.prog 21 #[.agg #[.int .i64 m, .int .i64 u, .int .i64 g]] w fun e w' => e = .returned (.bool (rightB m u g)) ∧ Below w.heap.size w w' := by
  have R1 : ∀ w, Calls Tryd.prog 44 #[.int .i64 m, .int .i64 4095] w fun e w' => e = .returned (.bool (decide (0 ≤ m) && decide (m ≤ 4095))) ∧ w = w' := inRange_any m 4095
  have R2 : ∀ w, Calls Tryd.prog 44 #[.int .i64 u, .int .i64 67108863] w fun e w' => e = .returned (.bool (decide (0 ≤ u) && decide (u ≤ 67108863))) ∧ w = w' := inRange_any u 67108863
  have R3 : ∀ w, Calls Tryd.prog 44 #[.int .i64 g, .int .i64 67108863] w fun e w' => e = .returned (.bool (decide (0 ≤ g) && decide (g ≤ 67108863))) ∧ w = w' := inRange_any g 67108863
  unfold rightB
  generalize (decide (0 ≤ m) && decide (m ≤ 4095)) = b1 at *
  generalize (decide (0 ≤ u) && decide (u ≤ 67108863)) = b2 at *
  generalize (decide (0 ≤ g) && decide (g ≤ 67108863)) = b3 at *
  cases b1 <;> cases b2
  all_goals
    go_enter Tryd.func21, Tryd.ntmps21
    go_wp2_with (go_at_call 44; first | ((with_reducible refine (R1 _).mono ?_); rintro e w1 ⟨rfl, rfl⟩) | ((with_reducible refine (R2 _).mono ?_); rintro e w1 ⟨rfl, rfl⟩) | ((with_reducible refine (R3 _).mono ?_); rintro e w1 ⟨rfl, rfl⟩))
    go_ret
    exact ⟨by simp, (Below.refl _ _).alloc (Nat.le_refl _) _⟩
set_option maxHeartbeats 1000000 in
theorem awake_any (w : World) (h : Laid w) :
    Calls Tryd.prog 10 #[] w fun e w' => e = .returned (.bool true) ∧ Below w.heap.size w w' := by
  have hr : rightB 493 0 0 = true := by decide
  have R := fun w => right_any 493 0 0 w
  rw [hr] at R
  clear hr
  go_enter Tryd.func10, Tryd.ntmps10
  go_wp2_with (go_at_call 13; refine (octal_493 _ h).mono ?_; rintro e w1 ⟨rfl, hb1⟩; refine Hid.out ?_)
  have h1 := h.on hb1
  refine Lib.hid ?_
  go_wp2_with (go_at_call 25; refine (rwx_493 _ h1).mono ?_; rintro e w2 ⟨rfl, hb2⟩; refine Hid.out ?_)
  have h2 := h1.on hb2
  refine Lib.hid ?_
  go_wp2_with (go_at_call 34; refine (sum_empty _ h2).mono ?_; rintro e w3 ⟨rfl, hb3⟩; refine Hid.out ?_)
  have h3 := h2.on hb3
  refine Lib.hid ?_
  go_wp2_with (first | (go_at_call 39; refine (text_7 _ h3).mono ?_; rintro e w4 ⟨rfl, hb4⟩) | (go_at_call 21; refine (R _).mono ?_; rintro e w5 ⟨rfl, hb5⟩))
  go_ret
  have hb12 := hb1.trans (hb2.mono hb1.size)
  have hb13 := hb12.trans (hb3.mono hb12.size)
  have hb14 := hb13.trans (hb4.mono hb13.size)
  exact ⟨rfl, hb14.trans (hb5.mono hb14.size)⟩
end Go.Proofs.YtgoekfonbpffdaaDoor
