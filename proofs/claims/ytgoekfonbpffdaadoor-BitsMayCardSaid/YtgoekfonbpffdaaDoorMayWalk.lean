/-
  The walks of May: the program's own, the reference's, and the law's: for every meta, ids and wants it returns true; of what was there nothing has turned. Condition: Laid.
-/
import Derived.Test.YtgoekfonbpffdaaDoorLaid
import Derived.Test.YtgoekfonbpffdaaDoorMayMath
namespace Go.Proofs.YtgoekfonbpffdaaDoor.bitsMayw
open Go.RowKit Go.Sort
/-- The box that a meta's parameter lies in. -/
abbrev box (m u g : Int) : Obj := .cells #[.int .i64 m, .int .i64 u, .int .i64 g] 33
set_option maxHeartbeats 1000000 in
theorem may_code (m u g uid gid want : Int) (w : World) :
    Calls Tryd.prog 29 #[.agg #[.int .i64 m, .int .i64 u, .int .i64 g], .int .i64 uid, .int .i64 gid, .int .i64 want] w fun e w' => e = .returned (.bool (mayB m u g uid gid want)) ∧ w.alloc (box m u g) = w' := by
  have hw7 := and_7 want
  by_cases h0 : uid = 0
  · have hx := exec_code m
    have hq := want_code want
    have hm : mayB m u g uid gid want = (!bitB want 0 || (bitB m 0 || bitB m 3 || bitB m 6)) := by unfold mayB; rw [if_pos h0]
    rw [hm]
    clear hm
    have hb : (uid == 0) = true := by simpa using h0
    clear h0
    generalize (bitB m 0 || bitB m 3 || bitB m 6) = x at *
    generalize bitB want 0 = y at *
    cases y
    all_goals
      simp only [Bool.not_true, Bool.not_false] at hq
      go_enter Tryd.func29, Tryd.ntmps29
      go_wp2
      go_ret
      exact ⟨by simp, rfl⟩
  · have hb : (uid == 0) = false := by simpa using h0
    by_cases h1 : uid = u
    · have hm : mayB m u g uid gid want = ok3 (m / 64) 0 want := by unfold mayB; rw [if_neg h0, if_pos h1]; exact (ok3_shift m 6 want).symm
      rw [hm, ← ok3_code]
      clear hm
      have hb1 : (uid == u) = true := by simpa using h1
      clear h0 h1
      go_enter Tryd.func29, Tryd.ntmps29
      go_wp2
      go_ret
      exact ⟨rfl, rfl⟩
    · have hb1 : (uid == u) = false := by simpa using h1
      by_cases h2 : gid = g
      · have hm : mayB m u g uid gid want = ok3 (m / 8) 0 want := by unfold mayB; rw [if_neg h0, if_neg h1, if_pos h2]; exact (ok3_shift m 3 want).symm
        rw [hm, ← ok3_code]
        clear hm
        have hb2 : (gid == g) = true := by simpa using h2
        clear h0 h1 h2
        go_enter Tryd.func29, Tryd.ntmps29
        go_wp2
        go_ret
        exact ⟨rfl, rfl⟩
      · have hm : mayB m u g uid gid want = ok3 m 0 want := by unfold mayB; rw [if_neg h0, if_neg h1, if_neg h2]
        rw [hm, ← ok3_code]
        clear hm
        have hb2 : (gid == g) = false := by simpa using h2
        clear h0 h1 h2
        go_enter Tryd.func29, Tryd.ntmps29
        go_wp2
        go_ret
        exact ⟨rfl, rfl⟩
/-- What the reference's loop has found so far. -/
def okTo (m : Int) (low : Nat) (want : Int) : Nat → Bool
  | 0 => true
  | i + 1 => okTo m low want i && (!bitB want i || bitB m (low + i))
theorem okTo_3 (m : Int) (low : Nat) (want : Int) : okTo m low want 3 = ok3 m low want := by simp [okTo, ok3]
theorem okTo_le (m : Int) (low : Nat) (want : Int) (i : Nat) (hi : i < 3) (h : bitB want i = true) (h2 : bitB m (low + i) = false) : ok3 m low want = false := by
  have hi3 : i = 0 ∨ i = 1 ∨ i = 2 := by omega
  unfold ok3
  rcases hi3 with rfl | rfl | rfl <;> simp_all
set_option maxHeartbeats 4000000 in
theorem may_ref (m u g uid gid want : Int) (w : World) :
    Calls Tryd.prog 30 #[.agg #[.int .i64 m, .int .i64 u, .int .i64 g], .int .i64 uid, .int .i64 gid, .int .i64 want] w fun e w' => e = .returned (.bool (mayB m u g uid gid want)) ∧ w.alloc (box m u g) = w' := by
  have B0 : ∀ (n : Int) (w : World), Calls Tryd.prog 43 #[.int .i64 n, .int .i64 0] w fun e w' => e = .returned (.bool (bitB n 0)) ∧ w = w' := fun n w => bit_any n 0 (by omega) w
  have B3 : ∀ (n : Int) (w : World), Calls Tryd.prog 43 #[.int .i64 n, .int .i64 3] w fun e w' => e = .returned (.bool (bitB n 3)) ∧ w = w' := fun n w => bit_any n 3 (by omega) w
  have B6 : ∀ (n : Int) (w : World), Calls Tryd.prog 43 #[.int .i64 n, .int .i64 6] w fun e w' => e = .returned (.bool (bitB n 6)) ∧ w = w' := fun n w => bit_any n 6 (by omega) w
  by_cases h0 : uid = 0
  · have hm : mayB m u g uid gid want = (!bitB want 0 || (bitB m 0 || bitB m 3 || bitB m 6)) := by unfold mayB; rw [if_pos h0]
    rw [hm]
    clear hm
    have hb : (uid == 0) = true := by simpa using h0
    clear h0
    generalize hw0 : bitB want 0 = x0 at *
    generalize hm0 : bitB m 0 = x1 at *
    generalize hm3 : bitB m 3 = x2 at *
    generalize hm6 : bitB m 6 = x3 at *
    cases x0 <;> cases x1 <;> cases x2
    all_goals
      go_enter Tryd.func30, Tryd.ntmps30
      go_wp2_with (go_at_call 43; first | ((with_reducible refine (B0 _ _).mono ?_); rintro e w1 ⟨rfl, rfl⟩) | ((with_reducible refine (B3 _ _).mono ?_); rintro e w1 ⟨rfl, rfl⟩) | ((with_reducible refine (B6 _ _).mono ?_); rintro e w1 ⟨rfl, rfl⟩))
      go_ret
      exact ⟨by simp [*], rfl⟩
  · have hb : (uid == 0) = false := by simpa using h0
    have hl : ∃ low : Nat, (uid = u ∧ low = 6 ∨ uid ≠ u ∧ gid = g ∧ low = 3 ∨ uid ≠ u ∧ gid ≠ g ∧ low = 0) ∧ mayB m u g uid gid want = ok3 m low want := by
      unfold mayB
      rw [if_neg h0]
      by_cases h1 : uid = u
      · exact ⟨6, Or.inl ⟨h1, rfl⟩, by rw [if_pos h1]⟩
      · rw [if_neg h1]
        by_cases h2 : gid = g
        · exact ⟨3, Or.inr (Or.inl ⟨h1, h2, rfl⟩), by rw [if_pos h2]⟩
        · exact ⟨0, Or.inr (Or.inr ⟨h1, h2, rfl⟩), by rw [if_neg h2]⟩
    obtain ⟨low, hl, hm⟩ := hl
    rw [hm]
    clear hm h0 B0 B3 B6
    have hc : ((uid == u) = true ∧ ((gid == g) = true ∨ (gid == g) = false) ∧ low = 6) ∨ ((uid == u) = false ∧ (gid == g) = true ∧ low = 3) ∨ ((uid == u) = false ∧ (gid == g) = false ∧ low = 0) := by
      rcases hl with ⟨h1, rfl⟩ | ⟨h1, h2, rfl⟩ | ⟨h1, h2, rfl⟩
      · exact Or.inl ⟨by simpa using h1, by cases (gid == g) <;> simp, rfl⟩
      · exact Or.inr (Or.inl ⟨by simpa using h1, by simpa using h2, rfl⟩)
      · exact Or.inr (Or.inr ⟨by simpa using h1, by simpa using h2, rfl⟩)
    clear hl
    rcases hc with ⟨hb1, hb2 | hb2, rfl⟩ | ⟨hb1, hb2, rfl⟩ | ⟨hb1, hb2, rfl⟩
    · go_enter Tryd.func30, Tryd.ntmps30
      go_wp2
      go_loop [10] (fun i => ∃ j : Nat, j ≤ 3 ∧ i = .int .i64 j ∧ Hid (okTo m 6 want j = true)) (fun i => 3 - (intOf i).toNat)
      case atStart => exact ⟨0, by omega, rfl, Lib.hid rfl⟩
      case round =>
        obtain ⟨j, hj, rfl, HJ⟩ := hrel
        by_cases hlt : j < 3
        · have BW := fun w => bit_any want j (by omega) w
          have BM : ∀ w, Calls Tryd.prog 43 #[.int .i64 m, .int .i64 (6 + (j : Int))] w fun e w' => e = .returned (.bool (bitB m (6 + j))) ∧ w = w' := fun w => by
            have := bit_any m (6 + j) (by omega) w
            rwa [Int.natCast_add] at this
          cases hx : bitB want j <;> cases hy : bitB m (6 + j)
          · have HX := Lib.hid hx
            rw [hx] at BW
            clear hx hy
            go_wp2_with (go_at_call 43; first | ((with_reducible refine (BW _).mono ?_); rintro e w1 ⟨rfl, rfl⟩) | ((with_reducible refine (BM _).mono ?_); rintro e w1 ⟨rfl, rfl⟩))
            go_round
            case rel => exact ⟨j + 1, by omega, by go_num, Lib.hid (by simp [okTo, HJ.out, HX.out])⟩
            case measure => simp [intOf]; omega
          · have HX := Lib.hid hx
            rw [hx] at BW
            clear hx hy
            go_wp2_with (go_at_call 43; first | ((with_reducible refine (BW _).mono ?_); rintro e w1 ⟨rfl, rfl⟩) | ((with_reducible refine (BM _).mono ?_); rintro e w1 ⟨rfl, rfl⟩))
            go_round
            case rel => exact ⟨j + 1, by omega, by go_num, Lib.hid (by simp [okTo, HJ.out, HX.out])⟩
            case measure => simp [intOf]; omega
          · have HO := Lib.hid (okTo_le m 6 want j hlt hx hy)
            rw [hx] at BW
            rw [hy] at BM
            clear hx hy
            go_wp2_with (go_at_call 43; first | ((with_reducible refine (BW _).mono ?_); rintro e w1 ⟨rfl, rfl⟩) | ((with_reducible refine (BM _).mono ?_); rintro e w1 ⟨rfl, rfl⟩))
            go_ret
            exact ⟨ret_bool HO.out.symm, rfl⟩
          · have HX := Lib.hid hy
            rw [hx] at BW
            rw [hy] at BM
            clear hx hy
            go_wp2_with (go_at_call 43; first | ((with_reducible refine (BW _).mono ?_); rintro e w1 ⟨rfl, rfl⟩) | ((with_reducible refine (BM _).mono ?_); rintro e w1 ⟨rfl, rfl⟩))
            go_round
            case rel => exact ⟨j + 1, by omega, by go_num, Lib.hid (by simp [okTo, HJ.out, HX.out])⟩
            case measure => simp [intOf]; omega
        · obtain rfl : j = 3 := by omega
          go_wp2
          go_ret
          have h3 := HJ.out
          rw [okTo_3] at h3
          exact ⟨ret_bool h3.symm, rfl⟩
    · go_enter Tryd.func30, Tryd.ntmps30
      go_wp2
      go_loop [10] (fun i => ∃ j : Nat, j ≤ 3 ∧ i = .int .i64 j ∧ Hid (okTo m 6 want j = true)) (fun i => 3 - (intOf i).toNat)
      case atStart => exact ⟨0, by omega, rfl, Lib.hid rfl⟩
      case round =>
        obtain ⟨j, hj, rfl, HJ⟩ := hrel
        by_cases hlt : j < 3
        · have BW := fun w => bit_any want j (by omega) w
          have BM : ∀ w, Calls Tryd.prog 43 #[.int .i64 m, .int .i64 (6 + (j : Int))] w fun e w' => e = .returned (.bool (bitB m (6 + j))) ∧ w = w' := fun w => by
            have := bit_any m (6 + j) (by omega) w
            rwa [Int.natCast_add] at this
          cases hx : bitB want j <;> cases hy : bitB m (6 + j)
          · have HX := Lib.hid hx
            rw [hx] at BW
            clear hx hy
            go_wp2_with (go_at_call 43; first | ((with_reducible refine (BW _).mono ?_); rintro e w1 ⟨rfl, rfl⟩) | ((with_reducible refine (BM _).mono ?_); rintro e w1 ⟨rfl, rfl⟩))
            go_round
            case rel => exact ⟨j + 1, by omega, by go_num, Lib.hid (by simp [okTo, HJ.out, HX.out])⟩
            case measure => simp [intOf]; omega
          · have HX := Lib.hid hx
            rw [hx] at BW
            clear hx hy
            go_wp2_with (go_at_call 43; first | ((with_reducible refine (BW _).mono ?_); rintro e w1 ⟨rfl, rfl⟩) | ((with_reducible refine (BM _).mono ?_); rintro e w1 ⟨rfl, rfl⟩))
            go_round
            case rel => exact ⟨j + 1, by omega, by go_num, Lib.hid (by simp [okTo, HJ.out, HX.out])⟩
            case measure => simp [intOf]; omega
          · have HO := Lib.hid (okTo_le m 6 want j hlt hx hy)
            rw [hx] at BW
            rw [hy] at BM
            clear hx hy
            go_wp2_with (go_at_call 43; first | ((with_reducible refine (BW _).mono ?_); rintro e w1 ⟨rfl, rfl⟩) | ((with_reducible refine (BM _).mono ?_); rintro e w1 ⟨rfl, rfl⟩))
            go_ret
            exact ⟨ret_bool HO.out.symm, rfl⟩
          · have HX := Lib.hid hy
            rw [hx] at BW
            rw [hy] at BM
            clear hx hy
            go_wp2_with (go_at_call 43; first | ((with_reducible refine (BW _).mono ?_); rintro e w1 ⟨rfl, rfl⟩) | ((with_reducible refine (BM _).mono ?_); rintro e w1 ⟨rfl, rfl⟩))
            go_round
            case rel => exact ⟨j + 1, by omega, by go_num, Lib.hid (by simp [okTo, HJ.out, HX.out])⟩
            case measure => simp [intOf]; omega
        · obtain rfl : j = 3 := by omega
          go_wp2
          go_ret
          have h3 := HJ.out
          rw [okTo_3] at h3
          exact ⟨ret_bool h3.symm, rfl⟩
    · go_enter Tryd.func30, Tryd.ntmps30
      go_wp2
      go_loop [10] (fun i => ∃ j : Nat, j ≤ 3 ∧ i = .int .i64 j ∧ Hid (okTo m 3 want j = true)) (fun i => 3 - (intOf i).toNat)
      case atStart => exact ⟨0, by omega, rfl, Lib.hid rfl⟩
      case round =>
        obtain ⟨j, hj, rfl, HJ⟩ := hrel
        by_cases hlt : j < 3
        · have BW := fun w => bit_any want j (by omega) w
          have BM : ∀ w, Calls Tryd.prog 43 #[.int .i64 m, .int .i64 (3 + (j : Int))] w fun e w' => e = .returned (.bool (bitB m (3 + j))) ∧ w = w' := fun w => by
            have := bit_any m (3 + j) (by omega) w
            rwa [Int.natCast_add] at this
          cases hx : bitB want j <;> cases hy : bitB m (3 + j)
          · have HX := Lib.hid hx
            rw [hx] at BW
            clear hx hy
            go_wp2_with (go_at_call 43; first | ((with_reducible refine (BW _).mono ?_); rintro e w1 ⟨rfl, rfl⟩) | ((with_reducible refine (BM _).mono ?_); rintro e w1 ⟨rfl, rfl⟩))
            go_round
            case rel => exact ⟨j + 1, by omega, by go_num, Lib.hid (by simp [okTo, HJ.out, HX.out])⟩
            case measure => simp [intOf]; omega
          · have HX := Lib.hid hx
            rw [hx] at BW
            clear hx hy
            go_wp2_with (go_at_call 43; first | ((with_reducible refine (BW _).mono ?_); rintro e w1 ⟨rfl, rfl⟩) | ((with_reducible refine (BM _).mono ?_); rintro e w1 ⟨rfl, rfl⟩))
            go_round
            case rel => exact ⟨j + 1, by omega, by go_num, Lib.hid (by simp [okTo, HJ.out, HX.out])⟩
            case measure => simp [intOf]; omega
          · have HO := Lib.hid (okTo_le m 3 want j hlt hx hy)
            rw [hx] at BW
            rw [hy] at BM
            clear hx hy
            go_wp2_with (go_at_call 43; first | ((with_reducible refine (BW _).mono ?_); rintro e w1 ⟨rfl, rfl⟩) | ((with_reducible refine (BM _).mono ?_); rintro e w1 ⟨rfl, rfl⟩))
            go_ret
            exact ⟨ret_bool HO.out.symm, rfl⟩
          · have HX := Lib.hid hy
            rw [hx] at BW
            rw [hy] at BM
            clear hx hy
            go_wp2_with (go_at_call 43; first | ((with_reducible refine (BW _).mono ?_); rintro e w1 ⟨rfl, rfl⟩) | ((with_reducible refine (BM _).mono ?_); rintro e w1 ⟨rfl, rfl⟩))
            go_round
            case rel => exact ⟨j + 1, by omega, by go_num, Lib.hid (by simp [okTo, HJ.out, HX.out])⟩
            case measure => simp [intOf]; omega
        · obtain rfl : j = 3 := by omega
          go_wp2
          go_ret
          have h3 := HJ.out
          rw [okTo_3] at h3
          exact ⟨ret_bool h3.symm, rfl⟩
    · go_enter Tryd.func30, Tryd.ntmps30
      go_wp2
      go_loop [10] (fun i => ∃ j : Nat, j ≤ 3 ∧ i = .int .i64 j ∧ Hid (okTo m 0 want j = true)) (fun i => 3 - (intOf i).toNat)
      case atStart => exact ⟨0, by omega, rfl, Lib.hid rfl⟩
      case round =>
        obtain ⟨j, hj, rfl, HJ⟩ := hrel
        by_cases hlt : j < 3
        · have BW := fun w => bit_any want j (by omega) w
          have BM : ∀ w, Calls Tryd.prog 43 #[.int .i64 m, .int .i64 (j : Int)] w fun e w' => e = .returned (.bool (bitB m (0 + j))) ∧ w = w' := fun w => by
            have := bit_any m (0 + j) (by omega) w
            rwa [Nat.zero_add] at this ⊢
          cases hx : bitB want j <;> cases hy : bitB m (0 + j)
          · have HX := Lib.hid hx
            rw [hx] at BW
            clear hx hy
            go_wp2_with (go_at_call 43; first | ((with_reducible refine (BW _).mono ?_); rintro e w1 ⟨rfl, rfl⟩) | ((with_reducible refine (BM _).mono ?_); rintro e w1 ⟨rfl, rfl⟩))
            go_round
            case rel => exact ⟨j + 1, by omega, by go_num, Lib.hid (by simp [okTo, HJ.out, HX.out])⟩
            case measure => simp [intOf]; omega
          · have HX := Lib.hid hx
            rw [hx] at BW
            clear hx hy
            go_wp2_with (go_at_call 43; first | ((with_reducible refine (BW _).mono ?_); rintro e w1 ⟨rfl, rfl⟩) | ((with_reducible refine (BM _).mono ?_); rintro e w1 ⟨rfl, rfl⟩))
            go_round
            case rel => exact ⟨j + 1, by omega, by go_num, Lib.hid (by simp [okTo, HJ.out, HX.out])⟩
            case measure => simp [intOf]; omega
          · have HO := Lib.hid (okTo_le m 0 want j hlt hx hy)
            rw [hx] at BW
            rw [hy] at BM
            clear hx hy
            go_wp2_with (go_at_call 43; first | ((with_reducible refine (BW _).mono ?_); rintro e w1 ⟨rfl, rfl⟩) | ((with_reducible refine (BM _).mono ?_); rintro e w1 ⟨rfl, rfl⟩))
            go_ret
            exact ⟨ret_bool HO.out.symm, rfl⟩
          · have HX := Lib.hid hy
            rw [hx] at BW
            rw [hy] at BM
            clear hx hy
            go_wp2_with (go_at_call 43; first | ((with_reducible refine (BW _).mono ?_); rintro e w1 ⟨rfl, rfl⟩) | ((with_reducible refine (BM _).mono ?_); rintro e w1 ⟨rfl, rfl⟩))
            go_round
            case rel => exact ⟨j + 1, by omega, by go_num, Lib.hid (by have h1 := HX.out; rw [Nat.zero_add] at h1; simp [okTo, HJ.out, h1])⟩
            case measure => simp [intOf]; omega
        · obtain rfl : j = 3 := by omega
          go_wp2
          go_ret
          have h3 := HJ.out
          rw [okTo_3] at h3
          exact ⟨ret_bool h3.symm, rfl⟩
set_option maxHeartbeats 4000000 in
theorem walk0 (m u g : Int) (uid gid want : Int) (less : Int) (w : World) (h : Laid w) :
    Calls Tryd.prog 7 #[.agg #[.int .i64 m, .int .i64 u, .int .i64 g], .agg #[.int .i64 uid, .int .i64 gid, .int .i64 want], .int .i64 less] w fun e w' => e = .returned (.bool true) ∧ Below w.heap.size w w' := by
  have C1 := fun w => may_code m u g uid gid want w
  have C2 := fun w => may_ref m u g uid gid want w
  have C3 := fun w => may_code m u g uid gid (bits .and .i64 want less) w
  have HL := may_less m u g uid gid want less
  generalize mayB m u g uid gid want = a at *
  generalize mayB m u g uid gid (bits .and .i64 want less) = b at *
  cases a
  · have A := fun o1 o2 o3 o4 => awake_any ((((w.alloc o1).alloc o2).alloc o3).alloc o4) ((((h.alloc _).alloc _).alloc _).alloc _)
    have HA := Lib.hid A
    clear h A C3 HL
    go_enter Tryd.func7, Tryd.ntmps7
    go_wp2_with (first | (go_at_call 29; (with_reducible refine (C1 _).mono ?_); rintro e w1 ⟨rfl, rfl⟩) | (go_at_call 30; (with_reducible refine (C2 _).mono ?_); rintro e w1 ⟨rfl, rfl⟩) | (go_at_call 10; refine (HA.out _ _ _ _).mono ?_; rintro e w1 ⟨rfl, hb⟩; have HB := Lib.hid hb; clear hb))
    go_ret
    refine ⟨rfl, fin ?_ HB.out⟩
    exact al (al (al (al (Below.refl w.heap.size w) _) _) _) _
  · have hb1 := HL rfl
    subst hb1
    have A := fun o1 o2 o3 o4 o5 => awake_any (((((w.alloc o1).alloc o2).alloc o3).alloc o4).alloc o5) (((((h.alloc _).alloc _).alloc _).alloc _).alloc _)
    have HA := Lib.hid A
    clear h A HL
    go_enter Tryd.func7, Tryd.ntmps7
    go_wp2_with (first | (go_at_call 29; first | ((with_reducible refine (C1 _).mono ?_); rintro e w1 ⟨rfl, rfl⟩) | ((with_reducible refine (C3 _).mono ?_); rintro e w1 ⟨rfl, rfl⟩)) | (go_at_call 30; (with_reducible refine (C2 _).mono ?_); rintro e w1 ⟨rfl, rfl⟩) | (go_at_call 10; refine (HA.out _ _ _ _ _).mono ?_; rintro e w1 ⟨rfl, hb⟩; have HB := Lib.hid hb; clear hb))
    go_ret
    refine ⟨rfl, fin ?_ HB.out⟩
    exact al (al (al (al (al (Below.refl w.heap.size w) _) _) _) _) _
theorem walk (x0 : Int × Int × Int) {P0 : Prop} (_ : P0) (x1 : Int × Int × Int) {P1 : Prop} (_ : P1) (x2 : Int) {P2 : Prop} (_ : P2) (w : World) (h : Laid w) :
    Calls Tryd.prog 7 #[.agg #[.int .i64 x0.1, .int .i64 x0.2.1, .int .i64 x0.2.2], .agg #[.int .i64 x1.1, .int .i64 x1.2.1, .int .i64 x1.2.2], .int .i64 x2] w fun e w' => e = .returned (.bool true) ∧ Below w.heap.size w w' := walk0 _ _ _ _ _ _ _ w h
end Go.Proofs.YtgoekfonbpffdaaDoor.bitsMayw
