/-
  Places, links, names, triggers, by the reference: what each returns; nothing old turns.
-/
import Derived.Test.YtolpcnhgmmnmcaaGreatDoorKAct
import Derived.Test.YtolpcnhgmmnmcaaGreatDoorPNameRef
import Derived.Test.YtolpcnhgmmnmcaaGreatDoorPCleanRef
namespace Go.Proofs.YtolpcnhgmmnmcaaGreatDoor
open Go.RowKit Go.Shelf
set_option maxRecDepth 100000 in
set_option maxHeartbeats 4000000 in
theorem placeK_ref (p : ByteArray) (hp : p.size ≤ 4000) (w : World) : Calls Tryz.prog 21 #[.string p] w fun e w' => e = .returned (.bool (plK p.data.toList)) ∧ Below w.heap.size w w' := by
  have R := right_ref p hp w
  have S := fun W => reserved_ref p hp W
  have q := eqTL p [47]
  unfold plK
  generalize right p.data.toList = r at *
  generalize rsvK p.data.toList = v at *
  by_cases h47 : p.data.toList = [47]
  · rw [decide_eq_true h47] at q
    rw [decide_eq_false (by simpa using h47)]
    clear h47
    cases r
    all_goals
      go_enter Tryz.func21, Tryz.ntmps21
      go_wp2_with (go_at_call 42; (with_reducible refine R.mono ?_); rintro e w1 ⟨rfl, hb⟩; have HB := Lib.hid hb; clear hb)
      go_ret
      exact ⟨by simp, HB.out⟩
  · rw [decide_eq_false h47] at q
    rw [decide_eq_true (by simpa using h47)]
    clear h47
    cases r
    all_goals
      go_enter Tryz.func21, Tryz.ntmps21
      go_wp2_with (first
        | (go_at_call 42; (with_reducible refine R.mono ?_); rintro e w1 ⟨rfl, hb⟩; have HB := Lib.hid hb; clear hb)
        | (go_at_call 43; (with_reducible refine (S _).mono ?_); rintro e w2 ⟨rfl, rfl⟩))
      go_ret
      exact ⟨by simp, HB.out⟩
set_option maxRecDepth 100000 in
set_option maxHeartbeats 4000000 in
theorem linkK_ref (p : ByteArray) (hp : p.size ≤ 4000) (w : World) : Calls Tryz.prog 24 #[.string p] w fun e w' => e = .returned (.bool (lkK p.data.toList)) ∧ Below w.heap.size w w' := by
  have P := placeK_ref p hp w
  unfold lkK
  rw [← sizeOf]
  generalize plK p.data.toList = r at *
  by_cases hs : p.size ≤ 191
  all_goals
    cases r
    all_goals
      go_enter Tryz.func24, Tryz.ntmps24
      go_wp2_with (go_at_call 21; (with_reducible refine P.mono ?_); rintro e w1 ⟨rfl, hb⟩; have HB := Lib.hid hb; clear hb)
      go_ret
      exact ⟨retb (by first | rfl | (simp [hs]; done) | (simp; omega)), HB.out⟩
set_option maxRecDepth 100000 in
set_option maxHeartbeats 4000000 in
theorem nameK_ref (p : ByteArray) (hp : p.size ≤ 4000) (w : World) : Calls Tryz.prog 23 #[.string p] w fun e w' => e = .returned (.bool (nmK p.data.toList)) ∧ w = w' := by
  have N := name_ref p hp w
  have E1 : ∀ W, Calls Tryz.prog 44 #[.string p, .string ⟨#[46, 100, 112, 107, 103, 45, 110, 101, 119]⟩] W fun e w' => e = .returned (.bool (Lib.hasSuffix p.data.toList newK)) ∧ W = w' := fun W => ends_ref p ⟨#[46, 100, 112, 107, 103, 45, 110, 101, 119]⟩ hp (by decide) W
  have E2 : ∀ W, Calls Tryz.prog 44 #[.string p, .string ⟨#[46, 100, 112, 107, 103, 45, 116, 109, 112]⟩] W fun e w' => e = .returned (.bool (Lib.hasSuffix p.data.toList tmpK)) ∧ W = w' := fun W => ends_ref p ⟨#[46, 100, 112, 107, 103, 45, 116, 109, 112]⟩ hp (by decide) W
  have E3 : ∀ W, Calls Tryz.prog 44 #[.string p, .string ⟨#[46, 100, 112, 107, 103, 45, 100, 105, 115, 116]⟩] W fun e w' => e = .returned (.bool (Lib.hasSuffix p.data.toList disK)) ∧ W = w' := fun W => ends_ref p ⟨#[46, 100, 112, 107, 103, 45, 100, 105, 115, 116]⟩ hp (by decide) W
  unfold nmK endK
  generalize nameB p.data.toList = n at *
  generalize Lib.hasSuffix p.data.toList newK = c1 at *
  generalize Lib.hasSuffix p.data.toList tmpK = c2 at *
  generalize Lib.hasSuffix p.data.toList disK = c3 at *
  cases n <;> cases c1 <;> cases c2
  all_goals
    go_enter Tryz.func23, Tryz.ntmps23
    go_wp2_with (first
      | (go_at_call 20; (with_reducible refine N.mono ?_); rintro e w1 ⟨rfl, rfl⟩)
      | (go_at_call 44; first | ((with_reducible refine (E1 _).mono ?_); rintro e w1 ⟨rfl, rfl⟩) | ((with_reducible refine (E2 _).mono ?_); rintro e w1 ⟨rfl, rfl⟩) | ((with_reducible refine (E3 _).mono ?_); rintro e w1 ⟨rfl, rfl⟩)))
    go_ret
    exact ⟨by simp, rfl⟩
theorem trgK_ref (s : ByteArray) (hs : s.size ≤ 4000) (w : World) : Calls Tryz.prog 25 #[.string s] w fun e w' => e = .returned (.bool (trgK s.data.toList)) ∧ Below w.heap.size w w' := by
  have N := name_ref s hs w
  have R := right_ref s hs w
  have HR := Lib.hid (Below.refl w.heap.size w)
  unfold trgK
  generalize nameB s.data.toList = a at *
  generalize right s.data.toList = b at *
  cases a
  all_goals
    go_enter Tryz.func25, Tryz.ntmps25
    go_wp2_with (first
      | (go_at_call 20; (with_reducible refine N.mono ?_); rintro e w1 ⟨rfl, rfl⟩)
      | (go_at_call 42; (with_reducible refine R.mono ?_); rintro e w1 ⟨rfl, hb⟩; have HB := Lib.hid hb; clear hb))
    go_ret
    first | exact ⟨by simp, HB.out⟩ | exact ⟨by simp, HR.out⟩
set_option maxHeartbeats 4000000 in
theorem rightM_ref (m u g : Int) (w : World) :
    Calls Tryz.prog 22 #[.agg #[.int .i64 m, .int .i64 u, .int .i64 g]] w fun e w' => e = .returned (.bool (rightM m u g)) ∧ Below w.heap.size w w' := by
  unfold rightM
  by_cases a0 : 0 ≤ m
  case neg =>
    go_enter Tryz.func22, Tryz.ntmps22
    go_wp2
    go_ret
    exact ⟨retb (by first | (simp [*]; done) | (simp [*]; omega)), (Below.refl _ _).alloc (Nat.le_refl _) _⟩
  by_cases a1 : m ≤ 4095
  case neg =>
    go_enter Tryz.func22, Tryz.ntmps22
    go_wp2
    go_ret
    exact ⟨retb (by first | (simp [*]; done) | (simp [*]; omega)), (Below.refl _ _).alloc (Nat.le_refl _) _⟩
  by_cases a2 : 0 ≤ u
  case neg =>
    go_enter Tryz.func22, Tryz.ntmps22
    go_wp2
    go_ret
    exact ⟨retb (by first | (simp [*]; done) | (simp [*]; omega)), (Below.refl _ _).alloc (Nat.le_refl _) _⟩
  by_cases a3 : u ≤ 67108863
  case neg =>
    go_enter Tryz.func22, Tryz.ntmps22
    go_wp2
    go_ret
    exact ⟨retb (by first | (simp [*]; done) | (simp [*]; omega)), (Below.refl _ _).alloc (Nat.le_refl _) _⟩
  by_cases a4 : 0 ≤ g
  case neg =>
    go_enter Tryz.func22, Tryz.ntmps22
    go_wp2
    go_ret
    exact ⟨retb (by first | (simp [*]; done) | (simp [*]; omega)), (Below.refl _ _).alloc (Nat.le_refl _) _⟩
  by_cases a5 : g ≤ 67108863
  case neg =>
    go_enter Tryz.func22, Tryz.ntmps22
    go_wp2
    go_ret
    exact ⟨retb (by first | (simp [*]; done) | (simp [*]; omega)), (Below.refl _ _).alloc (Nat.le_refl _) _⟩
  go_enter Tryz.func22, Tryz.ntmps22
  go_wp2
  go_ret
  exact ⟨retb (by first | (simp [*]; done) | (simp [*]; omega)), (Below.refl _ _).alloc (Nat.le_refl _) _⟩
end Go.Proofs.YtolpcnhgmmnmcaaGreatDoor
