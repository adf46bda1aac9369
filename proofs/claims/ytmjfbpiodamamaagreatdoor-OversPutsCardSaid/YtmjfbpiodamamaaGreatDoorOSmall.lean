/-
  One override: Right of the program and of the reference, the key: what each returns; nothing old turns. Condition of the program's: LaidP.
-/
import Derived.Test.YtmjfbpiodamamaaGreatDoorOHold
import Derived.Test.YtmjfbpiodamamaaGreatDoorBoxV
import Derived.Test.YtmjfbpiodamamaaGreatDoorPClean
import Derived.Test.YtmjfbpiodamamaaGreatDoorPCleanRef
namespace Go.Proofs.YtmjfbpiodamamaaGreatDoor
open Go.RowKit
theorem boxV4 (W : World) (x y z u : Value) (t : TypeId) : (W.alloc (.cells #[x, y, z, u] t)).cell? ⟨W.heap.size, 0, none⟩ = some x ∧ (W.alloc (.cells #[x, y, z, u] t)).cell? ⟨W.heap.size, 1, none⟩ = some y ∧ (W.alloc (.cells #[x, y, z, u] t)).cell? ⟨W.heap.size, 2, none⟩ = some z ∧ (W.alloc (.cells #[x, y, z, u] t)).cell? ⟨W.heap.size, 3, none⟩ = some u := by
  refine ⟨?_, ?_, ?_, ?_⟩ <;> (rw [World.cell?_alloc_new]; rfl)
set_option maxHeartbeats 400000 in
theorem inRangeO_any (n k : Int) (w : World) :
    Calls Tryz.prog 67 #[.int .i64 n, .int .i64 k] w fun e w' => e = .returned (.bool (decide (0 ≤ n) && decide (n ≤ k))) ∧ w = w' := by
  by_cases h0 : 0 ≤ n <;> by_cases h1 : n ≤ k
  all_goals
    go_enter Tryz.func67, Tryz.ntmps67
    go_wp2
    go_ret
    exact ⟨retb (by simp [*]), rfl⟩
set_option maxHeartbeats 1000000 in
theorem rightM_any (m u g : Int) (w : World) :
    Calls Tryz.prog 46 #[.agg #[.int .i64 m, .int .i64 u, .int .i64 g]] w fun e w' => e = .returned (.bool (rightM m u g)) ∧ Below w.heap.size w w' := by
  have R1 : ∀ w, Calls Tryz.prog 67 #[.int .i64 m, .int .i64 4095] w fun e w' => e = .returned (.bool (decide (0 ≤ m) && decide (m ≤ 4095))) ∧ w = w' := inRangeO_any m 4095
  have R2 : ∀ w, Calls Tryz.prog 67 #[.int .i64 u, .int .i64 67108863] w fun e w' => e = .returned (.bool (decide (0 ≤ u) && decide (u ≤ 67108863))) ∧ w = w' := inRangeO_any u 67108863
  have R3 : ∀ w, Calls Tryz.prog 67 #[.int .i64 g, .int .i64 67108863] w fun e w' => e = .returned (.bool (decide (0 ≤ g) && decide (g ≤ 67108863))) ∧ w = w' := inRangeO_any g 67108863
  unfold rightM
  generalize (decide (0 ≤ m) && decide (m ≤ 4095)) = b1 at *
  generalize (decide (0 ≤ u) && decide (u ≤ 67108863)) = b2 at *
  generalize (decide (0 ≤ g) && decide (g ≤ 67108863)) = b3 at *
  cases b1 <;> cases b2
  all_goals
    go_enter Tryz.func46, Tryz.ntmps46
    go_wp2_with (go_at_call 67; first | ((with_reducible refine (R1 _).mono ?_); rintro e w1 ⟨rfl, rfl⟩) | ((with_reducible refine (R2 _).mono ?_); rintro e w1 ⟨rfl, rfl⟩) | ((with_reducible refine (R3 _).mono ?_); rintro e w1 ⟨rfl, rfl⟩))
    go_ret
    exact ⟨by simp, (Below.refl _ _).alloc (Nat.le_refl _) _⟩
set_option maxHeartbeats 4000000 in
theorem rightM_ref (m u g : Int) (w : World) :
    Calls Tryz.prog 48 #[.agg #[.int .i64 m, .int .i64 u, .int .i64 g]] w fun e w' => e = .returned (.bool (rightM m u g)) ∧ Below w.heap.size w w' := by
  unfold rightM
  by_cases a0 : 0 ≤ m
  case neg =>
    go_enter Tryz.func48, Tryz.ntmps48
    go_wp2
    go_ret
    exact ⟨retb (by first | (simp [*]; done) | (simp [*]; omega)), (Below.refl _ _).alloc (Nat.le_refl _) _⟩
  by_cases a1 : m ≤ 4095
  case neg =>
    go_enter Tryz.func48, Tryz.ntmps48
    go_wp2
    go_ret
    exact ⟨retb (by first | (simp [*]; done) | (simp [*]; omega)), (Below.refl _ _).alloc (Nat.le_refl _) _⟩
  by_cases a2 : 0 ≤ u
  case neg =>
    go_enter Tryz.func48, Tryz.ntmps48
    go_wp2
    go_ret
    exact ⟨retb (by first | (simp [*]; done) | (simp [*]; omega)), (Below.refl _ _).alloc (Nat.le_refl _) _⟩
  by_cases a3 : u ≤ 67108863
  case neg =>
    go_enter Tryz.func48, Tryz.ntmps48
    go_wp2
    go_ret
    exact ⟨retb (by first | (simp [*]; done) | (simp [*]; omega)), (Below.refl _ _).alloc (Nat.le_refl _) _⟩
  by_cases a4 : 0 ≤ g
  case neg =>
    go_enter Tryz.func48, Tryz.ntmps48
    go_wp2
    go_ret
    exact ⟨retb (by first | (simp [*]; done) | (simp [*]; omega)), (Below.refl _ _).alloc (Nat.le_refl _) _⟩
  by_cases a5 : g ≤ 67108863
  case neg =>
    go_enter Tryz.func48, Tryz.ntmps48
    go_wp2
    go_ret
    exact ⟨retb (by first | (simp [*]; done) | (simp [*]; omega)), (Below.refl _ _).alloc (Nat.le_refl _) _⟩
  go_enter Tryz.func48, Tryz.ntmps48
  go_wp2
  go_ret
  exact ⟨retb (by first | (simp [*]; done) | (simp [*]; omega)), (Below.refl _ _).alloc (Nat.le_refl _) _⟩
set_option maxRecDepth 100000 in
set_option maxHeartbeats 4000000 in
theorem rightO_any (x : Ov) (h1 : x.1.length ≤ 4000) (w : World) (hL : LaidP w) :
    Calls Tryz.prog 22 #[aggO x] w fun e w' => e = .returned (.bool (rightO x)) ∧ Below w.heap.size w w' := by
  obtain ⟨p, m, u, g⟩ := x
  have B0 := (Below.refl w.heap.size w).alloc (Nat.le_refl _) (.cells #[.string (bsT p), .int .i64 m, .int .i64 u, .int .i64 g] 41)
  have PR := right_any (bsT p) (by rw [sizeOf, bytesOf]; exact h1) _ (hL.on B0)
  rw [bytesOf] at PR
  have RM := fun W => rightM_any m u g W
  have HB0 := Lib.hid B0
  unfold rightO aggO
  dsimp only at h1 ⊢
  obtain ⟨x0, x1, x2, x3⟩ := boxV4 w (.string (bsT p)) (.int .i64 m) (.int .i64 u) (.int .i64 g) 41
  have l0 := World.block_lt_of_cell? _ _ x1
  have HXX := Lib.hid (fun W (hb : Below (w.alloc (.cells #[.string (bsT p), .int .i64 m, .int .i64 u, .int .i64 g] 41)).heap.size (w.alloc (.cells #[.string (bsT p), .int .i64 m, .int .i64 u, .int .i64 g] 41)) W) => And.intro ((hb.cell (p := ⟨w.heap.size, 1, none⟩) l0).trans x1) (And.intro ((hb.cell (p := ⟨w.heap.size, 2, none⟩) l0).trans x2) ((hb.cell (p := ⟨w.heap.size, 3, none⟩) l0).trans x3)))
  generalize rightM m u g = q at *
  generalize right p = r at *
  generalize bsT p = X at *
  clear B0 h1 l0
  cases r
  all_goals
    go_enter Tryz.func22, Tryz.ntmps22
    go_wp2_with (first
      | (go_at_call 45; (with_reducible refine PR.mono ?_); rintro e w1 ⟨rfl, hb⟩; have HB := Lib.hid (HB0.out.trans (hb.mono HB0.out.size)); obtain ⟨y1, y2, y3⟩ := HXX.out _ hb; clear hb PR)
      | (go_at_call 46; (with_reducible refine (RM _).mono ?_); rintro e w2 ⟨rfl, hb⟩; have HB2 := Lib.hid (HB.out.trans (hb.mono HB.out.size)); clear hb RM))
    go_ret
    first | exact ⟨retb (by simp), HB2.out⟩ | exact ⟨retb (by simp), HB.out⟩
set_option maxRecDepth 100000 in
set_option maxHeartbeats 4000000 in
theorem rightO_ref (x : Ov) (h1 : x.1.length ≤ 4000) (w : World) :
    Calls Tryz.prog 23 #[aggO x] w fun e w' => e = .returned (.bool (rightO x)) ∧ Below w.heap.size w w' := by
  obtain ⟨p, m, u, g⟩ := x
  have B0 := (Below.refl w.heap.size w).alloc (Nat.le_refl _) (.cells #[.string (bsT p), .int .i64 m, .int .i64 u, .int .i64 g] 41)
  have PR := right_ref (bsT p) (by rw [sizeOf, bytesOf]; exact h1) (w.alloc (.cells #[.string (bsT p), .int .i64 m, .int .i64 u, .int .i64 g] 41))
  rw [bytesOf] at PR
  have RM := fun W => rightM_ref m u g W
  have HB0 := Lib.hid B0
  unfold rightO aggO
  dsimp only at h1 ⊢
  obtain ⟨x0, x1, x2, x3⟩ := boxV4 w (.string (bsT p)) (.int .i64 m) (.int .i64 u) (.int .i64 g) 41
  have l0 := World.block_lt_of_cell? _ _ x1
  have HXX := Lib.hid (fun W (hb : Below (w.alloc (.cells #[.string (bsT p), .int .i64 m, .int .i64 u, .int .i64 g] 41)).heap.size (w.alloc (.cells #[.string (bsT p), .int .i64 m, .int .i64 u, .int .i64 g] 41)) W) => And.intro ((hb.cell (p := ⟨w.heap.size, 1, none⟩) l0).trans x1) (And.intro ((hb.cell (p := ⟨w.heap.size, 2, none⟩) l0).trans x2) ((hb.cell (p := ⟨w.heap.size, 3, none⟩) l0).trans x3)))
  generalize rightM m u g = q at *
  generalize right p = r at *
  generalize bsT p = X at *
  clear B0 h1 l0
  cases r
  all_goals
    go_enter Tryz.func23, Tryz.ntmps23
    go_wp2_with (first
      | (go_at_call 47; (with_reducible refine PR.mono ?_); rintro e w1 ⟨rfl, hb⟩; have HB := Lib.hid (HB0.out.trans (hb.mono HB0.out.size)); obtain ⟨y1, y2, y3⟩ := HXX.out _ hb; clear hb PR)
      | (go_at_call 48; (with_reducible refine (RM _).mono ?_); rintro e w2 ⟨rfl, hb⟩; have HB2 := Lib.hid (HB.out.trans (hb.mono HB.out.size)); clear hb RM))
    go_ret
    first | exact ⟨retb (by simp), HB2.out⟩ | exact ⟨retb (by simp), HB.out⟩
theorem pathOf_any (X : ByteArray) (m u g : Int) (w : World) : Calls Tryz.prog 34 #[.agg #[.string X, .int .i64 m, .int .i64 u, .int .i64 g]] w fun e w' => e = .returned (.string X) ∧ Below w.heap.size w w' := by
  obtain ⟨x0, x1, x2, x3⟩ := boxV4 w (.string X) (.int .i64 m) (.int .i64 u) (.int .i64 g) 41
  have B0 := Lib.hid ((Below.refl w.heap.size w).alloc (Nat.le_refl _) (.cells #[.string X, .int .i64 m, .int .i64 u, .int .i64 g] 41))
  go_enter Tryz.func34, Tryz.ntmps34
  go_wp2
  go_ret
  exact ⟨rfl, B0.out⟩
end Go.Proofs.YtmjfbpiodamamaaGreatDoor
