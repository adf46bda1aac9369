/-
  keyed.Put's predicate of overrides: is the key of an element greater? Nothing old turns.
-/
import Derived.Test.YtmjfbpiodamamaaGreatDoorOPutRef
namespace Go.Proofs.YtmjfbpiodamamaaGreatDoor
open Go.RowKit
theorem overO_is (a b : Bs) : decide (a < b) = (!(decide (b < a) || decide (b = a))) := by
  by_cases h : a < b
  · obtain ⟨h1, h2⟩ := overO_lt (decide_eq_true h)
    rw [h1, h2, decide_eq_true h]; rfl
  · by_cases e : b = a
    · rw [decide_eq_false h, decide_eq_true e, Bool.or_true]; rfl
    · rw [decide_eq_false h, overO_no (decide_eq_false h) e]; rfl
set_option maxRecDepth 100000 in
set_option maxHeartbeats 4000000 in
theorem putpO_any (B1 B2 : Nat) (K : ByteArray) (km ku kg : Int) (x : Ov) (W : World) (h1 : W.cell? ⟨B1, 0, none⟩ = some kyO) (g0 : W.cell? ⟨B2, 0, none⟩ = some (.string K)) (g1 : W.cell? ⟨B2, 1, none⟩ = some (.int .i64 km)) (g2 : W.cell? ⟨B2, 2, none⟩ = some (.int .i64 ku)) (g3 : W.cell? ⟨B2, 3, none⟩ = some (.int .i64 kg)) :
    Calls Tryz.prog 63 #[aggO x, .pointer (some ⟨B1, 0, none⟩), .pointer (some ⟨B2, 0, none⟩)] W fun e w' => e = .returned (.bool (overO K.data.toList x)) ∧ Below W.heap.size W w' := by
  obtain ⟨t, m, u, g⟩ := x
  unfold kyO at h1
  have hls := lessT (bsT t) K
  have heq := eqT (bsT t) K
  rw [bytesOf] at hls heq
  have HR := Lib.hid (overO_is K.data.toList t)
  unfold overO aggO
  dsimp only
  have PA := fun X m u g w => pathOf_any X m u g w
  generalize decide (K.data.toList < t) = q at *
  generalize decide (t < K.data.toList) = q1 at *
  generalize decide (t = K.data.toList) = q2 at *
  generalize bsT t = X at *
  have l1 := World.block_lt_of_cell? W _ h1
  have l2 := World.block_lt_of_cell? W _ g0
  have B0 := (Below.refl W.heap.size W).alloc (Nat.le_refl _) (.cells #[.string X, .int .i64 m, .int .i64 u, .int .i64 g] 41)
  obtain ⟨x0, x1, x2, x3⟩ := boxV4 W (.string X) (.int .i64 m) (.int .i64 u) (.int .i64 g) 41
  have k1 := (B0.cell l1).trans h1
  have e0 := (B0.cell (p := ⟨B2, 0, none⟩) l2).trans g0
  have e1 := (B0.cell (p := ⟨B2, 1, none⟩) l2).trans g1
  have e2 := (B0.cell (p := ⟨B2, 2, none⟩) l2).trans g2
  have e3 := (B0.cell (p := ⟨B2, 3, none⟩) l2).trans g3
  have hs := And.intro x0 (And.intro x1 (And.intro x2 (And.intro x3 (And.intro k1 (And.intro e0 (And.intro e1 (And.intro e2 (And.intro e3 B0))))))))
  clear x0 x1 x2 x3 k1 e0 e1 e2 e3
  go_enter Tryz.func63, Tryz.ntmps63
  go_wp2
  generalize W.alloc (.cells #[.string X, .int .i64 m, .int .i64 u, .int .i64 g] 41) = W2 at *
  obtain ⟨x0, x1, x2, x3, k1, e0, e1, e2, e3, hB⟩ := hs
  have hs := And.intro x0 (And.intro x1 (And.intro x2 (And.intro x3 (And.intro k1 (And.intro e0 (And.intro e1 (And.intro e2 (And.intro e3 hB))))))))
  clear B0 h1 g0 g1 g2 g3
  have BE := fun (V : World) (h : V.cell? ⟨W.heap.size, 0, none⟩ = some (.string X) ∧ V.cell? ⟨W.heap.size, 1, none⟩ = some (.int .i64 m) ∧ V.cell? ⟨W.heap.size, 2, none⟩ = some (.int .i64 u) ∧ V.cell? ⟨W.heap.size, 3, none⟩ = some (.int .i64 g) ∧ V.cell? ⟨B1, 0, none⟩ = some (.func (.func 34) #[] #[]) ∧ V.cell? ⟨B2, 0, none⟩ = some (.string K) ∧ V.cell? ⟨B2, 1, none⟩ = some (.int .i64 km) ∧ V.cell? ⟨B2, 2, none⟩ = some (.int .i64 ku) ∧ V.cell? ⟨B2, 3, none⟩ = some (.int .i64 kg) ∧ Below W.heap.size W V) => AtF.be (w := W) (l := [(⟨W.heap.size, 0, none⟩, .string X), (⟨W.heap.size, 1, none⟩, .int .i64 m), (⟨W.heap.size, 2, none⟩, .int .i64 u), (⟨W.heap.size, 3, none⟩, .int .i64 g), (⟨B1, 0, none⟩, .func (.func 34) #[] #[]), (⟨B2, 0, none⟩, .string K), (⟨B2, 1, none⟩, .int .i64 km), (⟨B2, 2, none⟩, .int .i64 ku), (⟨B2, 3, none⟩, .int .i64 kg)]) h
  go_region_held3 (fun V => V.cell? ⟨W.heap.size, 0, none⟩ = some (.string X) ∧ V.cell? ⟨W.heap.size, 1, none⟩ = some (.int .i64 m) ∧ V.cell? ⟨W.heap.size, 2, none⟩ = some (.int .i64 u) ∧ V.cell? ⟨W.heap.size, 3, none⟩ = some (.int .i64 g) ∧ V.cell? ⟨B1, 0, none⟩ = some (.func (.func 34) #[] #[]) ∧ V.cell? ⟨B2, 0, none⟩ = some (.string K) ∧ V.cell? ⟨B2, 1, none⟩ = some (.int .i64 km) ∧ V.cell? ⟨B2, 2, none⟩ = some (.int .i64 ku) ∧ V.cell? ⟨B2, 3, none⟩ = some (.int .i64 kg) ∧ Below W.heap.size W V)
    (first | assumption | exact hs | exact AtF.dr (w := W) (l := [(⟨W.heap.size, 0, none⟩, .string X), (⟨W.heap.size, 1, none⟩, .int .i64 m), (⟨W.heap.size, 2, none⟩, .int .i64 u), (⟨W.heap.size, 3, none⟩, .int .i64 g), (⟨B1, 0, none⟩, .func (.func 34) #[] #[]), (⟨B2, 0, none⟩, .string K), (⟨B2, 1, none⟩, .int .i64 km), (⟨B2, 2, none⟩, .int .i64 ku), (⟨B2, 3, none⟩, .int .i64 kg)]) hs | exact AtF.dr (w := W) (l := [(⟨W.heap.size, 0, none⟩, .string X), (⟨W.heap.size, 1, none⟩, .int .i64 m), (⟨W.heap.size, 2, none⟩, .int .i64 u), (⟨W.heap.size, 3, none⟩, .int .i64 g), (⟨B1, 0, none⟩, .func (.func 34) #[] #[]), (⟨B2, 0, none⟩, .string K), (⟨B2, 1, none⟩, .int .i64 km), (⟨B2, 2, none⟩, .int .i64 ku), (⟨B2, 3, none⟩, .int .i64 kg)]) (by assumption) | exact AtF.on (w := W) (l := [(⟨W.heap.size, 0, none⟩, .string X), (⟨W.heap.size, 1, none⟩, .int .i64 m), (⟨W.heap.size, 2, none⟩, .int .i64 u), (⟨W.heap.size, 3, none⟩, .int .i64 g), (⟨B1, 0, none⟩, .func (.func 34) #[] #[]), (⟨B2, 0, none⟩, .string K), (⟨B2, 1, none⟩, .int .i64 km), (⟨B2, 2, none⟩, .int .i64 ku), (⟨B2, 3, none⟩, .int .i64 kg)]) (by assumption) (by assumption) | exact AtF.al (w := W) (l := [(⟨W.heap.size, 0, none⟩, .string X), (⟨W.heap.size, 1, none⟩, .int .i64 m), (⟨W.heap.size, 2, none⟩, .int .i64 u), (⟨W.heap.size, 3, none⟩, .int .i64 g), (⟨B1, 0, none⟩, .func (.func 34) #[] #[]), (⟨B2, 0, none⟩, .string K), (⟨B2, 1, none⟩, .int .i64 km), (⟨B2, 2, none⟩, .int .i64 ku), (⟨B2, 3, none⟩, .int .i64 kg)]) (by assumption) _ | exact AtF.ald (w := W) (l := [(⟨W.heap.size, 0, none⟩, .string X), (⟨W.heap.size, 1, none⟩, .int .i64 m), (⟨W.heap.size, 2, none⟩, .int .i64 u), (⟨W.heap.size, 3, none⟩, .int .i64 g), (⟨B1, 0, none⟩, .func (.func 34) #[] #[]), (⟨B2, 0, none⟩, .string K), (⟨B2, 1, none⟩, .int .i64 km), (⟨B2, 2, none⟩, .int .i64 ku), (⟨B2, 3, none⟩, .int .i64 kg)]) (by assumption) _ | exact AtF.al (w := W) (l := [(⟨W.heap.size, 0, none⟩, .string X), (⟨W.heap.size, 1, none⟩, .int .i64 m), (⟨W.heap.size, 2, none⟩, .int .i64 u), (⟨W.heap.size, 3, none⟩, .int .i64 g), (⟨B1, 0, none⟩, .func (.func 34) #[] #[]), (⟨B2, 0, none⟩, .string K), (⟨B2, 1, none⟩, .int .i64 km), (⟨B2, 2, none⟩, .int .i64 ku), (⟨B2, 3, none⟩, .int .i64 kg)]) hs _ | exact AtF.ald (w := W) (l := [(⟨W.heap.size, 0, none⟩, .string X), (⟨W.heap.size, 1, none⟩, .int .i64 m), (⟨W.heap.size, 2, none⟩, .int .i64 u), (⟨W.heap.size, 3, none⟩, .int .i64 g), (⟨B1, 0, none⟩, .func (.func 34) #[] #[]), (⟨B2, 0, none⟩, .string K), (⟨B2, 1, none⟩, .int .i64 km), (⟨B2, 2, none⟩, .int .i64 ku), (⟨B2, 3, none⟩, .int .i64 kg)]) hs _)
    ((go_at_call 34; (with_reducible refine (PA _ _ _ _ _).mono ?_); rintro e w3 ⟨rfl, hb⟩))
  all_goals
    rename_i hHeld
    have HW3 := Lib.hid (BE _ hHeld)
    clear hHeld
    go_wp2
    go_ret
    exact ⟨by rw [HR.out]; cases q1 <;> cases q2 <;> rfl, HW3.out⟩
end Go.Proofs.YtmjfbpiodamamaaGreatDoor
