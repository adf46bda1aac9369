import Derived.Test.YtnnagboeimeiiaaGreatDoorWUAPutRef
namespace Go.Proofs.YtnnagboeimeiiaaGreatDoor
open Go.RowKit
theorem overO_isUa (a b : Bs) : decide (a < b) = (!(decide (b < a) || decide (b = a))) := by
 by_cases h : a < b
 · obtain ⟨h1, h2⟩ := overO_ltUa (decide_eq_true h)
   rw [h1, h2, decide_eq_true h]; rfl
 · by_cases e : b = a
   · rw [decide_eq_false h, decide_eq_true e, Bool.or_true]; rfl
   · rw [decide_eq_false h, overO_noUa (decide_eq_false h) e]; rfl
set_option maxRecDepth 100000 in
set_option maxHeartbeats 4000000 in
theorem putpO_anyUa (B1 B2 : Nat) (K : ByteArray) (kv1 : ByteArray) (kv2 : Int) (kv3a : Option Addr) (kv3n kv3c : Nat) (kv4a : Option Addr) (kv4n kv4c : Nat) (kv5a : Option Addr) (kv5n kv5c : Nat) (kv6a : Option Addr) (kv6n kv6c : Nat) (kv7a : Option Addr) (kv7n kv7c : Nat) (kv8a : Option Addr) (kv8n kv8c : Nat) (x : OvUa) (W : World) (h1 : W.cell? ⟨B1, 0, none⟩ = some kyOUa) (g0 : W.cell? ⟨B2, 0, none⟩ = some (.string K)) (g1 : W.cell? ⟨B2, 1, none⟩ = some (.string kv1)) (g2 : W.cell? ⟨B2, 2, none⟩ = some (.int .i64 kv2)) (g3 : W.cell? ⟨B2, 3, none⟩ = some (.slice kv3a kv3n kv3c)) (g4 : W.cell? ⟨B2, 4, none⟩ = some (.slice kv4a kv4n kv4c)) (g5 : W.cell? ⟨B2, 5, none⟩ = some (.slice kv5a kv5n kv5c)) (g6 : W.cell? ⟨B2, 6, none⟩ = some (.slice kv6a kv6n kv6c)) (g7 : W.cell? ⟨B2, 7, none⟩ = some (.slice kv7a kv7n kv7c)) (g8 : W.cell? ⟨B2, 8, none⟩ = some (.slice kv8a kv8n kv8c)) :
   Calls Tryz.prog 110 #[aggOUa x, .pointer (some ⟨B1, 0, none⟩), .pointer (some ⟨B2, 0, none⟩)] W fun e w' => e = .returned (.bool (overOUa K.data.toList x)) ∧ Below W.heap.size W w' := by
 obtain ⟨t, t1, t2, ⟨t3a, t3n, t3c⟩, ⟨t4a, t4n, t4c⟩, ⟨t5a, t5n, t5c⟩, ⟨t6a, t6n, t6c⟩, ⟨t7a, t7n, t7c⟩, ⟨t8a, t8n, t8c⟩⟩ := x
 unfold kyOUa at h1
 have hls := lessT (bsT t) K
 have heq := eqT (bsT t) K
 rw [bytesOf] at hls heq
 have HR := Lib.hid (overO_isUa K.data.toList t)
 unfold overOUa aggOUa
 dsimp only
 have PA := fun X p1 p2 p3a p3n p3c p4a p4n p4c p5a p5n p5c p6a p6n p6c p7a p7n p7c p8a p8n p8c w => pathOf_anyUa X p1 p2 p3a p3n p3c p4a p4n p4c p5a p5n p5c p6a p6n p6c p7a p7n p7c p8a p8n p8c w
 generalize decide (K.data.toList < t) = q at *
 generalize decide (t < K.data.toList) = q1 at *
 generalize decide (t = K.data.toList) = q2 at *
 generalize bsT t = X at *
 have l1 := World.block_lt_of_cell? W _ h1
 have l2 := World.block_lt_of_cell? W _ g0
 have B0 := (Below.refl W.heap.size W).alloc (Nat.le_refl _) (.cells #[.string X, .string t1, .int .i64 t2, .slice t3a t3n t3c, .slice t4a t4n t4c, .slice t5a t5n t5c, .slice t6a t6n t6c, .slice t7a t7n t7c, .slice t8a t8n t8c] 43)
 obtain ⟨x0, x1, x2, x3, x4, x5, x6, x7, x8⟩ := boxV9Ua W (.string X) (.string t1) (.int .i64 t2) (.slice t3a t3n t3c) (.slice t4a t4n t4c) (.slice t5a t5n t5c) (.slice t6a t6n t6c) (.slice t7a t7n t7c) (.slice t8a t8n t8c) 43
 have k1 := (B0.cell l1).trans h1
 have e0 := (B0.cell (p := ⟨B2, 0, none⟩) l2).trans g0
 have e1 := (B0.cell (p := ⟨B2, 1, none⟩) l2).trans g1
 have e2 := (B0.cell (p := ⟨B2, 2, none⟩) l2).trans g2
 have e3 := (B0.cell (p := ⟨B2, 3, none⟩) l2).trans g3
 have e4 := (B0.cell (p := ⟨B2, 4, none⟩) l2).trans g4
 have e5 := (B0.cell (p := ⟨B2, 5, none⟩) l2).trans g5
 have e6 := (B0.cell (p := ⟨B2, 6, none⟩) l2).trans g6
 have e7 := (B0.cell (p := ⟨B2, 7, none⟩) l2).trans g7
 have e8 := (B0.cell (p := ⟨B2, 8, none⟩) l2).trans g8
 have hs := And.intro x0 (And.intro x1 (And.intro x2 (And.intro x3 (And.intro x4 (And.intro x5 (And.intro x6 (And.intro x7 (And.intro x8 (And.intro k1 (And.intro e0 (And.intro e1 (And.intro e2 (And.intro e3 (And.intro e4 (And.intro e5 (And.intro e6 (And.intro e7 (And.intro e8 B0))))))))))))))))))
 clear x0 x1 x2 x3 x4 x5 x6 x7 x8 k1 e0 e1 e2 e3 e4 e5 e6 e7 e8
 go_enter Tryz.func110, Tryz.ntmps110
 go_wp2
 generalize W.alloc (.cells #[.string X, .string t1, .int .i64 t2, .slice t3a t3n t3c, .slice t4a t4n t4c, .slice t5a t5n t5c, .slice t6a t6n t6c, .slice t7a t7n t7c, .slice t8a t8n t8c] 43) = W2 at *
 obtain ⟨x0, x1, x2, x3, x4, x5, x6, x7, x8, k1, e0, e1, e2, e3, e4, e5, e6, e7, e8, hB⟩ := hs
 have hs := And.intro x0 (And.intro x1 (And.intro x2 (And.intro x3 (And.intro x4 (And.intro x5 (And.intro x6 (And.intro x7 (And.intro x8 (And.intro k1 (And.intro e0 (And.intro e1 (And.intro e2 (And.intro e3 (And.intro e4 (And.intro e5 (And.intro e6 (And.intro e7 (And.intro e8 hB))))))))))))))))))
 clear B0 h1 g0 g1 g2 g3 g4 g5 g6 g7 g8
 have KQ := Lib.hid (atK W [(⟨W.heap.size, 0, none⟩, .string X), (⟨W.heap.size, 1, none⟩, .string t1), (⟨W.heap.size, 2, none⟩, .int .i64 t2), (⟨W.heap.size, 3, none⟩, .slice t3a t3n t3c), (⟨W.heap.size, 4, none⟩, .slice t4a t4n t4c), (⟨W.heap.size, 5, none⟩, .slice t5a t5n t5c), (⟨W.heap.size, 6, none⟩, .slice t6a t6n t6c), (⟨W.heap.size, 7, none⟩, .slice t7a t7n t7c), (⟨W.heap.size, 8, none⟩, .slice t8a t8n t8c), (⟨B1, 0, none⟩, .func (.func 36) #[] #[]), (⟨B2, 0, none⟩, .string K), (⟨B2, 1, none⟩, .string kv1), (⟨B2, 2, none⟩, .int .i64 kv2), (⟨B2, 3, none⟩, .slice kv3a kv3n kv3c), (⟨B2, 4, none⟩, .slice kv4a kv4n kv4c), (⟨B2, 5, none⟩, .slice kv5a kv5n kv5c), (⟨B2, 6, none⟩, .slice kv6a kv6n kv6c), (⟨B2, 7, none⟩, .slice kv7a kv7n kv7c), (⟨B2, 8, none⟩, .slice kv8a kv8n kv8c)])
 have BE := fun (V : World) (h : V.cell? ⟨W.heap.size, 0, none⟩ = some (.string X) ∧ V.cell? ⟨W.heap.size, 1, none⟩ = some (.string t1) ∧ V.cell? ⟨W.heap.size, 2, none⟩ = some (.int .i64 t2) ∧ V.cell? ⟨W.heap.size, 3, none⟩ = some (.slice t3a t3n t3c) ∧ V.cell? ⟨W.heap.size, 4, none⟩ = some (.slice t4a t4n t4c) ∧ V.cell? ⟨W.heap.size, 5, none⟩ = some (.slice t5a t5n t5c) ∧ V.cell? ⟨W.heap.size, 6, none⟩ = some (.slice t6a t6n t6c) ∧ V.cell? ⟨W.heap.size, 7, none⟩ = some (.slice t7a t7n t7c) ∧ V.cell? ⟨W.heap.size, 8, none⟩ = some (.slice t8a t8n t8c) ∧ V.cell? ⟨B1, 0, none⟩ = some (.func (.func 36) #[] #[]) ∧ V.cell? ⟨B2, 0, none⟩ = some (.string K) ∧ V.cell? ⟨B2, 1, none⟩ = some (.string kv1) ∧ V.cell? ⟨B2, 2, none⟩ = some (.int .i64 kv2) ∧ V.cell? ⟨B2, 3, none⟩ = some (.slice kv3a kv3n kv3c) ∧ V.cell? ⟨B2, 4, none⟩ = some (.slice kv4a kv4n kv4c) ∧ V.cell? ⟨B2, 5, none⟩ = some (.slice kv5a kv5n kv5c) ∧ V.cell? ⟨B2, 6, none⟩ = some (.slice kv6a kv6n kv6c) ∧ V.cell? ⟨B2, 7, none⟩ = some (.slice kv7a kv7n kv7c) ∧ V.cell? ⟨B2, 8, none⟩ = some (.slice kv8a kv8n kv8c) ∧ Below W.heap.size W V) => AtF.be (w := W) (l := [(⟨W.heap.size, 0, none⟩, .string X), (⟨W.heap.size, 1, none⟩, .string t1), (⟨W.heap.size, 2, none⟩, .int .i64 t2), (⟨W.heap.size, 3, none⟩, .slice t3a t3n t3c), (⟨W.heap.size, 4, none⟩, .slice t4a t4n t4c), (⟨W.heap.size, 5, none⟩, .slice t5a t5n t5c), (⟨W.heap.size, 6, none⟩, .slice t6a t6n t6c), (⟨W.heap.size, 7, none⟩, .slice t7a t7n t7c), (⟨W.heap.size, 8, none⟩, .slice t8a t8n t8c), (⟨B1, 0, none⟩, .func (.func 36) #[] #[]), (⟨B2, 0, none⟩, .string K), (⟨B2, 1, none⟩, .string kv1), (⟨B2, 2, none⟩, .int .i64 kv2), (⟨B2, 3, none⟩, .slice kv3a kv3n kv3c), (⟨B2, 4, none⟩, .slice kv4a kv4n kv4c), (⟨B2, 5, none⟩, .slice kv5a kv5n kv5c), (⟨B2, 6, none⟩, .slice kv6a kv6n kv6c), (⟨B2, 7, none⟩, .slice kv7a kv7n kv7c), (⟨B2, 8, none⟩, .slice kv8a kv8n kv8c)]) h
 go_region_held3 (fun V => V.cell? ⟨W.heap.size, 0, none⟩ = some (.string X) ∧ V.cell? ⟨W.heap.size, 1, none⟩ = some (.string t1) ∧ V.cell? ⟨W.heap.size, 2, none⟩ = some (.int .i64 t2) ∧ V.cell? ⟨W.heap.size, 3, none⟩ = some (.slice t3a t3n t3c) ∧ V.cell? ⟨W.heap.size, 4, none⟩ = some (.slice t4a t4n t4c) ∧ V.cell? ⟨W.heap.size, 5, none⟩ = some (.slice t5a t5n t5c) ∧ V.cell? ⟨W.heap.size, 6, none⟩ = some (.slice t6a t6n t6c) ∧ V.cell? ⟨W.heap.size, 7, none⟩ = some (.slice t7a t7n t7c) ∧ V.cell? ⟨W.heap.size, 8, none⟩ = some (.slice t8a t8n t8c) ∧ V.cell? ⟨B1, 0, none⟩ = some (.func (.func 36) #[] #[]) ∧ V.cell? ⟨B2, 0, none⟩ = some (.string K) ∧ V.cell? ⟨B2, 1, none⟩ = some (.string kv1) ∧ V.cell? ⟨B2, 2, none⟩ = some (.int .i64 kv2) ∧ V.cell? ⟨B2, 3, none⟩ = some (.slice kv3a kv3n kv3c) ∧ V.cell? ⟨B2, 4, none⟩ = some (.slice kv4a kv4n kv4c) ∧ V.cell? ⟨B2, 5, none⟩ = some (.slice kv5a kv5n kv5c) ∧ V.cell? ⟨B2, 6, none⟩ = some (.slice kv6a kv6n kv6c) ∧ V.cell? ⟨B2, 7, none⟩ = some (.slice kv7a kv7n kv7c) ∧ V.cell? ⟨B2, 8, none⟩ = some (.slice kv8a kv8n kv8c) ∧ Below W.heap.size W V)
   (first | assumption | exact hs | exact KQ.out.dr _ hs | exact KQ.out.dr _ (by assumption) | exact KQ.out.on _ _ (by assumption) (by assumption) | exact KQ.out.al _ _ (by assumption) | exact KQ.out.ald _ _ (by assumption) | exact KQ.out.al _ _ hs | exact KQ.out.ald _ _ hs)
   ((go_at_call 36; (with_reducible refine (PA _ _ _ _ _ _ _ _ _ _ _ _ _ _ _ _ _ _ _ _ _ _).mono ?_); rintro e w3 ⟨rfl, hb⟩))
 all_goals
   rename_i hHeld
   have HW3 := Lib.hid (BE _ hHeld)
   clear hHeld
   go_wp2
   go_ret
   exact ⟨by rw [HR.out]; cases q1 <;> cases q2 <;> rfl, HW3.out⟩
end Go.Proofs.YtnnagboeimeiiaaGreatDoor
