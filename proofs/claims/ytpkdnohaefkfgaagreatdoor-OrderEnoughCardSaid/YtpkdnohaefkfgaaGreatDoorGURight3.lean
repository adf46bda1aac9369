/-
  The program's rightState of a record, at any record: what it returns; nothing old turns. Condition: LaidU.
-/
import Derived.Test.YtpkdnohaefkfgaaGreatDoorGURight2
namespace Go.Proofs.YtpkdnohaefkfgaaGreatDoor
open Go.RowKit Go.Shelf
set_option maxRecDepth 100000 in
set_option maxHeartbeats 4000000 in
theorem rightStateU_any (X0 X1 : ByteArray) (z : Int) (a3 a4 a5 a6 a7 a8 : Option Addr) (n3 n4 n5 n6 n7 n8 m3 m4 m5 m6 m7 m8 : Nat) (w : World) (hL : LaidU w) : Calls Tryz.prog 26 #[.agg #[.string X0, .string X1, .int .i64 z, .slice a3 n3 m3, .slice a4 n4 m4, .slice a5 n5 m5, .slice a6 n6 m6, .slice a7 n7 m7, .slice a8 n8 m8]] w fun e w' => e = .returned (.bool (stateOkU z n7 n8)) ∧ Below w.heap.size w w' := by
  have C2 := fun W => settled_any X0 X1 z a3 a4 a5 a6 a7 a8 n3 n4 n5 n6 n7 n8 m3 m4 m5 m6 m7 m8 W
  have hset : (if 0 < n8 then 5 else if 0 < n7 then 6 else 7 : Int) = setU n7 n8 := rfl
  rw [hset] at C2
  clear hset
  by_cases hz : z = 5 ∨ z = 6
  · have hst : stateOkU z n7 n8 = (setU n7 n8 == z) := by unfold stateOkU; rw [if_pos hz]; rfl
    rw [hst]
    clear hst hL
    generalize setU n7 n8 = y at *
    obtain ⟨x0, x1, x2, x3, x4, x5, x6, x7, x8⟩ := boxV9 w (.string X0) (.string X1) (.int .i64 z) (.slice a3 n3 m3) (.slice a4 n4 m4) (.slice a5 n5 m5) (.slice a6 n6 m6) (.slice a7 n7 m7) (.slice a8 n8 m8) 37
    have B0 := (Below.refl w.heap.size w).alloc (Nat.le_refl _) (.cells #[.string X0, .string X1, .int .i64 z, .slice a3 n3 m3, .slice a4 n4 m4, .slice a5 n5 m5, .slice a6 n6 m6, .slice a7 n7 m7, .slice a8 n8 m8] 37)
    obtain ⟨w0, hw0⟩ : ∃ w0 : World, w0 = w := ⟨_, rfl⟩
    have HW0 := Lib.hid hw0
    have B1 : Below w0.heap.size w0 (w.alloc (.cells #[.string X0, .string X1, .int .i64 z, .slice a3 n3 m3, .slice a4 n4 m4, .slice a5 n5 m5, .slice a6 n6 m6, .slice a7 n7 m7, .slice a8 n8 m8] 37)) := by rw [hw0]; exact B0
    clear B0 hw0
    rcases hz with rfl | rfl
    · go_enter Tryz.func26, Tryz.ntmps26
      go_wp2
      generalize w.alloc (.cells #[.string X0, .string X1, .int .i64 5, .slice a3 n3 m3, .slice a4 n4 m4, .slice a5 n5 m5, .slice a6 n6 m6, .slice a7 n7 m7, .slice a8 n8 m8] 37) = W2 at *
      generalize hb0 : w.heap.size = b0 at *
      have hs := (And.intro x0 (And.intro x1 (And.intro x2 (And.intro x3 (And.intro x4 (And.intro x5 (And.intro x6 (And.intro x7 (And.intro x8 B1)))))))))
      clear hb0
      have BE := fun (V : World) (h : V.cell? ⟨b0, 0, none⟩ = some (.string X0) ∧ V.cell? ⟨b0, 1, none⟩ = some (.string X1) ∧ V.cell? ⟨b0, 2, none⟩ = some (.int .i64 5) ∧ V.cell? ⟨b0, 3, none⟩ = some (.slice a3 n3 m3) ∧ V.cell? ⟨b0, 4, none⟩ = some (.slice a4 n4 m4) ∧ V.cell? ⟨b0, 5, none⟩ = some (.slice a5 n5 m5) ∧ V.cell? ⟨b0, 6, none⟩ = some (.slice a6 n6 m6) ∧ V.cell? ⟨b0, 7, none⟩ = some (.slice a7 n7 m7) ∧ V.cell? ⟨b0, 8, none⟩ = some (.slice a8 n8 m8) ∧ Below w0.heap.size w0 V) => AtF.be (w := w0) (l := [(⟨b0, 0, none⟩, .string X0), (⟨b0, 1, none⟩, .string X1), (⟨b0, 2, none⟩, .int .i64 5), (⟨b0, 3, none⟩, .slice a3 n3 m3), (⟨b0, 4, none⟩, .slice a4 n4 m4), (⟨b0, 5, none⟩, .slice a5 n5 m5), (⟨b0, 6, none⟩, .slice a6 n6 m6), (⟨b0, 7, none⟩, .slice a7 n7 m7), (⟨b0, 8, none⟩, .slice a8 n8 m8)]) h
      refine wp_region_held_drew (S := (fun V => V.cell? ⟨b0, 0, none⟩ = some (.string X0) ∧ V.cell? ⟨b0, 1, none⟩ = some (.string X1) ∧ V.cell? ⟨b0, 2, none⟩ = some (.int .i64 5) ∧ V.cell? ⟨b0, 3, none⟩ = some (.slice a3 n3 m3) ∧ V.cell? ⟨b0, 4, none⟩ = some (.slice a4 n4 m4) ∧ V.cell? ⟨b0, 5, none⟩ = some (.slice a5 n5 m5) ∧ V.cell? ⟨b0, 6, none⟩ = some (.slice a6 n6 m6) ∧ V.cell? ⟨b0, 7, none⟩ = some (.slice a7 n7 m7) ∧ V.cell? ⟨b0, 8, none⟩ = some (.slice a8 n8 m8) ∧ Below w0.heap.size w0 V)) (by kernel_rfl) ?_ (fun hHeld => ?_)
      · (try dsimp only); (first | assumption | exact hs | exact AtF.dr (w := w0) (l := [(⟨b0, 0, none⟩, .string X0), (⟨b0, 1, none⟩, .string X1), (⟨b0, 2, none⟩, .int .i64 5), (⟨b0, 3, none⟩, .slice a3 n3 m3), (⟨b0, 4, none⟩, .slice a4 n4 m4), (⟨b0, 5, none⟩, .slice a5 n5 m5), (⟨b0, 6, none⟩, .slice a6 n6 m6), (⟨b0, 7, none⟩, .slice a7 n7 m7), (⟨b0, 8, none⟩, .slice a8 n8 m8)]) hs | exact AtF.dr (w := w0) (l := [(⟨b0, 0, none⟩, .string X0), (⟨b0, 1, none⟩, .string X1), (⟨b0, 2, none⟩, .int .i64 5), (⟨b0, 3, none⟩, .slice a3 n3 m3), (⟨b0, 4, none⟩, .slice a4 n4 m4), (⟨b0, 5, none⟩, .slice a5 n5 m5), (⟨b0, 6, none⟩, .slice a6 n6 m6), (⟨b0, 7, none⟩, .slice a7 n7 m7), (⟨b0, 8, none⟩, .slice a8 n8 m8)]) (by assumption) | exact AtF.on (w := w0) (l := [(⟨b0, 0, none⟩, .string X0), (⟨b0, 1, none⟩, .string X1), (⟨b0, 2, none⟩, .int .i64 5), (⟨b0, 3, none⟩, .slice a3 n3 m3), (⟨b0, 4, none⟩, .slice a4 n4 m4), (⟨b0, 5, none⟩, .slice a5 n5 m5), (⟨b0, 6, none⟩, .slice a6 n6 m6), (⟨b0, 7, none⟩, .slice a7 n7 m7), (⟨b0, 8, none⟩, .slice a8 n8 m8)]) (by assumption) (by assumption) | exact AtF.al (w := w0) (l := [(⟨b0, 0, none⟩, .string X0), (⟨b0, 1, none⟩, .string X1), (⟨b0, 2, none⟩, .int .i64 5), (⟨b0, 3, none⟩, .slice a3 n3 m3), (⟨b0, 4, none⟩, .slice a4 n4 m4), (⟨b0, 5, none⟩, .slice a5 n5 m5), (⟨b0, 6, none⟩, .slice a6 n6 m6), (⟨b0, 7, none⟩, .slice a7 n7 m7), (⟨b0, 8, none⟩, .slice a8 n8 m8)]) (by assumption) _ | exact AtF.ald (w := w0) (l := [(⟨b0, 0, none⟩, .string X0), (⟨b0, 1, none⟩, .string X1), (⟨b0, 2, none⟩, .int .i64 5), (⟨b0, 3, none⟩, .slice a3 n3 m3), (⟨b0, 4, none⟩, .slice a4 n4 m4), (⟨b0, 5, none⟩, .slice a5 n5 m5), (⟨b0, 6, none⟩, .slice a6 n6 m6), (⟨b0, 7, none⟩, .slice a7 n7 m7), (⟨b0, 8, none⟩, .slice a8 n8 m8)]) (by assumption) _ | exact AtF.al (w := w0) (l := [(⟨b0, 0, none⟩, .string X0), (⟨b0, 1, none⟩, .string X1), (⟨b0, 2, none⟩, .int .i64 5), (⟨b0, 3, none⟩, .slice a3 n3 m3), (⟨b0, 4, none⟩, .slice a4 n4 m4), (⟨b0, 5, none⟩, .slice a5 n5 m5), (⟨b0, 6, none⟩, .slice a6 n6 m6), (⟨b0, 7, none⟩, .slice a7 n7 m7), (⟨b0, 8, none⟩, .slice a8 n8 m8)]) hs _ | exact AtF.ald (w := w0) (l := [(⟨b0, 0, none⟩, .string X0), (⟨b0, 1, none⟩, .string X1), (⟨b0, 2, none⟩, .int .i64 5), (⟨b0, 3, none⟩, .slice a3 n3 m3), (⟨b0, 4, none⟩, .slice a4 n4 m4), (⟨b0, 5, none⟩, .slice a5 n5 m5), (⟨b0, 6, none⟩, .slice a6 n6 m6), (⟨b0, 7, none⟩, .slice a7 n7 m7), (⟨b0, 8, none⟩, .slice a8 n8 m8)]) hs _)
      refine heldY 0 11 ?_ _ rfl rfl (by kernel_rfl) (by kernel_rfl) (by kernel_rfl) (fun _ _ _ h => h) rfl (by assumption) ?_ ?_
      rotate_left
      · (intro w hSw; (try dsimp only at hSw); go_simp; (try with_reducible rfl))
      try simp only [List.setIfInBounds_toArray, List.set_cons_zero, List.set_cons_succ]
      refine heldY 2 13 ?_ _ rfl rfl (by kernel_rfl) (by kernel_rfl) (by kernel_rfl) (fun _ _ _ h => h) rfl (by assumption) ?_ ?_
      rotate_left
      · (intro w hSw; (try dsimp only at hSw); go_simp; (try with_reducible rfl))
      try simp only [List.setIfInBounds_toArray, List.set_cons_zero, List.set_cons_succ]
      refine heldY 3 14 ?_ _ rfl rfl (by kernel_rfl) (by kernel_rfl) (by kernel_rfl) (fun _ _ _ h => h) rfl (by assumption) ?_ ?_
      rotate_left
      · (intro w hSw; (try dsimp only at hSw); go_simp; (try with_reducible rfl))
      try simp only [List.setIfInBounds_toArray, List.set_cons_zero, List.set_cons_succ]
      refine wpAnyH_ready (rs := [1]) (by kernel_rfl) (by simp) ?_
      refine AllReadyH.cons rfl (fun K hK => ?_) AllReadyH.nil
      go_simp
      (go_at_call 39; refine (C2 _).mono ?_; rintro e w3 ⟨rfl, hb⟩)
      refine hK.out _ _ ?_ (fun hHeld => ?_)
      · (try dsimp only); (first | assumption | exact hs | exact AtF.dr (w := w0) (l := [(⟨b0, 0, none⟩, .string X0), (⟨b0, 1, none⟩, .string X1), (⟨b0, 2, none⟩, .int .i64 5), (⟨b0, 3, none⟩, .slice a3 n3 m3), (⟨b0, 4, none⟩, .slice a4 n4 m4), (⟨b0, 5, none⟩, .slice a5 n5 m5), (⟨b0, 6, none⟩, .slice a6 n6 m6), (⟨b0, 7, none⟩, .slice a7 n7 m7), (⟨b0, 8, none⟩, .slice a8 n8 m8)]) hs | exact AtF.dr (w := w0) (l := [(⟨b0, 0, none⟩, .string X0), (⟨b0, 1, none⟩, .string X1), (⟨b0, 2, none⟩, .int .i64 5), (⟨b0, 3, none⟩, .slice a3 n3 m3), (⟨b0, 4, none⟩, .slice a4 n4 m4), (⟨b0, 5, none⟩, .slice a5 n5 m5), (⟨b0, 6, none⟩, .slice a6 n6 m6), (⟨b0, 7, none⟩, .slice a7 n7 m7), (⟨b0, 8, none⟩, .slice a8 n8 m8)]) (by assumption) | exact AtF.on (w := w0) (l := [(⟨b0, 0, none⟩, .string X0), (⟨b0, 1, none⟩, .string X1), (⟨b0, 2, none⟩, .int .i64 5), (⟨b0, 3, none⟩, .slice a3 n3 m3), (⟨b0, 4, none⟩, .slice a4 n4 m4), (⟨b0, 5, none⟩, .slice a5 n5 m5), (⟨b0, 6, none⟩, .slice a6 n6 m6), (⟨b0, 7, none⟩, .slice a7 n7 m7), (⟨b0, 8, none⟩, .slice a8 n8 m8)]) (by assumption) (by assumption) | exact AtF.al (w := w0) (l := [(⟨b0, 0, none⟩, .string X0), (⟨b0, 1, none⟩, .string X1), (⟨b0, 2, none⟩, .int .i64 5), (⟨b0, 3, none⟩, .slice a3 n3 m3), (⟨b0, 4, none⟩, .slice a4 n4 m4), (⟨b0, 5, none⟩, .slice a5 n5 m5), (⟨b0, 6, none⟩, .slice a6 n6 m6), (⟨b0, 7, none⟩, .slice a7 n7 m7), (⟨b0, 8, none⟩, .slice a8 n8 m8)]) (by assumption) _ | exact AtF.ald (w := w0) (l := [(⟨b0, 0, none⟩, .string X0), (⟨b0, 1, none⟩, .string X1), (⟨b0, 2, none⟩, .int .i64 5), (⟨b0, 3, none⟩, .slice a3 n3 m3), (⟨b0, 4, none⟩, .slice a4 n4 m4), (⟨b0, 5, none⟩, .slice a5 n5 m5), (⟨b0, 6, none⟩, .slice a6 n6 m6), (⟨b0, 7, none⟩, .slice a7 n7 m7), (⟨b0, 8, none⟩, .slice a8 n8 m8)]) (by assumption) _ | exact AtF.al (w := w0) (l := [(⟨b0, 0, none⟩, .string X0), (⟨b0, 1, none⟩, .string X1), (⟨b0, 2, none⟩, .int .i64 5), (⟨b0, 3, none⟩, .slice a3 n3 m3), (⟨b0, 4, none⟩, .slice a4 n4 m4), (⟨b0, 5, none⟩, .slice a5 n5 m5), (⟨b0, 6, none⟩, .slice a6 n6 m6), (⟨b0, 7, none⟩, .slice a7 n7 m7), (⟨b0, 8, none⟩, .slice a8 n8 m8)]) hs _ | exact AtF.ald (w := w0) (l := [(⟨b0, 0, none⟩, .string X0), (⟨b0, 1, none⟩, .string X1), (⟨b0, 2, none⟩, .int .i64 5), (⟨b0, 3, none⟩, .slice a3 n3 m3), (⟨b0, 4, none⟩, .slice a4 n4 m4), (⟨b0, 5, none⟩, .slice a5 n5 m5), (⟨b0, 6, none⟩, .slice a6 n6 m6), (⟨b0, 7, none⟩, .slice a7 n7 m7), (⟨b0, 8, none⟩, .slice a8 n8 m8)]) hs _)
      clear hK K
      try simp only [Act.put, List.setIfInBounds_toArray, List.set_cons_zero, List.set_cons_succ]
      refine heldY 4 15 ?_ _ rfl rfl (by kernel_rfl) (by kernel_rfl) (by kernel_rfl) (fun _ _ _ h => h) rfl (by assumption) ?_ ?_
      rotate_left
      · (intro w hSw; (try dsimp only at hSw); go_simp; (try with_reducible rfl))
      try simp only [List.setIfInBounds_toArray, List.set_cons_zero, List.set_cons_succ]
      refine heldY 5 2 ?_ _ rfl rfl (by kernel_rfl) (by kernel_rfl) (by kernel_rfl) (fun _ _ _ h => h) rfl (by assumption) ?_ ?_
      rotate_left
      · (intro w hSw; (try dsimp only at hSw); go_simp; (try with_reducible rfl))
      try simp only [List.setIfInBounds_toArray, List.set_cons_zero, List.set_cons_succ]
      refine wpAnyH_done (by kernel_rfl) ?_ _
      all_goals
        rename_i hHeld
        have HW3 := Lib.hid (BE _ hHeld)
        clear hHeld
        go_wp2
        go_ret
        exact ⟨rfl, by rw [← HW0.out]; exact HW3.out⟩
    · go_enter Tryz.func26, Tryz.ntmps26
      go_wp2
      generalize w.alloc (.cells #[.string X0, .string X1, .int .i64 6, .slice a3 n3 m3, .slice a4 n4 m4, .slice a5 n5 m5, .slice a6 n6 m6, .slice a7 n7 m7, .slice a8 n8 m8] 37) = W2 at *
      generalize hb0 : w.heap.size = b0 at *
      have hs := (And.intro x0 (And.intro x1 (And.intro x2 (And.intro x3 (And.intro x4 (And.intro x5 (And.intro x6 (And.intro x7 (And.intro x8 B1)))))))))
      clear hb0
      have BE := fun (V : World) (h : V.cell? ⟨b0, 0, none⟩ = some (.string X0) ∧ V.cell? ⟨b0, 1, none⟩ = some (.string X1) ∧ V.cell? ⟨b0, 2, none⟩ = some (.int .i64 6) ∧ V.cell? ⟨b0, 3, none⟩ = some (.slice a3 n3 m3) ∧ V.cell? ⟨b0, 4, none⟩ = some (.slice a4 n4 m4) ∧ V.cell? ⟨b0, 5, none⟩ = some (.slice a5 n5 m5) ∧ V.cell? ⟨b0, 6, none⟩ = some (.slice a6 n6 m6) ∧ V.cell? ⟨b0, 7, none⟩ = some (.slice a7 n7 m7) ∧ V.cell? ⟨b0, 8, none⟩ = some (.slice a8 n8 m8) ∧ Below w0.heap.size w0 V) => AtF.be (w := w0) (l := [(⟨b0, 0, none⟩, .string X0), (⟨b0, 1, none⟩, .string X1), (⟨b0, 2, none⟩, .int .i64 6), (⟨b0, 3, none⟩, .slice a3 n3 m3), (⟨b0, 4, none⟩, .slice a4 n4 m4), (⟨b0, 5, none⟩, .slice a5 n5 m5), (⟨b0, 6, none⟩, .slice a6 n6 m6), (⟨b0, 7, none⟩, .slice a7 n7 m7), (⟨b0, 8, none⟩, .slice a8 n8 m8)]) h
      refine wp_region_held_drew (S := (fun V => V.cell? ⟨b0, 0, none⟩ = some (.string X0) ∧ V.cell? ⟨b0, 1, none⟩ = some (.string X1) ∧ V.cell? ⟨b0, 2, none⟩ = some (.int .i64 6) ∧ V.cell? ⟨b0, 3, none⟩ = some (.slice a3 n3 m3) ∧ V.cell? ⟨b0, 4, none⟩ = some (.slice a4 n4 m4) ∧ V.cell? ⟨b0, 5, none⟩ = some (.slice a5 n5 m5) ∧ V.cell? ⟨b0, 6, none⟩ = some (.slice a6 n6 m6) ∧ V.cell? ⟨b0, 7, none⟩ = some (.slice a7 n7 m7) ∧ V.cell? ⟨b0, 8, none⟩ = some (.slice a8 n8 m8) ∧ Below w0.heap.size w0 V)) (by kernel_rfl) ?_ (fun hHeld => ?_)
      · (try dsimp only); (first | assumption | exact hs | exact AtF.dr (w := w0) (l := [(⟨b0, 0, none⟩, .string X0), (⟨b0, 1, none⟩, .string X1), (⟨b0, 2, none⟩, .int .i64 6), (⟨b0, 3, none⟩, .slice a3 n3 m3), (⟨b0, 4, none⟩, .slice a4 n4 m4), (⟨b0, 5, none⟩, .slice a5 n5 m5), (⟨b0, 6, none⟩, .slice a6 n6 m6), (⟨b0, 7, none⟩, .slice a7 n7 m7), (⟨b0, 8, none⟩, .slice a8 n8 m8)]) hs | exact AtF.dr (w := w0) (l := [(⟨b0, 0, none⟩, .string X0), (⟨b0, 1, none⟩, .string X1), (⟨b0, 2, none⟩, .int .i64 6), (⟨b0, 3, none⟩, .slice a3 n3 m3), (⟨b0, 4, none⟩, .slice a4 n4 m4), (⟨b0, 5, none⟩, .slice a5 n5 m5), (⟨b0, 6, none⟩, .slice a6 n6 m6), (⟨b0, 7, none⟩, .slice a7 n7 m7), (⟨b0, 8, none⟩, .slice a8 n8 m8)]) (by assumption) | exact AtF.on (w := w0) (l := [(⟨b0, 0, none⟩, .string X0), (⟨b0, 1, none⟩, .string X1), (⟨b0, 2, none⟩, .int .i64 6), (⟨b0, 3, none⟩, .slice a3 n3 m3), (⟨b0, 4, none⟩, .slice a4 n4 m4), (⟨b0, 5, none⟩, .slice a5 n5 m5), (⟨b0, 6, none⟩, .slice a6 n6 m6), (⟨b0, 7, none⟩, .slice a7 n7 m7), (⟨b0, 8, none⟩, .slice a8 n8 m8)]) (by assumption) (by assumption) | exact AtF.al (w := w0) (l := [(⟨b0, 0, none⟩, .string X0), (⟨b0, 1, none⟩, .string X1), (⟨b0, 2, none⟩, .int .i64 6), (⟨b0, 3, none⟩, .slice a3 n3 m3), (⟨b0, 4, none⟩, .slice a4 n4 m4), (⟨b0, 5, none⟩, .slice a5 n5 m5), (⟨b0, 6, none⟩, .slice a6 n6 m6), (⟨b0, 7, none⟩, .slice a7 n7 m7), (⟨b0, 8, none⟩, .slice a8 n8 m8)]) (by assumption) _ | exact AtF.ald (w := w0) (l := [(⟨b0, 0, none⟩, .string X0), (⟨b0, 1, none⟩, .string X1), (⟨b0, 2, none⟩, .int .i64 6), (⟨b0, 3, none⟩, .slice a3 n3 m3), (⟨b0, 4, none⟩, .slice a4 n4 m4), (⟨b0, 5, none⟩, .slice a5 n5 m5), (⟨b0, 6, none⟩, .slice a6 n6 m6), (⟨b0, 7, none⟩, .slice a7 n7 m7), (⟨b0, 8, none⟩, .slice a8 n8 m8)]) (by assumption) _ | exact AtF.al (w := w0) (l := [(⟨b0, 0, none⟩, .string X0), (⟨b0, 1, none⟩, .string X1), (⟨b0, 2, none⟩, .int .i64 6), (⟨b0, 3, none⟩, .slice a3 n3 m3), (⟨b0, 4, none⟩, .slice a4 n4 m4), (⟨b0, 5, none⟩, .slice a5 n5 m5), (⟨b0, 6, none⟩, .slice a6 n6 m6), (⟨b0, 7, none⟩, .slice a7 n7 m7), (⟨b0, 8, none⟩, .slice a8 n8 m8)]) hs _ | exact AtF.ald (w := w0) (l := [(⟨b0, 0, none⟩, .string X0), (⟨b0, 1, none⟩, .string X1), (⟨b0, 2, none⟩, .int .i64 6), (⟨b0, 3, none⟩, .slice a3 n3 m3), (⟨b0, 4, none⟩, .slice a4 n4 m4), (⟨b0, 5, none⟩, .slice a5 n5 m5), (⟨b0, 6, none⟩, .slice a6 n6 m6), (⟨b0, 7, none⟩, .slice a7 n7 m7), (⟨b0, 8, none⟩, .slice a8 n8 m8)]) hs _)
      refine heldY 0 11 ?_ _ rfl rfl (by kernel_rfl) (by kernel_rfl) (by kernel_rfl) (fun _ _ _ h => h) rfl (by assumption) ?_ ?_
      rotate_left
      · (intro w hSw; (try dsimp only at hSw); go_simp; (try with_reducible rfl))
      try simp only [List.setIfInBounds_toArray, List.set_cons_zero, List.set_cons_succ]
      refine heldY 2 13 ?_ _ rfl rfl (by kernel_rfl) (by kernel_rfl) (by kernel_rfl) (fun _ _ _ h => h) rfl (by assumption) ?_ ?_
      rotate_left
      · (intro w hSw; (try dsimp only at hSw); go_simp; (try with_reducible rfl))
      try simp only [List.setIfInBounds_toArray, List.set_cons_zero, List.set_cons_succ]
      refine heldY 3 14 ?_ _ rfl rfl (by kernel_rfl) (by kernel_rfl) (by kernel_rfl) (fun _ _ _ h => h) rfl (by assumption) ?_ ?_
      rotate_left
      · (intro w hSw; (try dsimp only at hSw); go_simp; (try with_reducible rfl))
      try simp only [List.setIfInBounds_toArray, List.set_cons_zero, List.set_cons_succ]
      refine wpAnyH_ready (rs := [1]) (by kernel_rfl) (by simp) ?_
      refine AllReadyH.cons rfl (fun K hK => ?_) AllReadyH.nil
      go_simp
      (go_at_call 39; refine (C2 _).mono ?_; rintro e w3 ⟨rfl, hb⟩)
      refine hK.out _ _ ?_ (fun hHeld => ?_)
      · (try dsimp only); (first | assumption | exact hs | exact AtF.dr (w := w0) (l := [(⟨b0, 0, none⟩, .string X0), (⟨b0, 1, none⟩, .string X1), (⟨b0, 2, none⟩, .int .i64 6), (⟨b0, 3, none⟩, .slice a3 n3 m3), (⟨b0, 4, none⟩, .slice a4 n4 m4), (⟨b0, 5, none⟩, .slice a5 n5 m5), (⟨b0, 6, none⟩, .slice a6 n6 m6), (⟨b0, 7, none⟩, .slice a7 n7 m7), (⟨b0, 8, none⟩, .slice a8 n8 m8)]) hs | exact AtF.dr (w := w0) (l := [(⟨b0, 0, none⟩, .string X0), (⟨b0, 1, none⟩, .string X1), (⟨b0, 2, none⟩, .int .i64 6), (⟨b0, 3, none⟩, .slice a3 n3 m3), (⟨b0, 4, none⟩, .slice a4 n4 m4), (⟨b0, 5, none⟩, .slice a5 n5 m5), (⟨b0, 6, none⟩, .slice a6 n6 m6), (⟨b0, 7, none⟩, .slice a7 n7 m7), (⟨b0, 8, none⟩, .slice a8 n8 m8)]) (by assumption) | exact AtF.on (w := w0) (l := [(⟨b0, 0, none⟩, .string X0), (⟨b0, 1, none⟩, .string X1), (⟨b0, 2, none⟩, .int .i64 6), (⟨b0, 3, none⟩, .slice a3 n3 m3), (⟨b0, 4, none⟩, .slice a4 n4 m4), (⟨b0, 5, none⟩, .slice a5 n5 m5), (⟨b0, 6, none⟩, .slice a6 n6 m6), (⟨b0, 7, none⟩, .slice a7 n7 m7), (⟨b0, 8, none⟩, .slice a8 n8 m8)]) (by assumption) (by assumption) | exact AtF.al (w := w0) (l := [(⟨b0, 0, none⟩, .string X0), (⟨b0, 1, none⟩, .string X1), (⟨b0, 2, none⟩, .int .i64 6), (⟨b0, 3, none⟩, .slice a3 n3 m3), (⟨b0, 4, none⟩, .slice a4 n4 m4), (⟨b0, 5, none⟩, .slice a5 n5 m5), (⟨b0, 6, none⟩, .slice a6 n6 m6), (⟨b0, 7, none⟩, .slice a7 n7 m7), (⟨b0, 8, none⟩, .slice a8 n8 m8)]) (by assumption) _ | exact AtF.ald (w := w0) (l := [(⟨b0, 0, none⟩, .string X0), (⟨b0, 1, none⟩, .string X1), (⟨b0, 2, none⟩, .int .i64 6), (⟨b0, 3, none⟩, .slice a3 n3 m3), (⟨b0, 4, none⟩, .slice a4 n4 m4), (⟨b0, 5, none⟩, .slice a5 n5 m5), (⟨b0, 6, none⟩, .slice a6 n6 m6), (⟨b0, 7, none⟩, .slice a7 n7 m7), (⟨b0, 8, none⟩, .slice a8 n8 m8)]) (by assumption) _ | exact AtF.al (w := w0) (l := [(⟨b0, 0, none⟩, .string X0), (⟨b0, 1, none⟩, .string X1), (⟨b0, 2, none⟩, .int .i64 6), (⟨b0, 3, none⟩, .slice a3 n3 m3), (⟨b0, 4, none⟩, .slice a4 n4 m4), (⟨b0, 5, none⟩, .slice a5 n5 m5), (⟨b0, 6, none⟩, .slice a6 n6 m6), (⟨b0, 7, none⟩, .slice a7 n7 m7), (⟨b0, 8, none⟩, .slice a8 n8 m8)]) hs _ | exact AtF.ald (w := w0) (l := [(⟨b0, 0, none⟩, .string X0), (⟨b0, 1, none⟩, .string X1), (⟨b0, 2, none⟩, .int .i64 6), (⟨b0, 3, none⟩, .slice a3 n3 m3), (⟨b0, 4, none⟩, .slice a4 n4 m4), (⟨b0, 5, none⟩, .slice a5 n5 m5), (⟨b0, 6, none⟩, .slice a6 n6 m6), (⟨b0, 7, none⟩, .slice a7 n7 m7), (⟨b0, 8, none⟩, .slice a8 n8 m8)]) hs _)
      clear hK K
      try simp only [Act.put, List.setIfInBounds_toArray, List.set_cons_zero, List.set_cons_succ]
      refine heldY 4 15 ?_ _ rfl rfl (by kernel_rfl) (by kernel_rfl) (by kernel_rfl) (fun _ _ _ h => h) rfl (by assumption) ?_ ?_
      rotate_left
      · (intro w hSw; (try dsimp only at hSw); go_simp; (try with_reducible rfl))
      try simp only [List.setIfInBounds_toArray, List.set_cons_zero, List.set_cons_succ]
      refine heldY 5 2 ?_ _ rfl rfl (by kernel_rfl) (by kernel_rfl) (by kernel_rfl) (fun _ _ _ h => h) rfl (by assumption) ?_ ?_
      rotate_left
      · (intro w hSw; (try dsimp only at hSw); go_simp; (try with_reducible rfl))
      try simp only [List.setIfInBounds_toArray, List.set_cons_zero, List.set_cons_succ]
      refine wpAnyH_done (by kernel_rfl) ?_ _
      all_goals
        rename_i hHeld
        have HW3 := Lib.hid (BE _ hHeld)
        clear hHeld
        go_wp2
        go_ret
        exact ⟨rfl, by rw [← HW0.out]; exact HW3.out⟩
  · have z5 : (z == 5) = false := by rw [beq_eq_false_iff_ne]; omega
    have z6 : (z == 6) = false := by rw [beq_eq_false_iff_ne]; omega
    have hst : stateOkU z n7 n8 = (!decide (wordU z = []) && (setU n7 n8 == 7)) := by unfold stateOkU; rw [if_neg hz]; rw [decide_not]; rfl
    rw [hst]
    clear hst hz
    have hT := eqTL (bsT (wordU z)) []
    rw [bytesOf] at hT
    obtain ⟨x0, x1, x2, x3, x4, x5, x6, x7, x8⟩ := boxV9 w (.string X0) (.string X1) (.int .i64 z) (.slice a3 n3 m3) (.slice a4 n4 m4) (.slice a5 n5 m5) (.slice a6 n6 m6) (.slice a7 n7 m7) (.slice a8 n8 m8) 37
    have B0 := Lib.hid ((Below.refl w.heap.size w).alloc (Nat.le_refl _) (.cells #[.string X0, .string X1, .int .i64 z, .slice a3 n3 m3, .slice a4 n4 m4, .slice a5 n5 m5, .slice a6 n6 m6, .slice a7 n7 m7, .slice a8 n8 m8] 37))
    have HL := Lib.hid (hL.on B0.out)
    have hlt : w.heap.size < (w.alloc (.cells #[.string X0, .string X1, .int .i64 z, .slice a3 n3 m3, .slice a4 n4 m4, .slice a5 n5 m5, .slice a6 n6 m6, .slice a7 n7 m7, .slice a8 n8 m8] 37)).heap.size := by simp
    have HB0 := Lib.hid (Below.refl (w.alloc (.cells #[.string X0, .string X1, .int .i64 z, .slice a3 n3 m3, .slice a4 n4 m4, .slice a5 n5 m5, .slice a6 n6 m6, .slice a7 n7 m7, .slice a8 n8 m8] 37)).heap.size (w.alloc (.cells #[.string X0, .string X1, .int .i64 z, .slice a3 n3 m3, .slice a4 n4 m4, .slice a5 n5 m5, .slice a6 n6 m6, .slice a7 n7 m7, .slice a8 n8 m8] 37)))
    have C1 := fun W (hb : Below (w.alloc (.cells #[.string X0, .string X1, .int .i64 z, .slice a3 n3 m3, .slice a4 n4 m4, .slice a5 n5 m5, .slice a6 n6 m6, .slice a7 n7 m7, .slice a8 n8 m8] 37)).heap.size (w.alloc (.cells #[.string X0, .string X1, .int .i64 z, .slice a3 n3 m3, .slice a4 n4 m4, .slice a5 n5 m5, .slice a6 n6 m6, .slice a7 n7 m7, .slice a8 n8 m8] 37)) W) => word_any z W (HL.out.on hb)
    clear hL
    generalize setU n7 n8 = y at *
    generalize bsT (wordU z) = TT at *
    generalize decide (wordU z = []) = q at *
    cases q
    · go_enter Tryz.func26, Tryz.ntmps26
      go_wp2_with (first
        | (go_at_call 40; (with_reducible refine (C1 _ HB0.out).mono ?_); rintro e w1 ⟨rfl, hb⟩; have HB1 := Lib.hid (HB0.out.trans (hb.mono HB0.out.size)); have y1_0 := (HB1.out.cell (p := ⟨w.heap.size, 0, none⟩) hlt).trans x0; have y1_1 := (HB1.out.cell (p := ⟨w.heap.size, 1, none⟩) hlt).trans x1; have y1_2 := (HB1.out.cell (p := ⟨w.heap.size, 2, none⟩) hlt).trans x2; have y1_3 := (HB1.out.cell (p := ⟨w.heap.size, 3, none⟩) hlt).trans x3; have y1_4 := (HB1.out.cell (p := ⟨w.heap.size, 4, none⟩) hlt).trans x4; have y1_5 := (HB1.out.cell (p := ⟨w.heap.size, 5, none⟩) hlt).trans x5; have y1_6 := (HB1.out.cell (p := ⟨w.heap.size, 6, none⟩) hlt).trans x6; have y1_7 := (HB1.out.cell (p := ⟨w.heap.size, 7, none⟩) hlt).trans x7; have y1_8 := (HB1.out.cell (p := ⟨w.heap.size, 8, none⟩) hlt).trans x8; clear hb)
        | (go_at_call 39; (with_reducible refine (C2 _).mono ?_); rintro e w2 ⟨rfl, hb⟩; have HB2 := Lib.hid (HB1.out.trans (hb.mono HB1.out.size)); clear hb))
      go_ret
      exact ⟨rfl, B0.out.trans (HB2.out.mono B0.out.size)⟩
    · go_enter Tryz.func26, Tryz.ntmps26
      go_wp2_with (first
        | (go_at_call 40; (with_reducible refine (C1 _ HB0.out).mono ?_); rintro e w1 ⟨rfl, hb⟩; have HB1 := Lib.hid (HB0.out.trans (hb.mono HB0.out.size)); have y1_0 := (HB1.out.cell (p := ⟨w.heap.size, 0, none⟩) hlt).trans x0; have y1_1 := (HB1.out.cell (p := ⟨w.heap.size, 1, none⟩) hlt).trans x1; have y1_2 := (HB1.out.cell (p := ⟨w.heap.size, 2, none⟩) hlt).trans x2; have y1_3 := (HB1.out.cell (p := ⟨w.heap.size, 3, none⟩) hlt).trans x3; have y1_4 := (HB1.out.cell (p := ⟨w.heap.size, 4, none⟩) hlt).trans x4; have y1_5 := (HB1.out.cell (p := ⟨w.heap.size, 5, none⟩) hlt).trans x5; have y1_6 := (HB1.out.cell (p := ⟨w.heap.size, 6, none⟩) hlt).trans x6; have y1_7 := (HB1.out.cell (p := ⟨w.heap.size, 7, none⟩) hlt).trans x7; have y1_8 := (HB1.out.cell (p := ⟨w.heap.size, 8, none⟩) hlt).trans x8; clear hb)
        | (go_at_call 39; (with_reducible refine (C2 _).mono ?_); rintro e w2 ⟨rfl, hb⟩; have HB2 := Lib.hid (HB1.out.trans (hb.mono HB1.out.size)); clear hb))
      go_ret
      exact ⟨rfl, B0.out.trans (HB1.out.mono B0.out.size)⟩
end Go.Proofs.YtpkdnohaefkfgaaGreatDoor
