/-
  The reference's Check of overrides: what it returns; nothing old turns.
-/
import Derived.Test.YtmjfbpiodamamaaGreatDoorOCheck
namespace Go.Proofs.YtmjfbpiodamamaaGreatDoor
open Go.RowKit
set_option maxRecDepth 100000 in
set_option maxHeartbeats 8000000 in
theorem checkO_ref (v : Value) (l : List Ov) (hl : l.length ≤ 90000) (hs : SmallO l) (w : World) (h : HoldO w v l) :
    Calls Tryz.prog 12 #[v] w fun e w' => e = .returned (.int .i64 (chkO l)) ∧ Below w.heap.size w w' := by
  obtain ⟨a, c, b, o, rfl, hc, ha, hcell⟩ := h.parts
  have HC := Lib.hid hcell
  have HS := Lib.hid hs
  obtain ⟨Z, HZ⟩ : ∃ Z, Hid (chkO l = Z) := ⟨_, rfl⟩
  rw [HZ.out]
  obtain ⟨n, hN⟩ : ∃ n, l.length = n := ⟨_, rfl⟩
  rw [hN] at hc ha hl ⊢
  have HN := Lib.hid hN
  clear hcell hs hN h
  by_cases h64 : 64 < n
  · have HF : Hid ((22 : Int) = Z) := Lib.hid (by rw [← HZ.out, chkO_long (by rw [HN.out]; exact h64)])
    go_enter Tryz.func12, Tryz.ntmps12
    go_wp2
    go_ret
    exact ⟨reti HF.out, Below.refl _ _⟩
  have HBAD : Hid (∀ (i : Nat) x, l[i]? = some x → ¬ stepO l i x → (1 : Int) = Z) := Lib.hid (fun i x hx g => by rw [← HZ.out, chkO_no (by rw [HN.out]; exact h64) (fun q => g (q i x hx))])
  have HOK : Hid (StepsO l → (0 : Int) = Z) := Lib.hid (fun g => by rw [← HZ.out, chkO_ok (by rw [HN.out]; exact h64) g])
  clear HZ
  go_enter Tryz.func12, Tryz.ntmps12
  go_wp2
  go_loopw [3] (fun i wr => ∃ k : Nat, k ≤ n ∧ i = .int .i64 k ∧ Hid (∀ (j : Nat) x, j < k → l[j]? = some x → stepO l j x) ∧ Hid (Below w.heap.size w wr)) (fun i _ => n - (intOf i).toNat)
  case atStart => exact ⟨0, by omega, rfl, Lib.hid (fun j y hj => by omega), Lib.hid (Below.refl _ _)⟩
  case round =>
    obtain ⟨k, hk, rfl, H, HB⟩ := hrel
    by_cases hlt : k < n
    · obtain ⟨rfl, hbw⟩ := ha (by omega)
      obtain ⟨⟨t, m, u, g⟩, hp⟩ : ∃ x, l[k]? = some x := ⟨_, List.getElem?_eq_getElem (by rw [HN.out]; exact hlt)⟩
      obtain ⟨c0, c1, c2, c3⟩ := HC.out k (t, m, u, g) hp
      dsimp only at c0 c1 c2 c3
      rw [← HB.out.cell (p := ⟨b, o + k * 4, none⟩) hbw] at c0
      rw [← HB.out.cell (p := ⟨b, o + k * 4 + 1, none⟩) hbw] at c1
      rw [← HB.out.cell (p := ⟨b, o + k * 4 + 2, none⟩) hbw] at c2
      rw [← HB.out.cell (p := ⟨b, o + k * 4 + 3, none⟩) hbw] at c3
      have hpm := List.mem_of_getElem? hp
      have RA := fun W => rightO_ref (t, m, u, g) (HS.out _ hpm) W
      unfold aggO at RA
      dsimp only at RA
      have HX := Lib.hid hp
      have hsz := HB.out.size
      have hB := HB.out
      have j0 : (0 : Int) ≤ (k : Int) := by omega
      have j1 : (k : Int) < (n : Int) := by omega
      clear hp hpm
      cases hq : rightO (t, m, u, g)
      · have HF := Lib.hid (HBAD.out k _ HX.out (fun q => by have := q.1; rw [hq] at this; cases this))
        simp only [hq] at RA
        clear hq H HBAD HOK HC HS HX
        generalize bsT t = X at *
        have hs := And.intro c0 (And.intro c1 (And.intro c2 (And.intro c3 hB)))
        go_wp2
        have BE := fun (V : World) (h : V.cell? ⟨b, o + k * 4, none⟩ = some (.string X) ∧ V.cell? ⟨b, o + k * 4 + 1, none⟩ = some (.int .i64 m) ∧ V.cell? ⟨b, o + k * 4 + 2, none⟩ = some (.int .i64 u) ∧ V.cell? ⟨b, o + k * 4 + 3, none⟩ = some (.int .i64 g) ∧ Below w.heap.size w V) => AtF.be (w := w) (l := [(⟨b, o + k * 4, none⟩, .string X), (⟨b, o + k * 4 + 1, none⟩, .int .i64 m), (⟨b, o + k * 4 + 2, none⟩, .int .i64 u), (⟨b, o + k * 4 + 3, none⟩, .int .i64 g)]) h
        refine wp_region_held_drew (S := (fun V => V.cell? ⟨b, o + k * 4, none⟩ = some (.string X) ∧ V.cell? ⟨b, o + k * 4 + 1, none⟩ = some (.int .i64 m) ∧ V.cell? ⟨b, o + k * 4 + 2, none⟩ = some (.int .i64 u) ∧ V.cell? ⟨b, o + k * 4 + 3, none⟩ = some (.int .i64 g) ∧ Below w.heap.size w V)) (by kernel_rfl) ?_ (fun hHeld => ?_)
        · (try dsimp only); (first | assumption | exact hs | exact AtF.dr (w := w) (l := [(⟨b, o + k * 4, none⟩, .string X), (⟨b, o + k * 4 + 1, none⟩, .int .i64 m), (⟨b, o + k * 4 + 2, none⟩, .int .i64 u), (⟨b, o + k * 4 + 3, none⟩, .int .i64 g)]) hs | exact AtF.dr (w := w) (l := [(⟨b, o + k * 4, none⟩, .string X), (⟨b, o + k * 4 + 1, none⟩, .int .i64 m), (⟨b, o + k * 4 + 2, none⟩, .int .i64 u), (⟨b, o + k * 4 + 3, none⟩, .int .i64 g)]) (by assumption) | exact AtF.on (w := w) (l := [(⟨b, o + k * 4, none⟩, .string X), (⟨b, o + k * 4 + 1, none⟩, .int .i64 m), (⟨b, o + k * 4 + 2, none⟩, .int .i64 u), (⟨b, o + k * 4 + 3, none⟩, .int .i64 g)]) (by assumption) (by assumption) | exact AtF.al (w := w) (l := [(⟨b, o + k * 4, none⟩, .string X), (⟨b, o + k * 4 + 1, none⟩, .int .i64 m), (⟨b, o + k * 4 + 2, none⟩, .int .i64 u), (⟨b, o + k * 4 + 3, none⟩, .int .i64 g)]) (by assumption) _ | exact AtF.ald (w := w) (l := [(⟨b, o + k * 4, none⟩, .string X), (⟨b, o + k * 4 + 1, none⟩, .int .i64 m), (⟨b, o + k * 4 + 2, none⟩, .int .i64 u), (⟨b, o + k * 4 + 3, none⟩, .int .i64 g)]) (by assumption) _ | exact AtF.al (w := w) (l := [(⟨b, o + k * 4, none⟩, .string X), (⟨b, o + k * 4 + 1, none⟩, .int .i64 m), (⟨b, o + k * 4 + 2, none⟩, .int .i64 u), (⟨b, o + k * 4 + 3, none⟩, .int .i64 g)]) hs _ | exact AtF.ald (w := w) (l := [(⟨b, o + k * 4, none⟩, .string X), (⟨b, o + k * 4 + 1, none⟩, .int .i64 m), (⟨b, o + k * 4 + 2, none⟩, .int .i64 u), (⟨b, o + k * 4 + 3, none⟩, .int .i64 g)]) hs _)
        refine heldY 0 13 ?_ _ rfl rfl (by kernel_rfl) (by kernel_rfl) (by kernel_rfl) (fun _ _ _ h => h) rfl (by assumption) ?_ ?_
        rotate_left
        · (intro w hSw; (try dsimp only at hSw); go_simp; (try with_reducible rfl))
        simp only [List.setIfInBounds_toArray, List.set_cons_zero, List.set_cons_succ]
        refine heldY 1 14 ?_ _ rfl rfl (by kernel_rfl) (by kernel_rfl) (by kernel_rfl) (fun _ _ _ h => h) rfl (by assumption) ?_ ?_
        rotate_left
        · (intro w hSw; (try dsimp only at hSw); go_simp; (try with_reducible rfl))
        simp only [List.setIfInBounds_toArray, List.set_cons_zero, List.set_cons_succ]
        refine heldY 2 15 ?_ _ rfl rfl (by kernel_rfl) (by kernel_rfl) (by kernel_rfl) (fun _ _ _ h => h) rfl (by assumption) ?_ ?_
        rotate_left
        · (intro w hSw; (try dsimp only at hSw); go_simp; (try with_reducible rfl))
        simp only [List.setIfInBounds_toArray, List.set_cons_zero, List.set_cons_succ]
        refine heldY 3 16 ?_ _ rfl rfl (by kernel_rfl) (by kernel_rfl) (by kernel_rfl) (fun _ _ _ h => h) rfl (by assumption) ?_ ?_
        rotate_left
        · (intro w hSw; (try dsimp only at hSw); go_simp; (try with_reducible rfl))
        simp only [List.setIfInBounds_toArray, List.set_cons_zero, List.set_cons_succ]
        refine wpAnyH_ready (rs := [4]) (by kernel_rfl) (by simp) ?_
        refine AllReadyH.cons rfl (fun K hK => ?_) AllReadyH.nil
        go_simp
        go_at_call 23; (with_reducible refine (RA _).mono ?_); rintro e w3 ⟨rfl, hb⟩
        refine hK.out _ _ ?_ (fun hHeld => ?_)
        · (try dsimp only); (first | assumption | exact hs | exact AtF.dr (w := w) (l := [(⟨b, o + k * 4, none⟩, .string X), (⟨b, o + k * 4 + 1, none⟩, .int .i64 m), (⟨b, o + k * 4 + 2, none⟩, .int .i64 u), (⟨b, o + k * 4 + 3, none⟩, .int .i64 g)]) hs | exact AtF.dr (w := w) (l := [(⟨b, o + k * 4, none⟩, .string X), (⟨b, o + k * 4 + 1, none⟩, .int .i64 m), (⟨b, o + k * 4 + 2, none⟩, .int .i64 u), (⟨b, o + k * 4 + 3, none⟩, .int .i64 g)]) (by assumption) | exact AtF.on (w := w) (l := [(⟨b, o + k * 4, none⟩, .string X), (⟨b, o + k * 4 + 1, none⟩, .int .i64 m), (⟨b, o + k * 4 + 2, none⟩, .int .i64 u), (⟨b, o + k * 4 + 3, none⟩, .int .i64 g)]) (by assumption) (by assumption) | exact AtF.al (w := w) (l := [(⟨b, o + k * 4, none⟩, .string X), (⟨b, o + k * 4 + 1, none⟩, .int .i64 m), (⟨b, o + k * 4 + 2, none⟩, .int .i64 u), (⟨b, o + k * 4 + 3, none⟩, .int .i64 g)]) (by assumption) _ | exact AtF.ald (w := w) (l := [(⟨b, o + k * 4, none⟩, .string X), (⟨b, o + k * 4 + 1, none⟩, .int .i64 m), (⟨b, o + k * 4 + 2, none⟩, .int .i64 u), (⟨b, o + k * 4 + 3, none⟩, .int .i64 g)]) (by assumption) _ | exact AtF.al (w := w) (l := [(⟨b, o + k * 4, none⟩, .string X), (⟨b, o + k * 4 + 1, none⟩, .int .i64 m), (⟨b, o + k * 4 + 2, none⟩, .int .i64 u), (⟨b, o + k * 4 + 3, none⟩, .int .i64 g)]) hs _ | exact AtF.ald (w := w) (l := [(⟨b, o + k * 4, none⟩, .string X), (⟨b, o + k * 4 + 1, none⟩, .int .i64 m), (⟨b, o + k * 4 + 2, none⟩, .int .i64 u), (⟨b, o + k * 4 + 3, none⟩, .int .i64 g)]) hs _)
        clear hK K
        try simp only [Act.put, List.setIfInBounds_toArray, List.set_cons_zero, List.set_cons_succ]
        refine heldY 5 18 ?_ _ rfl rfl (by kernel_rfl) (by kernel_rfl) (by kernel_rfl) (fun _ _ _ h => h) rfl (by assumption) ?_ ?_
        rotate_left
        · (intro w hSw; (try dsimp only at hSw); go_simp; (try with_reducible rfl))
        simp only [List.setIfInBounds_toArray, List.set_cons_zero, List.set_cons_succ]
        refine heldY 6 19 ?_ _ rfl rfl (by kernel_rfl) (by kernel_rfl) (by kernel_rfl) (fun _ _ _ h => h) rfl (by assumption) ?_ ?_
        rotate_left
        · (intro w hSw; (try dsimp only at hSw); go_simp; (try with_reducible rfl))
        simp only [List.setIfInBounds_toArray, List.set_cons_zero, List.set_cons_succ]
        refine heldNo 7 20 rfl (by kernel_rfl) (by kernel_rfl) (by kernel_rfl) (fun _ _ _ h => h) rfl (by assumption) ?_
        simp only [List.setIfInBounds_toArray, List.set_cons_zero, List.set_cons_succ]
        refine heldNo 8 21 rfl (by kernel_rfl) (by kernel_rfl) (by kernel_rfl) (fun _ _ _ h => h) rfl (by assumption) ?_
        simp only [List.setIfInBounds_toArray, List.set_cons_zero, List.set_cons_succ]
        refine heldNo 9 22 rfl (by kernel_rfl) (by kernel_rfl) (by kernel_rfl) (fun _ _ _ h => h) rfl (by assumption) ?_
        simp only [List.setIfInBounds_toArray, List.set_cons_zero, List.set_cons_succ]
        refine heldNo 10 23 rfl (by kernel_rfl) (by kernel_rfl) (by kernel_rfl) (fun _ _ _ h => h) rfl (by assumption) ?_
        simp only [List.setIfInBounds_toArray, List.set_cons_zero, List.set_cons_succ]
        refine heldNo 11 24 rfl (by kernel_rfl) (by kernel_rfl) (by kernel_rfl) (fun _ _ _ h => h) rfl (by assumption) ?_
        simp only [List.setIfInBounds_toArray, List.set_cons_zero, List.set_cons_succ]
        refine heldNo 12 25 rfl (by kernel_rfl) (by kernel_rfl) (by kernel_rfl) (fun _ _ _ h => h) rfl (by assumption) ?_
        simp only [List.setIfInBounds_toArray, List.set_cons_zero, List.set_cons_succ]
        refine heldNo 13 26 rfl (by kernel_rfl) (by kernel_rfl) (by kernel_rfl) (fun _ _ _ h => h) rfl (by assumption) ?_
        simp only [List.setIfInBounds_toArray, List.set_cons_zero, List.set_cons_succ]
        refine heldNo 14 27 rfl (by kernel_rfl) (by kernel_rfl) (by kernel_rfl) (fun _ _ _ h => h) rfl (by assumption) ?_
        simp only [List.setIfInBounds_toArray, List.set_cons_zero, List.set_cons_succ]
        refine heldNo 15 28 rfl (by kernel_rfl) (by kernel_rfl) (by kernel_rfl) (fun _ _ _ h => h) rfl (by assumption) ?_
        simp only [List.setIfInBounds_toArray, List.set_cons_zero, List.set_cons_succ]
        refine heldNo 16 29 rfl (by kernel_rfl) (by kernel_rfl) (by kernel_rfl) (fun _ _ _ h => h) rfl (by assumption) ?_
        simp only [List.setIfInBounds_toArray, List.set_cons_zero, List.set_cons_succ]
        refine heldNo 17 30 rfl (by kernel_rfl) (by kernel_rfl) (by kernel_rfl) (fun _ _ _ h => h) rfl (by assumption) ?_
        simp only [List.setIfInBounds_toArray, List.set_cons_zero, List.set_cons_succ]
        refine heldNo 18 31 rfl (by kernel_rfl) (by kernel_rfl) (by kernel_rfl) (fun _ _ _ h => h) rfl (by assumption) ?_
        simp only [List.setIfInBounds_toArray, List.set_cons_zero, List.set_cons_succ]
        refine heldNo 19 32 rfl (by kernel_rfl) (by kernel_rfl) (by kernel_rfl) (fun _ _ _ h => h) rfl (by assumption) ?_
        simp only [List.setIfInBounds_toArray, List.set_cons_zero, List.set_cons_succ]
        refine heldNo 20 33 rfl (by kernel_rfl) (by kernel_rfl) (by kernel_rfl) (fun _ _ _ h => h) rfl (by assumption) ?_
        simp only [List.setIfInBounds_toArray, List.set_cons_zero, List.set_cons_succ]
        refine heldNo 21 34 rfl (by kernel_rfl) (by kernel_rfl) (by kernel_rfl) (fun _ _ _ h => h) rfl (by assumption) ?_
        simp only [List.setIfInBounds_toArray, List.set_cons_zero, List.set_cons_succ]
        refine heldNo 22 35 rfl (by kernel_rfl) (by kernel_rfl) (by kernel_rfl) (fun _ _ _ h => h) rfl (by assumption) ?_
        simp only [List.setIfInBounds_toArray, List.set_cons_zero, List.set_cons_succ]
        refine heldY 23 36 ?_ _ rfl rfl (by kernel_rfl) (by kernel_rfl) (by kernel_rfl) (fun _ _ _ h => h) rfl (by assumption) ?_ ?_
        rotate_left
        · (intro w hSw; (try dsimp only at hSw); go_simp; (try with_reducible rfl))
        simp only [List.setIfInBounds_toArray, List.set_cons_zero, List.set_cons_succ]
        refine wpAnyH_done (by kernel_rfl) ?_ _
        have HW3 := Lib.hid (BE _ hHeld)
        clear hHeld
        go_wp2
        go_ret
        exact ⟨reti HF.out, HW3.out⟩
      · simp only [hq] at RA
        by_cases hk0 : 0 < k
        · obtain ⟨⟨t', m', u', g'⟩, hr⟩ : ∃ x, l[k - 1]? = some x := ⟨_, List.getElem?_eq_getElem (by rw [HN.out]; omega)⟩
          obtain ⟨e0, -⟩ := HC.out (k - 1) (t', m', u', g') hr
          dsimp only at e0
          rw [← HB.out.cell (p := ⟨b, o + (k - 1) * 4, none⟩) hbw] at e0
          have hls := lessT (bsT t') (bsT t)
          rw [bytesOf, bytesOf] at hls
          have HBADk : Hid (decide (t' < t) = false → (1 : Int) = Z) := Lib.hid (fun g => HBAD.out k _ HX.out (fun q => by have := q.2 _ hk0 hr; dsimp only at this; rw [decide_eq_true this] at g; cases g))
          have HNEXT : Hid (decide (t' < t) = true → ∀ (j : Nat) x, j < k + 1 → l[j]? = some x → stepO l j x) := Lib.hid (fun g j x hj hu => by
            by_cases ej : j = k
            · subst ej
              rw [HX.out] at hu; cases hu
              exact ⟨hq, fun y h1 h2 => by rw [hr] at h2; cases h2; exact of_decide_eq_true g⟩
            · exact H.out j x (by omega) hu)
          generalize decide (t' < t) = q at *
          have hd : decide ((0 : Int) < (k : Int)) = true := decide_eq_true (by omega)
          clear hq H HBAD HC HS HX hr
          generalize bsT t = X at *
          generalize bsT t' = X' at *
          have hs := And.intro c0 (And.intro c1 (And.intro c2 (And.intro c3 (And.intro e0 hB))))
          have hk1 : (1 : Int) ≤ (k : Int) := by omega
          have i0 : (0 : Int) ≤ (k : Int) - 1 := by omega
          have i1 : (k : Int) - 1 < (n : Int) := by omega
          have i2 : ((k : Int) - 1).toNat = k - 1 := by omega
          have i3 : IntKind.i64.wrap ((k : Int) - 1) = (k : Int) - 1 := IntWalk.i64_in _ (by omega)
          go_wp2
          have BE := fun (V : World) (h : V.cell? ⟨b, o + k * 4, none⟩ = some (.string X) ∧ V.cell? ⟨b, o + k * 4 + 1, none⟩ = some (.int .i64 m) ∧ V.cell? ⟨b, o + k * 4 + 2, none⟩ = some (.int .i64 u) ∧ V.cell? ⟨b, o + k * 4 + 3, none⟩ = some (.int .i64 g) ∧ V.cell? ⟨b, o + (k - 1) * 4, none⟩ = some (.string X') ∧ Below w.heap.size w V) => AtF.be (w := w) (l := [(⟨b, o + k * 4, none⟩, .string X), (⟨b, o + k * 4 + 1, none⟩, .int .i64 m), (⟨b, o + k * 4 + 2, none⟩, .int .i64 u), (⟨b, o + k * 4 + 3, none⟩, .int .i64 g), (⟨b, o + (k - 1) * 4, none⟩, .string X')]) h
          refine wp_region_held_drew (S := (fun V => V.cell? ⟨b, o + k * 4, none⟩ = some (.string X) ∧ V.cell? ⟨b, o + k * 4 + 1, none⟩ = some (.int .i64 m) ∧ V.cell? ⟨b, o + k * 4 + 2, none⟩ = some (.int .i64 u) ∧ V.cell? ⟨b, o + k * 4 + 3, none⟩ = some (.int .i64 g) ∧ V.cell? ⟨b, o + (k - 1) * 4, none⟩ = some (.string X') ∧ Below w.heap.size w V)) (by kernel_rfl) ?_ (fun hHeld => ?_)
          · (try dsimp only); (first | assumption | exact hs | exact AtF.dr (w := w) (l := [(⟨b, o + k * 4, none⟩, .string X), (⟨b, o + k * 4 + 1, none⟩, .int .i64 m), (⟨b, o + k * 4 + 2, none⟩, .int .i64 u), (⟨b, o + k * 4 + 3, none⟩, .int .i64 g), (⟨b, o + (k - 1) * 4, none⟩, .string X')]) hs | exact AtF.dr (w := w) (l := [(⟨b, o + k * 4, none⟩, .string X), (⟨b, o + k * 4 + 1, none⟩, .int .i64 m), (⟨b, o + k * 4 + 2, none⟩, .int .i64 u), (⟨b, o + k * 4 + 3, none⟩, .int .i64 g), (⟨b, o + (k - 1) * 4, none⟩, .string X')]) (by assumption) | exact AtF.on (w := w) (l := [(⟨b, o + k * 4, none⟩, .string X), (⟨b, o + k * 4 + 1, none⟩, .int .i64 m), (⟨b, o + k * 4 + 2, none⟩, .int .i64 u), (⟨b, o + k * 4 + 3, none⟩, .int .i64 g), (⟨b, o + (k - 1) * 4, none⟩, .string X')]) (by assumption) (by assumption) | exact AtF.al (w := w) (l := [(⟨b, o + k * 4, none⟩, .string X), (⟨b, o + k * 4 + 1, none⟩, .int .i64 m), (⟨b, o + k * 4 + 2, none⟩, .int .i64 u), (⟨b, o + k * 4 + 3, none⟩, .int .i64 g), (⟨b, o + (k - 1) * 4, none⟩, .string X')]) (by assumption) _ | exact AtF.ald (w := w) (l := [(⟨b, o + k * 4, none⟩, .string X), (⟨b, o + k * 4 + 1, none⟩, .int .i64 m), (⟨b, o + k * 4 + 2, none⟩, .int .i64 u), (⟨b, o + k * 4 + 3, none⟩, .int .i64 g), (⟨b, o + (k - 1) * 4, none⟩, .string X')]) (by assumption) _ | exact AtF.al (w := w) (l := [(⟨b, o + k * 4, none⟩, .string X), (⟨b, o + k * 4 + 1, none⟩, .int .i64 m), (⟨b, o + k * 4 + 2, none⟩, .int .i64 u), (⟨b, o + k * 4 + 3, none⟩, .int .i64 g), (⟨b, o + (k - 1) * 4, none⟩, .string X')]) hs _ | exact AtF.ald (w := w) (l := [(⟨b, o + k * 4, none⟩, .string X), (⟨b, o + k * 4 + 1, none⟩, .int .i64 m), (⟨b, o + k * 4 + 2, none⟩, .int .i64 u), (⟨b, o + k * 4 + 3, none⟩, .int .i64 g), (⟨b, o + (k - 1) * 4, none⟩, .string X')]) hs _)
          refine heldY 0 13 ?_ _ rfl rfl (by kernel_rfl) (by kernel_rfl) (by kernel_rfl) (fun _ _ _ h => h) rfl (by assumption) ?_ ?_
          rotate_left
          · (intro w hSw; (try dsimp only at hSw); go_simp; (try with_reducible rfl))
          simp only [List.setIfInBounds_toArray, List.set_cons_zero, List.set_cons_succ]
          refine heldY 1 14 ?_ _ rfl rfl (by kernel_rfl) (by kernel_rfl) (by kernel_rfl) (fun _ _ _ h => h) rfl (by assumption) ?_ ?_
          rotate_left
          · (intro w hSw; (try dsimp only at hSw); go_simp; (try with_reducible rfl))
          simp only [List.setIfInBounds_toArray, List.set_cons_zero, List.set_cons_succ]
          refine heldY 2 15 ?_ _ rfl rfl (by kernel_rfl) (by kernel_rfl) (by kernel_rfl) (fun _ _ _ h => h) rfl (by assumption) ?_ ?_
          rotate_left
          · (intro w hSw; (try dsimp only at hSw); go_simp; (try with_reducible rfl))
          simp only [List.setIfInBounds_toArray, List.set_cons_zero, List.set_cons_succ]
          refine heldY 3 16 ?_ _ rfl rfl (by kernel_rfl) (by kernel_rfl) (by kernel_rfl) (fun _ _ _ h => h) rfl (by assumption) ?_ ?_
          rotate_left
          · (intro w hSw; (try dsimp only at hSw); go_simp; (try with_reducible rfl))
          simp only [List.setIfInBounds_toArray, List.set_cons_zero, List.set_cons_succ]
          refine wpAnyH_ready (rs := [4]) (by kernel_rfl) (by simp) ?_
          refine AllReadyH.cons rfl (fun K hK => ?_) AllReadyH.nil
          go_simp
          go_at_call 23; (with_reducible refine (RA _).mono ?_); rintro e w3 ⟨rfl, hb⟩
          refine hK.out _ _ ?_ (fun hHeld => ?_)
          · (try dsimp only); (first | assumption | exact hs | exact AtF.dr (w := w) (l := [(⟨b, o + k * 4, none⟩, .string X), (⟨b, o + k * 4 + 1, none⟩, .int .i64 m), (⟨b, o + k * 4 + 2, none⟩, .int .i64 u), (⟨b, o + k * 4 + 3, none⟩, .int .i64 g), (⟨b, o + (k - 1) * 4, none⟩, .string X')]) hs | exact AtF.dr (w := w) (l := [(⟨b, o + k * 4, none⟩, .string X), (⟨b, o + k * 4 + 1, none⟩, .int .i64 m), (⟨b, o + k * 4 + 2, none⟩, .int .i64 u), (⟨b, o + k * 4 + 3, none⟩, .int .i64 g), (⟨b, o + (k - 1) * 4, none⟩, .string X')]) (by assumption) | exact AtF.on (w := w) (l := [(⟨b, o + k * 4, none⟩, .string X), (⟨b, o + k * 4 + 1, none⟩, .int .i64 m), (⟨b, o + k * 4 + 2, none⟩, .int .i64 u), (⟨b, o + k * 4 + 3, none⟩, .int .i64 g), (⟨b, o + (k - 1) * 4, none⟩, .string X')]) (by assumption) (by assumption) | exact AtF.al (w := w) (l := [(⟨b, o + k * 4, none⟩, .string X), (⟨b, o + k * 4 + 1, none⟩, .int .i64 m), (⟨b, o + k * 4 + 2, none⟩, .int .i64 u), (⟨b, o + k * 4 + 3, none⟩, .int .i64 g), (⟨b, o + (k - 1) * 4, none⟩, .string X')]) (by assumption) _ | exact AtF.ald (w := w) (l := [(⟨b, o + k * 4, none⟩, .string X), (⟨b, o + k * 4 + 1, none⟩, .int .i64 m), (⟨b, o + k * 4 + 2, none⟩, .int .i64 u), (⟨b, o + k * 4 + 3, none⟩, .int .i64 g), (⟨b, o + (k - 1) * 4, none⟩, .string X')]) (by assumption) _ | exact AtF.al (w := w) (l := [(⟨b, o + k * 4, none⟩, .string X), (⟨b, o + k * 4 + 1, none⟩, .int .i64 m), (⟨b, o + k * 4 + 2, none⟩, .int .i64 u), (⟨b, o + k * 4 + 3, none⟩, .int .i64 g), (⟨b, o + (k - 1) * 4, none⟩, .string X')]) hs _ | exact AtF.ald (w := w) (l := [(⟨b, o + k * 4, none⟩, .string X), (⟨b, o + k * 4 + 1, none⟩, .int .i64 m), (⟨b, o + k * 4 + 2, none⟩, .int .i64 u), (⟨b, o + k * 4 + 3, none⟩, .int .i64 g), (⟨b, o + (k - 1) * 4, none⟩, .string X')]) hs _)
          clear hK K
          try simp only [Act.put, List.setIfInBounds_toArray, List.set_cons_zero, List.set_cons_succ]
          refine heldY 5 18 ?_ _ rfl rfl (by kernel_rfl) (by kernel_rfl) (by kernel_rfl) (fun _ _ _ h => h) rfl (by assumption) ?_ ?_
          rotate_left
          · (intro w hSw; (try dsimp only at hSw); go_simp; (try with_reducible rfl))
          simp only [List.setIfInBounds_toArray, List.set_cons_zero, List.set_cons_succ]
          refine heldY 6 19 ?_ _ rfl rfl (by kernel_rfl) (by kernel_rfl) (by kernel_rfl) (fun _ _ _ h => h) rfl (by assumption) ?_ ?_
          rotate_left
          · (intro w hSw; (try dsimp only at hSw); go_simp; (try with_reducible rfl))
          simp only [List.setIfInBounds_toArray, List.set_cons_zero, List.set_cons_succ]
          refine heldY 7 20 ?_ _ rfl rfl (by kernel_rfl) (by kernel_rfl) (by kernel_rfl) (fun _ _ _ h => h) rfl (by assumption) ?_ ?_
          rotate_left
          · (intro w hSw; (try dsimp only at hSw); go_simp; (try with_reducible rfl))
          simp only [List.setIfInBounds_toArray, List.set_cons_zero, List.set_cons_succ]
          refine heldY 8 21 ?_ _ rfl rfl (by kernel_rfl) (by kernel_rfl) (by kernel_rfl) (fun _ _ _ h => h) rfl (by assumption) ?_ ?_
          rotate_left
          · (intro w hSw; (try dsimp only at hSw); go_simp; (try with_reducible rfl))
          simp only [List.setIfInBounds_toArray, List.set_cons_zero, List.set_cons_succ]
          refine heldY 9 22 ?_ _ rfl rfl (by kernel_rfl) (by kernel_rfl) (by kernel_rfl) (fun _ _ _ h => h) rfl (by assumption) ?_ ?_
          rotate_left
          · (intro w hSw; (try dsimp only at hSw); go_simp; (try with_reducible rfl))
          simp only [List.setIfInBounds_toArray, List.set_cons_zero, List.set_cons_succ]
          refine heldY 10 23 ?_ _ rfl rfl (by kernel_rfl) (by kernel_rfl) (by kernel_rfl) (fun _ _ _ h => h) rfl (by assumption) ?_ ?_
          rotate_left
          · (intro w hSw; (try dsimp only at hSw); go_simp; (try with_reducible rfl))
          simp only [List.setIfInBounds_toArray, List.set_cons_zero, List.set_cons_succ]
          refine heldY 11 24 ?_ _ rfl rfl (by kernel_rfl) (by kernel_rfl) (by kernel_rfl) (fun _ _ _ h => h) rfl (by assumption) ?_ ?_
          rotate_left
          · (intro w hSw; (try dsimp only at hSw); go_simp; (try with_reducible rfl))
          simp only [List.setIfInBounds_toArray, List.set_cons_zero, List.set_cons_succ]
          refine heldY 12 25 ?_ _ rfl rfl (by kernel_rfl) (by kernel_rfl) (by kernel_rfl) (fun _ _ _ h => h) rfl (by assumption) ?_ ?_
          rotate_left
          · (intro w hSw; (try dsimp only at hSw); go_simp; (try with_reducible rfl))
          simp only [List.setIfInBounds_toArray, List.set_cons_zero, List.set_cons_succ]
          refine heldY 13 26 ?_ _ rfl rfl (by kernel_rfl) (by kernel_rfl) (by kernel_rfl) (fun _ _ _ h => h) rfl (by assumption) ?_ ?_
          rotate_left
          · (intro w hSw; (try dsimp only at hSw); go_simp; (try with_reducible rfl))
          simp only [List.setIfInBounds_toArray, List.set_cons_zero, List.set_cons_succ]
          refine heldY 14 27 ?_ _ rfl rfl (by kernel_rfl) (by kernel_rfl) (by kernel_rfl) (fun _ _ _ h => h) rfl (by assumption) ?_ ?_
          rotate_left
          · (intro w hSw; (try dsimp only at hSw); go_simp; (try with_reducible rfl))
          simp only [List.setIfInBounds_toArray, List.set_cons_zero, List.set_cons_succ]
          refine heldY 15 28 ?_ _ rfl rfl (by kernel_rfl) (by kernel_rfl) (by kernel_rfl) (fun _ _ _ h => h) rfl (by assumption) ?_ ?_
          rotate_left
          · (intro w hSw; (try dsimp only at hSw); go_simp; (try with_reducible rfl))
          simp only [List.setIfInBounds_toArray, List.set_cons_zero, List.set_cons_succ]
          refine heldY 16 29 ?_ _ rfl rfl (by kernel_rfl) (by kernel_rfl) (by kernel_rfl) (fun _ _ _ h => h) rfl (by assumption) ?_ ?_
          rotate_left
          · (intro w hSw; (try dsimp only at hSw); go_simp; (try with_reducible rfl))
          simp only [List.setIfInBounds_toArray, List.set_cons_zero, List.set_cons_succ]
          refine heldY 17 30 ?_ _ rfl rfl (by kernel_rfl) (by kernel_rfl) (by kernel_rfl) (fun _ _ _ h => h) rfl (by assumption) ?_ ?_
          rotate_left
          · (intro w hSw; (try dsimp only at hSw); go_simp; (try with_reducible rfl))
          simp only [List.setIfInBounds_toArray, List.set_cons_zero, List.set_cons_succ]
          refine heldY 18 31 ?_ _ rfl rfl (by kernel_rfl) (by kernel_rfl) (by kernel_rfl) (fun _ _ _ h => h) rfl (by assumption) ?_ ?_
          rotate_left
          · (intro w hSw; (try dsimp only at hSw); go_simp; (try with_reducible rfl))
          simp only [List.setIfInBounds_toArray, List.set_cons_zero, List.set_cons_succ]
          refine heldY 19 32 ?_ _ rfl rfl (by kernel_rfl) (by kernel_rfl) (by kernel_rfl) (fun _ _ _ h => h) rfl (by assumption) ?_ ?_
          rotate_left
          · (intro w hSw; (try dsimp only at hSw); go_simp; (try with_reducible rfl))
          simp only [List.setIfInBounds_toArray, List.set_cons_zero, List.set_cons_succ]
          refine heldY 20 33 ?_ _ rfl rfl (by kernel_rfl) (by kernel_rfl) (by kernel_rfl) (fun _ _ _ h => h) rfl (by assumption) ?_ ?_
          rotate_left
          · (intro w hSw; (try dsimp only at hSw); go_simp; (try with_reducible rfl))
          simp only [List.setIfInBounds_toArray, List.set_cons_zero, List.set_cons_succ]
          refine heldY 21 34 ?_ _ rfl rfl (by kernel_rfl) (by kernel_rfl) (by kernel_rfl) (fun _ _ _ h => h) rfl (by assumption) ?_ ?_
          rotate_left
          · (intro w hSw; (try dsimp only at hSw); go_simp; (try with_reducible rfl))
          simp only [List.setIfInBounds_toArray, List.set_cons_zero, List.set_cons_succ]
          refine heldY 22 35 ?_ _ rfl rfl (by kernel_rfl) (by kernel_rfl) (by kernel_rfl) (fun _ _ _ h => h) rfl (by assumption) ?_ ?_
          rotate_left
          · (intro w hSw; (try dsimp only at hSw); go_simp; (try with_reducible rfl))
          simp only [List.setIfInBounds_toArray, List.set_cons_zero, List.set_cons_succ]
          refine heldY 23 36 ?_ _ rfl rfl (by kernel_rfl) (by kernel_rfl) (by kernel_rfl) (fun _ _ _ h => h) rfl (by assumption) ?_ ?_
          rotate_left
          · (intro w hSw; (try dsimp only at hSw); go_simp; (try with_reducible rfl))
          simp only [List.setIfInBounds_toArray, List.set_cons_zero, List.set_cons_succ]
          refine wpAnyH_done (by kernel_rfl) ?_ _
          have HW3 := Lib.hid (BE _ hHeld)
          clear hHeld i2 i3
          cases q
          · have HF := Lib.hid (HBADk.out rfl)
            clear HBADk HNEXT
            go_wp2
            go_ret
            exact ⟨reti HF.out, HW3.out⟩
          · have HK := Lib.hid (HNEXT.out rfl)
            clear HBADk HNEXT
            go_wp2
            go_roundw
            case rel => exact ⟨k + 1, by omega, by go_num, HK, HW3⟩
            case measure => simp [intOf]; omega
        · have HK : Hid (∀ (j : Nat) x, j < k + 1 → l[j]? = some x → stepO l j x) := Lib.hid (fun j x hj hu => by
            obtain rfl : j = k := by omega
            rw [HX.out] at hu; cases hu
            exact ⟨hq, fun _ h1 => absurd h1 hk0⟩)
          have hd : decide ((0 : Int) < (k : Int)) = false := decide_eq_false (by omega)
          clear hq H HBAD HOK HC HS HX
          generalize bsT t = X at *
          have hs := And.intro c0 (And.intro c1 (And.intro c2 (And.intro c3 hB)))
          go_wp2
          have BE := fun (V : World) (h : V.cell? ⟨b, o + k * 4, none⟩ = some (.string X) ∧ V.cell? ⟨b, o + k * 4 + 1, none⟩ = some (.int .i64 m) ∧ V.cell? ⟨b, o + k * 4 + 2, none⟩ = some (.int .i64 u) ∧ V.cell? ⟨b, o + k * 4 + 3, none⟩ = some (.int .i64 g) ∧ Below w.heap.size w V) => AtF.be (w := w) (l := [(⟨b, o + k * 4, none⟩, .string X), (⟨b, o + k * 4 + 1, none⟩, .int .i64 m), (⟨b, o + k * 4 + 2, none⟩, .int .i64 u), (⟨b, o + k * 4 + 3, none⟩, .int .i64 g)]) h
          refine wp_region_held_drew (S := (fun V => V.cell? ⟨b, o + k * 4, none⟩ = some (.string X) ∧ V.cell? ⟨b, o + k * 4 + 1, none⟩ = some (.int .i64 m) ∧ V.cell? ⟨b, o + k * 4 + 2, none⟩ = some (.int .i64 u) ∧ V.cell? ⟨b, o + k * 4 + 3, none⟩ = some (.int .i64 g) ∧ Below w.heap.size w V)) (by kernel_rfl) ?_ (fun hHeld => ?_)
          · (try dsimp only); (first | assumption | exact hs | exact AtF.dr (w := w) (l := [(⟨b, o + k * 4, none⟩, .string X), (⟨b, o + k * 4 + 1, none⟩, .int .i64 m), (⟨b, o + k * 4 + 2, none⟩, .int .i64 u), (⟨b, o + k * 4 + 3, none⟩, .int .i64 g)]) hs | exact AtF.dr (w := w) (l := [(⟨b, o + k * 4, none⟩, .string X), (⟨b, o + k * 4 + 1, none⟩, .int .i64 m), (⟨b, o + k * 4 + 2, none⟩, .int .i64 u), (⟨b, o + k * 4 + 3, none⟩, .int .i64 g)]) (by assumption) | exact AtF.on (w := w) (l := [(⟨b, o + k * 4, none⟩, .string X), (⟨b, o + k * 4 + 1, none⟩, .int .i64 m), (⟨b, o + k * 4 + 2, none⟩, .int .i64 u), (⟨b, o + k * 4 + 3, none⟩, .int .i64 g)]) (by assumption) (by assumption) | exact AtF.al (w := w) (l := [(⟨b, o + k * 4, none⟩, .string X), (⟨b, o + k * 4 + 1, none⟩, .int .i64 m), (⟨b, o + k * 4 + 2, none⟩, .int .i64 u), (⟨b, o + k * 4 + 3, none⟩, .int .i64 g)]) (by assumption) _ | exact AtF.ald (w := w) (l := [(⟨b, o + k * 4, none⟩, .string X), (⟨b, o + k * 4 + 1, none⟩, .int .i64 m), (⟨b, o + k * 4 + 2, none⟩, .int .i64 u), (⟨b, o + k * 4 + 3, none⟩, .int .i64 g)]) (by assumption) _ | exact AtF.al (w := w) (l := [(⟨b, o + k * 4, none⟩, .string X), (⟨b, o + k * 4 + 1, none⟩, .int .i64 m), (⟨b, o + k * 4 + 2, none⟩, .int .i64 u), (⟨b, o + k * 4 + 3, none⟩, .int .i64 g)]) hs _ | exact AtF.ald (w := w) (l := [(⟨b, o + k * 4, none⟩, .string X), (⟨b, o + k * 4 + 1, none⟩, .int .i64 m), (⟨b, o + k * 4 + 2, none⟩, .int .i64 u), (⟨b, o + k * 4 + 3, none⟩, .int .i64 g)]) hs _)
          refine heldY 0 13 ?_ _ rfl rfl (by kernel_rfl) (by kernel_rfl) (by kernel_rfl) (fun _ _ _ h => h) rfl (by assumption) ?_ ?_
          rotate_left
          · (intro w hSw; (try dsimp only at hSw); go_simp; (try with_reducible rfl))
          simp only [List.setIfInBounds_toArray, List.set_cons_zero, List.set_cons_succ]
          refine heldY 1 14 ?_ _ rfl rfl (by kernel_rfl) (by kernel_rfl) (by kernel_rfl) (fun _ _ _ h => h) rfl (by assumption) ?_ ?_
          rotate_left
          · (intro w hSw; (try dsimp only at hSw); go_simp; (try with_reducible rfl))
          simp only [List.setIfInBounds_toArray, List.set_cons_zero, List.set_cons_succ]
          refine heldY 2 15 ?_ _ rfl rfl (by kernel_rfl) (by kernel_rfl) (by kernel_rfl) (fun _ _ _ h => h) rfl (by assumption) ?_ ?_
          rotate_left
          · (intro w hSw; (try dsimp only at hSw); go_simp; (try with_reducible rfl))
          simp only [List.setIfInBounds_toArray, List.set_cons_zero, List.set_cons_succ]
          refine heldY 3 16 ?_ _ rfl rfl (by kernel_rfl) (by kernel_rfl) (by kernel_rfl) (fun _ _ _ h => h) rfl (by assumption) ?_ ?_
          rotate_left
          · (intro w hSw; (try dsimp only at hSw); go_simp; (try with_reducible rfl))
          simp only [List.setIfInBounds_toArray, List.set_cons_zero, List.set_cons_succ]
          refine wpAnyH_ready (rs := [4]) (by kernel_rfl) (by simp) ?_
          refine AllReadyH.cons rfl (fun K hK => ?_) AllReadyH.nil
          go_simp
          go_at_call 23; (with_reducible refine (RA _).mono ?_); rintro e w3 ⟨rfl, hb⟩
          refine hK.out _ _ ?_ (fun hHeld => ?_)
          · (try dsimp only); (first | assumption | exact hs | exact AtF.dr (w := w) (l := [(⟨b, o + k * 4, none⟩, .string X), (⟨b, o + k * 4 + 1, none⟩, .int .i64 m), (⟨b, o + k * 4 + 2, none⟩, .int .i64 u), (⟨b, o + k * 4 + 3, none⟩, .int .i64 g)]) hs | exact AtF.dr (w := w) (l := [(⟨b, o + k * 4, none⟩, .string X), (⟨b, o + k * 4 + 1, none⟩, .int .i64 m), (⟨b, o + k * 4 + 2, none⟩, .int .i64 u), (⟨b, o + k * 4 + 3, none⟩, .int .i64 g)]) (by assumption) | exact AtF.on (w := w) (l := [(⟨b, o + k * 4, none⟩, .string X), (⟨b, o + k * 4 + 1, none⟩, .int .i64 m), (⟨b, o + k * 4 + 2, none⟩, .int .i64 u), (⟨b, o + k * 4 + 3, none⟩, .int .i64 g)]) (by assumption) (by assumption) | exact AtF.al (w := w) (l := [(⟨b, o + k * 4, none⟩, .string X), (⟨b, o + k * 4 + 1, none⟩, .int .i64 m), (⟨b, o + k * 4 + 2, none⟩, .int .i64 u), (⟨b, o + k * 4 + 3, none⟩, .int .i64 g)]) (by assumption) _ | exact AtF.ald (w := w) (l := [(⟨b, o + k * 4, none⟩, .string X), (⟨b, o + k * 4 + 1, none⟩, .int .i64 m), (⟨b, o + k * 4 + 2, none⟩, .int .i64 u), (⟨b, o + k * 4 + 3, none⟩, .int .i64 g)]) (by assumption) _ | exact AtF.al (w := w) (l := [(⟨b, o + k * 4, none⟩, .string X), (⟨b, o + k * 4 + 1, none⟩, .int .i64 m), (⟨b, o + k * 4 + 2, none⟩, .int .i64 u), (⟨b, o + k * 4 + 3, none⟩, .int .i64 g)]) hs _ | exact AtF.ald (w := w) (l := [(⟨b, o + k * 4, none⟩, .string X), (⟨b, o + k * 4 + 1, none⟩, .int .i64 m), (⟨b, o + k * 4 + 2, none⟩, .int .i64 u), (⟨b, o + k * 4 + 3, none⟩, .int .i64 g)]) hs _)
          clear hK K
          try simp only [Act.put, List.setIfInBounds_toArray, List.set_cons_zero, List.set_cons_succ]
          refine heldY 5 18 ?_ _ rfl rfl (by kernel_rfl) (by kernel_rfl) (by kernel_rfl) (fun _ _ _ h => h) rfl (by assumption) ?_ ?_
          rotate_left
          · (intro w hSw; (try dsimp only at hSw); go_simp; (try with_reducible rfl))
          simp only [List.setIfInBounds_toArray, List.set_cons_zero, List.set_cons_succ]
          refine heldY 6 19 ?_ _ rfl rfl (by kernel_rfl) (by kernel_rfl) (by kernel_rfl) (fun _ _ _ h => h) rfl (by assumption) ?_ ?_
          rotate_left
          · (intro w hSw; (try dsimp only at hSw); go_simp; (try with_reducible rfl))
          simp only [List.setIfInBounds_toArray, List.set_cons_zero, List.set_cons_succ]
          refine heldY 7 20 ?_ _ rfl rfl (by kernel_rfl) (by kernel_rfl) (by kernel_rfl) (fun _ _ _ h => h) rfl (by assumption) ?_ ?_
          rotate_left
          · (intro w hSw; (try dsimp only at hSw); go_simp; (try with_reducible rfl))
          simp only [List.setIfInBounds_toArray, List.set_cons_zero, List.set_cons_succ]
          refine heldY 8 21 ?_ _ rfl rfl (by kernel_rfl) (by kernel_rfl) (by kernel_rfl) (fun _ _ _ h => h) rfl (by assumption) ?_ ?_
          rotate_left
          · (intro w hSw; (try dsimp only at hSw); go_simp; (try with_reducible rfl))
          simp only [List.setIfInBounds_toArray, List.set_cons_zero, List.set_cons_succ]
          refine heldY 9 22 ?_ _ rfl rfl (by kernel_rfl) (by kernel_rfl) (by kernel_rfl) (fun _ _ _ h => h) rfl (by assumption) ?_ ?_
          rotate_left
          · (intro w hSw; (try dsimp only at hSw); go_simp; (try with_reducible rfl))
          simp only [List.setIfInBounds_toArray, List.set_cons_zero, List.set_cons_succ]
          refine heldNo 10 23 rfl (by kernel_rfl) (by kernel_rfl) (by kernel_rfl) (fun _ _ _ h => h) rfl (by assumption) ?_
          simp only [List.setIfInBounds_toArray, List.set_cons_zero, List.set_cons_succ]
          refine heldNo 11 24 rfl (by kernel_rfl) (by kernel_rfl) (by kernel_rfl) (fun _ _ _ h => h) rfl (by assumption) ?_
          simp only [List.setIfInBounds_toArray, List.set_cons_zero, List.set_cons_succ]
          refine heldNo 12 25 rfl (by kernel_rfl) (by kernel_rfl) (by kernel_rfl) (fun _ _ _ h => h) rfl (by assumption) ?_
          simp only [List.setIfInBounds_toArray, List.set_cons_zero, List.set_cons_succ]
          refine heldNo 13 26 rfl (by kernel_rfl) (by kernel_rfl) (by kernel_rfl) (fun _ _ _ h => h) rfl (by assumption) ?_
          simp only [List.setIfInBounds_toArray, List.set_cons_zero, List.set_cons_succ]
          refine heldNo 14 27 rfl (by kernel_rfl) (by kernel_rfl) (by kernel_rfl) (fun _ _ _ h => h) rfl (by assumption) ?_
          simp only [List.setIfInBounds_toArray, List.set_cons_zero, List.set_cons_succ]
          refine heldNo 15 28 rfl (by kernel_rfl) (by kernel_rfl) (by kernel_rfl) (fun _ _ _ h => h) rfl (by assumption) ?_
          simp only [List.setIfInBounds_toArray, List.set_cons_zero, List.set_cons_succ]
          refine heldNo 16 29 rfl (by kernel_rfl) (by kernel_rfl) (by kernel_rfl) (fun _ _ _ h => h) rfl (by assumption) ?_
          simp only [List.setIfInBounds_toArray, List.set_cons_zero, List.set_cons_succ]
          refine heldNo 17 30 rfl (by kernel_rfl) (by kernel_rfl) (by kernel_rfl) (fun _ _ _ h => h) rfl (by assumption) ?_
          simp only [List.setIfInBounds_toArray, List.set_cons_zero, List.set_cons_succ]
          refine heldNo 18 31 rfl (by kernel_rfl) (by kernel_rfl) (by kernel_rfl) (fun _ _ _ h => h) rfl (by assumption) ?_
          simp only [List.setIfInBounds_toArray, List.set_cons_zero, List.set_cons_succ]
          refine heldNo 19 32 rfl (by kernel_rfl) (by kernel_rfl) (by kernel_rfl) (fun _ _ _ h => h) rfl (by assumption) ?_
          simp only [List.setIfInBounds_toArray, List.set_cons_zero, List.set_cons_succ]
          refine heldNo 20 33 rfl (by kernel_rfl) (by kernel_rfl) (by kernel_rfl) (fun _ _ _ h => h) rfl (by assumption) ?_
          simp only [List.setIfInBounds_toArray, List.set_cons_zero, List.set_cons_succ]
          refine heldNo 21 34 rfl (by kernel_rfl) (by kernel_rfl) (by kernel_rfl) (fun _ _ _ h => h) rfl (by assumption) ?_
          simp only [List.setIfInBounds_toArray, List.set_cons_zero, List.set_cons_succ]
          refine heldY 22 35 ?_ _ rfl rfl (by kernel_rfl) (by kernel_rfl) (by kernel_rfl) (fun _ _ _ h => h) rfl (by assumption) ?_ ?_
          rotate_left
          · (intro w hSw; (try dsimp only at hSw); go_simp; (try with_reducible rfl))
          simp only [List.setIfInBounds_toArray, List.set_cons_zero, List.set_cons_succ]
          refine heldY 23 36 ?_ _ rfl rfl (by kernel_rfl) (by kernel_rfl) (by kernel_rfl) (fun _ _ _ h => h) rfl (by assumption) ?_ ?_
          rotate_left
          · (intro w hSw; (try dsimp only at hSw); go_simp; (try with_reducible rfl))
          simp only [List.setIfInBounds_toArray, List.set_cons_zero, List.set_cons_succ]
          refine wpAnyH_done (by kernel_rfl) ?_ _
          have HW3 := Lib.hid (BE _ hHeld)
          clear hHeld
          go_wp2
          go_roundw
          case rel => exact ⟨k + 1, by omega, by go_num, HK, HW3⟩
          case measure => simp [intOf]; omega
    · obtain rfl : k = n := by omega
      have HF := Lib.hid (HOK.out (fun i x hx => H.out i x (by have := (List.getElem?_eq_some_iff.1 hx).1; rw [HN.out] at this; exact this) hx))
      clear hlt H HBAD HOK
      go_wp2
      go_ret
      exact ⟨reti HF.out, HB.out⟩
end Go.Proofs.YtmjfbpiodamamaaGreatDoor
