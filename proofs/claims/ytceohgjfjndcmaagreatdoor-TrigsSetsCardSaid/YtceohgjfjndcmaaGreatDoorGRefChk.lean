/-
  The reference's less, and its Check of interests: what each returns; nothing old turns. The reference's Check of interests: what it returns; nothing old turns.
-/
import Derived.Test.YtceohgjfjndcmaaGreatDoorGSmall
namespace Go.Proofs.YtceohgjfjndcmaaGreatDoor
open Go.RowKit
def SmallJ (l : List It) : Prop := ∀ x ∈ l, x.1.length ≤ 4000 ∧ x.2.1.length ≤ 4000
open Classical in
noncomputable def lessB (x y : It) : Bool := decide (lessI x y)
open Classical in
theorem lessB_yes {x y : It} (h : lessI x y) : lessB x y = true := by unfold lessB; exact decide_eq_true h
open Classical in
theorem lessB_no {x y : It} (h : ¬ lessI x y) : lessB x y = false := by unfold lessB; exact decide_eq_false h
set_option maxRecDepth 100000 in
set_option maxHeartbeats 4000000 in
theorem less_ref (x y : It) (w : World) : Calls Tryz.prog 39 #[aggI x, aggI y] w fun e w' => e = .returned (.bool (lessB x y)) ∧ Below w.heap.size w w' := by
  have h1 := lessT (bsT x.1) (bsT y.1)
  have h2 := eqT (bsT x.1) (bsT y.1)
  have h3 := lessT (bsT x.2.1) (bsT y.2.1)
  rw [bytesOf, bytesOf] at h1 h2 h3
  have HR : Hid (lessB x y = (decide (x.1 < y.1) || (decide (x.1 = y.1) && decide (x.2.1 < y.2.1)))) := Lib.hid (by
    unfold lessB lessI
    rw [Bool.eq_iff_iff]; simp)
  have B0 := ((Below.refl w.heap.size w).alloc (Nat.le_refl _) (.cells #[.string (bsT x.1), .string (bsT x.2.1), .bool x.2.2] 53)).alloc (by simp) (.cells #[.string (bsT y.1), .string (bsT y.2.1), .bool y.2.2] 53)
  rw [HR.out]
  unfold aggI
  generalize decide (x.1 < y.1) = p1 at *
  generalize decide (x.1 = y.1) = p2 at *
  generalize decide (x.2.1 < y.2.1) = p3 at *
  generalize bsT x.1 = X at *
  generalize bsT x.2.1 = Y at *
  generalize x.2.2 = z at *
  generalize bsT y.1 = X' at *
  generalize bsT y.2.1 = Y' at *
  generalize y.2.2 = z' at *
  obtain ⟨x0, x1, x2⟩ := boxV3 w (.string X) (.string Y) (.bool z) 53
  obtain ⟨y0, y1, y2⟩ := boxV3 (w.alloc (.cells #[.string X, .string Y, .bool z] 53)) (.string X') (.string Y') (.bool z') 53
  rw [World.size_alloc] at y0 y1 y2
  have hA := (Below.refl (w.alloc (.cells #[.string X, .string Y, .bool z] 53)).heap.size (w.alloc (.cells #[.string X, .string Y, .bool z] 53))).alloc (Nat.le_refl _) (.cells #[.string X', .string Y', .bool z'] 53)
  have l0 := World.block_lt_of_cell? _ _ x0
  have x0 := (hA.cell (p := ⟨w.heap.size, 0, none⟩) l0).trans x0
  have x1 := (hA.cell (p := ⟨w.heap.size, 1, none⟩) l0).trans x1
  have HB := Lib.hid B0
  clear hA l0 x2 y2 B0 HR
  cases p1 <;> cases p2
  all_goals
    go_enter Tryz.func39, Tryz.ntmps39
    go_wp2
    go_ret
    exact ⟨retb (by simp), HB.out⟩
end Go.Proofs.YtceohgjfjndcmaaGreatDoor
namespace Go.Proofs.YtceohgjfjndcmaaGreatDoor
open Go.RowKit
set_option maxRecDepth 100000 in
set_option maxHeartbeats 8000000 in
theorem checkI_ref (v : Value) (l : List It) (hl : l.length ≤ 90000) (hs : SmallJ l) (w : World) (h : HoldI w v l) :
    Calls Tryz.prog 12 #[v] w fun e w' => e = .returned (.int .i64 (chkI l)) ∧ Below w.heap.size w w' := by
  obtain ⟨a, c, b, o, rfl, hc, ha, hcell⟩ := h.parts
  have HC := Lib.hid hcell
  have HS := Lib.hid hs
  obtain ⟨Z, HZ⟩ : ∃ Z, Hid (chkI l = Z) := ⟨_, rfl⟩
  rw [HZ.out]
  obtain ⟨n, hN⟩ : ∃ n, l.length = n := ⟨_, rfl⟩
  rw [hN] at hc ha hl ⊢
  have HN := Lib.hid hN
  clear hcell hs hN h
  by_cases h64 : 64 < n
  · have HF : Hid ((22 : Int) = Z) := Lib.hid (by rw [← HZ.out, chkI_long (by rw [HN.out]; exact h64)])
    go_enter Tryz.func12, Tryz.ntmps12
    go_wp2
    go_ret
    exact ⟨reti HF.out, Below.refl _ _⟩
  have HBAD : Hid (∀ (i : Nat) x, l[i]? = some x → ¬ stepI l i x → (1 : Int) = Z) := Lib.hid (fun i x hx g => by rw [← HZ.out, chkI_no (by rw [HN.out]; exact h64) (fun q => g (q i x hx))])
  have HOK : Hid (StepsI l → (0 : Int) = Z) := Lib.hid (fun g => by rw [← HZ.out, chkI_ok (by rw [HN.out]; exact h64) g])
  clear HZ
  go_enter Tryz.func12, Tryz.ntmps12
  go_wp2
  go_loopw [3] (fun i wr => ∃ k : Nat, k ≤ n ∧ i = .int .i64 k ∧ Hid (∀ (j : Nat) x, j < k → l[j]? = some x → stepI l j x) ∧ Hid (Below w.heap.size w wr)) (fun i _ => n - (intOf i).toNat)
  case atStart => exact ⟨0, by omega, rfl, Lib.hid (fun j y hj => by omega), Lib.hid (Below.refl _ _)⟩
  case round =>
    obtain ⟨k, hk, rfl, H, HB⟩ := hrel
    by_cases hlt : k < n
    · obtain ⟨rfl, hbw⟩ := ha (by omega)
      obtain ⟨x, hx⟩ : ∃ x, l[k]? = some x := ⟨_, List.getElem?_eq_getElem (by rw [HN.out]; exact hlt)⟩
      obtain ⟨c0, c1, c2⟩ := HC.out k x hx
      rw [← HB.out.cell (p := ⟨b, o + k * 3, none⟩) hbw] at c0
      rw [← HB.out.cell (p := ⟨b, o + k * 3 + 1, none⟩) hbw] at c1
      rw [← HB.out.cell (p := ⟨b, o + k * 3 + 2, none⟩) hbw] at c2
      have hpm := List.mem_of_getElem? hx
      have TR := fun W => trig_ref (bsT x.1) (by rw [sizeOf, bytesOf]; exact (HS.out x hpm).1) W
      have NM := fun W => name_ref (bsT x.2.1) (by rw [sizeOf, bytesOf]; exact (HS.out x hpm).2) W
      rw [bytesOf] at TR NM
      have HX := Lib.hid hx
      have hsz := HB.out.size
      have hB := HB.out
      have j0 : (0 : Int) ≤ (k : Int) := by omega
      have j1 : (k : Int) < (n : Int) := by omega
      have HR : Hid (rightI x = (trigB x.1 && nameB x.2.1)) := Lib.hid rfl
      clear hx hpm
      cases ht : trigB x.1
      · have HF := Lib.hid (HBAD.out k x HX.out (fun g => by have := g.1; rw [HR.out, ht] at this; cases this))
        simp only [ht] at TR
        clear ht H HBAD HOK HC HS HX HR c2 NM
        generalize bsT x.1 = X at *
        generalize bsT x.2.1 = Y at *
        have hs := And.intro c0 hB
        go_wp2
        have BE := fun (V : World) (h : V.cell? ⟨b, o + k * 3, none⟩ = some (.string X) ∧ Below w.heap.size w V) => AtF.be (w := w) (l := [(⟨b, o + k * 3, none⟩, .string X)]) h
        refine wp_region_held_drew (S := (fun V => V.cell? ⟨b, o + k * 3, none⟩ = some (.string X) ∧ Below w.heap.size w V)) (by kernel_rfl) ?_ (fun hHeld => ?_)
        · (try dsimp only); (first | assumption | exact hs | exact AtF.dr (w := w) (l := [(⟨b, o + k * 3, none⟩, .string X)]) hs | exact AtF.dr (w := w) (l := [(⟨b, o + k * 3, none⟩, .string X)]) (by assumption) | exact AtF.on (w := w) (l := [(⟨b, o + k * 3, none⟩, .string X)]) (by assumption) (by assumption) | exact AtF.al (w := w) (l := [(⟨b, o + k * 3, none⟩, .string X)]) (by assumption) _ | exact AtF.ald (w := w) (l := [(⟨b, o + k * 3, none⟩, .string X)]) (by assumption) _ | exact AtF.al (w := w) (l := [(⟨b, o + k * 3, none⟩, .string X)]) hs _ | exact AtF.ald (w := w) (l := [(⟨b, o + k * 3, none⟩, .string X)]) hs _)
        refine heldY 0 13 ?_ _ rfl rfl (by kernel_rfl) (by kernel_rfl) (by kernel_rfl) (fun _ _ _ h => h) rfl (by assumption) ?_ ?_
        rotate_left
        · (intro w hSw; (try dsimp only at hSw); go_simp; (try with_reducible rfl))
        simp only [List.setIfInBounds_toArray, List.set_cons_zero, List.set_cons_succ]
        refine heldY 1 14 ?_ _ rfl rfl (by kernel_rfl) (by kernel_rfl) (by kernel_rfl) (fun _ _ _ h => h) rfl (by assumption) ?_ ?_
        rotate_left
        · (intro w hSw; (try dsimp only at hSw); go_simp; (try with_reducible rfl))
        simp only [List.setIfInBounds_toArray, List.set_cons_zero, List.set_cons_succ]
        refine heldY 2 15 ?_ _ rfl rfl (by kernel_rfl) (by kernel_rfl) (by kernel_rfl) (fun _ _ _ h => h) rfl (by assumption) ?_ ?_
        rotate_left
        · (intro w hSw; (try dsimp only at hSw); go_simp; (try with_reducible rfl))
        simp only [List.setIfInBounds_toArray, List.set_cons_zero, List.set_cons_succ]
        refine heldY 3 16 ?_ _ rfl rfl (by kernel_rfl) (by kernel_rfl) (by kernel_rfl) (fun _ _ _ h => h) rfl (by assumption) ?_ ?_
        rotate_left
        · (intro w hSw; (try dsimp only at hSw); go_simp; (try with_reducible rfl))
        simp only [List.setIfInBounds_toArray, List.set_cons_zero, List.set_cons_succ]
        refine heldY 4 17 ?_ _ rfl rfl (by kernel_rfl) (by kernel_rfl) (by kernel_rfl) (fun _ _ _ h => h) rfl (by assumption) ?_ ?_
        rotate_left
        · (intro w hSw; (try dsimp only at hSw); go_simp; (try with_reducible rfl))
        simp only [List.setIfInBounds_toArray, List.set_cons_zero, List.set_cons_succ]
        refine wpAnyH_ready (rs := [5]) (by kernel_rfl) (by simp) ?_
        refine AllReadyH.cons rfl (fun K hK => ?_) AllReadyH.nil
        go_simp
        go_at_call 37; refine (TR _).mono ?_; rintro e w3 ⟨rfl, hb⟩
        refine hK.out _ _ ?_ (fun hHeld => ?_)
        · (try dsimp only); (first | assumption | exact hs | exact AtF.dr (w := w) (l := [(⟨b, o + k * 3, none⟩, .string X)]) hs | exact AtF.dr (w := w) (l := [(⟨b, o + k * 3, none⟩, .string X)]) (by assumption) | exact AtF.on (w := w) (l := [(⟨b, o + k * 3, none⟩, .string X)]) (by assumption) (by assumption) | exact AtF.al (w := w) (l := [(⟨b, o + k * 3, none⟩, .string X)]) (by assumption) _ | exact AtF.ald (w := w) (l := [(⟨b, o + k * 3, none⟩, .string X)]) (by assumption) _ | exact AtF.al (w := w) (l := [(⟨b, o + k * 3, none⟩, .string X)]) hs _ | exact AtF.ald (w := w) (l := [(⟨b, o + k * 3, none⟩, .string X)]) hs _)
        clear hK K
        try simp only [Act.put, List.setIfInBounds_toArray, List.set_cons_zero, List.set_cons_succ]
        refine heldY 6 19 ?_ _ rfl rfl (by kernel_rfl) (by kernel_rfl) (by kernel_rfl) (fun _ _ _ h => h) rfl (by assumption) ?_ ?_
        rotate_left
        · (intro w hSw; (try dsimp only at hSw); go_simp; (try with_reducible rfl))
        simp only [List.setIfInBounds_toArray, List.set_cons_zero, List.set_cons_succ]
        refine heldY 7 20 ?_ _ rfl rfl (by kernel_rfl) (by kernel_rfl) (by kernel_rfl) (fun _ _ _ h => h) rfl (by assumption) ?_ ?_
        rotate_left
        · (intro w hSw; (try dsimp only at hSw); go_simp; (try with_reducible rfl))
        simp only [List.setIfInBounds_toArray, List.set_cons_zero, List.set_cons_succ]
        refine heldNo 8 21 rfl (by kernel_rfl) (by kernel_rfl) (by kernel_rfl) (fun _ _ _ h => h) rfl (by assumption) ?_
        simp only [List.setIfInBounds_toArray, List.set_cons_zero, List.set_cons_succ]
        refine heldNo 9 22 rfl (by kernel_rfl) (by kernel_rfl) (by kernel_rfl) (fun _ _ _ h => h) rfl (by assumption) ?_
        simp only [List.setIfInBounds_toArray, List.set_cons_zero, List.set_cons_succ]
        refine heldNo 10 23 rfl (by kernel_rfl) (by kernel_rfl) (by kernel_rfl) (fun _ _ _ h => h) rfl (by assumption) ?_
        simp only [List.setIfInBounds_toArray, List.set_cons_zero, List.set_cons_succ]
        refine heldNo 11 24 rfl (by kernel_rfl) (by kernel_rfl) (by kernel_rfl) (fun _ _ _ h => h) rfl (by assumption) ?_
        simp only [List.setIfInBounds_toArray, List.set_cons_zero, List.set_cons_succ]
        refine heldNo 12 25 rfl (by kernel_rfl) (by kernel_rfl) (by kernel_rfl) (fun _ _ _ h => h) rfl (by assumption) ?_
        simp only [List.setIfInBounds_toArray, List.set_cons_zero, List.set_cons_succ]
        refine heldNo 13 26 rfl (by kernel_rfl) (by kernel_rfl) (by kernel_rfl) (fun _ _ _ h => h) rfl (by assumption) ?_
        simp only [List.setIfInBounds_toArray, List.set_cons_zero, List.set_cons_succ]
        refine heldNo 14 27 rfl (by kernel_rfl) (by kernel_rfl) (by kernel_rfl) (fun _ _ _ h => h) rfl (by assumption) ?_
        simp only [List.setIfInBounds_toArray, List.set_cons_zero, List.set_cons_succ]
        refine heldY 15 28 ?_ _ rfl rfl (by kernel_rfl) (by kernel_rfl) (by kernel_rfl) (fun _ _ _ h => h) rfl (by assumption) ?_ ?_
        rotate_left
        · (intro w hSw; (try dsimp only at hSw); go_simp; (try with_reducible rfl))
        simp only [List.setIfInBounds_toArray, List.set_cons_zero, List.set_cons_succ]
        refine heldY 16 29 ?_ _ rfl rfl (by kernel_rfl) (by kernel_rfl) (by kernel_rfl) (fun _ _ _ h => h) rfl (by assumption) ?_ ?_
        rotate_left
        · (intro w hSw; (try dsimp only at hSw); go_simp; (try with_reducible rfl))
        simp only [List.setIfInBounds_toArray, List.set_cons_zero, List.set_cons_succ]
        refine heldNo 17 30 rfl (by kernel_rfl) (by kernel_rfl) (by kernel_rfl) (fun _ _ _ h => h) rfl (by assumption) ?_
        simp only [List.setIfInBounds_toArray, List.set_cons_zero, List.set_cons_succ]
        refine heldNo 18 31 rfl (by kernel_rfl) (by kernel_rfl) (by kernel_rfl) (fun _ _ _ h => h) rfl (by assumption) ?_
        simp only [List.setIfInBounds_toArray, List.set_cons_zero, List.set_cons_succ]
        refine heldNo 19 32 rfl (by kernel_rfl) (by kernel_rfl) (by kernel_rfl) (fun _ _ _ h => h) rfl (by assumption) ?_
        simp only [List.setIfInBounds_toArray, List.set_cons_zero, List.set_cons_succ]
        refine heldNo 20 33 rfl (by kernel_rfl) (by kernel_rfl) (by kernel_rfl) (fun _ _ _ h => h) rfl (by assumption) ?_
        simp only [List.setIfInBounds_toArray, List.set_cons_zero, List.set_cons_succ]
        refine heldNo 21 34 rfl (by kernel_rfl) (by kernel_rfl) (by kernel_rfl) (fun _ _ _ h => h) rfl (by assumption) ?_
        simp only [List.setIfInBounds_toArray, List.set_cons_zero, List.set_cons_succ]
        refine heldNo 22 35 rfl (by kernel_rfl) (by kernel_rfl) (by kernel_rfl) (fun _ _ _ h => h) rfl (by assumption) ?_
        simp only [List.setIfInBounds_toArray, List.set_cons_zero, List.set_cons_succ]
        refine heldNo 23 36 rfl (by kernel_rfl) (by kernel_rfl) (by kernel_rfl) (fun _ _ _ h => h) rfl (by assumption) ?_
        simp only [List.setIfInBounds_toArray, List.set_cons_zero, List.set_cons_succ]
        refine heldNo 24 37 rfl (by kernel_rfl) (by kernel_rfl) (by kernel_rfl) (fun _ _ _ h => h) rfl (by assumption) ?_
        simp only [List.setIfInBounds_toArray, List.set_cons_zero, List.set_cons_succ]
        refine heldNo 25 38 rfl (by kernel_rfl) (by kernel_rfl) (by kernel_rfl) (fun _ _ _ h => h) rfl (by assumption) ?_
        simp only [List.setIfInBounds_toArray, List.set_cons_zero, List.set_cons_succ]
        refine heldNo 26 39 rfl (by kernel_rfl) (by kernel_rfl) (by kernel_rfl) (fun _ _ _ h => h) rfl (by assumption) ?_
        simp only [List.setIfInBounds_toArray, List.set_cons_zero, List.set_cons_succ]
        refine heldNo 27 40 rfl (by kernel_rfl) (by kernel_rfl) (by kernel_rfl) (fun _ _ _ h => h) rfl (by assumption) ?_
        simp only [List.setIfInBounds_toArray, List.set_cons_zero, List.set_cons_succ]
        refine heldNo 28 41 rfl (by kernel_rfl) (by kernel_rfl) (by kernel_rfl) (fun _ _ _ h => h) rfl (by assumption) ?_
        simp only [List.setIfInBounds_toArray, List.set_cons_zero, List.set_cons_succ]
        refine heldNo 29 42 rfl (by kernel_rfl) (by kernel_rfl) (by kernel_rfl) (fun _ _ _ h => h) rfl (by assumption) ?_
        simp only [List.setIfInBounds_toArray, List.set_cons_zero, List.set_cons_succ]
        refine heldNo 30 43 rfl (by kernel_rfl) (by kernel_rfl) (by kernel_rfl) (fun _ _ _ h => h) rfl (by assumption) ?_
        simp only [List.setIfInBounds_toArray, List.set_cons_zero, List.set_cons_succ]
        refine heldNo 31 44 rfl (by kernel_rfl) (by kernel_rfl) (by kernel_rfl) (fun _ _ _ h => h) rfl (by assumption) ?_
        simp only [List.setIfInBounds_toArray, List.set_cons_zero, List.set_cons_succ]
        refine heldY 32 45 ?_ _ rfl rfl (by kernel_rfl) (by kernel_rfl) (by kernel_rfl) (fun _ _ _ h => h) rfl (by assumption) ?_ ?_
        rotate_left
        · (intro w hSw; (try dsimp only at hSw); go_simp; (try with_reducible rfl))
        simp only [List.setIfInBounds_toArray, List.set_cons_zero, List.set_cons_succ]
        refine wpAnyH_done (by kernel_rfl) ?_ _
        have HW3 := Lib.hid (BE _ hHeld)
        clear hHeld
        go_wp2
        go_ret
        exact ⟨reti HF.out, HW3.out⟩
      · simp only [ht] at TR
        cases hn : nameB x.2.1
        · have HF := Lib.hid (HBAD.out k x HX.out (fun g => by have := g.1; rw [HR.out, ht, hn] at this; cases this))
          simp only [hn] at NM
          clear ht hn H HBAD HOK HC HS HX HR c2
          generalize bsT x.1 = X at *
          generalize bsT x.2.1 = Y at *
          have hs := And.intro c0 (And.intro c1 hB)
          go_wp2
          have BE := fun (V : World) (h : V.cell? ⟨b, o + k * 3, none⟩ = some (.string X) ∧ V.cell? ⟨b, o + k * 3 + 1, none⟩ = some (.string Y) ∧ Below w.heap.size w V) => AtF.be (w := w) (l := [(⟨b, o + k * 3, none⟩, .string X), (⟨b, o + k * 3 + 1, none⟩, .string Y)]) h
          refine wp_region_held_drew (S := (fun V => V.cell? ⟨b, o + k * 3, none⟩ = some (.string X) ∧ V.cell? ⟨b, o + k * 3 + 1, none⟩ = some (.string Y) ∧ Below w.heap.size w V)) (by kernel_rfl) ?_ (fun hHeld => ?_)
          · (try dsimp only); (first | assumption | exact hs | exact AtF.dr (w := w) (l := [(⟨b, o + k * 3, none⟩, .string X), (⟨b, o + k * 3 + 1, none⟩, .string Y)]) hs | exact AtF.dr (w := w) (l := [(⟨b, o + k * 3, none⟩, .string X), (⟨b, o + k * 3 + 1, none⟩, .string Y)]) (by assumption) | exact AtF.on (w := w) (l := [(⟨b, o + k * 3, none⟩, .string X), (⟨b, o + k * 3 + 1, none⟩, .string Y)]) (by assumption) (by assumption) | exact AtF.al (w := w) (l := [(⟨b, o + k * 3, none⟩, .string X), (⟨b, o + k * 3 + 1, none⟩, .string Y)]) (by assumption) _ | exact AtF.ald (w := w) (l := [(⟨b, o + k * 3, none⟩, .string X), (⟨b, o + k * 3 + 1, none⟩, .string Y)]) (by assumption) _ | exact AtF.al (w := w) (l := [(⟨b, o + k * 3, none⟩, .string X), (⟨b, o + k * 3 + 1, none⟩, .string Y)]) hs _ | exact AtF.ald (w := w) (l := [(⟨b, o + k * 3, none⟩, .string X), (⟨b, o + k * 3 + 1, none⟩, .string Y)]) hs _)
          refine heldY 0 13 ?_ _ rfl rfl (by kernel_rfl) (by kernel_rfl) (by kernel_rfl) (fun _ _ _ h => h) rfl (by assumption) ?_ ?_
          rotate_left
          · (intro w hSw; (try dsimp only at hSw); go_simp; (try with_reducible rfl))
          simp only [List.setIfInBounds_toArray, List.set_cons_zero, List.set_cons_succ]
          refine heldY 1 14 ?_ _ rfl rfl (by kernel_rfl) (by kernel_rfl) (by kernel_rfl) (fun _ _ _ h => h) rfl (by assumption) ?_ ?_
          rotate_left
          · (intro w hSw; (try dsimp only at hSw); go_simp; (try with_reducible rfl))
          simp only [List.setIfInBounds_toArray, List.set_cons_zero, List.set_cons_succ]
          refine heldY 2 15 ?_ _ rfl rfl (by kernel_rfl) (by kernel_rfl) (by kernel_rfl) (fun _ _ _ h => h) rfl (by assumption) ?_ ?_
          rotate_left
          · (intro w hSw; (try dsimp only at hSw); go_simp; (try with_reducible rfl))
          simp only [List.setIfInBounds_toArray, List.set_cons_zero, List.set_cons_succ]
          refine heldY 3 16 ?_ _ rfl rfl (by kernel_rfl) (by kernel_rfl) (by kernel_rfl) (fun _ _ _ h => h) rfl (by assumption) ?_ ?_
          rotate_left
          · (intro w hSw; (try dsimp only at hSw); go_simp; (try with_reducible rfl))
          simp only [List.setIfInBounds_toArray, List.set_cons_zero, List.set_cons_succ]
          refine heldY 4 17 ?_ _ rfl rfl (by kernel_rfl) (by kernel_rfl) (by kernel_rfl) (fun _ _ _ h => h) rfl (by assumption) ?_ ?_
          rotate_left
          · (intro w hSw; (try dsimp only at hSw); go_simp; (try with_reducible rfl))
          simp only [List.setIfInBounds_toArray, List.set_cons_zero, List.set_cons_succ]
          refine wpAnyH_ready (rs := [5]) (by kernel_rfl) (by simp) ?_
          refine AllReadyH.cons rfl (fun K hK => ?_) AllReadyH.nil
          go_simp
          first | (go_at_call 37; refine (TR _).mono ?_; rintro e w3 ⟨rfl, hb⟩) | (go_at_call 38; refine (NM _).mono ?_; rintro e w3 ⟨rfl, rfl⟩)
          refine hK.out _ _ ?_ (fun hHeld => ?_)
          · (try dsimp only); (first | assumption | exact hs | exact AtF.dr (w := w) (l := [(⟨b, o + k * 3, none⟩, .string X), (⟨b, o + k * 3 + 1, none⟩, .string Y)]) hs | exact AtF.dr (w := w) (l := [(⟨b, o + k * 3, none⟩, .string X), (⟨b, o + k * 3 + 1, none⟩, .string Y)]) (by assumption) | exact AtF.on (w := w) (l := [(⟨b, o + k * 3, none⟩, .string X), (⟨b, o + k * 3 + 1, none⟩, .string Y)]) (by assumption) (by assumption) | exact AtF.al (w := w) (l := [(⟨b, o + k * 3, none⟩, .string X), (⟨b, o + k * 3 + 1, none⟩, .string Y)]) (by assumption) _ | exact AtF.ald (w := w) (l := [(⟨b, o + k * 3, none⟩, .string X), (⟨b, o + k * 3 + 1, none⟩, .string Y)]) (by assumption) _ | exact AtF.al (w := w) (l := [(⟨b, o + k * 3, none⟩, .string X), (⟨b, o + k * 3 + 1, none⟩, .string Y)]) hs _ | exact AtF.ald (w := w) (l := [(⟨b, o + k * 3, none⟩, .string X), (⟨b, o + k * 3 + 1, none⟩, .string Y)]) hs _)
          clear hK K
          try simp only [Act.put, List.setIfInBounds_toArray, List.set_cons_zero, List.set_cons_succ]
          refine heldY 6 19 ?_ _ rfl rfl (by kernel_rfl) (by kernel_rfl) (by kernel_rfl) (fun _ _ _ h => h) rfl (by assumption) ?_ ?_
          rotate_left
          · (intro w hSw; (try dsimp only at hSw); go_simp; (try with_reducible rfl))
          simp only [List.setIfInBounds_toArray, List.set_cons_zero, List.set_cons_succ]
          refine heldY 7 20 ?_ _ rfl rfl (by kernel_rfl) (by kernel_rfl) (by kernel_rfl) (fun _ _ _ h => h) rfl (by assumption) ?_ ?_
          rotate_left
          · (intro w hSw; (try dsimp only at hSw); go_simp; (try with_reducible rfl))
          simp only [List.setIfInBounds_toArray, List.set_cons_zero, List.set_cons_succ]
          refine heldY 8 21 ?_ _ rfl rfl (by kernel_rfl) (by kernel_rfl) (by kernel_rfl) (fun _ _ _ h => h) rfl (by assumption) ?_ ?_
          rotate_left
          · (intro w hSw; (try dsimp only at hSw); go_simp; (try with_reducible rfl))
          simp only [List.setIfInBounds_toArray, List.set_cons_zero, List.set_cons_succ]
          refine heldY 9 22 ?_ _ rfl rfl (by kernel_rfl) (by kernel_rfl) (by kernel_rfl) (fun _ _ _ h => h) rfl (by assumption) ?_ ?_
          rotate_left
          · (intro w hSw; (try dsimp only at hSw); go_simp; (try with_reducible rfl))
          simp only [List.setIfInBounds_toArray, List.set_cons_zero, List.set_cons_succ]
          refine heldY 10 23 ?_ _ rfl rfl (by kernel_rfl) (by kernel_rfl) (by kernel_rfl) (fun _ _ _ h => h) rfl (by assumption) ?_ ?_
          rotate_left
          · (intro w hSw; (try dsimp only at hSw); go_simp; (try with_reducible rfl))
          simp only [List.setIfInBounds_toArray, List.set_cons_zero, List.set_cons_succ]
          refine heldY 11 24 ?_ _ rfl rfl (by kernel_rfl) (by kernel_rfl) (by kernel_rfl) (fun _ _ _ h => h) rfl (by assumption) ?_ ?_
          rotate_left
          · (intro w hSw; (try dsimp only at hSw); go_simp; (try with_reducible rfl))
          simp only [List.setIfInBounds_toArray, List.set_cons_zero, List.set_cons_succ]
          refine heldY 12 25 ?_ _ rfl rfl (by kernel_rfl) (by kernel_rfl) (by kernel_rfl) (fun _ _ _ h => h) rfl (by assumption) ?_ ?_
          rotate_left
          · (intro w hSw; (try dsimp only at hSw); go_simp; (try with_reducible rfl))
          simp only [List.setIfInBounds_toArray, List.set_cons_zero, List.set_cons_succ]
          refine wpAnyH_ready (rs := [13]) (by kernel_rfl) (by simp) ?_
          refine AllReadyH.cons rfl (fun K hK => ?_) AllReadyH.nil
          go_simp
          first | (go_at_call 37; refine (TR _).mono ?_; rintro e w3 ⟨rfl, hb⟩) | (go_at_call 38; refine (NM _).mono ?_; rintro e w3 ⟨rfl, rfl⟩)
          refine hK.out _ _ ?_ (fun hHeld => ?_)
          · (try dsimp only); (first | assumption | exact hs | exact AtF.dr (w := w) (l := [(⟨b, o + k * 3, none⟩, .string X), (⟨b, o + k * 3 + 1, none⟩, .string Y)]) hs | exact AtF.dr (w := w) (l := [(⟨b, o + k * 3, none⟩, .string X), (⟨b, o + k * 3 + 1, none⟩, .string Y)]) (by assumption) | exact AtF.on (w := w) (l := [(⟨b, o + k * 3, none⟩, .string X), (⟨b, o + k * 3 + 1, none⟩, .string Y)]) (by assumption) (by assumption) | exact AtF.al (w := w) (l := [(⟨b, o + k * 3, none⟩, .string X), (⟨b, o + k * 3 + 1, none⟩, .string Y)]) (by assumption) _ | exact AtF.ald (w := w) (l := [(⟨b, o + k * 3, none⟩, .string X), (⟨b, o + k * 3 + 1, none⟩, .string Y)]) (by assumption) _ | exact AtF.al (w := w) (l := [(⟨b, o + k * 3, none⟩, .string X), (⟨b, o + k * 3 + 1, none⟩, .string Y)]) hs _ | exact AtF.ald (w := w) (l := [(⟨b, o + k * 3, none⟩, .string X), (⟨b, o + k * 3 + 1, none⟩, .string Y)]) hs _)
          clear hK K
          try simp only [Act.put, List.setIfInBounds_toArray, List.set_cons_zero, List.set_cons_succ]
          refine heldY 14 27 ?_ _ rfl rfl (by kernel_rfl) (by kernel_rfl) (by kernel_rfl) (fun _ _ _ h => h) rfl (by assumption) ?_ ?_
          rotate_left
          · (intro w hSw; (try dsimp only at hSw); go_simp; (try with_reducible rfl))
          simp only [List.setIfInBounds_toArray, List.set_cons_zero, List.set_cons_succ]
          refine heldY 15 28 ?_ _ rfl rfl (by kernel_rfl) (by kernel_rfl) (by kernel_rfl) (fun _ _ _ h => h) rfl (by assumption) ?_ ?_
          rotate_left
          · (intro w hSw; (try dsimp only at hSw); go_simp; (try with_reducible rfl))
          simp only [List.setIfInBounds_toArray, List.set_cons_zero, List.set_cons_succ]
          refine heldY 16 29 ?_ _ rfl rfl (by kernel_rfl) (by kernel_rfl) (by kernel_rfl) (fun _ _ _ h => h) rfl (by assumption) ?_ ?_
          rotate_left
          · (intro w hSw; (try dsimp only at hSw); go_simp; (try with_reducible rfl))
          simp only [List.setIfInBounds_toArray, List.set_cons_zero, List.set_cons_succ]
          refine heldNo 17 30 rfl (by kernel_rfl) (by kernel_rfl) (by kernel_rfl) (fun _ _ _ h => h) rfl (by assumption) ?_
          simp only [List.setIfInBounds_toArray, List.set_cons_zero, List.set_cons_succ]
          refine heldNo 18 31 rfl (by kernel_rfl) (by kernel_rfl) (by kernel_rfl) (fun _ _ _ h => h) rfl (by assumption) ?_
          simp only [List.setIfInBounds_toArray, List.set_cons_zero, List.set_cons_succ]
          refine heldNo 19 32 rfl (by kernel_rfl) (by kernel_rfl) (by kernel_rfl) (fun _ _ _ h => h) rfl (by assumption) ?_
          simp only [List.setIfInBounds_toArray, List.set_cons_zero, List.set_cons_succ]
          refine heldNo 20 33 rfl (by kernel_rfl) (by kernel_rfl) (by kernel_rfl) (fun _ _ _ h => h) rfl (by assumption) ?_
          simp only [List.setIfInBounds_toArray, List.set_cons_zero, List.set_cons_succ]
          refine heldNo 21 34 rfl (by kernel_rfl) (by kernel_rfl) (by kernel_rfl) (fun _ _ _ h => h) rfl (by assumption) ?_
          simp only [List.setIfInBounds_toArray, List.set_cons_zero, List.set_cons_succ]
          refine heldNo 22 35 rfl (by kernel_rfl) (by kernel_rfl) (by kernel_rfl) (fun _ _ _ h => h) rfl (by assumption) ?_
          simp only [List.setIfInBounds_toArray, List.set_cons_zero, List.set_cons_succ]
          refine heldNo 23 36 rfl (by kernel_rfl) (by kernel_rfl) (by kernel_rfl) (fun _ _ _ h => h) rfl (by assumption) ?_
          simp only [List.setIfInBounds_toArray, List.set_cons_zero, List.set_cons_succ]
          refine heldNo 24 37 rfl (by kernel_rfl) (by kernel_rfl) (by kernel_rfl) (fun _ _ _ h => h) rfl (by assumption) ?_
          simp only [List.setIfInBounds_toArray, List.set_cons_zero, List.set_cons_succ]
          refine heldNo 25 38 rfl (by kernel_rfl) (by kernel_rfl) (by kernel_rfl) (fun _ _ _ h => h) rfl (by assumption) ?_
          simp only [List.setIfInBounds_toArray, List.set_cons_zero, List.set_cons_succ]
          refine heldNo 26 39 rfl (by kernel_rfl) (by kernel_rfl) (by kernel_rfl) (fun _ _ _ h => h) rfl (by assumption) ?_
          simp only [List.setIfInBounds_toArray, List.set_cons_zero, List.set_cons_succ]
          refine heldNo 27 40 rfl (by kernel_rfl) (by kernel_rfl) (by kernel_rfl) (fun _ _ _ h => h) rfl (by assumption) ?_
          simp only [List.setIfInBounds_toArray, List.set_cons_zero, List.set_cons_succ]
          refine heldNo 28 41 rfl (by kernel_rfl) (by kernel_rfl) (by kernel_rfl) (fun _ _ _ h => h) rfl (by assumption) ?_
          simp only [List.setIfInBounds_toArray, List.set_cons_zero, List.set_cons_succ]
          refine heldNo 29 42 rfl (by kernel_rfl) (by kernel_rfl) (by kernel_rfl) (fun _ _ _ h => h) rfl (by assumption) ?_
          simp only [List.setIfInBounds_toArray, List.set_cons_zero, List.set_cons_succ]
          refine heldNo 30 43 rfl (by kernel_rfl) (by kernel_rfl) (by kernel_rfl) (fun _ _ _ h => h) rfl (by assumption) ?_
          simp only [List.setIfInBounds_toArray, List.set_cons_zero, List.set_cons_succ]
          refine heldNo 31 44 rfl (by kernel_rfl) (by kernel_rfl) (by kernel_rfl) (fun _ _ _ h => h) rfl (by assumption) ?_
          simp only [List.setIfInBounds_toArray, List.set_cons_zero, List.set_cons_succ]
          refine heldY 32 45 ?_ _ rfl rfl (by kernel_rfl) (by kernel_rfl) (by kernel_rfl) (fun _ _ _ h => h) rfl (by assumption) ?_ ?_
          rotate_left
          · (intro w hSw; (try dsimp only at hSw); go_simp; (try with_reducible rfl))
          simp only [List.setIfInBounds_toArray, List.set_cons_zero, List.set_cons_succ]
          refine wpAnyH_done (by kernel_rfl) ?_ _
          have HW3 := Lib.hid (BE _ hHeld)
          clear hHeld
          go_wp2
          go_ret
          exact ⟨reti HF.out, HW3.out⟩
        · simp only [hn] at NM
          have hq : rightI x = true := by rw [HR.out, ht, hn]; rfl
          by_cases hk0 : 0 < k
          · obtain ⟨y, hy⟩ : ∃ y, l[k - 1]? = some y := ⟨_, List.getElem?_eq_getElem (by rw [HN.out]; omega)⟩
            obtain ⟨e0, e1, e2⟩ := HC.out (k - 1) y hy
            rw [← HB.out.cell (p := ⟨b, o + (k - 1) * 3, none⟩) hbw] at e0
            rw [← HB.out.cell (p := ⟨b, o + (k - 1) * 3 + 1, none⟩) hbw] at e1
            rw [← HB.out.cell (p := ⟨b, o + (k - 1) * 3 + 2, none⟩) hbw] at e2
            have LS := fun W => less_ref y x W
            have HCASE : Hid ((lessB y x = true ∧ ∀ (j : Nat) u, j < k + 1 → l[j]? = some u → stepI l j u) ∨ (lessB y x = false ∧ (1 : Int) = Z)) := Lib.hid (by
              by_cases g : lessI y x
              · refine .inl ⟨lessB_yes g, fun j u hj hu => ?_⟩
                by_cases ej : j = k
                · subst ej
                  rw [HX.out] at hu; cases hu
                  exact ⟨hq, fun u h1 h2 => by rw [hy] at h2; cases h2; exact g⟩
                · exact H.out j u (by omega) hu
              · exact .inr ⟨lessB_no g, HBAD.out k x HX.out (fun q => g (q.2 y hk0 hy))⟩)
            generalize lessB y x = q at *
            clear hq ht hn H HBAD HC HS HX hy HR
            unfold aggI at LS
            generalize bsT x.1 = X at *
            generalize bsT x.2.1 = Y at *
            generalize x.2.2 = z at *
            generalize bsT y.1 = X' at *
            generalize bsT y.2.1 = Y' at *
            generalize y.2.2 = z' at *
            have hs := And.intro c0 (And.intro c1 (And.intro c2 (And.intro e0 (And.intro e1 (And.intro e2 hB)))))
            have hd : decide ((0 : Int) < (k : Int)) = true := decide_eq_true (by omega)
            have hk1 : (1 : Int) ≤ (k : Int) := by omega
            have i0 : (0 : Int) ≤ (k : Int) - 1 := by omega
            have i1 : (k : Int) - 1 < (n : Int) := by omega
            go_wp2
            have i2 : ((k : Int) - 1).toNat = k - 1 := by omega
            have i3 : IntKind.i64.wrap ((k : Int) - 1) = (k : Int) - 1 := IntWalk.i64_in _ (by omega)
            have BE := fun (V : World) (h : V.cell? ⟨b, o + k * 3, none⟩ = some (.string X) ∧ V.cell? ⟨b, o + k * 3 + 1, none⟩ = some (.string Y) ∧ V.cell? ⟨b, o + k * 3 + 2, none⟩ = some (.bool z) ∧ V.cell? ⟨b, o + (k - 1) * 3, none⟩ = some (.string X') ∧ V.cell? ⟨b, o + (k - 1) * 3 + 1, none⟩ = some (.string Y') ∧ V.cell? ⟨b, o + (k - 1) * 3 + 2, none⟩ = some (.bool z') ∧ Below w.heap.size w V) => AtF.be (w := w) (l := [(⟨b, o + k * 3, none⟩, .string X), (⟨b, o + k * 3 + 1, none⟩, .string Y), (⟨b, o + k * 3 + 2, none⟩, .bool z), (⟨b, o + (k - 1) * 3, none⟩, .string X'), (⟨b, o + (k - 1) * 3 + 1, none⟩, .string Y'), (⟨b, o + (k - 1) * 3 + 2, none⟩, .bool z')]) h
            refine wp_region_held_drew (S := (fun V => V.cell? ⟨b, o + k * 3, none⟩ = some (.string X) ∧ V.cell? ⟨b, o + k * 3 + 1, none⟩ = some (.string Y) ∧ V.cell? ⟨b, o + k * 3 + 2, none⟩ = some (.bool z) ∧ V.cell? ⟨b, o + (k - 1) * 3, none⟩ = some (.string X') ∧ V.cell? ⟨b, o + (k - 1) * 3 + 1, none⟩ = some (.string Y') ∧ V.cell? ⟨b, o + (k - 1) * 3 + 2, none⟩ = some (.bool z') ∧ Below w.heap.size w V)) (by kernel_rfl) ?_ (fun hHeld => ?_)
            · (try dsimp only); (first | assumption | exact hs | exact AtF.dr (w := w) (l := [(⟨b, o + k * 3, none⟩, .string X), (⟨b, o + k * 3 + 1, none⟩, .string Y), (⟨b, o + k * 3 + 2, none⟩, .bool z), (⟨b, o + (k - 1) * 3, none⟩, .string X'), (⟨b, o + (k - 1) * 3 + 1, none⟩, .string Y'), (⟨b, o + (k - 1) * 3 + 2, none⟩, .bool z')]) hs | exact AtF.dr (w := w) (l := [(⟨b, o + k * 3, none⟩, .string X), (⟨b, o + k * 3 + 1, none⟩, .string Y), (⟨b, o + k * 3 + 2, none⟩, .bool z), (⟨b, o + (k - 1) * 3, none⟩, .string X'), (⟨b, o + (k - 1) * 3 + 1, none⟩, .string Y'), (⟨b, o + (k - 1) * 3 + 2, none⟩, .bool z')]) (by assumption) | exact AtF.on (w := w) (l := [(⟨b, o + k * 3, none⟩, .string X), (⟨b, o + k * 3 + 1, none⟩, .string Y), (⟨b, o + k * 3 + 2, none⟩, .bool z), (⟨b, o + (k - 1) * 3, none⟩, .string X'), (⟨b, o + (k - 1) * 3 + 1, none⟩, .string Y'), (⟨b, o + (k - 1) * 3 + 2, none⟩, .bool z')]) (by assumption) (by assumption) | exact AtF.al (w := w) (l := [(⟨b, o + k * 3, none⟩, .string X), (⟨b, o + k * 3 + 1, none⟩, .string Y), (⟨b, o + k * 3 + 2, none⟩, .bool z), (⟨b, o + (k - 1) * 3, none⟩, .string X'), (⟨b, o + (k - 1) * 3 + 1, none⟩, .string Y'), (⟨b, o + (k - 1) * 3 + 2, none⟩, .bool z')]) (by assumption) _ | exact AtF.ald (w := w) (l := [(⟨b, o + k * 3, none⟩, .string X), (⟨b, o + k * 3 + 1, none⟩, .string Y), (⟨b, o + k * 3 + 2, none⟩, .bool z), (⟨b, o + (k - 1) * 3, none⟩, .string X'), (⟨b, o + (k - 1) * 3 + 1, none⟩, .string Y'), (⟨b, o + (k - 1) * 3 + 2, none⟩, .bool z')]) (by assumption) _ | exact AtF.al (w := w) (l := [(⟨b, o + k * 3, none⟩, .string X), (⟨b, o + k * 3 + 1, none⟩, .string Y), (⟨b, o + k * 3 + 2, none⟩, .bool z), (⟨b, o + (k - 1) * 3, none⟩, .string X'), (⟨b, o + (k - 1) * 3 + 1, none⟩, .string Y'), (⟨b, o + (k - 1) * 3 + 2, none⟩, .bool z')]) hs _ | exact AtF.ald (w := w) (l := [(⟨b, o + k * 3, none⟩, .string X), (⟨b, o + k * 3 + 1, none⟩, .string Y), (⟨b, o + k * 3 + 2, none⟩, .bool z), (⟨b, o + (k - 1) * 3, none⟩, .string X'), (⟨b, o + (k - 1) * 3 + 1, none⟩, .string Y'), (⟨b, o + (k - 1) * 3 + 2, none⟩, .bool z')]) hs _)
            refine heldY 0 13 ?_ _ rfl rfl (by kernel_rfl) (by kernel_rfl) (by kernel_rfl) (fun _ _ _ h => h) rfl (by assumption) ?_ ?_
            rotate_left
            · (intro w hSw; (try dsimp only at hSw); go_simp; (try with_reducible rfl))
            simp only [List.setIfInBounds_toArray, List.set_cons_zero, List.set_cons_succ]
            refine heldY 1 14 ?_ _ rfl rfl (by kernel_rfl) (by kernel_rfl) (by kernel_rfl) (fun _ _ _ h => h) rfl (by assumption) ?_ ?_
            rotate_left
            · (intro w hSw; (try dsimp only at hSw); go_simp; (try with_reducible rfl))
            simp only [List.setIfInBounds_toArray, List.set_cons_zero, List.set_cons_succ]
            refine heldY 2 15 ?_ _ rfl rfl (by kernel_rfl) (by kernel_rfl) (by kernel_rfl) (fun _ _ _ h => h) rfl (by assumption) ?_ ?_
            rotate_left
            · (intro w hSw; (try dsimp only at hSw); go_simp; (try with_reducible rfl))
            simp only [List.setIfInBounds_toArray, List.set_cons_zero, List.set_cons_succ]
            refine heldY 3 16 ?_ _ rfl rfl (by kernel_rfl) (by kernel_rfl) (by kernel_rfl) (fun _ _ _ h => h) rfl (by assumption) ?_ ?_
            rotate_left
            · (intro w hSw; (try dsimp only at hSw); go_simp; (try with_reducible rfl))
            simp only [List.setIfInBounds_toArray, List.set_cons_zero, List.set_cons_succ]
            refine heldY 4 17 ?_ _ rfl rfl (by kernel_rfl) (by kernel_rfl) (by kernel_rfl) (fun _ _ _ h => h) rfl (by assumption) ?_ ?_
            rotate_left
            · (intro w hSw; (try dsimp only at hSw); go_simp; (try with_reducible rfl))
            simp only [List.setIfInBounds_toArray, List.set_cons_zero, List.set_cons_succ]
            refine wpAnyH_ready (rs := [5]) (by kernel_rfl) (by simp) ?_
            refine AllReadyH.cons rfl (fun K hK => ?_) AllReadyH.nil
            go_simp
            first | (go_at_call 37; refine (TR _).mono ?_; rintro e w3 ⟨rfl, hb⟩) | (go_at_call 38; refine (NM _).mono ?_; rintro e w3 ⟨rfl, rfl⟩) | (go_at_call 39; refine (LS _).mono ?_; rintro e w3 ⟨rfl, hb⟩)
            refine hK.out _ _ ?_ (fun hHeld => ?_)
            · (try dsimp only); (first | assumption | exact hs | exact AtF.dr (w := w) (l := [(⟨b, o + k * 3, none⟩, .string X), (⟨b, o + k * 3 + 1, none⟩, .string Y), (⟨b, o + k * 3 + 2, none⟩, .bool z), (⟨b, o + (k - 1) * 3, none⟩, .string X'), (⟨b, o + (k - 1) * 3 + 1, none⟩, .string Y'), (⟨b, o + (k - 1) * 3 + 2, none⟩, .bool z')]) hs | exact AtF.dr (w := w) (l := [(⟨b, o + k * 3, none⟩, .string X), (⟨b, o + k * 3 + 1, none⟩, .string Y), (⟨b, o + k * 3 + 2, none⟩, .bool z), (⟨b, o + (k - 1) * 3, none⟩, .string X'), (⟨b, o + (k - 1) * 3 + 1, none⟩, .string Y'), (⟨b, o + (k - 1) * 3 + 2, none⟩, .bool z')]) (by assumption) | exact AtF.on (w := w) (l := [(⟨b, o + k * 3, none⟩, .string X), (⟨b, o + k * 3 + 1, none⟩, .string Y), (⟨b, o + k * 3 + 2, none⟩, .bool z), (⟨b, o + (k - 1) * 3, none⟩, .string X'), (⟨b, o + (k - 1) * 3 + 1, none⟩, .string Y'), (⟨b, o + (k - 1) * 3 + 2, none⟩, .bool z')]) (by assumption) (by assumption) | exact AtF.al (w := w) (l := [(⟨b, o + k * 3, none⟩, .string X), (⟨b, o + k * 3 + 1, none⟩, .string Y), (⟨b, o + k * 3 + 2, none⟩, .bool z), (⟨b, o + (k - 1) * 3, none⟩, .string X'), (⟨b, o + (k - 1) * 3 + 1, none⟩, .string Y'), (⟨b, o + (k - 1) * 3 + 2, none⟩, .bool z')]) (by assumption) _ | exact AtF.ald (w := w) (l := [(⟨b, o + k * 3, none⟩, .string X), (⟨b, o + k * 3 + 1, none⟩, .string Y), (⟨b, o + k * 3 + 2, none⟩, .bool z), (⟨b, o + (k - 1) * 3, none⟩, .string X'), (⟨b, o + (k - 1) * 3 + 1, none⟩, .string Y'), (⟨b, o + (k - 1) * 3 + 2, none⟩, .bool z')]) (by assumption) _ | exact AtF.al (w := w) (l := [(⟨b, o + k * 3, none⟩, .string X), (⟨b, o + k * 3 + 1, none⟩, .string Y), (⟨b, o + k * 3 + 2, none⟩, .bool z), (⟨b, o + (k - 1) * 3, none⟩, .string X'), (⟨b, o + (k - 1) * 3 + 1, none⟩, .string Y'), (⟨b, o + (k - 1) * 3 + 2, none⟩, .bool z')]) hs _ | exact AtF.ald (w := w) (l := [(⟨b, o + k * 3, none⟩, .string X), (⟨b, o + k * 3 + 1, none⟩, .string Y), (⟨b, o + k * 3 + 2, none⟩, .bool z), (⟨b, o + (k - 1) * 3, none⟩, .string X'), (⟨b, o + (k - 1) * 3 + 1, none⟩, .string Y'), (⟨b, o + (k - 1) * 3 + 2, none⟩, .bool z')]) hs _)
            clear hK K
            try simp only [Act.put, List.setIfInBounds_toArray, List.set_cons_zero, List.set_cons_succ]
            refine heldY 6 19 ?_ _ rfl rfl (by kernel_rfl) (by kernel_rfl) (by kernel_rfl) (fun _ _ _ h => h) rfl (by assumption) ?_ ?_
            rotate_left
            · (intro w hSw; (try dsimp only at hSw); go_simp; (try with_reducible rfl))
            simp only [List.setIfInBounds_toArray, List.set_cons_zero, List.set_cons_succ]
            refine heldY 7 20 ?_ _ rfl rfl (by kernel_rfl) (by kernel_rfl) (by kernel_rfl) (fun _ _ _ h => h) rfl (by assumption) ?_ ?_
            rotate_left
            · (intro w hSw; (try dsimp only at hSw); go_simp; (try with_reducible rfl))
            simp only [List.setIfInBounds_toArray, List.set_cons_zero, List.set_cons_succ]
            refine heldY 8 21 ?_ _ rfl rfl (by kernel_rfl) (by kernel_rfl) (by kernel_rfl) (fun _ _ _ h => h) rfl (by assumption) ?_ ?_
            rotate_left
            · (intro w hSw; (try dsimp only at hSw); go_simp; (try with_reducible rfl))
            simp only [List.setIfInBounds_toArray, List.set_cons_zero, List.set_cons_succ]
            refine heldY 9 22 ?_ _ rfl rfl (by kernel_rfl) (by kernel_rfl) (by kernel_rfl) (fun _ _ _ h => h) rfl (by assumption) ?_ ?_
            rotate_left
            · (intro w hSw; (try dsimp only at hSw); go_simp; (try with_reducible rfl))
            simp only [List.setIfInBounds_toArray, List.set_cons_zero, List.set_cons_succ]
            refine heldY 10 23 ?_ _ rfl rfl (by kernel_rfl) (by kernel_rfl) (by kernel_rfl) (fun _ _ _ h => h) rfl (by assumption) ?_ ?_
            rotate_left
            · (intro w hSw; (try dsimp only at hSw); go_simp; (try with_reducible rfl))
            simp only [List.setIfInBounds_toArray, List.set_cons_zero, List.set_cons_succ]
            refine heldY 11 24 ?_ _ rfl rfl (by kernel_rfl) (by kernel_rfl) (by kernel_rfl) (fun _ _ _ h => h) rfl (by assumption) ?_ ?_
            rotate_left
            · (intro w hSw; (try dsimp only at hSw); go_simp; (try with_reducible rfl))
            simp only [List.setIfInBounds_toArray, List.set_cons_zero, List.set_cons_succ]
            refine heldY 12 25 ?_ _ rfl rfl (by kernel_rfl) (by kernel_rfl) (by kernel_rfl) (fun _ _ _ h => h) rfl (by assumption) ?_ ?_
            rotate_left
            · (intro w hSw; (try dsimp only at hSw); go_simp; (try with_reducible rfl))
            simp only [List.setIfInBounds_toArray, List.set_cons_zero, List.set_cons_succ]
            refine wpAnyH_ready (rs := [13]) (by kernel_rfl) (by simp) ?_
            refine AllReadyH.cons rfl (fun K hK => ?_) AllReadyH.nil
            go_simp
            first | (go_at_call 37; refine (TR _).mono ?_; rintro e w3 ⟨rfl, hb⟩) | (go_at_call 38; refine (NM _).mono ?_; rintro e w3 ⟨rfl, rfl⟩) | (go_at_call 39; refine (LS _).mono ?_; rintro e w3 ⟨rfl, hb⟩)
            refine hK.out _ _ ?_ (fun hHeld => ?_)
            · (try dsimp only); (first | assumption | exact hs | exact AtF.dr (w := w) (l := [(⟨b, o + k * 3, none⟩, .string X), (⟨b, o + k * 3 + 1, none⟩, .string Y), (⟨b, o + k * 3 + 2, none⟩, .bool z), (⟨b, o + (k - 1) * 3, none⟩, .string X'), (⟨b, o + (k - 1) * 3 + 1, none⟩, .string Y'), (⟨b, o + (k - 1) * 3 + 2, none⟩, .bool z')]) hs | exact AtF.dr (w := w) (l := [(⟨b, o + k * 3, none⟩, .string X), (⟨b, o + k * 3 + 1, none⟩, .string Y), (⟨b, o + k * 3 + 2, none⟩, .bool z), (⟨b, o + (k - 1) * 3, none⟩, .string X'), (⟨b, o + (k - 1) * 3 + 1, none⟩, .string Y'), (⟨b, o + (k - 1) * 3 + 2, none⟩, .bool z')]) (by assumption) | exact AtF.on (w := w) (l := [(⟨b, o + k * 3, none⟩, .string X), (⟨b, o + k * 3 + 1, none⟩, .string Y), (⟨b, o + k * 3 + 2, none⟩, .bool z), (⟨b, o + (k - 1) * 3, none⟩, .string X'), (⟨b, o + (k - 1) * 3 + 1, none⟩, .string Y'), (⟨b, o + (k - 1) * 3 + 2, none⟩, .bool z')]) (by assumption) (by assumption) | exact AtF.al (w := w) (l := [(⟨b, o + k * 3, none⟩, .string X), (⟨b, o + k * 3 + 1, none⟩, .string Y), (⟨b, o + k * 3 + 2, none⟩, .bool z), (⟨b, o + (k - 1) * 3, none⟩, .string X'), (⟨b, o + (k - 1) * 3 + 1, none⟩, .string Y'), (⟨b, o + (k - 1) * 3 + 2, none⟩, .bool z')]) (by assumption) _ | exact AtF.ald (w := w) (l := [(⟨b, o + k * 3, none⟩, .string X), (⟨b, o + k * 3 + 1, none⟩, .string Y), (⟨b, o + k * 3 + 2, none⟩, .bool z), (⟨b, o + (k - 1) * 3, none⟩, .string X'), (⟨b, o + (k - 1) * 3 + 1, none⟩, .string Y'), (⟨b, o + (k - 1) * 3 + 2, none⟩, .bool z')]) (by assumption) _ | exact AtF.al (w := w) (l := [(⟨b, o + k * 3, none⟩, .string X), (⟨b, o + k * 3 + 1, none⟩, .string Y), (⟨b, o + k * 3 + 2, none⟩, .bool z), (⟨b, o + (k - 1) * 3, none⟩, .string X'), (⟨b, o + (k - 1) * 3 + 1, none⟩, .string Y'), (⟨b, o + (k - 1) * 3 + 2, none⟩, .bool z')]) hs _ | exact AtF.ald (w := w) (l := [(⟨b, o + k * 3, none⟩, .string X), (⟨b, o + k * 3 + 1, none⟩, .string Y), (⟨b, o + k * 3 + 2, none⟩, .bool z), (⟨b, o + (k - 1) * 3, none⟩, .string X'), (⟨b, o + (k - 1) * 3 + 1, none⟩, .string Y'), (⟨b, o + (k - 1) * 3 + 2, none⟩, .bool z')]) hs _)
            clear hK K
            try simp only [Act.put, List.setIfInBounds_toArray, List.set_cons_zero, List.set_cons_succ]
            refine heldY 14 27 ?_ _ rfl rfl (by kernel_rfl) (by kernel_rfl) (by kernel_rfl) (fun _ _ _ h => h) rfl (by assumption) ?_ ?_
            rotate_left
            · (intro w hSw; (try dsimp only at hSw); go_simp; (try with_reducible rfl))
            simp only [List.setIfInBounds_toArray, List.set_cons_zero, List.set_cons_succ]
            refine heldY 15 28 ?_ _ rfl rfl (by kernel_rfl) (by kernel_rfl) (by kernel_rfl) (fun _ _ _ h => h) rfl (by assumption) ?_ ?_
            rotate_left
            · (intro w hSw; (try dsimp only at hSw); go_simp; (try with_reducible rfl))
            simp only [List.setIfInBounds_toArray, List.set_cons_zero, List.set_cons_succ]
            refine heldY 16 29 ?_ _ rfl rfl (by kernel_rfl) (by kernel_rfl) (by kernel_rfl) (fun _ _ _ h => h) rfl (by assumption) ?_ ?_
            rotate_left
            · (intro w hSw; (try dsimp only at hSw); go_simp; (try with_reducible rfl))
            simp only [List.setIfInBounds_toArray, List.set_cons_zero, List.set_cons_succ]
            refine heldY 17 30 ?_ _ rfl rfl (by kernel_rfl) (by kernel_rfl) (by kernel_rfl) (fun _ _ _ h => h) rfl (by assumption) ?_ ?_
            rotate_left
            · (intro w hSw; (try dsimp only at hSw); go_simp; (try with_reducible rfl))
            simp only [List.setIfInBounds_toArray, List.set_cons_zero, List.set_cons_succ]
            refine heldY 18 31 ?_ _ rfl rfl (by kernel_rfl) (by kernel_rfl) (by kernel_rfl) (fun _ _ _ h => h) rfl (by assumption) ?_ ?_
            rotate_left
            · (intro w hSw; (try dsimp only at hSw); go_simp; (try with_reducible rfl))
            simp only [List.setIfInBounds_toArray, List.set_cons_zero, List.set_cons_succ]
            refine heldY 19 32 ?_ _ rfl rfl (by kernel_rfl) (by kernel_rfl) (by kernel_rfl) (fun _ _ _ h => h) rfl (by assumption) ?_ ?_
            rotate_left
            · (intro w hSw; (try dsimp only at hSw); go_simp; (try with_reducible rfl))
            simp only [List.setIfInBounds_toArray, List.set_cons_zero, List.set_cons_succ]
            refine heldY 20 33 ?_ _ rfl rfl (by kernel_rfl) (by kernel_rfl) (by kernel_rfl) (fun _ _ _ h => h) rfl (by assumption) ?_ ?_
            rotate_left
            · (intro w hSw; (try dsimp only at hSw); go_simp; (try with_reducible rfl))
            simp only [List.setIfInBounds_toArray, List.set_cons_zero, List.set_cons_succ]
            refine heldY 21 34 ?_ _ rfl rfl (by kernel_rfl) (by kernel_rfl) (by kernel_rfl) (fun _ _ _ h => h) rfl (by assumption) ?_ ?_
            rotate_left
            · (intro w hSw; (try dsimp only at hSw); go_simp; (try with_reducible rfl))
            simp only [List.setIfInBounds_toArray, List.set_cons_zero, List.set_cons_succ]
            refine heldY 22 35 ?_ _ rfl rfl (by kernel_rfl) (by kernel_rfl) (by kernel_rfl) (fun _ _ _ h => h) rfl (by assumption) ?_ ?_
            rotate_left
            · (intro w hSw; (try dsimp only at hSw); go_simp; (try with_reducible rfl))
            simp only [List.setIfInBounds_toArray, List.set_cons_zero, List.set_cons_succ]
            refine heldY 23 36 ?_ _ rfl rfl (by kernel_rfl) (by kernel_rfl) (by kernel_rfl) (fun _ _ _ h => h) rfl (by assumption) ?_ ?_
            rotate_left
            · (intro w hSw; (try dsimp only at hSw); go_simp; (try with_reducible rfl))
            simp only [List.setIfInBounds_toArray, List.set_cons_zero, List.set_cons_succ]
            refine heldY 24 37 ?_ _ rfl rfl (by kernel_rfl) (by kernel_rfl) (by kernel_rfl) (fun _ _ _ h => h) rfl (by assumption) ?_ ?_
            rotate_left
            · (intro w hSw; (try dsimp only at hSw); go_simp; (try with_reducible rfl))
            simp only [List.setIfInBounds_toArray, List.set_cons_zero, List.set_cons_succ]
            refine heldY 25 38 ?_ _ rfl rfl (by kernel_rfl) (by kernel_rfl) (by kernel_rfl) (fun _ _ _ h => h) rfl (by assumption) ?_ ?_
            rotate_left
            · (intro w hSw; (try dsimp only at hSw); go_simp; (try with_reducible rfl))
            simp only [List.setIfInBounds_toArray, List.set_cons_zero, List.set_cons_succ]
            refine heldY 26 39 ?_ _ rfl rfl (by kernel_rfl) (by kernel_rfl) (by kernel_rfl) (fun _ _ _ h => h) rfl (by assumption) ?_ ?_
            rotate_left
            · (intro w hSw; (try dsimp only at hSw); go_simp; (try with_reducible rfl))
            simp only [List.setIfInBounds_toArray, List.set_cons_zero, List.set_cons_succ]
            refine heldY 27 40 ?_ _ rfl rfl (by kernel_rfl) (by kernel_rfl) (by kernel_rfl) (fun _ _ _ h => h) rfl (by assumption) ?_ ?_
            rotate_left
            · (intro w hSw; (try dsimp only at hSw); go_simp; (try with_reducible rfl))
            simp only [List.setIfInBounds_toArray, List.set_cons_zero, List.set_cons_succ]
            refine heldY 28 41 ?_ _ rfl rfl (by kernel_rfl) (by kernel_rfl) (by kernel_rfl) (fun _ _ _ h => h) rfl (by assumption) ?_ ?_
            rotate_left
            · (intro w hSw; (try dsimp only at hSw); go_simp; (try with_reducible rfl))
            simp only [List.setIfInBounds_toArray, List.set_cons_zero, List.set_cons_succ]
            refine wpAnyH_ready (rs := [29]) (by kernel_rfl) (by simp) ?_
            refine AllReadyH.cons rfl (fun K hK => ?_) AllReadyH.nil
            go_simp
            first | (go_at_call 37; refine (TR _).mono ?_; rintro e w3 ⟨rfl, hb⟩) | (go_at_call 38; refine (NM _).mono ?_; rintro e w3 ⟨rfl, rfl⟩) | (go_at_call 39; refine (LS _).mono ?_; rintro e w3 ⟨rfl, hb⟩)
            refine hK.out _ _ ?_ (fun hHeld => ?_)
            · (try dsimp only); (first | assumption | exact hs | exact AtF.dr (w := w) (l := [(⟨b, o + k * 3, none⟩, .string X), (⟨b, o + k * 3 + 1, none⟩, .string Y), (⟨b, o + k * 3 + 2, none⟩, .bool z), (⟨b, o + (k - 1) * 3, none⟩, .string X'), (⟨b, o + (k - 1) * 3 + 1, none⟩, .string Y'), (⟨b, o + (k - 1) * 3 + 2, none⟩, .bool z')]) hs | exact AtF.dr (w := w) (l := [(⟨b, o + k * 3, none⟩, .string X), (⟨b, o + k * 3 + 1, none⟩, .string Y), (⟨b, o + k * 3 + 2, none⟩, .bool z), (⟨b, o + (k - 1) * 3, none⟩, .string X'), (⟨b, o + (k - 1) * 3 + 1, none⟩, .string Y'), (⟨b, o + (k - 1) * 3 + 2, none⟩, .bool z')]) (by assumption) | exact AtF.on (w := w) (l := [(⟨b, o + k * 3, none⟩, .string X), (⟨b, o + k * 3 + 1, none⟩, .string Y), (⟨b, o + k * 3 + 2, none⟩, .bool z), (⟨b, o + (k - 1) * 3, none⟩, .string X'), (⟨b, o + (k - 1) * 3 + 1, none⟩, .string Y'), (⟨b, o + (k - 1) * 3 + 2, none⟩, .bool z')]) (by assumption) (by assumption) | exact AtF.al (w := w) (l := [(⟨b, o + k * 3, none⟩, .string X), (⟨b, o + k * 3 + 1, none⟩, .string Y), (⟨b, o + k * 3 + 2, none⟩, .bool z), (⟨b, o + (k - 1) * 3, none⟩, .string X'), (⟨b, o + (k - 1) * 3 + 1, none⟩, .string Y'), (⟨b, o + (k - 1) * 3 + 2, none⟩, .bool z')]) (by assumption) _ | exact AtF.ald (w := w) (l := [(⟨b, o + k * 3, none⟩, .string X), (⟨b, o + k * 3 + 1, none⟩, .string Y), (⟨b, o + k * 3 + 2, none⟩, .bool z), (⟨b, o + (k - 1) * 3, none⟩, .string X'), (⟨b, o + (k - 1) * 3 + 1, none⟩, .string Y'), (⟨b, o + (k - 1) * 3 + 2, none⟩, .bool z')]) (by assumption) _ | exact AtF.al (w := w) (l := [(⟨b, o + k * 3, none⟩, .string X), (⟨b, o + k * 3 + 1, none⟩, .string Y), (⟨b, o + k * 3 + 2, none⟩, .bool z), (⟨b, o + (k - 1) * 3, none⟩, .string X'), (⟨b, o + (k - 1) * 3 + 1, none⟩, .string Y'), (⟨b, o + (k - 1) * 3 + 2, none⟩, .bool z')]) hs _ | exact AtF.ald (w := w) (l := [(⟨b, o + k * 3, none⟩, .string X), (⟨b, o + k * 3 + 1, none⟩, .string Y), (⟨b, o + k * 3 + 2, none⟩, .bool z), (⟨b, o + (k - 1) * 3, none⟩, .string X'), (⟨b, o + (k - 1) * 3 + 1, none⟩, .string Y'), (⟨b, o + (k - 1) * 3 + 2, none⟩, .bool z')]) hs _)
            clear hK K
            try simp only [Act.put, List.setIfInBounds_toArray, List.set_cons_zero, List.set_cons_succ]
            refine heldY 30 43 ?_ _ rfl rfl (by kernel_rfl) (by kernel_rfl) (by kernel_rfl) (fun _ _ _ h => h) rfl (by assumption) ?_ ?_
            rotate_left
            · (intro w hSw; (try dsimp only at hSw); go_simp; (try with_reducible rfl))
            simp only [List.setIfInBounds_toArray, List.set_cons_zero, List.set_cons_succ]
            refine heldY 31 44 ?_ _ rfl rfl (by kernel_rfl) (by kernel_rfl) (by kernel_rfl) (fun _ _ _ h => h) rfl (by assumption) ?_ ?_
            rotate_left
            · (intro w hSw; (try dsimp only at hSw); go_simp; (try with_reducible rfl))
            simp only [List.setIfInBounds_toArray, List.set_cons_zero, List.set_cons_succ]
            refine heldY 32 45 ?_ _ rfl rfl (by kernel_rfl) (by kernel_rfl) (by kernel_rfl) (fun _ _ _ h => h) rfl (by assumption) ?_ ?_
            rotate_left
            · (intro w hSw; (try dsimp only at hSw); go_simp; (try with_reducible rfl))
            simp only [List.setIfInBounds_toArray, List.set_cons_zero, List.set_cons_succ]
            refine wpAnyH_done (by kernel_rfl) ?_ _
            have HW3 := Lib.hid (BE _ hHeld)
            clear hHeld i2 i3
            rcases HCASE.out with ⟨hq, HK⟩ | ⟨hq, HF⟩
            · subst hq
              have HK := Lib.hid HK
              go_wp2
              go_roundw
              case rel => exact ⟨k + 1, by omega, by go_num, HK, HW3⟩
              case measure => simp [intOf]; omega
            · subst hq
              have HF2 := Lib.hid HF
              clear HF
              go_wp2
              go_ret
              exact ⟨reti HF2.out, HW3.out⟩
          · have HK : Hid (∀ (j : Nat) u, j < k + 1 → l[j]? = some u → stepI l j u) := Lib.hid (fun j u hj hu => by
              obtain rfl : j = k := by omega
              rw [HX.out] at hu; cases hu
              exact ⟨hq, fun _ h1 => absurd h1 hk0⟩)
            have hd : decide ((0 : Int) < (k : Int)) = false := decide_eq_false (by omega)
            clear hq ht hn H HBAD HOK HC HS HX HR c2
            generalize bsT x.1 = X at *
            generalize bsT x.2.1 = Y at *
            have hs := And.intro c0 (And.intro c1 hB)
            go_wp2
            have BE := fun (V : World) (h : V.cell? ⟨b, o + k * 3, none⟩ = some (.string X) ∧ V.cell? ⟨b, o + k * 3 + 1, none⟩ = some (.string Y) ∧ Below w.heap.size w V) => AtF.be (w := w) (l := [(⟨b, o + k * 3, none⟩, .string X), (⟨b, o + k * 3 + 1, none⟩, .string Y)]) h
            refine wp_region_held_drew (S := (fun V => V.cell? ⟨b, o + k * 3, none⟩ = some (.string X) ∧ V.cell? ⟨b, o + k * 3 + 1, none⟩ = some (.string Y) ∧ Below w.heap.size w V)) (by kernel_rfl) ?_ (fun hHeld => ?_)
            · (try dsimp only); (first | assumption | exact hs | exact AtF.dr (w := w) (l := [(⟨b, o + k * 3, none⟩, .string X), (⟨b, o + k * 3 + 1, none⟩, .string Y)]) hs | exact AtF.dr (w := w) (l := [(⟨b, o + k * 3, none⟩, .string X), (⟨b, o + k * 3 + 1, none⟩, .string Y)]) (by assumption) | exact AtF.on (w := w) (l := [(⟨b, o + k * 3, none⟩, .string X), (⟨b, o + k * 3 + 1, none⟩, .string Y)]) (by assumption) (by assumption) | exact AtF.al (w := w) (l := [(⟨b, o + k * 3, none⟩, .string X), (⟨b, o + k * 3 + 1, none⟩, .string Y)]) (by assumption) _ | exact AtF.ald (w := w) (l := [(⟨b, o + k * 3, none⟩, .string X), (⟨b, o + k * 3 + 1, none⟩, .string Y)]) (by assumption) _ | exact AtF.al (w := w) (l := [(⟨b, o + k * 3, none⟩, .string X), (⟨b, o + k * 3 + 1, none⟩, .string Y)]) hs _ | exact AtF.ald (w := w) (l := [(⟨b, o + k * 3, none⟩, .string X), (⟨b, o + k * 3 + 1, none⟩, .string Y)]) hs _)
            refine heldY 0 13 ?_ _ rfl rfl (by kernel_rfl) (by kernel_rfl) (by kernel_rfl) (fun _ _ _ h => h) rfl (by assumption) ?_ ?_
            rotate_left
            · (intro w hSw; (try dsimp only at hSw); go_simp; (try with_reducible rfl))
            simp only [List.setIfInBounds_toArray, List.set_cons_zero, List.set_cons_succ]
            refine heldY 1 14 ?_ _ rfl rfl (by kernel_rfl) (by kernel_rfl) (by kernel_rfl) (fun _ _ _ h => h) rfl (by assumption) ?_ ?_
            rotate_left
            · (intro w hSw; (try dsimp only at hSw); go_simp; (try with_reducible rfl))
            simp only [List.setIfInBounds_toArray, List.set_cons_zero, List.set_cons_succ]
            refine heldY 2 15 ?_ _ rfl rfl (by kernel_rfl) (by kernel_rfl) (by kernel_rfl) (fun _ _ _ h => h) rfl (by assumption) ?_ ?_
            rotate_left
            · (intro w hSw; (try dsimp only at hSw); go_simp; (try with_reducible rfl))
            simp only [List.setIfInBounds_toArray, List.set_cons_zero, List.set_cons_succ]
            refine heldY 3 16 ?_ _ rfl rfl (by kernel_rfl) (by kernel_rfl) (by kernel_rfl) (fun _ _ _ h => h) rfl (by assumption) ?_ ?_
            rotate_left
            · (intro w hSw; (try dsimp only at hSw); go_simp; (try with_reducible rfl))
            simp only [List.setIfInBounds_toArray, List.set_cons_zero, List.set_cons_succ]
            refine heldY 4 17 ?_ _ rfl rfl (by kernel_rfl) (by kernel_rfl) (by kernel_rfl) (fun _ _ _ h => h) rfl (by assumption) ?_ ?_
            rotate_left
            · (intro w hSw; (try dsimp only at hSw); go_simp; (try with_reducible rfl))
            simp only [List.setIfInBounds_toArray, List.set_cons_zero, List.set_cons_succ]
            refine wpAnyH_ready (rs := [5]) (by kernel_rfl) (by simp) ?_
            refine AllReadyH.cons rfl (fun K hK => ?_) AllReadyH.nil
            go_simp
            first | (go_at_call 37; refine (TR _).mono ?_; rintro e w3 ⟨rfl, hb⟩) | (go_at_call 38; refine (NM _).mono ?_; rintro e w3 ⟨rfl, rfl⟩)
            refine hK.out _ _ ?_ (fun hHeld => ?_)
            · (try dsimp only); (first | assumption | exact hs | exact AtF.dr (w := w) (l := [(⟨b, o + k * 3, none⟩, .string X), (⟨b, o + k * 3 + 1, none⟩, .string Y)]) hs | exact AtF.dr (w := w) (l := [(⟨b, o + k * 3, none⟩, .string X), (⟨b, o + k * 3 + 1, none⟩, .string Y)]) (by assumption) | exact AtF.on (w := w) (l := [(⟨b, o + k * 3, none⟩, .string X), (⟨b, o + k * 3 + 1, none⟩, .string Y)]) (by assumption) (by assumption) | exact AtF.al (w := w) (l := [(⟨b, o + k * 3, none⟩, .string X), (⟨b, o + k * 3 + 1, none⟩, .string Y)]) (by assumption) _ | exact AtF.ald (w := w) (l := [(⟨b, o + k * 3, none⟩, .string X), (⟨b, o + k * 3 + 1, none⟩, .string Y)]) (by assumption) _ | exact AtF.al (w := w) (l := [(⟨b, o + k * 3, none⟩, .string X), (⟨b, o + k * 3 + 1, none⟩, .string Y)]) hs _ | exact AtF.ald (w := w) (l := [(⟨b, o + k * 3, none⟩, .string X), (⟨b, o + k * 3 + 1, none⟩, .string Y)]) hs _)
            clear hK K
            try simp only [Act.put, List.setIfInBounds_toArray, List.set_cons_zero, List.set_cons_succ]
            refine heldY 6 19 ?_ _ rfl rfl (by kernel_rfl) (by kernel_rfl) (by kernel_rfl) (fun _ _ _ h => h) rfl (by assumption) ?_ ?_
            rotate_left
            · (intro w hSw; (try dsimp only at hSw); go_simp; (try with_reducible rfl))
            simp only [List.setIfInBounds_toArray, List.set_cons_zero, List.set_cons_succ]
            refine heldY 7 20 ?_ _ rfl rfl (by kernel_rfl) (by kernel_rfl) (by kernel_rfl) (fun _ _ _ h => h) rfl (by assumption) ?_ ?_
            rotate_left
            · (intro w hSw; (try dsimp only at hSw); go_simp; (try with_reducible rfl))
            simp only [List.setIfInBounds_toArray, List.set_cons_zero, List.set_cons_succ]
            refine heldY 8 21 ?_ _ rfl rfl (by kernel_rfl) (by kernel_rfl) (by kernel_rfl) (fun _ _ _ h => h) rfl (by assumption) ?_ ?_
            rotate_left
            · (intro w hSw; (try dsimp only at hSw); go_simp; (try with_reducible rfl))
            simp only [List.setIfInBounds_toArray, List.set_cons_zero, List.set_cons_succ]
            refine heldY 9 22 ?_ _ rfl rfl (by kernel_rfl) (by kernel_rfl) (by kernel_rfl) (fun _ _ _ h => h) rfl (by assumption) ?_ ?_
            rotate_left
            · (intro w hSw; (try dsimp only at hSw); go_simp; (try with_reducible rfl))
            simp only [List.setIfInBounds_toArray, List.set_cons_zero, List.set_cons_succ]
            refine heldY 10 23 ?_ _ rfl rfl (by kernel_rfl) (by kernel_rfl) (by kernel_rfl) (fun _ _ _ h => h) rfl (by assumption) ?_ ?_
            rotate_left
            · (intro w hSw; (try dsimp only at hSw); go_simp; (try with_reducible rfl))
            simp only [List.setIfInBounds_toArray, List.set_cons_zero, List.set_cons_succ]
            refine heldY 11 24 ?_ _ rfl rfl (by kernel_rfl) (by kernel_rfl) (by kernel_rfl) (fun _ _ _ h => h) rfl (by assumption) ?_ ?_
            rotate_left
            · (intro w hSw; (try dsimp only at hSw); go_simp; (try with_reducible rfl))
            simp only [List.setIfInBounds_toArray, List.set_cons_zero, List.set_cons_succ]
            refine heldY 12 25 ?_ _ rfl rfl (by kernel_rfl) (by kernel_rfl) (by kernel_rfl) (fun _ _ _ h => h) rfl (by assumption) ?_ ?_
            rotate_left
            · (intro w hSw; (try dsimp only at hSw); go_simp; (try with_reducible rfl))
            simp only [List.setIfInBounds_toArray, List.set_cons_zero, List.set_cons_succ]
            refine wpAnyH_ready (rs := [13]) (by kernel_rfl) (by simp) ?_
            refine AllReadyH.cons rfl (fun K hK => ?_) AllReadyH.nil
            go_simp
            first | (go_at_call 37; refine (TR _).mono ?_; rintro e w3 ⟨rfl, hb⟩) | (go_at_call 38; refine (NM _).mono ?_; rintro e w3 ⟨rfl, rfl⟩)
            refine hK.out _ _ ?_ (fun hHeld => ?_)
            · (try dsimp only); (first | assumption | exact hs | exact AtF.dr (w := w) (l := [(⟨b, o + k * 3, none⟩, .string X), (⟨b, o + k * 3 + 1, none⟩, .string Y)]) hs | exact AtF.dr (w := w) (l := [(⟨b, o + k * 3, none⟩, .string X), (⟨b, o + k * 3 + 1, none⟩, .string Y)]) (by assumption) | exact AtF.on (w := w) (l := [(⟨b, o + k * 3, none⟩, .string X), (⟨b, o + k * 3 + 1, none⟩, .string Y)]) (by assumption) (by assumption) | exact AtF.al (w := w) (l := [(⟨b, o + k * 3, none⟩, .string X), (⟨b, o + k * 3 + 1, none⟩, .string Y)]) (by assumption) _ | exact AtF.ald (w := w) (l := [(⟨b, o + k * 3, none⟩, .string X), (⟨b, o + k * 3 + 1, none⟩, .string Y)]) (by assumption) _ | exact AtF.al (w := w) (l := [(⟨b, o + k * 3, none⟩, .string X), (⟨b, o + k * 3 + 1, none⟩, .string Y)]) hs _ | exact AtF.ald (w := w) (l := [(⟨b, o + k * 3, none⟩, .string X), (⟨b, o + k * 3 + 1, none⟩, .string Y)]) hs _)
            clear hK K
            try simp only [Act.put, List.setIfInBounds_toArray, List.set_cons_zero, List.set_cons_succ]
            refine heldY 14 27 ?_ _ rfl rfl (by kernel_rfl) (by kernel_rfl) (by kernel_rfl) (fun _ _ _ h => h) rfl (by assumption) ?_ ?_
            rotate_left
            · (intro w hSw; (try dsimp only at hSw); go_simp; (try with_reducible rfl))
            simp only [List.setIfInBounds_toArray, List.set_cons_zero, List.set_cons_succ]
            refine heldY 15 28 ?_ _ rfl rfl (by kernel_rfl) (by kernel_rfl) (by kernel_rfl) (fun _ _ _ h => h) rfl (by assumption) ?_ ?_
            rotate_left
            · (intro w hSw; (try dsimp only at hSw); go_simp; (try with_reducible rfl))
            simp only [List.setIfInBounds_toArray, List.set_cons_zero, List.set_cons_succ]
            refine heldY 16 29 ?_ _ rfl rfl (by kernel_rfl) (by kernel_rfl) (by kernel_rfl) (fun _ _ _ h => h) rfl (by assumption) ?_ ?_
            rotate_left
            · (intro w hSw; (try dsimp only at hSw); go_simp; (try with_reducible rfl))
            simp only [List.setIfInBounds_toArray, List.set_cons_zero, List.set_cons_succ]
            refine heldY 17 30 ?_ _ rfl rfl (by kernel_rfl) (by kernel_rfl) (by kernel_rfl) (fun _ _ _ h => h) rfl (by assumption) ?_ ?_
            rotate_left
            · (intro w hSw; (try dsimp only at hSw); go_simp; (try with_reducible rfl))
            simp only [List.setIfInBounds_toArray, List.set_cons_zero, List.set_cons_succ]
            refine heldY 18 31 ?_ _ rfl rfl (by kernel_rfl) (by kernel_rfl) (by kernel_rfl) (fun _ _ _ h => h) rfl (by assumption) ?_ ?_
            rotate_left
            · (intro w hSw; (try dsimp only at hSw); go_simp; (try with_reducible rfl))
            simp only [List.setIfInBounds_toArray, List.set_cons_zero, List.set_cons_succ]
            refine heldY 19 32 ?_ _ rfl rfl (by kernel_rfl) (by kernel_rfl) (by kernel_rfl) (fun _ _ _ h => h) rfl (by assumption) ?_ ?_
            rotate_left
            · (intro w hSw; (try dsimp only at hSw); go_simp; (try with_reducible rfl))
            simp only [List.setIfInBounds_toArray, List.set_cons_zero, List.set_cons_succ]
            refine heldNo 20 33 rfl (by kernel_rfl) (by kernel_rfl) (by kernel_rfl) (fun _ _ _ h => h) rfl (by assumption) ?_
            simp only [List.setIfInBounds_toArray, List.set_cons_zero, List.set_cons_succ]
            refine heldNo 21 34 rfl (by kernel_rfl) (by kernel_rfl) (by kernel_rfl) (fun _ _ _ h => h) rfl (by assumption) ?_
            simp only [List.setIfInBounds_toArray, List.set_cons_zero, List.set_cons_succ]
            refine heldNo 22 35 rfl (by kernel_rfl) (by kernel_rfl) (by kernel_rfl) (fun _ _ _ h => h) rfl (by assumption) ?_
            simp only [List.setIfInBounds_toArray, List.set_cons_zero, List.set_cons_succ]
            refine heldNo 23 36 rfl (by kernel_rfl) (by kernel_rfl) (by kernel_rfl) (fun _ _ _ h => h) rfl (by assumption) ?_
            simp only [List.setIfInBounds_toArray, List.set_cons_zero, List.set_cons_succ]
            refine heldNo 24 37 rfl (by kernel_rfl) (by kernel_rfl) (by kernel_rfl) (fun _ _ _ h => h) rfl (by assumption) ?_
            simp only [List.setIfInBounds_toArray, List.set_cons_zero, List.set_cons_succ]
            refine heldNo 25 38 rfl (by kernel_rfl) (by kernel_rfl) (by kernel_rfl) (fun _ _ _ h => h) rfl (by assumption) ?_
            simp only [List.setIfInBounds_toArray, List.set_cons_zero, List.set_cons_succ]
            refine heldNo 26 39 rfl (by kernel_rfl) (by kernel_rfl) (by kernel_rfl) (fun _ _ _ h => h) rfl (by assumption) ?_
            simp only [List.setIfInBounds_toArray, List.set_cons_zero, List.set_cons_succ]
            refine heldNo 27 40 rfl (by kernel_rfl) (by kernel_rfl) (by kernel_rfl) (fun _ _ _ h => h) rfl (by assumption) ?_
            simp only [List.setIfInBounds_toArray, List.set_cons_zero, List.set_cons_succ]
            refine heldNo 28 41 rfl (by kernel_rfl) (by kernel_rfl) (by kernel_rfl) (fun _ _ _ h => h) rfl (by assumption) ?_
            simp only [List.setIfInBounds_toArray, List.set_cons_zero, List.set_cons_succ]
            refine heldNo 29 42 rfl (by kernel_rfl) (by kernel_rfl) (by kernel_rfl) (fun _ _ _ h => h) rfl (by assumption) ?_
            simp only [List.setIfInBounds_toArray, List.set_cons_zero, List.set_cons_succ]
            refine heldNo 30 43 rfl (by kernel_rfl) (by kernel_rfl) (by kernel_rfl) (fun _ _ _ h => h) rfl (by assumption) ?_
            simp only [List.setIfInBounds_toArray, List.set_cons_zero, List.set_cons_succ]
            refine heldY 31 44 ?_ _ rfl rfl (by kernel_rfl) (by kernel_rfl) (by kernel_rfl) (fun _ _ _ h => h) rfl (by assumption) ?_ ?_
            rotate_left
            · (intro w hSw; (try dsimp only at hSw); go_simp; (try with_reducible rfl))
            simp only [List.setIfInBounds_toArray, List.set_cons_zero, List.set_cons_succ]
            refine heldY 32 45 ?_ _ rfl rfl (by kernel_rfl) (by kernel_rfl) (by kernel_rfl) (fun _ _ _ h => h) rfl (by assumption) ?_ ?_
            rotate_left
            · (intro w hSw; (try dsimp only at hSw); go_simp; (try with_reducible rfl))
            simp only [List.setIfInBounds_toArray, List.set_cons_zero, List.set_cons_succ]
            refine wpAnyH_done (by kernel_rfl) ?_ _
            have HW3 := Lib.hid (BE _ hHeld)
            clear hHeld
            go_wp2
            go_roundw
            case rel => exact ⟨k + 1, by omega, by go_num, HK, HW3⟩
            case measure => simp [intOf]; omega
    · obtain rfl : k = n := by omega
      have HF := Lib.hid (HOK.out (fun i x hx => H.out i x (by have := (List.getElem?_eq_some_iff.1 hx).1; rw [HN.out] at this; exact this) hx))
      clear hlt H HBAD HOK
      go_wp2
      go_ret
      exact ⟨reti HF.out, HB.out⟩
end Go.Proofs.YtceohgjfjndcmaaGreatDoor
