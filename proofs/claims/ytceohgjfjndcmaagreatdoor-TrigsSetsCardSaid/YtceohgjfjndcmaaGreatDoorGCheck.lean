/-
  The program's Check of interests: what it returns; nothing old turns. Condition: LaidP.
-/
import Derived.Test.YtceohgjfjndcmaaGreatDoorGSmall
namespace Go.Proofs.YtceohgjfjndcmaaGreatDoor
open Go.RowKit
def SmallI (l : List It) : Prop := ∀ x ∈ l, x.1.length ≤ 4000 ∧ x.2.1.length ≤ 4000
set_option maxRecDepth 100000 in
set_option maxHeartbeats 8000000 in
theorem checkI_any (v : Value) (l : List It) (hl : l.length ≤ 90000) (hs : SmallI l) (w : World) (hL : LaidP w) (h : HoldI w v l) :
    Calls Tryz.prog 11 #[v] w fun e w' => e = .returned (.int .i64 (chkI l)) ∧ Below w.heap.size w w' := by
  obtain ⟨a, c, b, o, rfl, hc, ha, hcell⟩ := h.parts
  have HC := Lib.hid hcell
  have HL := Lib.hid hL
  have HS := Lib.hid hs
  obtain ⟨Z, HZ⟩ : ∃ Z, Hid (chkI l = Z) := ⟨_, rfl⟩
  rw [HZ.out]
  obtain ⟨n, hN⟩ : ∃ n, l.length = n := ⟨_, rfl⟩
  rw [hN] at hc ha hl ⊢
  have HN := Lib.hid hN
  clear hcell hL hs hN h
  by_cases h64 : 64 < n
  · have HF : Hid ((22 : Int) = Z) := Lib.hid (by rw [← HZ.out, chkI_long (by rw [HN.out]; exact h64)])
    go_enter Tryz.func11, Tryz.ntmps11
    go_wp2
    go_ret
    exact ⟨reti HF.out, Below.refl _ _⟩
  have HBAD : Hid (∀ (i : Nat) x, l[i]? = some x → ¬ stepI l i x → (1 : Int) = Z) := Lib.hid (fun i x hx g => by rw [← HZ.out, chkI_no (by rw [HN.out]; exact h64) (fun q => g (q i x hx))])
  have HOK : Hid (StepsI l → (0 : Int) = Z) := Lib.hid (fun g => by rw [← HZ.out, chkI_ok (by rw [HN.out]; exact h64) g])
  clear HZ
  go_enter Tryz.func11, Tryz.ntmps11
  go_wp2
  go_loopw [10] (fun i wr => ∃ k : Nat, k ≤ n ∧ i = .int .i64 k ∧ Hid (∀ (j : Nat) x, j < k → l[j]? = some x → stepI l j x) ∧ Hid (Below w.heap.size w wr)) (fun i _ => n - (intOf i).toNat)
  case atStart => exact ⟨0, by omega, rfl, Lib.hid (fun j y hj => by omega), Lib.hid (Below.refl _ _)⟩
  case round =>
    obtain ⟨k, hk, rfl, H, HB⟩ := hrel
    by_cases hlt : k < n
    · obtain ⟨rfl, hbw⟩ := ha (by omega)
      obtain ⟨x, hx⟩ : ∃ x, l[k]? = some x := ⟨_, List.getElem?_eq_getElem (by rw [HN.out]; exact hlt)⟩
      obtain ⟨c0, c1, c2⟩ := HC.out k x hx
      rw [← HB.out.cell (p := ⟨b, o + k * 3, none⟩) hbw] at c0
      rw [← HB.out.cell (p := ⟨b, o + k * 3 + 1, none⟩) hbw] at c1
      rw [← HB.out.cell (p := ⟨b, o + k * 3 + 2, none⟩) hbw] at c2
      have hpm := List.mem_of_getElem? hx
      have RA := fun W (hb : Below w.heap.size w W) => rightI_any x (HS.out x hpm).1 (HS.out x hpm).2 W (HL.out.on hb)
      have HX := Lib.hid hx
      have hsz := HB.out.size
      have B0 := HB.out.alloc hsz (.cells #[.string (bsT x.1), .string (bsT x.2.1), .bool x.2.2] 53)
      obtain ⟨x0, x1, x2⟩ := boxV3 wr (.string (bsT x.1)) (.string (bsT x.2.1)) (.bool x.2.2) 53
      have hs := And.intro x0 (And.intro x1 (And.intro x2 B0))
      clear hx hpm x0 x1 x2 B0
      cases hq : rightI x
      · have HF := Lib.hid (HBAD.out k x HX.out (fun g => by rw [g.1] at hq; cases hq))
        simp only [hq] at RA
        clear hq H HBAD HOK HC HS HX
        unfold aggI at RA
        generalize bsT x.1 = X at *
        generalize bsT x.2.1 = Y at *
        generalize x.2.2 = z at *
        go_wp2
        generalize wr.alloc (.cells #[.string X, .string Y, .bool z] 53) = W2 at *
        generalize hb0 : wr.heap.size = b0 at *
        obtain ⟨x0, x1, x2, hB⟩ := hs
        have hs := And.intro x0 (And.intro x1 (And.intro x2 hB))
        clear hb0
        have BE := fun (V : World) (h : V.cell? ⟨b0, 0, none⟩ = some (.string X) ∧ V.cell? ⟨b0, 1, none⟩ = some (.string Y) ∧ V.cell? ⟨b0, 2, none⟩ = some (.bool z) ∧ Below w.heap.size w V) => AtF.be (w := w) (l := [(⟨b0, 0, none⟩, .string X), (⟨b0, 1, none⟩, .string Y), (⟨b0, 2, none⟩, .bool z)]) h
        refine wp_region_held_drew (S := (fun V => V.cell? ⟨b0, 0, none⟩ = some (.string X) ∧ V.cell? ⟨b0, 1, none⟩ = some (.string Y) ∧ V.cell? ⟨b0, 2, none⟩ = some (.bool z) ∧ Below w.heap.size w V)) (by kernel_rfl) ?_ (fun hHeld => ?_)
        · (try dsimp only); (first | assumption | exact hs | exact AtF.dr (w := w) (l := [(⟨b0, 0, none⟩, .string X), (⟨b0, 1, none⟩, .string Y), (⟨b0, 2, none⟩, .bool z)]) hs | exact AtF.dr (w := w) (l := [(⟨b0, 0, none⟩, .string X), (⟨b0, 1, none⟩, .string Y), (⟨b0, 2, none⟩, .bool z)]) (by assumption) | exact AtF.on (w := w) (l := [(⟨b0, 0, none⟩, .string X), (⟨b0, 1, none⟩, .string Y), (⟨b0, 2, none⟩, .bool z)]) (by assumption) (by assumption) | exact AtF.al (w := w) (l := [(⟨b0, 0, none⟩, .string X), (⟨b0, 1, none⟩, .string Y), (⟨b0, 2, none⟩, .bool z)]) (by assumption) _ | exact AtF.ald (w := w) (l := [(⟨b0, 0, none⟩, .string X), (⟨b0, 1, none⟩, .string Y), (⟨b0, 2, none⟩, .bool z)]) (by assumption) _ | exact AtF.al (w := w) (l := [(⟨b0, 0, none⟩, .string X), (⟨b0, 1, none⟩, .string Y), (⟨b0, 2, none⟩, .bool z)]) hs _ | exact AtF.ald (w := w) (l := [(⟨b0, 0, none⟩, .string X), (⟨b0, 1, none⟩, .string Y), (⟨b0, 2, none⟩, .bool z)]) hs _)
        refine heldY 0 15 ?_ _ rfl rfl (by kernel_rfl) (by kernel_rfl) (by kernel_rfl) (fun _ _ _ h => h) rfl (by assumption) ?_ ?_
        rotate_left
        · (intro w hSw; (try dsimp only at hSw); go_simp; (try with_reducible rfl))
        simp only [List.setIfInBounds_toArray, List.set_cons_zero, List.set_cons_succ]
        refine wpAnyH_ready (rs := [1]) (by kernel_rfl) (by simp) ?_
        refine AllReadyH.cons rfl (fun K hK => ?_) AllReadyH.nil
        go_simp
        go_at_call 35; refine (RA _ (BE _ (by assumption))).mono ?_; rintro e w3 ⟨rfl, hb⟩
        refine hK.out _ _ ?_ (fun hHeld => ?_)
        · (try dsimp only); (first | assumption | exact hs | exact AtF.dr (w := w) (l := [(⟨b0, 0, none⟩, .string X), (⟨b0, 1, none⟩, .string Y), (⟨b0, 2, none⟩, .bool z)]) hs | exact AtF.dr (w := w) (l := [(⟨b0, 0, none⟩, .string X), (⟨b0, 1, none⟩, .string Y), (⟨b0, 2, none⟩, .bool z)]) (by assumption) | exact AtF.on (w := w) (l := [(⟨b0, 0, none⟩, .string X), (⟨b0, 1, none⟩, .string Y), (⟨b0, 2, none⟩, .bool z)]) (by assumption) (by assumption) | exact AtF.al (w := w) (l := [(⟨b0, 0, none⟩, .string X), (⟨b0, 1, none⟩, .string Y), (⟨b0, 2, none⟩, .bool z)]) (by assumption) _ | exact AtF.ald (w := w) (l := [(⟨b0, 0, none⟩, .string X), (⟨b0, 1, none⟩, .string Y), (⟨b0, 2, none⟩, .bool z)]) (by assumption) _ | exact AtF.al (w := w) (l := [(⟨b0, 0, none⟩, .string X), (⟨b0, 1, none⟩, .string Y), (⟨b0, 2, none⟩, .bool z)]) hs _ | exact AtF.ald (w := w) (l := [(⟨b0, 0, none⟩, .string X), (⟨b0, 1, none⟩, .string Y), (⟨b0, 2, none⟩, .bool z)]) hs _)
        clear hK K
        try simp only [Act.put, List.setIfInBounds_toArray, List.set_cons_zero, List.set_cons_succ]
        refine heldY 2 17 ?_ _ rfl rfl (by kernel_rfl) (by kernel_rfl) (by kernel_rfl) (fun _ _ _ h => h) rfl (by assumption) ?_ ?_
        rotate_left
        · (intro w hSw; (try dsimp only at hSw); go_simp; (try with_reducible rfl))
        simp only [List.setIfInBounds_toArray, List.set_cons_zero, List.set_cons_succ]
        refine heldY 3 18 ?_ _ rfl rfl (by kernel_rfl) (by kernel_rfl) (by kernel_rfl) (fun _ _ _ h => h) rfl (by assumption) ?_ ?_
        rotate_left
        · (intro w hSw; (try dsimp only at hSw); go_simp; (try with_reducible rfl))
        simp only [List.setIfInBounds_toArray, List.set_cons_zero, List.set_cons_succ]
        refine heldNo 4 19 rfl (by kernel_rfl) (by kernel_rfl) (by kernel_rfl) (fun _ _ _ h => h) rfl (by assumption) ?_
        simp only [List.setIfInBounds_toArray, List.set_cons_zero, List.set_cons_succ]
        refine heldNo 5 20 rfl (by kernel_rfl) (by kernel_rfl) (by kernel_rfl) (fun _ _ _ h => h) rfl (by assumption) ?_
        simp only [List.setIfInBounds_toArray, List.set_cons_zero, List.set_cons_succ]
        refine heldNo 6 21 rfl (by kernel_rfl) (by kernel_rfl) (by kernel_rfl) (fun _ _ _ h => h) rfl (by assumption) ?_
        simp only [List.setIfInBounds_toArray, List.set_cons_zero, List.set_cons_succ]
        refine heldNo 7 22 rfl (by kernel_rfl) (by kernel_rfl) (by kernel_rfl) (fun _ _ _ h => h) rfl (by assumption) ?_
        simp only [List.setIfInBounds_toArray, List.set_cons_zero, List.set_cons_succ]
        refine heldNo 8 23 rfl (by kernel_rfl) (by kernel_rfl) (by kernel_rfl) (fun _ _ _ h => h) rfl (by assumption) ?_
        simp only [List.setIfInBounds_toArray, List.set_cons_zero, List.set_cons_succ]
        refine heldNo 9 24 rfl (by kernel_rfl) (by kernel_rfl) (by kernel_rfl) (fun _ _ _ h => h) rfl (by assumption) ?_
        simp only [List.setIfInBounds_toArray, List.set_cons_zero, List.set_cons_succ]
        refine heldNo 10 25 rfl (by kernel_rfl) (by kernel_rfl) (by kernel_rfl) (fun _ _ _ h => h) rfl (by assumption) ?_
        simp only [List.setIfInBounds_toArray, List.set_cons_zero, List.set_cons_succ]
        refine heldNo 11 26 rfl (by kernel_rfl) (by kernel_rfl) (by kernel_rfl) (fun _ _ _ h => h) rfl (by assumption) ?_
        simp only [List.setIfInBounds_toArray, List.set_cons_zero, List.set_cons_succ]
        refine heldNo 12 27 rfl (by kernel_rfl) (by kernel_rfl) (by kernel_rfl) (fun _ _ _ h => h) rfl (by assumption) ?_
        simp only [List.setIfInBounds_toArray, List.set_cons_zero, List.set_cons_succ]
        refine heldNo 13 28 rfl (by kernel_rfl) (by kernel_rfl) (by kernel_rfl) (fun _ _ _ h => h) rfl (by assumption) ?_
        simp only [List.setIfInBounds_toArray, List.set_cons_zero, List.set_cons_succ]
        refine heldNo 14 29 rfl (by kernel_rfl) (by kernel_rfl) (by kernel_rfl) (fun _ _ _ h => h) rfl (by assumption) ?_
        simp only [List.setIfInBounds_toArray, List.set_cons_zero, List.set_cons_succ]
        refine heldNo 15 30 rfl (by kernel_rfl) (by kernel_rfl) (by kernel_rfl) (fun _ _ _ h => h) rfl (by assumption) ?_
        simp only [List.setIfInBounds_toArray, List.set_cons_zero, List.set_cons_succ]
        refine heldY 16 31 ?_ _ rfl rfl (by kernel_rfl) (by kernel_rfl) (by kernel_rfl) (fun _ _ _ h => h) rfl (by assumption) ?_ ?_
        rotate_left
        · (intro w hSw; (try dsimp only at hSw); go_simp; (try with_reducible rfl))
        simp only [List.setIfInBounds_toArray, List.set_cons_zero, List.set_cons_succ]
        refine wpAnyH_done (by kernel_rfl) ?_ _
        have HW3 := Lib.hid (BE _ hHeld)
        clear hHeld
        go_wp2
        go_ret
        exact ⟨reti HF.out, HW3.out⟩
      · simp only [hq] at RA
        by_cases hk0 : 0 < k
        · obtain ⟨y, hy⟩ : ∃ y, l[k - 1]? = some y := ⟨_, List.getElem?_eq_getElem (by rw [HN.out]; omega)⟩
          obtain ⟨e0, e1, e2⟩ := HC.out (k - 1) y hy
          rw [← HB.out.cell (p := ⟨b, o + (k - 1) * 3, none⟩) hbw] at e0
          rw [← HB.out.cell (p := ⟨b, o + (k - 1) * 3 + 1, none⟩) hbw] at e1
          rw [← HB.out.cell (p := ⟨b, o + (k - 1) * 3 + 2, none⟩) hbw] at e2
          have hbwr : b < wr.heap.size := Nat.lt_of_lt_of_le hbw hsz
          have hB1 := (Below.refl wr.heap.size wr).alloc (Nat.le_refl _) (.cells #[.string (bsT x.1), .string (bsT x.2.1), .bool x.2.2] 53)
          have e0 := (hB1.cell (p := ⟨b, o + (k - 1) * 3, none⟩) hbwr).trans e0
          have e1 := (hB1.cell (p := ⟨b, o + (k - 1) * 3 + 1, none⟩) hbwr).trans e1
          have e2 := (hB1.cell (p := ⟨b, o + (k - 1) * 3 + 2, none⟩) hbwr).trans e2
          have CP := fun W => compare_any y x W
          have hways := cmpI_ways y x
          have HBADk : Hid (¬ lessI y x → (1 : Int) = Z) := Lib.hid (fun g => HBAD.out k x HX.out (fun q => g (q.2 y hk0 hy)))
          have HNEXT : Hid (lessI y x → ∀ (j : Nat) u, j < k + 1 → l[j]? = some u → stepI l j u) := Lib.hid (fun g j u hj hu => by
            by_cases ej : j = k
            · subst ej
              rw [HX.out] at hu; cases hu
              exact ⟨hq, fun u h1 h2 => by rw [hy] at h2; cases h2; exact g⟩
            · exact H.out j u (by omega) hu)
          have HCASE : Hid ((cmpI y x = -1 ∧ ∀ (j : Nat) u, j < k + 1 → l[j]? = some u → stepI l j u) ∨ ((cmpI y x = 0 ∨ cmpI y x = 1) ∧ (1 : Int) = Z)) := Lib.hid (by
            rcases hways with ⟨h1, h2⟩ | ⟨h1, h2, _⟩ | ⟨h1, h2, _⟩
            · exact .inl ⟨h1, HNEXT.out h2⟩
            · exact .inr ⟨.inl h1, HBADk.out h2⟩
            · exact .inr ⟨.inr h1, HBADk.out h2⟩)
          generalize cmpI y x = q at *
          clear hq H HBAD HC HS HX hy hB1 hways HBADk HNEXT
          unfold aggI at RA CP
          generalize bsT x.1 = X at *
          generalize bsT x.2.1 = Y at *
          generalize x.2.2 = z at *
          generalize bsT y.1 = X' at *
          generalize bsT y.2.1 = Y' at *
          generalize y.2.2 = z' at *
          go_wp2
          generalize wr.alloc (.cells #[.string X, .string Y, .bool z] 53) = W2 at *
          generalize hb0 : wr.heap.size = b0 at *
          obtain ⟨x0, x1, x2, hB⟩ := hs
          have hs := And.intro x0 (And.intro x1 (And.intro x2 (And.intro e0 (And.intro e1 (And.intro e2 hB)))))
          clear hb0
          have hd : decide ((0 : Int) < (k : Int)) = true := decide_eq_true (by omega)
          have hk1 : (1 : Int) ≤ (k : Int) := by omega
          have i0 : (0 : Int) ≤ (k : Int) - 1 := by omega
          have i1 : (k : Int) - 1 < (n : Int) := by omega
          have i2 : ((k : Int) - 1).toNat = k - 1 := by omega
          have i3 : IntKind.i64.wrap ((k : Int) - 1) = (k : Int) - 1 := IntWalk.i64_in _ (by omega)
          have BE := fun (V : World) (h : V.cell? ⟨b0, 0, none⟩ = some (.string X) ∧ V.cell? ⟨b0, 1, none⟩ = some (.string Y) ∧ V.cell? ⟨b0, 2, none⟩ = some (.bool z) ∧ V.cell? ⟨b, o + (k - 1) * 3, none⟩ = some (.string X') ∧ V.cell? ⟨b, o + (k - 1) * 3 + 1, none⟩ = some (.string Y') ∧ V.cell? ⟨b, o + (k - 1) * 3 + 2, none⟩ = some (.bool z') ∧ Below w.heap.size w V) => AtF.be (w := w) (l := [(⟨b0, 0, none⟩, .string X), (⟨b0, 1, none⟩, .string Y), (⟨b0, 2, none⟩, .bool z), (⟨b, o + (k - 1) * 3, none⟩, .string X'), (⟨b, o + (k - 1) * 3 + 1, none⟩, .string Y'), (⟨b, o + (k - 1) * 3 + 2, none⟩, .bool z')]) h
          refine wp_region_held_drew (S := (fun V => V.cell? ⟨b0, 0, none⟩ = some (.string X) ∧ V.cell? ⟨b0, 1, none⟩ = some (.string Y) ∧ V.cell? ⟨b0, 2, none⟩ = some (.bool z) ∧ V.cell? ⟨b, o + (k - 1) * 3, none⟩ = some (.string X') ∧ V.cell? ⟨b, o + (k - 1) * 3 + 1, none⟩ = some (.string Y') ∧ V.cell? ⟨b, o + (k - 1) * 3 + 2, none⟩ = some (.bool z') ∧ Below w.heap.size w V)) (by kernel_rfl) ?_ (fun hHeld => ?_)
          · (try dsimp only); (first | assumption | exact hs | exact AtF.dr (w := w) (l := [(⟨b0, 0, none⟩, .string X), (⟨b0, 1, none⟩, .string Y), (⟨b0, 2, none⟩, .bool z), (⟨b, o + (k - 1) * 3, none⟩, .string X'), (⟨b, o + (k - 1) * 3 + 1, none⟩, .string Y'), (⟨b, o + (k - 1) * 3 + 2, none⟩, .bool z')]) hs | exact AtF.dr (w := w) (l := [(⟨b0, 0, none⟩, .string X), (⟨b0, 1, none⟩, .string Y), (⟨b0, 2, none⟩, .bool z), (⟨b, o + (k - 1) * 3, none⟩, .string X'), (⟨b, o + (k - 1) * 3 + 1, none⟩, .string Y'), (⟨b, o + (k - 1) * 3 + 2, none⟩, .bool z')]) (by assumption) | exact AtF.on (w := w) (l := [(⟨b0, 0, none⟩, .string X), (⟨b0, 1, none⟩, .string Y), (⟨b0, 2, none⟩, .bool z), (⟨b, o + (k - 1) * 3, none⟩, .string X'), (⟨b, o + (k - 1) * 3 + 1, none⟩, .string Y'), (⟨b, o + (k - 1) * 3 + 2, none⟩, .bool z')]) (by assumption) (by assumption) | exact AtF.al (w := w) (l := [(⟨b0, 0, none⟩, .string X), (⟨b0, 1, none⟩, .string Y), (⟨b0, 2, none⟩, .bool z), (⟨b, o + (k - 1) * 3, none⟩, .string X'), (⟨b, o + (k - 1) * 3 + 1, none⟩, .string Y'), (⟨b, o + (k - 1) * 3 + 2, none⟩, .bool z')]) (by assumption) _ | exact AtF.ald (w := w) (l := [(⟨b0, 0, none⟩, .string X), (⟨b0, 1, none⟩, .string Y), (⟨b0, 2, none⟩, .bool z), (⟨b, o + (k - 1) * 3, none⟩, .string X'), (⟨b, o + (k - 1) * 3 + 1, none⟩, .string Y'), (⟨b, o + (k - 1) * 3 + 2, none⟩, .bool z')]) (by assumption) _ | exact AtF.al (w := w) (l := [(⟨b0, 0, none⟩, .string X), (⟨b0, 1, none⟩, .string Y), (⟨b0, 2, none⟩, .bool z), (⟨b, o + (k - 1) * 3, none⟩, .string X'), (⟨b, o + (k - 1) * 3 + 1, none⟩, .string Y'), (⟨b, o + (k - 1) * 3 + 2, none⟩, .bool z')]) hs _ | exact AtF.ald (w := w) (l := [(⟨b0, 0, none⟩, .string X), (⟨b0, 1, none⟩, .string Y), (⟨b0, 2, none⟩, .bool z), (⟨b, o + (k - 1) * 3, none⟩, .string X'), (⟨b, o + (k - 1) * 3 + 1, none⟩, .string Y'), (⟨b, o + (k - 1) * 3 + 2, none⟩, .bool z')]) hs _)
          refine heldY 0 15 ?_ _ rfl rfl (by kernel_rfl) (by kernel_rfl) (by kernel_rfl) (fun _ _ _ h => h) rfl (by assumption) ?_ ?_
          rotate_left
          · (intro w hSw; (try dsimp only at hSw); go_simp; (try with_reducible rfl))
          simp only [List.setIfInBounds_toArray, List.set_cons_zero, List.set_cons_succ]
          refine wpAnyH_ready (rs := [1]) (by kernel_rfl) (by simp) ?_
          refine AllReadyH.cons rfl (fun K hK => ?_) AllReadyH.nil
          go_simp
          first | (go_at_call 35; refine (RA _ (BE _ (by assumption))).mono ?_; rintro e w3 ⟨rfl, hb⟩) | (go_at_call 36; refine (CP _).mono ?_; rintro e w3 ⟨rfl, hb⟩)
          refine hK.out _ _ ?_ (fun hHeld => ?_)
          · (try dsimp only); (first | assumption | exact hs | exact AtF.dr (w := w) (l := [(⟨b0, 0, none⟩, .string X), (⟨b0, 1, none⟩, .string Y), (⟨b0, 2, none⟩, .bool z), (⟨b, o + (k - 1) * 3, none⟩, .string X'), (⟨b, o + (k - 1) * 3 + 1, none⟩, .string Y'), (⟨b, o + (k - 1) * 3 + 2, none⟩, .bool z')]) hs | exact AtF.dr (w := w) (l := [(⟨b0, 0, none⟩, .string X), (⟨b0, 1, none⟩, .string Y), (⟨b0, 2, none⟩, .bool z), (⟨b, o + (k - 1) * 3, none⟩, .string X'), (⟨b, o + (k - 1) * 3 + 1, none⟩, .string Y'), (⟨b, o + (k - 1) * 3 + 2, none⟩, .bool z')]) (by assumption) | exact AtF.on (w := w) (l := [(⟨b0, 0, none⟩, .string X), (⟨b0, 1, none⟩, .string Y), (⟨b0, 2, none⟩, .bool z), (⟨b, o + (k - 1) * 3, none⟩, .string X'), (⟨b, o + (k - 1) * 3 + 1, none⟩, .string Y'), (⟨b, o + (k - 1) * 3 + 2, none⟩, .bool z')]) (by assumption) (by assumption) | exact AtF.al (w := w) (l := [(⟨b0, 0, none⟩, .string X), (⟨b0, 1, none⟩, .string Y), (⟨b0, 2, none⟩, .bool z), (⟨b, o + (k - 1) * 3, none⟩, .string X'), (⟨b, o + (k - 1) * 3 + 1, none⟩, .string Y'), (⟨b, o + (k - 1) * 3 + 2, none⟩, .bool z')]) (by assumption) _ | exact AtF.ald (w := w) (l := [(⟨b0, 0, none⟩, .string X), (⟨b0, 1, none⟩, .string Y), (⟨b0, 2, none⟩, .bool z), (⟨b, o + (k - 1) * 3, none⟩, .string X'), (⟨b, o + (k - 1) * 3 + 1, none⟩, .string Y'), (⟨b, o + (k - 1) * 3 + 2, none⟩, .bool z')]) (by assumption) _ | exact AtF.al (w := w) (l := [(⟨b0, 0, none⟩, .string X), (⟨b0, 1, none⟩, .string Y), (⟨b0, 2, none⟩, .bool z), (⟨b, o + (k - 1) * 3, none⟩, .string X'), (⟨b, o + (k - 1) * 3 + 1, none⟩, .string Y'), (⟨b, o + (k - 1) * 3 + 2, none⟩, .bool z')]) hs _ | exact AtF.ald (w := w) (l := [(⟨b0, 0, none⟩, .string X), (⟨b0, 1, none⟩, .string Y), (⟨b0, 2, none⟩, .bool z), (⟨b, o + (k - 1) * 3, none⟩, .string X'), (⟨b, o + (k - 1) * 3 + 1, none⟩, .string Y'), (⟨b, o + (k - 1) * 3 + 2, none⟩, .bool z')]) hs _)
          clear hK K
          try simp only [Act.put, List.setIfInBounds_toArray, List.set_cons_zero, List.set_cons_succ]
          refine heldY 2 17 ?_ _ rfl rfl (by kernel_rfl) (by kernel_rfl) (by kernel_rfl) (fun _ _ _ h => h) rfl (by assumption) ?_ ?_
          rotate_left
          · (intro w hSw; (try dsimp only at hSw); go_simp; (try with_reducible rfl))
          simp only [List.setIfInBounds_toArray, List.set_cons_zero, List.set_cons_succ]
          refine heldY 3 18 ?_ _ rfl rfl (by kernel_rfl) (by kernel_rfl) (by kernel_rfl) (fun _ _ _ h => h) rfl (by assumption) ?_ ?_
          rotate_left
          · (intro w hSw; (try dsimp only at hSw); go_simp; (try with_reducible rfl))
          simp only [List.setIfInBounds_toArray, List.set_cons_zero, List.set_cons_succ]
          refine heldY 4 19 ?_ _ rfl rfl (by kernel_rfl) (by kernel_rfl) (by kernel_rfl) (fun _ _ _ h => h) rfl (by assumption) ?_ ?_
          rotate_left
          · (intro w hSw; (try dsimp only at hSw); go_simp; (try with_reducible rfl))
          simp only [List.setIfInBounds_toArray, List.set_cons_zero, List.set_cons_succ]
          refine heldY 5 20 ?_ _ rfl rfl (by kernel_rfl) (by kernel_rfl) (by kernel_rfl) (fun _ _ _ h => h) rfl (by assumption) ?_ ?_
          rotate_left
          · (intro w hSw; (try dsimp only at hSw); go_simp; (try with_reducible rfl))
          simp only [List.setIfInBounds_toArray, List.set_cons_zero, List.set_cons_succ]
          refine heldY 6 21 ?_ _ rfl rfl (by kernel_rfl) (by kernel_rfl) (by kernel_rfl) (fun _ _ _ h => h) rfl (by assumption) ?_ ?_
          rotate_left
          · (intro w hSw; (try dsimp only at hSw); go_simp; (try with_reducible rfl))
          simp only [List.setIfInBounds_toArray, List.set_cons_zero, List.set_cons_succ]
          refine heldY 7 22 ?_ _ rfl rfl (by kernel_rfl) (by kernel_rfl) (by kernel_rfl) (fun _ _ _ h => h) rfl (by assumption) ?_ ?_
          rotate_left
          · (intro w hSw; (try dsimp only at hSw); go_simp; (try with_reducible rfl))
          simp only [List.setIfInBounds_toArray, List.set_cons_zero, List.set_cons_succ]
          refine heldY 8 23 ?_ _ rfl rfl (by kernel_rfl) (by kernel_rfl) (by kernel_rfl) (fun _ _ _ h => h) rfl (by assumption) ?_ ?_
          rotate_left
          · (intro w hSw; (try dsimp only at hSw); go_simp; (try with_reducible rfl))
          simp only [List.setIfInBounds_toArray, List.set_cons_zero, List.set_cons_succ]
          refine heldY 9 24 ?_ _ rfl rfl (by kernel_rfl) (by kernel_rfl) (by kernel_rfl) (fun _ _ _ h => h) rfl (by assumption) ?_ ?_
          rotate_left
          · (intro w hSw; (try dsimp only at hSw); go_simp; (try with_reducible rfl))
          simp only [List.setIfInBounds_toArray, List.set_cons_zero, List.set_cons_succ]
          refine heldY 10 25 ?_ _ rfl rfl (by kernel_rfl) (by kernel_rfl) (by kernel_rfl) (fun _ _ _ h => h) rfl (by assumption) ?_ ?_
          rotate_left
          · (intro w hSw; (try dsimp only at hSw); go_simp; (try with_reducible rfl))
          simp only [List.setIfInBounds_toArray, List.set_cons_zero, List.set_cons_succ]
          refine heldY 11 26 ?_ _ rfl rfl (by kernel_rfl) (by kernel_rfl) (by kernel_rfl) (fun _ _ _ h => h) rfl (by assumption) ?_ ?_
          rotate_left
          · (intro w hSw; (try dsimp only at hSw); go_simp; (try with_reducible rfl))
          simp only [List.setIfInBounds_toArray, List.set_cons_zero, List.set_cons_succ]
          refine heldY 12 27 ?_ _ rfl rfl (by kernel_rfl) (by kernel_rfl) (by kernel_rfl) (fun _ _ _ h => h) rfl (by assumption) ?_ ?_
          rotate_left
          · (intro w hSw; (try dsimp only at hSw); go_simp; (try with_reducible rfl))
          simp only [List.setIfInBounds_toArray, List.set_cons_zero, List.set_cons_succ]
          refine wpAnyH_ready (rs := [13]) (by kernel_rfl) (by simp) ?_
          refine AllReadyH.cons rfl (fun K hK => ?_) AllReadyH.nil
          go_simp
          first | (go_at_call 35; refine (RA _ (BE _ (by assumption))).mono ?_; rintro e w3 ⟨rfl, hb⟩) | (go_at_call 36; refine (CP _).mono ?_; rintro e w3 ⟨rfl, hb⟩)
          refine hK.out _ _ ?_ (fun hHeld => ?_)
          · (try dsimp only); (first | assumption | exact hs | exact AtF.dr (w := w) (l := [(⟨b0, 0, none⟩, .string X), (⟨b0, 1, none⟩, .string Y), (⟨b0, 2, none⟩, .bool z), (⟨b, o + (k - 1) * 3, none⟩, .string X'), (⟨b, o + (k - 1) * 3 + 1, none⟩, .string Y'), (⟨b, o + (k - 1) * 3 + 2, none⟩, .bool z')]) hs | exact AtF.dr (w := w) (l := [(⟨b0, 0, none⟩, .string X), (⟨b0, 1, none⟩, .string Y), (⟨b0, 2, none⟩, .bool z), (⟨b, o + (k - 1) * 3, none⟩, .string X'), (⟨b, o + (k - 1) * 3 + 1, none⟩, .string Y'), (⟨b, o + (k - 1) * 3 + 2, none⟩, .bool z')]) (by assumption) | exact AtF.on (w := w) (l := [(⟨b0, 0, none⟩, .string X), (⟨b0, 1, none⟩, .string Y), (⟨b0, 2, none⟩, .bool z), (⟨b, o + (k - 1) * 3, none⟩, .string X'), (⟨b, o + (k - 1) * 3 + 1, none⟩, .string Y'), (⟨b, o + (k - 1) * 3 + 2, none⟩, .bool z')]) (by assumption) (by assumption) | exact AtF.al (w := w) (l := [(⟨b0, 0, none⟩, .string X), (⟨b0, 1, none⟩, .string Y), (⟨b0, 2, none⟩, .bool z), (⟨b, o + (k - 1) * 3, none⟩, .string X'), (⟨b, o + (k - 1) * 3 + 1, none⟩, .string Y'), (⟨b, o + (k - 1) * 3 + 2, none⟩, .bool z')]) (by assumption) _ | exact AtF.ald (w := w) (l := [(⟨b0, 0, none⟩, .string X), (⟨b0, 1, none⟩, .string Y), (⟨b0, 2, none⟩, .bool z), (⟨b, o + (k - 1) * 3, none⟩, .string X'), (⟨b, o + (k - 1) * 3 + 1, none⟩, .string Y'), (⟨b, o + (k - 1) * 3 + 2, none⟩, .bool z')]) (by assumption) _ | exact AtF.al (w := w) (l := [(⟨b0, 0, none⟩, .string X), (⟨b0, 1, none⟩, .string Y), (⟨b0, 2, none⟩, .bool z), (⟨b, o + (k - 1) * 3, none⟩, .string X'), (⟨b, o + (k - 1) * 3 + 1, none⟩, .string Y'), (⟨b, o + (k - 1) * 3 + 2, none⟩, .bool z')]) hs _ | exact AtF.ald (w := w) (l := [(⟨b0, 0, none⟩, .string X), (⟨b0, 1, none⟩, .string Y), (⟨b0, 2, none⟩, .bool z), (⟨b, o + (k - 1) * 3, none⟩, .string X'), (⟨b, o + (k - 1) * 3 + 1, none⟩, .string Y'), (⟨b, o + (k - 1) * 3 + 2, none⟩, .bool z')]) hs _)
          clear hK K
          try simp only [Act.put, List.setIfInBounds_toArray, List.set_cons_zero, List.set_cons_succ]
          refine heldY 14 29 ?_ _ rfl rfl (by kernel_rfl) (by kernel_rfl) (by kernel_rfl) (fun _ _ _ h => h) rfl (by assumption) ?_ ?_
          rotate_left
          · (intro w hSw; (try dsimp only at hSw); go_simp; (try with_reducible rfl))
          simp only [List.setIfInBounds_toArray, List.set_cons_zero, List.set_cons_succ]
          refine heldY 15 30 ?_ _ rfl rfl (by kernel_rfl) (by kernel_rfl) (by kernel_rfl) (fun _ _ _ h => h) rfl (by assumption) ?_ ?_
          rotate_left
          · (intro w hSw; (try dsimp only at hSw); go_simp; (try with_reducible rfl))
          simp only [List.setIfInBounds_toArray, List.set_cons_zero, List.set_cons_succ]
          refine heldY 16 31 ?_ _ rfl rfl (by kernel_rfl) (by kernel_rfl) (by kernel_rfl) (fun _ _ _ h => h) rfl (by assumption) ?_ ?_
          rotate_left
          · (intro w hSw; (try dsimp only at hSw); go_simp; (try with_reducible rfl))
          simp only [List.setIfInBounds_toArray, List.set_cons_zero, List.set_cons_succ]
          refine wpAnyH_done (by kernel_rfl) ?_ _
          have HW3 := Lib.hid (BE _ hHeld)
          clear hHeld i2 i3
          rcases HCASE.out with ⟨hq, HK⟩ | ⟨hq, HF⟩
          · subst hq
            have HK := Lib.hid HK
            go_wp2
            go_roundw
            case rel => exact ⟨k + 1, by omega, by go_num, HK, HW3⟩
            case measure => simp [intOf]; omega
          · have HF := Lib.hid HF
            have hq0 : 0 ≤ q := by omega
            clear hq
            go_wp2
            go_ret
            exact ⟨reti HF.out, HW3.out⟩
        · have HK : Hid (∀ (j : Nat) u, j < k + 1 → l[j]? = some u → stepI l j u) := Lib.hid (fun j u hj hu => by
            obtain rfl : j = k := by omega
            rw [HX.out] at hu; cases hu
            exact ⟨hq, fun _ h1 => absurd h1 hk0⟩)
          have hd : decide ((0 : Int) < (k : Int)) = false := decide_eq_false (by omega)
          clear hq H HBAD HOK HC HS HX
          unfold aggI at RA
          generalize bsT x.1 = X at *
          generalize bsT x.2.1 = Y at *
          generalize x.2.2 = z at *
          go_wp2
          generalize wr.alloc (.cells #[.string X, .string Y, .bool z] 53) = W2 at *
          generalize hb0 : wr.heap.size = b0 at *
          obtain ⟨x0, x1, x2, hB⟩ := hs
          have hs := And.intro x0 (And.intro x1 (And.intro x2 hB))
          clear hb0
          have BE := fun (V : World) (h : V.cell? ⟨b0, 0, none⟩ = some (.string X) ∧ V.cell? ⟨b0, 1, none⟩ = some (.string Y) ∧ V.cell? ⟨b0, 2, none⟩ = some (.bool z) ∧ Below w.heap.size w V) => AtF.be (w := w) (l := [(⟨b0, 0, none⟩, .string X), (⟨b0, 1, none⟩, .string Y), (⟨b0, 2, none⟩, .bool z)]) h
          refine wp_region_held_drew (S := (fun V => V.cell? ⟨b0, 0, none⟩ = some (.string X) ∧ V.cell? ⟨b0, 1, none⟩ = some (.string Y) ∧ V.cell? ⟨b0, 2, none⟩ = some (.bool z) ∧ Below w.heap.size w V)) (by kernel_rfl) ?_ (fun hHeld => ?_)
          · (try dsimp only); (first | assumption | exact hs | exact AtF.dr (w := w) (l := [(⟨b0, 0, none⟩, .string X), (⟨b0, 1, none⟩, .string Y), (⟨b0, 2, none⟩, .bool z)]) hs | exact AtF.dr (w := w) (l := [(⟨b0, 0, none⟩, .string X), (⟨b0, 1, none⟩, .string Y), (⟨b0, 2, none⟩, .bool z)]) (by assumption) | exact AtF.on (w := w) (l := [(⟨b0, 0, none⟩, .string X), (⟨b0, 1, none⟩, .string Y), (⟨b0, 2, none⟩, .bool z)]) (by assumption) (by assumption) | exact AtF.al (w := w) (l := [(⟨b0, 0, none⟩, .string X), (⟨b0, 1, none⟩, .string Y), (⟨b0, 2, none⟩, .bool z)]) (by assumption) _ | exact AtF.ald (w := w) (l := [(⟨b0, 0, none⟩, .string X), (⟨b0, 1, none⟩, .string Y), (⟨b0, 2, none⟩, .bool z)]) (by assumption) _ | exact AtF.al (w := w) (l := [(⟨b0, 0, none⟩, .string X), (⟨b0, 1, none⟩, .string Y), (⟨b0, 2, none⟩, .bool z)]) hs _ | exact AtF.ald (w := w) (l := [(⟨b0, 0, none⟩, .string X), (⟨b0, 1, none⟩, .string Y), (⟨b0, 2, none⟩, .bool z)]) hs _)
          refine heldY 0 15 ?_ _ rfl rfl (by kernel_rfl) (by kernel_rfl) (by kernel_rfl) (fun _ _ _ h => h) rfl (by assumption) ?_ ?_
          rotate_left
          · (intro w hSw; (try dsimp only at hSw); go_simp; (try with_reducible rfl))
          simp only [List.setIfInBounds_toArray, List.set_cons_zero, List.set_cons_succ]
          refine wpAnyH_ready (rs := [1]) (by kernel_rfl) (by simp) ?_
          refine AllReadyH.cons rfl (fun K hK => ?_) AllReadyH.nil
          go_simp
          go_at_call 35; refine (RA _ (BE _ (by assumption))).mono ?_; rintro e w3 ⟨rfl, hb⟩
          refine hK.out _ _ ?_ (fun hHeld => ?_)
          · (try dsimp only); (first | assumption | exact hs | exact AtF.dr (w := w) (l := [(⟨b0, 0, none⟩, .string X), (⟨b0, 1, none⟩, .string Y), (⟨b0, 2, none⟩, .bool z)]) hs | exact AtF.dr (w := w) (l := [(⟨b0, 0, none⟩, .string X), (⟨b0, 1, none⟩, .string Y), (⟨b0, 2, none⟩, .bool z)]) (by assumption) | exact AtF.on (w := w) (l := [(⟨b0, 0, none⟩, .string X), (⟨b0, 1, none⟩, .string Y), (⟨b0, 2, none⟩, .bool z)]) (by assumption) (by assumption) | exact AtF.al (w := w) (l := [(⟨b0, 0, none⟩, .string X), (⟨b0, 1, none⟩, .string Y), (⟨b0, 2, none⟩, .bool z)]) (by assumption) _ | exact AtF.ald (w := w) (l := [(⟨b0, 0, none⟩, .string X), (⟨b0, 1, none⟩, .string Y), (⟨b0, 2, none⟩, .bool z)]) (by assumption) _ | exact AtF.al (w := w) (l := [(⟨b0, 0, none⟩, .string X), (⟨b0, 1, none⟩, .string Y), (⟨b0, 2, none⟩, .bool z)]) hs _ | exact AtF.ald (w := w) (l := [(⟨b0, 0, none⟩, .string X), (⟨b0, 1, none⟩, .string Y), (⟨b0, 2, none⟩, .bool z)]) hs _)
          clear hK K
          try simp only [Act.put, List.setIfInBounds_toArray, List.set_cons_zero, List.set_cons_succ]
          refine heldY 2 17 ?_ _ rfl rfl (by kernel_rfl) (by kernel_rfl) (by kernel_rfl) (fun _ _ _ h => h) rfl (by assumption) ?_ ?_
          rotate_left
          · (intro w hSw; (try dsimp only at hSw); go_simp; (try with_reducible rfl))
          simp only [List.setIfInBounds_toArray, List.set_cons_zero, List.set_cons_succ]
          refine heldY 3 18 ?_ _ rfl rfl (by kernel_rfl) (by kernel_rfl) (by kernel_rfl) (fun _ _ _ h => h) rfl (by assumption) ?_ ?_
          rotate_left
          · (intro w hSw; (try dsimp only at hSw); go_simp; (try with_reducible rfl))
          simp only [List.setIfInBounds_toArray, List.set_cons_zero, List.set_cons_succ]
          refine heldY 4 19 ?_ _ rfl rfl (by kernel_rfl) (by kernel_rfl) (by kernel_rfl) (fun _ _ _ h => h) rfl (by assumption) ?_ ?_
          rotate_left
          · (intro w hSw; (try dsimp only at hSw); go_simp; (try with_reducible rfl))
          simp only [List.setIfInBounds_toArray, List.set_cons_zero, List.set_cons_succ]
          refine heldY 5 20 ?_ _ rfl rfl (by kernel_rfl) (by kernel_rfl) (by kernel_rfl) (fun _ _ _ h => h) rfl (by assumption) ?_ ?_
          rotate_left
          · (intro w hSw; (try dsimp only at hSw); go_simp; (try with_reducible rfl))
          simp only [List.setIfInBounds_toArray, List.set_cons_zero, List.set_cons_succ]
          refine heldY 6 21 ?_ _ rfl rfl (by kernel_rfl) (by kernel_rfl) (by kernel_rfl) (fun _ _ _ h => h) rfl (by assumption) ?_ ?_
          rotate_left
          · (intro w hSw; (try dsimp only at hSw); go_simp; (try with_reducible rfl))
          simp only [List.setIfInBounds_toArray, List.set_cons_zero, List.set_cons_succ]
          refine heldNo 7 22 rfl (by kernel_rfl) (by kernel_rfl) (by kernel_rfl) (fun _ _ _ h => h) rfl (by assumption) ?_
          simp only [List.setIfInBounds_toArray, List.set_cons_zero, List.set_cons_succ]
          refine heldNo 8 23 rfl (by kernel_rfl) (by kernel_rfl) (by kernel_rfl) (fun _ _ _ h => h) rfl (by assumption) ?_
          simp only [List.setIfInBounds_toArray, List.set_cons_zero, List.set_cons_succ]
          refine heldNo 9 24 rfl (by kernel_rfl) (by kernel_rfl) (by kernel_rfl) (fun _ _ _ h => h) rfl (by assumption) ?_
          simp only [List.setIfInBounds_toArray, List.set_cons_zero, List.set_cons_succ]
          refine heldNo 10 25 rfl (by kernel_rfl) (by kernel_rfl) (by kernel_rfl) (fun _ _ _ h => h) rfl (by assumption) ?_
          simp only [List.setIfInBounds_toArray, List.set_cons_zero, List.set_cons_succ]
          refine heldNo 11 26 rfl (by kernel_rfl) (by kernel_rfl) (by kernel_rfl) (fun _ _ _ h => h) rfl (by assumption) ?_
          simp only [List.setIfInBounds_toArray, List.set_cons_zero, List.set_cons_succ]
          refine heldNo 12 27 rfl (by kernel_rfl) (by kernel_rfl) (by kernel_rfl) (fun _ _ _ h => h) rfl (by assumption) ?_
          simp only [List.setIfInBounds_toArray, List.set_cons_zero, List.set_cons_succ]
          refine heldNo 13 28 rfl (by kernel_rfl) (by kernel_rfl) (by kernel_rfl) (fun _ _ _ h => h) rfl (by assumption) ?_
          simp only [List.setIfInBounds_toArray, List.set_cons_zero, List.set_cons_succ]
          refine heldNo 14 29 rfl (by kernel_rfl) (by kernel_rfl) (by kernel_rfl) (fun _ _ _ h => h) rfl (by assumption) ?_
          simp only [List.setIfInBounds_toArray, List.set_cons_zero, List.set_cons_succ]
          refine heldY 15 30 ?_ _ rfl rfl (by kernel_rfl) (by kernel_rfl) (by kernel_rfl) (fun _ _ _ h => h) rfl (by assumption) ?_ ?_
          rotate_left
          · (intro w hSw; (try dsimp only at hSw); go_simp; (try with_reducible rfl))
          simp only [List.setIfInBounds_toArray, List.set_cons_zero, List.set_cons_succ]
          refine heldY 16 31 ?_ _ rfl rfl (by kernel_rfl) (by kernel_rfl) (by kernel_rfl) (fun _ _ _ h => h) rfl (by assumption) ?_ ?_
          rotate_left
          · (intro w hSw; (try dsimp only at hSw); go_simp; (try with_reducible rfl))
          simp only [List.setIfInBounds_toArray, List.set_cons_zero, List.set_cons_succ]
          refine wpAnyH_done (by kernel_rfl) ?_ _
          have HW3 := Lib.hid (BE _ hHeld)
          clear hHeld
          go_wp2
          go_roundw
          case rel => exact ⟨k + 1, by omega, by go_num, HK, HW3⟩
          case measure => simp [intOf]; omega
    · obtain rfl : k = n := by omega
      have HF := Lib.hid (HOK.out (fun i x hx => H.out i x (by have := (List.getElem?_eq_some_iff.1 hx).1; rw [HN.out] at this; exact this) hx))
      clear hlt H HBAD HOK
      go_wp2
      go_ret
      exact ⟨reti HF.out, HB.out⟩
end Go.Proofs.YtceohgjfjndcmaaGreatDoor
