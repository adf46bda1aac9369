/-
  The program's keyed.Check of overrides, and overs.Check: what each returns; nothing old turns. Condition: LaidP.
-/
import Derived.Test.YtmjfbpiodamamaaGreatDoorOSmall
namespace Go.Proofs.YtmjfbpiodamamaaGreatDoor
open Go.RowKit
abbrev kyO : Value := .func (.func 34) #[] #[]
abbrev rgO : Value := .func (.func 22) #[] #[]
def SmallO (l : List Ov) : Prop := ∀ x ∈ l, x.1.length ≤ 4000
set_option maxRecDepth 100000 in
set_option maxHeartbeats 8000000 in
theorem kchkO_any (v : Value) (l : List Ov) (hl : l.length ≤ 90000) (hs : SmallO l) (w : World) (hL : LaidP w) (h : HoldO w v l) :
    Calls Tryz.prog 33 #[v, kyO, rgO] w fun e w' => e = .returned (.int .i64 (chkO l)) ∧ Below w.heap.size w w' := by
  obtain ⟨a, c, b, o, rfl, hc, ha, hcell⟩ := h.parts
  unfold kyO rgO
  have HC := Lib.hid hcell
  have HL := Lib.hid hL
  have HS := Lib.hid hs
  obtain ⟨Z, HZ⟩ : ∃ Z, Hid (chkO l = Z) := ⟨_, rfl⟩
  rw [HZ.out]
  obtain ⟨n, hN⟩ : ∃ n, l.length = n := ⟨_, rfl⟩
  rw [hN] at hc ha hl ⊢
  have HN := Lib.hid hN
  clear hcell hL hs hN h
  by_cases h64 : 64 < n
  · have HF : Hid ((22 : Int) = Z) := Lib.hid (by rw [← HZ.out, chkO_long (by rw [HN.out]; exact h64)])
    go_enter Tryz.func33, Tryz.ntmps33
    go_wp2
    go_ret
    exact ⟨reti HF.out, Below.refl _ _⟩
  have HBAD : Hid (∀ (i : Nat) x, l[i]? = some x → ¬ stepO l i x → (1 : Int) = Z) := Lib.hid (fun i x hx g => by rw [← HZ.out, chkO_no (by rw [HN.out]; exact h64) (fun q => g (q i x hx))])
  have HOK : Hid (StepsO l → (0 : Int) = Z) := Lib.hid (fun g => by rw [← HZ.out, chkO_ok (by rw [HN.out]; exact h64) g])
  clear HZ
  go_enter Tryz.func33, Tryz.ntmps33
  go_wp2
  go_loopw [14] (fun i wr => ∃ k : Nat, k ≤ n ∧ i = .int .i64 k ∧ Hid (∀ (j : Nat) x, j < k → l[j]? = some x → stepO l j x) ∧ Hid (Below w.heap.size w wr)) (fun i _ => n - (intOf i).toNat)
  case atStart => exact ⟨0, by omega, rfl, Lib.hid (fun j y hj => by omega), Lib.hid (Below.refl _ _)⟩
  case round =>
    obtain ⟨k, hk, rfl, H, HB⟩ := hrel
    by_cases hlt : k < n
    · obtain ⟨rfl, hbw⟩ := ha (by omega)
      obtain ⟨⟨t, m, u, g⟩, hp⟩ : ∃ x, l[k]? = some x := ⟨_, List.getElem?_eq_getElem (by rw [HN.out]; exact hlt)⟩
      obtain ⟨c0, c1, c2, c3⟩ := HC.out k (t, m, u, g) hp
      dsimp only at c0 c1 c2 c3
      rw [← HB.out.cell (p := ⟨b, o + k * 4, none⟩) hbw] at c0
      rw [← HB.out.cell (p := ⟨b, o + k * 4 + 1, none⟩) hbw] at c1
      rw [← HB.out.cell (p := ⟨b, o + k * 4 + 2, none⟩) hbw] at c2
      rw [← HB.out.cell (p := ⟨b, o + k * 4 + 3, none⟩) hbw] at c3
      have hpm := List.mem_of_getElem? hp
      have RA := fun W (hb : Below w.heap.size w W) => rightO_any (t, m, u, g) (HS.out _ hpm) W (HL.out.on hb)
      unfold aggO at RA
      dsimp only at RA
      have KA := fun (x : ByteArray) (m u g : Int) W => pathOf_any x m u g W
      have HX := Lib.hid hp
      have hsz := HB.out.size
      have B0 := HB.out.alloc hsz (.cells #[.string (bsT t), .int .i64 m, .int .i64 u, .int .i64 g] 41)
      obtain ⟨x0, x1, x2, x3⟩ := boxV4 wr (.string (bsT t)) (.int .i64 m) (.int .i64 u) (.int .i64 g) 41
      have hs := And.intro x0 (And.intro x1 (And.intro x2 (And.intro x3 B0)))
      clear hp hpm x0 x1 x2 x3 B0
      cases hq : rightO (t, m, u, g)
      · have HF := Lib.hid (HBAD.out k _ HX.out (fun q => by have := q.1; rw [hq] at this; cases this))
        simp only [hq] at RA
        clear hq H HBAD HOK KA HC HS HX
        generalize bsT t = X at *
        go_wp2
        generalize wr.alloc (.cells #[.string X, .int .i64 m, .int .i64 u, .int .i64 g] 41) = W2 at *
        generalize hb0 : wr.heap.size = b0 at *
        obtain ⟨x0, x1, x2, x3, hB⟩ := hs
        have hs := And.intro x0 (And.intro x1 (And.intro x2 (And.intro x3 hB)))
        clear hb0
        have BE := fun (V : World) (h : V.cell? ⟨b0, 0, none⟩ = some (.string X) ∧ V.cell? ⟨b0, 1, none⟩ = some (.int .i64 m) ∧ V.cell? ⟨b0, 2, none⟩ = some (.int .i64 u) ∧ V.cell? ⟨b0, 3, none⟩ = some (.int .i64 g) ∧ Below w.heap.size w V) => AtF.be (w := w) (l := [(⟨b0, 0, none⟩, .string X), (⟨b0, 1, none⟩, .int .i64 m), (⟨b0, 2, none⟩, .int .i64 u), (⟨b0, 3, none⟩, .int .i64 g)]) h
        refine wp_region_held_drew (S := (fun V => V.cell? ⟨b0, 0, none⟩ = some (.string X) ∧ V.cell? ⟨b0, 1, none⟩ = some (.int .i64 m) ∧ V.cell? ⟨b0, 2, none⟩ = some (.int .i64 u) ∧ V.cell? ⟨b0, 3, none⟩ = some (.int .i64 g) ∧ Below w.heap.size w V)) (by kernel_rfl) ?_ (fun hHeld => ?_)
        · (try dsimp only); (first | assumption | exact hs | exact AtF.dr (w := w) (l := [(⟨b0, 0, none⟩, .string X), (⟨b0, 1, none⟩, .int .i64 m), (⟨b0, 2, none⟩, .int .i64 u), (⟨b0, 3, none⟩, .int .i64 g)]) hs | exact AtF.dr (w := w) (l := [(⟨b0, 0, none⟩, .string X), (⟨b0, 1, none⟩, .int .i64 m), (⟨b0, 2, none⟩, .int .i64 u), (⟨b0, 3, none⟩, .int .i64 g)]) (by assumption) | exact AtF.on (w := w) (l := [(⟨b0, 0, none⟩, .string X), (⟨b0, 1, none⟩, .int .i64 m), (⟨b0, 2, none⟩, .int .i64 u), (⟨b0, 3, none⟩, .int .i64 g)]) (by assumption) (by assumption) | exact AtF.al (w := w) (l := [(⟨b0, 0, none⟩, .string X), (⟨b0, 1, none⟩, .int .i64 m), (⟨b0, 2, none⟩, .int .i64 u), (⟨b0, 3, none⟩, .int .i64 g)]) (by assumption) _ | exact AtF.ald (w := w) (l := [(⟨b0, 0, none⟩, .string X), (⟨b0, 1, none⟩, .int .i64 m), (⟨b0, 2, none⟩, .int .i64 u), (⟨b0, 3, none⟩, .int .i64 g)]) (by assumption) _ | exact AtF.al (w := w) (l := [(⟨b0, 0, none⟩, .string X), (⟨b0, 1, none⟩, .int .i64 m), (⟨b0, 2, none⟩, .int .i64 u), (⟨b0, 3, none⟩, .int .i64 g)]) hs _ | exact AtF.ald (w := w) (l := [(⟨b0, 0, none⟩, .string X), (⟨b0, 1, none⟩, .int .i64 m), (⟨b0, 2, none⟩, .int .i64 u), (⟨b0, 3, none⟩, .int .i64 g)]) hs _)
        refine heldY 0 19 ?_ _ rfl rfl (by kernel_rfl) (by kernel_rfl) (by kernel_rfl) (fun _ _ _ h => h) rfl (by assumption) ?_ ?_
        rotate_left
        · (intro w hSw; (try dsimp only at hSw); go_simp; (try with_reducible rfl))
        simp only [List.setIfInBounds_toArray, List.set_cons_zero, List.set_cons_succ]
        refine heldY 1 20 ?_ _ rfl rfl (by kernel_rfl) (by kernel_rfl) (by kernel_rfl) (fun _ _ _ h => h) rfl (by assumption) ?_ ?_
        rotate_left
        · (intro w hSw; (try dsimp only at hSw); go_simp; (try with_reducible rfl))
        simp only [List.setIfInBounds_toArray, List.set_cons_zero, List.set_cons_succ]
        refine wpAnyH_ready (rs := [2]) (by kernel_rfl) (by simp) ?_
        refine AllReadyH.cons rfl (fun K hK => ?_) AllReadyH.nil
        go_simp
        go_at_call 22; (with_reducible refine (RA _ (BE _ (by assumption))).mono ?_); rintro e w3 ⟨rfl, hb⟩
        refine hK.out _ _ ?_ (fun hHeld => ?_)
        · (try dsimp only); (first | assumption | exact hs | exact AtF.dr (w := w) (l := [(⟨b0, 0, none⟩, .string X), (⟨b0, 1, none⟩, .int .i64 m), (⟨b0, 2, none⟩, .int .i64 u), (⟨b0, 3, none⟩, .int .i64 g)]) hs | exact AtF.dr (w := w) (l := [(⟨b0, 0, none⟩, .string X), (⟨b0, 1, none⟩, .int .i64 m), (⟨b0, 2, none⟩, .int .i64 u), (⟨b0, 3, none⟩, .int .i64 g)]) (by assumption) | exact AtF.on (w := w) (l := [(⟨b0, 0, none⟩, .string X), (⟨b0, 1, none⟩, .int .i64 m), (⟨b0, 2, none⟩, .int .i64 u), (⟨b0, 3, none⟩, .int .i64 g)]) (by assumption) (by assumption) | exact AtF.al (w := w) (l := [(⟨b0, 0, none⟩, .string X), (⟨b0, 1, none⟩, .int .i64 m), (⟨b0, 2, none⟩, .int .i64 u), (⟨b0, 3, none⟩, .int .i64 g)]) (by assumption) _ | exact AtF.ald (w := w) (l := [(⟨b0, 0, none⟩, .string X), (⟨b0, 1, none⟩, .int .i64 m), (⟨b0, 2, none⟩, .int .i64 u), (⟨b0, 3, none⟩, .int .i64 g)]) (by assumption) _ | exact AtF.al (w := w) (l := [(⟨b0, 0, none⟩, .string X), (⟨b0, 1, none⟩, .int .i64 m), (⟨b0, 2, none⟩, .int .i64 u), (⟨b0, 3, none⟩, .int .i64 g)]) hs _ | exact AtF.ald (w := w) (l := [(⟨b0, 0, none⟩, .string X), (⟨b0, 1, none⟩, .int .i64 m), (⟨b0, 2, none⟩, .int .i64 u), (⟨b0, 3, none⟩, .int .i64 g)]) hs _)
        clear hK K
        try simp only [Act.put, List.setIfInBounds_toArray, List.set_cons_zero, List.set_cons_succ]
        refine heldY 3 22 ?_ _ rfl rfl (by kernel_rfl) (by kernel_rfl) (by kernel_rfl) (fun _ _ _ h => h) rfl (by assumption) ?_ ?_
        rotate_left
        · (intro w hSw; (try dsimp only at hSw); go_simp; (try with_reducible rfl))
        simp only [List.setIfInBounds_toArray, List.set_cons_zero, List.set_cons_succ]
        refine heldY 4 23 ?_ _ rfl rfl (by kernel_rfl) (by kernel_rfl) (by kernel_rfl) (fun _ _ _ h => h) rfl (by assumption) ?_ ?_
        rotate_left
        · (intro w hSw; (try dsimp only at hSw); go_simp; (try with_reducible rfl))
        simp only [List.setIfInBounds_toArray, List.set_cons_zero, List.set_cons_succ]
        refine heldNo 5 24 rfl (by kernel_rfl) (by kernel_rfl) (by kernel_rfl) (fun _ _ _ h => h) rfl (by assumption) ?_
        simp only [List.setIfInBounds_toArray, List.set_cons_zero, List.set_cons_succ]
        refine heldNo 6 25 rfl (by kernel_rfl) (by kernel_rfl) (by kernel_rfl) (fun _ _ _ h => h) rfl (by assumption) ?_
        simp only [List.setIfInBounds_toArray, List.set_cons_zero, List.set_cons_succ]
        refine heldNo 7 26 rfl (by kernel_rfl) (by kernel_rfl) (by kernel_rfl) (fun _ _ _ h => h) rfl (by assumption) ?_
        simp only [List.setIfInBounds_toArray, List.set_cons_zero, List.set_cons_succ]
        refine heldNo 8 27 rfl (by kernel_rfl) (by kernel_rfl) (by kernel_rfl) (fun _ _ _ h => h) rfl (by assumption) ?_
        simp only [List.setIfInBounds_toArray, List.set_cons_zero, List.set_cons_succ]
        refine heldNo 9 28 rfl (by kernel_rfl) (by kernel_rfl) (by kernel_rfl) (fun _ _ _ h => h) rfl (by assumption) ?_
        simp only [List.setIfInBounds_toArray, List.set_cons_zero, List.set_cons_succ]
        refine heldNo 10 29 rfl (by kernel_rfl) (by kernel_rfl) (by kernel_rfl) (fun _ _ _ h => h) rfl (by assumption) ?_
        simp only [List.setIfInBounds_toArray, List.set_cons_zero, List.set_cons_succ]
        refine heldNo 11 30 rfl (by kernel_rfl) (by kernel_rfl) (by kernel_rfl) (fun _ _ _ h => h) rfl (by assumption) ?_
        simp only [List.setIfInBounds_toArray, List.set_cons_zero, List.set_cons_succ]
        refine heldNo 12 31 rfl (by kernel_rfl) (by kernel_rfl) (by kernel_rfl) (fun _ _ _ h => h) rfl (by assumption) ?_
        simp only [List.setIfInBounds_toArray, List.set_cons_zero, List.set_cons_succ]
        refine heldNo 13 32 rfl (by kernel_rfl) (by kernel_rfl) (by kernel_rfl) (fun _ _ _ h => h) rfl (by assumption) ?_
        simp only [List.setIfInBounds_toArray, List.set_cons_zero, List.set_cons_succ]
        refine heldNo 14 33 rfl (by kernel_rfl) (by kernel_rfl) (by kernel_rfl) (fun _ _ _ h => h) rfl (by assumption) ?_
        simp only [List.setIfInBounds_toArray, List.set_cons_zero, List.set_cons_succ]
        refine heldNo 15 34 rfl (by kernel_rfl) (by kernel_rfl) (by kernel_rfl) (fun _ _ _ h => h) rfl (by assumption) ?_
        simp only [List.setIfInBounds_toArray, List.set_cons_zero, List.set_cons_succ]
        refine heldNo 16 35 rfl (by kernel_rfl) (by kernel_rfl) (by kernel_rfl) (fun _ _ _ h => h) rfl (by assumption) ?_
        simp only [List.setIfInBounds_toArray, List.set_cons_zero, List.set_cons_succ]
        refine heldNo 17 36 rfl (by kernel_rfl) (by kernel_rfl) (by kernel_rfl) (fun _ _ _ h => h) rfl (by assumption) ?_
        simp only [List.setIfInBounds_toArray, List.set_cons_zero, List.set_cons_succ]
        refine heldNo 18 37 rfl (by kernel_rfl) (by kernel_rfl) (by kernel_rfl) (fun _ _ _ h => h) rfl (by assumption) ?_
        simp only [List.setIfInBounds_toArray, List.set_cons_zero, List.set_cons_succ]
        refine heldNo 19 38 rfl (by kernel_rfl) (by kernel_rfl) (by kernel_rfl) (fun _ _ _ h => h) rfl (by assumption) ?_
        simp only [List.setIfInBounds_toArray, List.set_cons_zero, List.set_cons_succ]
        refine heldY 20 39 ?_ _ rfl rfl (by kernel_rfl) (by kernel_rfl) (by kernel_rfl) (fun _ _ _ h => h) rfl (by assumption) ?_ ?_
        rotate_left
        · (intro w hSw; (try dsimp only at hSw); go_simp; (try with_reducible rfl))
        simp only [List.setIfInBounds_toArray, List.set_cons_zero, List.set_cons_succ]
        refine wpAnyH_done (by kernel_rfl) ?_ _
        have HW3 := Lib.hid (BE _ hHeld)
        clear hHeld
        go_wp2
        go_ret
        exact ⟨reti HF.out, HW3.out⟩
      · simp only [hq] at RA
        by_cases hk0 : 0 < k
        · obtain ⟨⟨t', m', u', g'⟩, hr⟩ : ∃ x, l[k - 1]? = some x := ⟨_, List.getElem?_eq_getElem (by rw [HN.out]; omega)⟩
          obtain ⟨e0, e1, e2, e3⟩ := HC.out (k - 1) (t', m', u', g') hr
          dsimp only at e0 e1 e2 e3
          have hbwr : b < wr.heap.size := Nat.lt_of_lt_of_le hbw hsz
          have hB1 := (Below.refl wr.heap.size wr).alloc (Nat.le_refl _) (.cells #[.string (bsT t), .int .i64 m, .int .i64 u, .int .i64 g] 41)
          rw [← HB.out.cell (p := ⟨b, o + (k - 1) * 4, none⟩) hbw] at e0
          rw [← HB.out.cell (p := ⟨b, o + (k - 1) * 4 + 1, none⟩) hbw] at e1
          rw [← HB.out.cell (p := ⟨b, o + (k - 1) * 4 + 2, none⟩) hbw] at e2
          rw [← HB.out.cell (p := ⟨b, o + (k - 1) * 4 + 3, none⟩) hbw] at e3
          have e0 := (hB1.cell (p := ⟨b, o + (k - 1) * 4, none⟩) hbwr).trans e0
          have e1 := (hB1.cell (p := ⟨b, o + (k - 1) * 4 + 1, none⟩) hbwr).trans e1
          have e2 := (hB1.cell (p := ⟨b, o + (k - 1) * 4 + 2, none⟩) hbwr).trans e2
          have e3 := (hB1.cell (p := ⟨b, o + (k - 1) * 4 + 3, none⟩) hbwr).trans e3
          have hls := lessT (bsT t') (bsT t)
          rw [bytesOf, bytesOf] at hls
          have HBADk : Hid (decide (t' < t) = false → (1 : Int) = Z) := Lib.hid (fun g => HBAD.out k _ HX.out (fun q => by have := q.2 _ hk0 hr; dsimp only at this; rw [decide_eq_true this] at g; cases g))
          have HNEXT : Hid (decide (t' < t) = true → ∀ (j : Nat) x, j < k + 1 → l[j]? = some x → stepO l j x) := Lib.hid (fun g j x hj hu => by
            by_cases ej : j = k
            · subst ej
              rw [HX.out] at hu; cases hu
              exact ⟨hq, fun y h1 h2 => by rw [hr] at h2; cases h2; exact of_decide_eq_true g⟩
            · exact H.out j x (by omega) hu)
          generalize decide (t' < t) = q at *
          have hd : decide ((0 : Int) < (k : Int)) = true := decide_eq_true (by omega)
          have hk1 : (1 : Int) ≤ (k : Int) := by omega
          clear hq H HBAD HC HS HX hr hB1
          generalize bsT t = X at *
          generalize bsT t' = X' at *
          go_wp2
          generalize wr.alloc (.cells #[.string X, .int .i64 m, .int .i64 u, .int .i64 g] 41) = W2 at *
          generalize hb0 : wr.heap.size = b0 at *
          obtain ⟨x0, x1, x2, x3, hB⟩ := hs
          have hs := And.intro x0 (And.intro x1 (And.intro x2 (And.intro x3 (And.intro e0 (And.intro e1 (And.intro e2 (And.intro e3 hB)))))))
          clear hb0
          have i0 : (0 : Int) ≤ (k : Int) - 1 := by omega
          have i1 : (k : Int) - 1 < (n : Int) := by omega
          have i2 : ((k : Int) - 1).toNat = k - 1 := by omega
          have i3 : IntKind.i64.wrap ((k : Int) - 1) = (k : Int) - 1 := IntWalk.i64_in _ (by omega)
          have KX := KA X m u g
          have KY := KA X' m' u' g'
          clear KA
          have BE := fun (V : World) (h : V.cell? ⟨b0, 0, none⟩ = some (.string X) ∧ V.cell? ⟨b0, 1, none⟩ = some (.int .i64 m) ∧ V.cell? ⟨b0, 2, none⟩ = some (.int .i64 u) ∧ V.cell? ⟨b0, 3, none⟩ = some (.int .i64 g) ∧ V.cell? ⟨b, o + (k - 1) * 4, none⟩ = some (.string X') ∧ V.cell? ⟨b, o + (k - 1) * 4 + 1, none⟩ = some (.int .i64 m') ∧ V.cell? ⟨b, o + (k - 1) * 4 + 2, none⟩ = some (.int .i64 u') ∧ V.cell? ⟨b, o + (k - 1) * 4 + 3, none⟩ = some (.int .i64 g') ∧ Below w.heap.size w V) => AtF.be (w := w) (l := [(⟨b0, 0, none⟩, .string X), (⟨b0, 1, none⟩, .int .i64 m), (⟨b0, 2, none⟩, .int .i64 u), (⟨b0, 3, none⟩, .int .i64 g), (⟨b, o + (k - 1) * 4, none⟩, .string X'), (⟨b, o + (k - 1) * 4 + 1, none⟩, .int .i64 m'), (⟨b, o + (k - 1) * 4 + 2, none⟩, .int .i64 u'), (⟨b, o + (k - 1) * 4 + 3, none⟩, .int .i64 g')]) h
          refine wp_region_held_drew (S := (fun V => V.cell? ⟨b0, 0, none⟩ = some (.string X) ∧ V.cell? ⟨b0, 1, none⟩ = some (.int .i64 m) ∧ V.cell? ⟨b0, 2, none⟩ = some (.int .i64 u) ∧ V.cell? ⟨b0, 3, none⟩ = some (.int .i64 g) ∧ V.cell? ⟨b, o + (k - 1) * 4, none⟩ = some (.string X') ∧ V.cell? ⟨b, o + (k - 1) * 4 + 1, none⟩ = some (.int .i64 m') ∧ V.cell? ⟨b, o + (k - 1) * 4 + 2, none⟩ = some (.int .i64 u') ∧ V.cell? ⟨b, o + (k - 1) * 4 + 3, none⟩ = some (.int .i64 g') ∧ Below w.heap.size w V)) (by kernel_rfl) ?_ (fun hHeld => ?_)
          · (try dsimp only); (first | assumption | exact hs | exact AtF.dr (w := w) (l := [(⟨b0, 0, none⟩, .string X), (⟨b0, 1, none⟩, .int .i64 m), (⟨b0, 2, none⟩, .int .i64 u), (⟨b0, 3, none⟩, .int .i64 g), (⟨b, o + (k - 1) * 4, none⟩, .string X'), (⟨b, o + (k - 1) * 4 + 1, none⟩, .int .i64 m'), (⟨b, o + (k - 1) * 4 + 2, none⟩, .int .i64 u'), (⟨b, o + (k - 1) * 4 + 3, none⟩, .int .i64 g')]) hs | exact AtF.dr (w := w) (l := [(⟨b0, 0, none⟩, .string X), (⟨b0, 1, none⟩, .int .i64 m), (⟨b0, 2, none⟩, .int .i64 u), (⟨b0, 3, none⟩, .int .i64 g), (⟨b, o + (k - 1) * 4, none⟩, .string X'), (⟨b, o + (k - 1) * 4 + 1, none⟩, .int .i64 m'), (⟨b, o + (k - 1) * 4 + 2, none⟩, .int .i64 u'), (⟨b, o + (k - 1) * 4 + 3, none⟩, .int .i64 g')]) (by assumption) | exact AtF.on (w := w) (l := [(⟨b0, 0, none⟩, .string X), (⟨b0, 1, none⟩, .int .i64 m), (⟨b0, 2, none⟩, .int .i64 u), (⟨b0, 3, none⟩, .int .i64 g), (⟨b, o + (k - 1) * 4, none⟩, .string X'), (⟨b, o + (k - 1) * 4 + 1, none⟩, .int .i64 m'), (⟨b, o + (k - 1) * 4 + 2, none⟩, .int .i64 u'), (⟨b, o + (k - 1) * 4 + 3, none⟩, .int .i64 g')]) (by assumption) (by assumption) | exact AtF.al (w := w) (l := [(⟨b0, 0, none⟩, .string X), (⟨b0, 1, none⟩, .int .i64 m), (⟨b0, 2, none⟩, .int .i64 u), (⟨b0, 3, none⟩, .int .i64 g), (⟨b, o + (k - 1) * 4, none⟩, .string X'), (⟨b, o + (k - 1) * 4 + 1, none⟩, .int .i64 m'), (⟨b, o + (k - 1) * 4 + 2, none⟩, .int .i64 u'), (⟨b, o + (k - 1) * 4 + 3, none⟩, .int .i64 g')]) (by assumption) _ | exact AtF.ald (w := w) (l := [(⟨b0, 0, none⟩, .string X), (⟨b0, 1, none⟩, .int .i64 m), (⟨b0, 2, none⟩, .int .i64 u), (⟨b0, 3, none⟩, .int .i64 g), (⟨b, o + (k - 1) * 4, none⟩, .string X'), (⟨b, o + (k - 1) * 4 + 1, none⟩, .int .i64 m'), (⟨b, o + (k - 1) * 4 + 2, none⟩, .int .i64 u'), (⟨b, o + (k - 1) * 4 + 3, none⟩, .int .i64 g')]) (by assumption) _ | exact AtF.al (w := w) (l := [(⟨b0, 0, none⟩, .string X), (⟨b0, 1, none⟩, .int .i64 m), (⟨b0, 2, none⟩, .int .i64 u), (⟨b0, 3, none⟩, .int .i64 g), (⟨b, o + (k - 1) * 4, none⟩, .string X'), (⟨b, o + (k - 1) * 4 + 1, none⟩, .int .i64 m'), (⟨b, o + (k - 1) * 4 + 2, none⟩, .int .i64 u'), (⟨b, o + (k - 1) * 4 + 3, none⟩, .int .i64 g')]) hs _ | exact AtF.ald (w := w) (l := [(⟨b0, 0, none⟩, .string X), (⟨b0, 1, none⟩, .int .i64 m), (⟨b0, 2, none⟩, .int .i64 u), (⟨b0, 3, none⟩, .int .i64 g), (⟨b, o + (k - 1) * 4, none⟩, .string X'), (⟨b, o + (k - 1) * 4 + 1, none⟩, .int .i64 m'), (⟨b, o + (k - 1) * 4 + 2, none⟩, .int .i64 u'), (⟨b, o + (k - 1) * 4 + 3, none⟩, .int .i64 g')]) hs _)
          refine heldY 0 19 ?_ _ rfl rfl (by kernel_rfl) (by kernel_rfl) (by kernel_rfl) (fun _ _ _ h => h) rfl (by assumption) ?_ ?_
          rotate_left
          · (intro w hSw; (try dsimp only at hSw); go_simp; (try with_reducible rfl))
          simp only [List.setIfInBounds_toArray, List.set_cons_zero, List.set_cons_succ]
          refine heldY 1 20 ?_ _ rfl rfl (by kernel_rfl) (by kernel_rfl) (by kernel_rfl) (fun _ _ _ h => h) rfl (by assumption) ?_ ?_
          rotate_left
          · (intro w hSw; (try dsimp only at hSw); go_simp; (try with_reducible rfl))
          simp only [List.setIfInBounds_toArray, List.set_cons_zero, List.set_cons_succ]
          refine wpAnyH_ready (rs := [2]) (by kernel_rfl) (by simp) ?_
          refine AllReadyH.cons rfl (fun K hK => ?_) AllReadyH.nil
          go_simp
          first | (go_at_call 22; (with_reducible refine (RA _ (BE _ (by assumption))).mono ?_); rintro e w3 ⟨rfl, hb⟩) | (go_at_call 34; first | ((with_reducible refine (KX _).mono ?_); rintro e w3 ⟨rfl, hb⟩) | ((with_reducible refine (KY _).mono ?_); rintro e w3 ⟨rfl, hb⟩))
          refine hK.out _ _ ?_ (fun hHeld => ?_)
          · (try dsimp only); (first | assumption | exact hs | exact AtF.dr (w := w) (l := [(⟨b0, 0, none⟩, .string X), (⟨b0, 1, none⟩, .int .i64 m), (⟨b0, 2, none⟩, .int .i64 u), (⟨b0, 3, none⟩, .int .i64 g), (⟨b, o + (k - 1) * 4, none⟩, .string X'), (⟨b, o + (k - 1) * 4 + 1, none⟩, .int .i64 m'), (⟨b, o + (k - 1) * 4 + 2, none⟩, .int .i64 u'), (⟨b, o + (k - 1) * 4 + 3, none⟩, .int .i64 g')]) hs | exact AtF.dr (w := w) (l := [(⟨b0, 0, none⟩, .string X), (⟨b0, 1, none⟩, .int .i64 m), (⟨b0, 2, none⟩, .int .i64 u), (⟨b0, 3, none⟩, .int .i64 g), (⟨b, o + (k - 1) * 4, none⟩, .string X'), (⟨b, o + (k - 1) * 4 + 1, none⟩, .int .i64 m'), (⟨b, o + (k - 1) * 4 + 2, none⟩, .int .i64 u'), (⟨b, o + (k - 1) * 4 + 3, none⟩, .int .i64 g')]) (by assumption) | exact AtF.on (w := w) (l := [(⟨b0, 0, none⟩, .string X), (⟨b0, 1, none⟩, .int .i64 m), (⟨b0, 2, none⟩, .int .i64 u), (⟨b0, 3, none⟩, .int .i64 g), (⟨b, o + (k - 1) * 4, none⟩, .string X'), (⟨b, o + (k - 1) * 4 + 1, none⟩, .int .i64 m'), (⟨b, o + (k - 1) * 4 + 2, none⟩, .int .i64 u'), (⟨b, o + (k - 1) * 4 + 3, none⟩, .int .i64 g')]) (by assumption) (by assumption) | exact AtF.al (w := w) (l := [(⟨b0, 0, none⟩, .string X), (⟨b0, 1, none⟩, .int .i64 m), (⟨b0, 2, none⟩, .int .i64 u), (⟨b0, 3, none⟩, .int .i64 g), (⟨b, o + (k - 1) * 4, none⟩, .string X'), (⟨b, o + (k - 1) * 4 + 1, none⟩, .int .i64 m'), (⟨b, o + (k - 1) * 4 + 2, none⟩, .int .i64 u'), (⟨b, o + (k - 1) * 4 + 3, none⟩, .int .i64 g')]) (by assumption) _ | exact AtF.ald (w := w) (l := [(⟨b0, 0, none⟩, .string X), (⟨b0, 1, none⟩, .int .i64 m), (⟨b0, 2, none⟩, .int .i64 u), (⟨b0, 3, none⟩, .int .i64 g), (⟨b, o + (k - 1) * 4, none⟩, .string X'), (⟨b, o + (k - 1) * 4 + 1, none⟩, .int .i64 m'), (⟨b, o + (k - 1) * 4 + 2, none⟩, .int .i64 u'), (⟨b, o + (k - 1) * 4 + 3, none⟩, .int .i64 g')]) (by assumption) _ | exact AtF.al (w := w) (l := [(⟨b0, 0, none⟩, .string X), (⟨b0, 1, none⟩, .int .i64 m), (⟨b0, 2, none⟩, .int .i64 u), (⟨b0, 3, none⟩, .int .i64 g), (⟨b, o + (k - 1) * 4, none⟩, .string X'), (⟨b, o + (k - 1) * 4 + 1, none⟩, .int .i64 m'), (⟨b, o + (k - 1) * 4 + 2, none⟩, .int .i64 u'), (⟨b, o + (k - 1) * 4 + 3, none⟩, .int .i64 g')]) hs _ | exact AtF.ald (w := w) (l := [(⟨b0, 0, none⟩, .string X), (⟨b0, 1, none⟩, .int .i64 m), (⟨b0, 2, none⟩, .int .i64 u), (⟨b0, 3, none⟩, .int .i64 g), (⟨b, o + (k - 1) * 4, none⟩, .string X'), (⟨b, o + (k - 1) * 4 + 1, none⟩, .int .i64 m'), (⟨b, o + (k - 1) * 4 + 2, none⟩, .int .i64 u'), (⟨b, o + (k - 1) * 4 + 3, none⟩, .int .i64 g')]) hs _)
          clear hK K
          try simp only [Act.put, List.setIfInBounds_toArray, List.set_cons_zero, List.set_cons_succ]
          refine heldY 3 22 ?_ _ rfl rfl (by kernel_rfl) (by kernel_rfl) (by kernel_rfl) (fun _ _ _ h => h) rfl (by assumption) ?_ ?_
          rotate_left
          · (intro w hSw; (try dsimp only at hSw); go_simp; (try with_reducible rfl))
          simp only [List.setIfInBounds_toArray, List.set_cons_zero, List.set_cons_succ]
          refine heldY 4 23 ?_ _ rfl rfl (by kernel_rfl) (by kernel_rfl) (by kernel_rfl) (fun _ _ _ h => h) rfl (by assumption) ?_ ?_
          rotate_left
          · (intro w hSw; (try dsimp only at hSw); go_simp; (try with_reducible rfl))
          simp only [List.setIfInBounds_toArray, List.set_cons_zero, List.set_cons_succ]
          refine heldY 5 24 ?_ _ rfl rfl (by kernel_rfl) (by kernel_rfl) (by kernel_rfl) (fun _ _ _ h => h) rfl (by assumption) ?_ ?_
          rotate_left
          · (intro w hSw; (try dsimp only at hSw); go_simp; (try with_reducible rfl))
          simp only [List.setIfInBounds_toArray, List.set_cons_zero, List.set_cons_succ]
          refine heldY 6 25 ?_ _ rfl rfl (by kernel_rfl) (by kernel_rfl) (by kernel_rfl) (fun _ _ _ h => h) rfl (by assumption) ?_ ?_
          rotate_left
          · (intro w hSw; (try dsimp only at hSw); go_simp; (try with_reducible rfl))
          simp only [List.setIfInBounds_toArray, List.set_cons_zero, List.set_cons_succ]
          refine heldY 7 26 ?_ _ rfl rfl (by kernel_rfl) (by kernel_rfl) (by kernel_rfl) (fun _ _ _ h => h) rfl (by assumption) ?_ ?_
          rotate_left
          · (intro w hSw; (try dsimp only at hSw); go_simp; (try with_reducible rfl))
          simp only [List.setIfInBounds_toArray, List.set_cons_zero, List.set_cons_succ]
          refine heldY 8 27 ?_ _ rfl rfl (by kernel_rfl) (by kernel_rfl) (by kernel_rfl) (fun _ _ _ h => h) rfl (by assumption) ?_ ?_
          rotate_left
          · (intro w hSw; (try dsimp only at hSw); go_simp; (try with_reducible rfl))
          simp only [List.setIfInBounds_toArray, List.set_cons_zero, List.set_cons_succ]
          refine heldY 9 28 ?_ _ rfl rfl (by kernel_rfl) (by kernel_rfl) (by kernel_rfl) (fun _ _ _ h => h) rfl (by assumption) ?_ ?_
          rotate_left
          · (intro w hSw; (try dsimp only at hSw); go_simp; (try with_reducible rfl))
          simp only [List.setIfInBounds_toArray, List.set_cons_zero, List.set_cons_succ]
          refine heldY 10 29 ?_ _ rfl rfl (by kernel_rfl) (by kernel_rfl) (by kernel_rfl) (fun _ _ _ h => h) rfl (by assumption) ?_ ?_
          rotate_left
          · (intro w hSw; (try dsimp only at hSw); go_simp; (try with_reducible rfl))
          simp only [List.setIfInBounds_toArray, List.set_cons_zero, List.set_cons_succ]
          refine heldY 11 30 ?_ _ rfl rfl (by kernel_rfl) (by kernel_rfl) (by kernel_rfl) (fun _ _ _ h => h) rfl (by assumption) ?_ ?_
          rotate_left
          · (intro w hSw; (try dsimp only at hSw); go_simp; (try with_reducible rfl))
          simp only [List.setIfInBounds_toArray, List.set_cons_zero, List.set_cons_succ]
          refine heldY 12 31 ?_ _ rfl rfl (by kernel_rfl) (by kernel_rfl) (by kernel_rfl) (fun _ _ _ h => h) rfl (by assumption) ?_ ?_
          rotate_left
          · (intro w hSw; (try dsimp only at hSw); go_simp; (try with_reducible rfl))
          simp only [List.setIfInBounds_toArray, List.set_cons_zero, List.set_cons_succ]
          refine heldY 13 32 ?_ _ rfl rfl (by kernel_rfl) (by kernel_rfl) (by kernel_rfl) (fun _ _ _ h => h) rfl (by assumption) ?_ ?_
          rotate_left
          · (intro w hSw; (try dsimp only at hSw); go_simp; (try with_reducible rfl))
          simp only [List.setIfInBounds_toArray, List.set_cons_zero, List.set_cons_succ]
          refine heldY 15 34 ?_ _ rfl rfl (by kernel_rfl) (by kernel_rfl) (by kernel_rfl) (fun _ _ _ h => h) rfl (by assumption) ?_ ?_
          rotate_left
          · (intro w hSw; (try dsimp only at hSw); go_simp; (try with_reducible rfl))
          simp only [List.setIfInBounds_toArray, List.set_cons_zero, List.set_cons_succ]
          refine heldY 16 35 ?_ _ rfl rfl (by kernel_rfl) (by kernel_rfl) (by kernel_rfl) (fun _ _ _ h => h) rfl (by assumption) ?_ ?_
          rotate_left
          · (intro w hSw; (try dsimp only at hSw); go_simp; (try with_reducible rfl))
          simp only [List.setIfInBounds_toArray, List.set_cons_zero, List.set_cons_succ]
          refine wpAnyH_ready (rs := [14]) (by kernel_rfl) (by simp) ?_
          refine AllReadyH.cons rfl (fun K hK => ?_) AllReadyH.nil
          go_simp
          first | (go_at_call 22; (with_reducible refine (RA _ (BE _ (by assumption))).mono ?_); rintro e w3 ⟨rfl, hb⟩) | (go_at_call 34; first | ((with_reducible refine (KX _).mono ?_); rintro e w3 ⟨rfl, hb⟩) | ((with_reducible refine (KY _).mono ?_); rintro e w3 ⟨rfl, hb⟩))
          refine hK.out _ _ ?_ (fun hHeld => ?_)
          · (try dsimp only); (first | assumption | exact hs | exact AtF.dr (w := w) (l := [(⟨b0, 0, none⟩, .string X), (⟨b0, 1, none⟩, .int .i64 m), (⟨b0, 2, none⟩, .int .i64 u), (⟨b0, 3, none⟩, .int .i64 g), (⟨b, o + (k - 1) * 4, none⟩, .string X'), (⟨b, o + (k - 1) * 4 + 1, none⟩, .int .i64 m'), (⟨b, o + (k - 1) * 4 + 2, none⟩, .int .i64 u'), (⟨b, o + (k - 1) * 4 + 3, none⟩, .int .i64 g')]) hs | exact AtF.dr (w := w) (l := [(⟨b0, 0, none⟩, .string X), (⟨b0, 1, none⟩, .int .i64 m), (⟨b0, 2, none⟩, .int .i64 u), (⟨b0, 3, none⟩, .int .i64 g), (⟨b, o + (k - 1) * 4, none⟩, .string X'), (⟨b, o + (k - 1) * 4 + 1, none⟩, .int .i64 m'), (⟨b, o + (k - 1) * 4 + 2, none⟩, .int .i64 u'), (⟨b, o + (k - 1) * 4 + 3, none⟩, .int .i64 g')]) (by assumption) | exact AtF.on (w := w) (l := [(⟨b0, 0, none⟩, .string X), (⟨b0, 1, none⟩, .int .i64 m), (⟨b0, 2, none⟩, .int .i64 u), (⟨b0, 3, none⟩, .int .i64 g), (⟨b, o + (k - 1) * 4, none⟩, .string X'), (⟨b, o + (k - 1) * 4 + 1, none⟩, .int .i64 m'), (⟨b, o + (k - 1) * 4 + 2, none⟩, .int .i64 u'), (⟨b, o + (k - 1) * 4 + 3, none⟩, .int .i64 g')]) (by assumption) (by assumption) | exact AtF.al (w := w) (l := [(⟨b0, 0, none⟩, .string X), (⟨b0, 1, none⟩, .int .i64 m), (⟨b0, 2, none⟩, .int .i64 u), (⟨b0, 3, none⟩, .int .i64 g), (⟨b, o + (k - 1) * 4, none⟩, .string X'), (⟨b, o + (k - 1) * 4 + 1, none⟩, .int .i64 m'), (⟨b, o + (k - 1) * 4 + 2, none⟩, .int .i64 u'), (⟨b, o + (k - 1) * 4 + 3, none⟩, .int .i64 g')]) (by assumption) _ | exact AtF.ald (w := w) (l := [(⟨b0, 0, none⟩, .string X), (⟨b0, 1, none⟩, .int .i64 m), (⟨b0, 2, none⟩, .int .i64 u), (⟨b0, 3, none⟩, .int .i64 g), (⟨b, o + (k - 1) * 4, none⟩, .string X'), (⟨b, o + (k - 1) * 4 + 1, none⟩, .int .i64 m'), (⟨b, o + (k - 1) * 4 + 2, none⟩, .int .i64 u'), (⟨b, o + (k - 1) * 4 + 3, none⟩, .int .i64 g')]) (by assumption) _ | exact AtF.al (w := w) (l := [(⟨b0, 0, none⟩, .string X), (⟨b0, 1, none⟩, .int .i64 m), (⟨b0, 2, none⟩, .int .i64 u), (⟨b0, 3, none⟩, .int .i64 g), (⟨b, o + (k - 1) * 4, none⟩, .string X'), (⟨b, o + (k - 1) * 4 + 1, none⟩, .int .i64 m'), (⟨b, o + (k - 1) * 4 + 2, none⟩, .int .i64 u'), (⟨b, o + (k - 1) * 4 + 3, none⟩, .int .i64 g')]) hs _ | exact AtF.ald (w := w) (l := [(⟨b0, 0, none⟩, .string X), (⟨b0, 1, none⟩, .int .i64 m), (⟨b0, 2, none⟩, .int .i64 u), (⟨b0, 3, none⟩, .int .i64 g), (⟨b, o + (k - 1) * 4, none⟩, .string X'), (⟨b, o + (k - 1) * 4 + 1, none⟩, .int .i64 m'), (⟨b, o + (k - 1) * 4 + 2, none⟩, .int .i64 u'), (⟨b, o + (k - 1) * 4 + 3, none⟩, .int .i64 g')]) hs _)
          clear hK K
          try simp only [Act.put, List.setIfInBounds_toArray, List.set_cons_zero, List.set_cons_succ]
          refine wpAnyH_ready (rs := [17]) (by kernel_rfl) (by simp) ?_
          refine AllReadyH.cons rfl (fun K hK => ?_) AllReadyH.nil
          go_simp
          first | (go_at_call 22; (with_reducible refine (RA _ (BE _ (by assumption))).mono ?_); rintro e w3 ⟨rfl, hb⟩) | (go_at_call 34; first | ((with_reducible refine (KX _).mono ?_); rintro e w3 ⟨rfl, hb⟩) | ((with_reducible refine (KY _).mono ?_); rintro e w3 ⟨rfl, hb⟩))
          refine hK.out _ _ ?_ (fun hHeld => ?_)
          · (try dsimp only); (first | assumption | exact hs | exact AtF.dr (w := w) (l := [(⟨b0, 0, none⟩, .string X), (⟨b0, 1, none⟩, .int .i64 m), (⟨b0, 2, none⟩, .int .i64 u), (⟨b0, 3, none⟩, .int .i64 g), (⟨b, o + (k - 1) * 4, none⟩, .string X'), (⟨b, o + (k - 1) * 4 + 1, none⟩, .int .i64 m'), (⟨b, o + (k - 1) * 4 + 2, none⟩, .int .i64 u'), (⟨b, o + (k - 1) * 4 + 3, none⟩, .int .i64 g')]) hs | exact AtF.dr (w := w) (l := [(⟨b0, 0, none⟩, .string X), (⟨b0, 1, none⟩, .int .i64 m), (⟨b0, 2, none⟩, .int .i64 u), (⟨b0, 3, none⟩, .int .i64 g), (⟨b, o + (k - 1) * 4, none⟩, .string X'), (⟨b, o + (k - 1) * 4 + 1, none⟩, .int .i64 m'), (⟨b, o + (k - 1) * 4 + 2, none⟩, .int .i64 u'), (⟨b, o + (k - 1) * 4 + 3, none⟩, .int .i64 g')]) (by assumption) | exact AtF.on (w := w) (l := [(⟨b0, 0, none⟩, .string X), (⟨b0, 1, none⟩, .int .i64 m), (⟨b0, 2, none⟩, .int .i64 u), (⟨b0, 3, none⟩, .int .i64 g), (⟨b, o + (k - 1) * 4, none⟩, .string X'), (⟨b, o + (k - 1) * 4 + 1, none⟩, .int .i64 m'), (⟨b, o + (k - 1) * 4 + 2, none⟩, .int .i64 u'), (⟨b, o + (k - 1) * 4 + 3, none⟩, .int .i64 g')]) (by assumption) (by assumption) | exact AtF.al (w := w) (l := [(⟨b0, 0, none⟩, .string X), (⟨b0, 1, none⟩, .int .i64 m), (⟨b0, 2, none⟩, .int .i64 u), (⟨b0, 3, none⟩, .int .i64 g), (⟨b, o + (k - 1) * 4, none⟩, .string X'), (⟨b, o + (k - 1) * 4 + 1, none⟩, .int .i64 m'), (⟨b, o + (k - 1) * 4 + 2, none⟩, .int .i64 u'), (⟨b, o + (k - 1) * 4 + 3, none⟩, .int .i64 g')]) (by assumption) _ | exact AtF.ald (w := w) (l := [(⟨b0, 0, none⟩, .string X), (⟨b0, 1, none⟩, .int .i64 m), (⟨b0, 2, none⟩, .int .i64 u), (⟨b0, 3, none⟩, .int .i64 g), (⟨b, o + (k - 1) * 4, none⟩, .string X'), (⟨b, o + (k - 1) * 4 + 1, none⟩, .int .i64 m'), (⟨b, o + (k - 1) * 4 + 2, none⟩, .int .i64 u'), (⟨b, o + (k - 1) * 4 + 3, none⟩, .int .i64 g')]) (by assumption) _ | exact AtF.al (w := w) (l := [(⟨b0, 0, none⟩, .string X), (⟨b0, 1, none⟩, .int .i64 m), (⟨b0, 2, none⟩, .int .i64 u), (⟨b0, 3, none⟩, .int .i64 g), (⟨b, o + (k - 1) * 4, none⟩, .string X'), (⟨b, o + (k - 1) * 4 + 1, none⟩, .int .i64 m'), (⟨b, o + (k - 1) * 4 + 2, none⟩, .int .i64 u'), (⟨b, o + (k - 1) * 4 + 3, none⟩, .int .i64 g')]) hs _ | exact AtF.ald (w := w) (l := [(⟨b0, 0, none⟩, .string X), (⟨b0, 1, none⟩, .int .i64 m), (⟨b0, 2, none⟩, .int .i64 u), (⟨b0, 3, none⟩, .int .i64 g), (⟨b, o + (k - 1) * 4, none⟩, .string X'), (⟨b, o + (k - 1) * 4 + 1, none⟩, .int .i64 m'), (⟨b, o + (k - 1) * 4 + 2, none⟩, .int .i64 u'), (⟨b, o + (k - 1) * 4 + 3, none⟩, .int .i64 g')]) hs _)
          clear hK K
          try simp only [Act.put, List.setIfInBounds_toArray, List.set_cons_zero, List.set_cons_succ]
          refine heldY 18 37 ?_ _ rfl rfl (by kernel_rfl) (by kernel_rfl) (by kernel_rfl) (fun _ _ _ h => h) rfl (by assumption) ?_ ?_
          rotate_left
          · (intro w hSw; (try dsimp only at hSw); go_simp; (try with_reducible rfl))
          simp only [List.setIfInBounds_toArray, List.set_cons_zero, List.set_cons_succ]
          refine heldY 19 38 ?_ _ rfl rfl (by kernel_rfl) (by kernel_rfl) (by kernel_rfl) (fun _ _ _ h => h) rfl (by assumption) ?_ ?_
          rotate_left
          · (intro w hSw; (try dsimp only at hSw); go_simp; (try with_reducible rfl))
          simp only [List.setIfInBounds_toArray, List.set_cons_zero, List.set_cons_succ]
          refine heldY 20 39 ?_ _ rfl rfl (by kernel_rfl) (by kernel_rfl) (by kernel_rfl) (fun _ _ _ h => h) rfl (by assumption) ?_ ?_
          rotate_left
          · (intro w hSw; (try dsimp only at hSw); go_simp; (try with_reducible rfl))
          simp only [List.setIfInBounds_toArray, List.set_cons_zero, List.set_cons_succ]
          refine wpAnyH_done (by kernel_rfl) ?_ _
          have HW3 := Lib.hid (BE _ hHeld)
          clear hHeld i2 i3
          cases q
          · have HF := Lib.hid (HBADk.out rfl)
            clear HBADk HNEXT
            go_wp2
            go_ret
            exact ⟨reti HF.out, HW3.out⟩
          · have HK := Lib.hid (HNEXT.out rfl)
            clear HBADk HNEXT
            go_wp2
            go_roundw
            case rel => exact ⟨k + 1, by omega, by go_num, HK, HW3⟩
            case measure => simp [intOf]; omega
        · have HK : Hid (∀ (j : Nat) x, j < k + 1 → l[j]? = some x → stepO l j x) := Lib.hid (fun j x hj hu => by
            obtain rfl : j = k := by omega
            rw [HX.out] at hu; cases hu
            exact ⟨hq, fun _ h1 => absurd h1 hk0⟩)
          have hd : decide ((0 : Int) < (k : Int)) = false := decide_eq_false (by omega)
          clear hq H HBAD HOK KA HC HS HX
          generalize bsT t = X at *
          go_wp2
          generalize wr.alloc (.cells #[.string X, .int .i64 m, .int .i64 u, .int .i64 g] 41) = W2 at *
          generalize hb0 : wr.heap.size = b0 at *
          obtain ⟨x0, x1, x2, x3, hB⟩ := hs
          have hs := And.intro x0 (And.intro x1 (And.intro x2 (And.intro x3 hB)))
          clear hb0
          have BE := fun (V : World) (h : V.cell? ⟨b0, 0, none⟩ = some (.string X) ∧ V.cell? ⟨b0, 1, none⟩ = some (.int .i64 m) ∧ V.cell? ⟨b0, 2, none⟩ = some (.int .i64 u) ∧ V.cell? ⟨b0, 3, none⟩ = some (.int .i64 g) ∧ Below w.heap.size w V) => AtF.be (w := w) (l := [(⟨b0, 0, none⟩, .string X), (⟨b0, 1, none⟩, .int .i64 m), (⟨b0, 2, none⟩, .int .i64 u), (⟨b0, 3, none⟩, .int .i64 g)]) h
          refine wp_region_held_drew (S := (fun V => V.cell? ⟨b0, 0, none⟩ = some (.string X) ∧ V.cell? ⟨b0, 1, none⟩ = some (.int .i64 m) ∧ V.cell? ⟨b0, 2, none⟩ = some (.int .i64 u) ∧ V.cell? ⟨b0, 3, none⟩ = some (.int .i64 g) ∧ Below w.heap.size w V)) (by kernel_rfl) ?_ (fun hHeld => ?_)
          · (try dsimp only); (first | assumption | exact hs | exact AtF.dr (w := w) (l := [(⟨b0, 0, none⟩, .string X), (⟨b0, 1, none⟩, .int .i64 m), (⟨b0, 2, none⟩, .int .i64 u), (⟨b0, 3, none⟩, .int .i64 g)]) hs | exact AtF.dr (w := w) (l := [(⟨b0, 0, none⟩, .string X), (⟨b0, 1, none⟩, .int .i64 m), (⟨b0, 2, none⟩, .int .i64 u), (⟨b0, 3, none⟩, .int .i64 g)]) (by assumption) | exact AtF.on (w := w) (l := [(⟨b0, 0, none⟩, .string X), (⟨b0, 1, none⟩, .int .i64 m), (⟨b0, 2, none⟩, .int .i64 u), (⟨b0, 3, none⟩, .int .i64 g)]) (by assumption) (by assumption) | exact AtF.al (w := w) (l := [(⟨b0, 0, none⟩, .string X), (⟨b0, 1, none⟩, .int .i64 m), (⟨b0, 2, none⟩, .int .i64 u), (⟨b0, 3, none⟩, .int .i64 g)]) (by assumption) _ | exact AtF.ald (w := w) (l := [(⟨b0, 0, none⟩, .string X), (⟨b0, 1, none⟩, .int .i64 m), (⟨b0, 2, none⟩, .int .i64 u), (⟨b0, 3, none⟩, .int .i64 g)]) (by assumption) _ | exact AtF.al (w := w) (l := [(⟨b0, 0, none⟩, .string X), (⟨b0, 1, none⟩, .int .i64 m), (⟨b0, 2, none⟩, .int .i64 u), (⟨b0, 3, none⟩, .int .i64 g)]) hs _ | exact AtF.ald (w := w) (l := [(⟨b0, 0, none⟩, .string X), (⟨b0, 1, none⟩, .int .i64 m), (⟨b0, 2, none⟩, .int .i64 u), (⟨b0, 3, none⟩, .int .i64 g)]) hs _)
          refine heldY 0 19 ?_ _ rfl rfl (by kernel_rfl) (by kernel_rfl) (by kernel_rfl) (fun _ _ _ h => h) rfl (by assumption) ?_ ?_
          rotate_left
          · (intro w hSw; (try dsimp only at hSw); go_simp; (try with_reducible rfl))
          simp only [List.setIfInBounds_toArray, List.set_cons_zero, List.set_cons_succ]
          refine heldY 1 20 ?_ _ rfl rfl (by kernel_rfl) (by kernel_rfl) (by kernel_rfl) (fun _ _ _ h => h) rfl (by assumption) ?_ ?_
          rotate_left
          · (intro w hSw; (try dsimp only at hSw); go_simp; (try with_reducible rfl))
          simp only [List.setIfInBounds_toArray, List.set_cons_zero, List.set_cons_succ]
          refine wpAnyH_ready (rs := [2]) (by kernel_rfl) (by simp) ?_
          refine AllReadyH.cons rfl (fun K hK => ?_) AllReadyH.nil
          go_simp
          go_at_call 22; (with_reducible refine (RA _ (BE _ (by assumption))).mono ?_); rintro e w3 ⟨rfl, hb⟩
          refine hK.out _ _ ?_ (fun hHeld => ?_)
          · (try dsimp only); (first | assumption | exact hs | exact AtF.dr (w := w) (l := [(⟨b0, 0, none⟩, .string X), (⟨b0, 1, none⟩, .int .i64 m), (⟨b0, 2, none⟩, .int .i64 u), (⟨b0, 3, none⟩, .int .i64 g)]) hs | exact AtF.dr (w := w) (l := [(⟨b0, 0, none⟩, .string X), (⟨b0, 1, none⟩, .int .i64 m), (⟨b0, 2, none⟩, .int .i64 u), (⟨b0, 3, none⟩, .int .i64 g)]) (by assumption) | exact AtF.on (w := w) (l := [(⟨b0, 0, none⟩, .string X), (⟨b0, 1, none⟩, .int .i64 m), (⟨b0, 2, none⟩, .int .i64 u), (⟨b0, 3, none⟩, .int .i64 g)]) (by assumption) (by assumption) | exact AtF.al (w := w) (l := [(⟨b0, 0, none⟩, .string X), (⟨b0, 1, none⟩, .int .i64 m), (⟨b0, 2, none⟩, .int .i64 u), (⟨b0, 3, none⟩, .int .i64 g)]) (by assumption) _ | exact AtF.ald (w := w) (l := [(⟨b0, 0, none⟩, .string X), (⟨b0, 1, none⟩, .int .i64 m), (⟨b0, 2, none⟩, .int .i64 u), (⟨b0, 3, none⟩, .int .i64 g)]) (by assumption) _ | exact AtF.al (w := w) (l := [(⟨b0, 0, none⟩, .string X), (⟨b0, 1, none⟩, .int .i64 m), (⟨b0, 2, none⟩, .int .i64 u), (⟨b0, 3, none⟩, .int .i64 g)]) hs _ | exact AtF.ald (w := w) (l := [(⟨b0, 0, none⟩, .string X), (⟨b0, 1, none⟩, .int .i64 m), (⟨b0, 2, none⟩, .int .i64 u), (⟨b0, 3, none⟩, .int .i64 g)]) hs _)
          clear hK K
          try simp only [Act.put, List.setIfInBounds_toArray, List.set_cons_zero, List.set_cons_succ]
          refine heldY 3 22 ?_ _ rfl rfl (by kernel_rfl) (by kernel_rfl) (by kernel_rfl) (fun _ _ _ h => h) rfl (by assumption) ?_ ?_
          rotate_left
          · (intro w hSw; (try dsimp only at hSw); go_simp; (try with_reducible rfl))
          simp only [List.setIfInBounds_toArray, List.set_cons_zero, List.set_cons_succ]
          refine heldY 4 23 ?_ _ rfl rfl (by kernel_rfl) (by kernel_rfl) (by kernel_rfl) (fun _ _ _ h => h) rfl (by assumption) ?_ ?_
          rotate_left
          · (intro w hSw; (try dsimp only at hSw); go_simp; (try with_reducible rfl))
          simp only [List.setIfInBounds_toArray, List.set_cons_zero, List.set_cons_succ]
          refine heldY 5 24 ?_ _ rfl rfl (by kernel_rfl) (by kernel_rfl) (by kernel_rfl) (fun _ _ _ h => h) rfl (by assumption) ?_ ?_
          rotate_left
          · (intro w hSw; (try dsimp only at hSw); go_simp; (try with_reducible rfl))
          simp only [List.setIfInBounds_toArray, List.set_cons_zero, List.set_cons_succ]
          refine heldY 6 25 ?_ _ rfl rfl (by kernel_rfl) (by kernel_rfl) (by kernel_rfl) (fun _ _ _ h => h) rfl (by assumption) ?_ ?_
          rotate_left
          · (intro w hSw; (try dsimp only at hSw); go_simp; (try with_reducible rfl))
          simp only [List.setIfInBounds_toArray, List.set_cons_zero, List.set_cons_succ]
          refine heldY 7 26 ?_ _ rfl rfl (by kernel_rfl) (by kernel_rfl) (by kernel_rfl) (fun _ _ _ h => h) rfl (by assumption) ?_ ?_
          rotate_left
          · (intro w hSw; (try dsimp only at hSw); go_simp; (try with_reducible rfl))
          simp only [List.setIfInBounds_toArray, List.set_cons_zero, List.set_cons_succ]
          refine heldNo 8 27 rfl (by kernel_rfl) (by kernel_rfl) (by kernel_rfl) (fun _ _ _ h => h) rfl (by assumption) ?_
          simp only [List.setIfInBounds_toArray, List.set_cons_zero, List.set_cons_succ]
          refine heldNo 9 28 rfl (by kernel_rfl) (by kernel_rfl) (by kernel_rfl) (fun _ _ _ h => h) rfl (by assumption) ?_
          simp only [List.setIfInBounds_toArray, List.set_cons_zero, List.set_cons_succ]
          refine heldNo 10 29 rfl (by kernel_rfl) (by kernel_rfl) (by kernel_rfl) (fun _ _ _ h => h) rfl (by assumption) ?_
          simp only [List.setIfInBounds_toArray, List.set_cons_zero, List.set_cons_succ]
          refine heldNo 11 30 rfl (by kernel_rfl) (by kernel_rfl) (by kernel_rfl) (fun _ _ _ h => h) rfl (by assumption) ?_
          simp only [List.setIfInBounds_toArray, List.set_cons_zero, List.set_cons_succ]
          refine heldNo 12 31 rfl (by kernel_rfl) (by kernel_rfl) (by kernel_rfl) (fun _ _ _ h => h) rfl (by assumption) ?_
          simp only [List.setIfInBounds_toArray, List.set_cons_zero, List.set_cons_succ]
          refine heldNo 13 32 rfl (by kernel_rfl) (by kernel_rfl) (by kernel_rfl) (fun _ _ _ h => h) rfl (by assumption) ?_
          simp only [List.setIfInBounds_toArray, List.set_cons_zero, List.set_cons_succ]
          refine heldNo 14 33 rfl (by kernel_rfl) (by kernel_rfl) (by kernel_rfl) (fun _ _ _ h => h) rfl (by assumption) ?_
          simp only [List.setIfInBounds_toArray, List.set_cons_zero, List.set_cons_succ]
          refine heldNo 15 34 rfl (by kernel_rfl) (by kernel_rfl) (by kernel_rfl) (fun _ _ _ h => h) rfl (by assumption) ?_
          simp only [List.setIfInBounds_toArray, List.set_cons_zero, List.set_cons_succ]
          refine heldNo 16 35 rfl (by kernel_rfl) (by kernel_rfl) (by kernel_rfl) (fun _ _ _ h => h) rfl (by assumption) ?_
          simp only [List.setIfInBounds_toArray, List.set_cons_zero, List.set_cons_succ]
          refine heldNo 17 36 rfl (by kernel_rfl) (by kernel_rfl) (by kernel_rfl) (fun _ _ _ h => h) rfl (by assumption) ?_
          simp only [List.setIfInBounds_toArray, List.set_cons_zero, List.set_cons_succ]
          refine heldNo 18 37 rfl (by kernel_rfl) (by kernel_rfl) (by kernel_rfl) (fun _ _ _ h => h) rfl (by assumption) ?_
          simp only [List.setIfInBounds_toArray, List.set_cons_zero, List.set_cons_succ]
          refine heldY 19 38 ?_ _ rfl rfl (by kernel_rfl) (by kernel_rfl) (by kernel_rfl) (fun _ _ _ h => h) rfl (by assumption) ?_ ?_
          rotate_left
          · (intro w hSw; (try dsimp only at hSw); go_simp; (try with_reducible rfl))
          simp only [List.setIfInBounds_toArray, List.set_cons_zero, List.set_cons_succ]
          refine heldY 20 39 ?_ _ rfl rfl (by kernel_rfl) (by kernel_rfl) (by kernel_rfl) (fun _ _ _ h => h) rfl (by assumption) ?_ ?_
          rotate_left
          · (intro w hSw; (try dsimp only at hSw); go_simp; (try with_reducible rfl))
          simp only [List.setIfInBounds_toArray, List.set_cons_zero, List.set_cons_succ]
          refine wpAnyH_done (by kernel_rfl) ?_ _
          have HW3 := Lib.hid (BE _ hHeld)
          clear hHeld
          go_wp2
          go_roundw
          case rel => exact ⟨k + 1, by omega, by go_num, HK, HW3⟩
          case measure => simp [intOf]; omega
    · obtain rfl : k = n := by omega
      have HF := Lib.hid (HOK.out (fun i x hx => H.out i x (by have := (List.getElem?_eq_some_iff.1 hx).1; rw [HN.out] at this; exact this) hx))
      clear hlt H HBAD HOK
      go_wp2
      go_ret
      exact ⟨reti HF.out, HB.out⟩
theorem checkO_any (v : Value) (l : List Ov) (hl : l.length ≤ 90000) (hs : SmallO l) (w : World) (hL : LaidP w) (h : HoldO w v l) :
    Calls Tryz.prog 11 #[v] w fun e w' => e = .returned (.int .i64 (chkO l)) ∧ Below w.heap.size w w' := by
  have KC := kchkO_any v l hl hs w hL h
  unfold kyO rgO at KC
  obtain ⟨a, c, b, o, rfl, -⟩ := h.parts
  generalize chkO l = z at *
  clear hs h hl hL
  generalize l.length = n at *
  go_enter Tryz.func11, Tryz.ntmps11
  go_wp2_with (go_at_call 33; (with_reducible refine KC.mono ?_); rintro e w2 ⟨rfl, hb⟩; have HB2 := Lib.hid hb; clear hb KC)
  go_ret
  exact ⟨rfl, HB2.out⟩
end Go.Proofs.YtmjfbpiodamamaaGreatDoor
