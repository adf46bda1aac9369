/-
  The reference's Check: what it returns; nothing old turns.
-/
import Derived.Test.YtgjnhnaccdmbjaaDoorDChk
namespace Go.Proofs.YtgjnhnaccdmbjaaDoor
open Go.RowKit
theorem right9_rx (x : Dv) (hx : x.1.length ≤ 4000 ∧ x.2.1.length ≤ 4000 ∧ x.2.2.length ≤ 4000) (w : World) : Calls Tryd.prog 24 #[aggX x] w fun e w' => e = .returned (.bool (rightD x)) ∧ Below w.heap.size w w' := by
  have := right9_ref (bsA x.1) (bsA x.2.1) (bsA x.2.2) (by rw [sizeOf, bytesOf]; omega) (by rw [sizeOf, bytesOf]; omega) (by rw [sizeOf, bytesOf]; omega) w
  exact this
/-- A row of three, and the rest as it was. -/
theorem r3_on {w V V' : World} {b o : Nat} {X Y Z : ByteArray} (h : V.cell? ⟨b, o, none⟩ = some (.string X) ∧ V.cell? ⟨b, o + 1, none⟩ = some (.string Y) ∧ V.cell? ⟨b, o + 2, none⟩ = some (.string Z) ∧ Below w.heap.size w V) (hb : Below V.heap.size V V') :
    V'.cell? ⟨b, o, none⟩ = some (.string X) ∧ V'.cell? ⟨b, o + 1, none⟩ = some (.string Y) ∧ V'.cell? ⟨b, o + 2, none⟩ = some (.string Z) ∧ Below w.heap.size w V' := by
  obtain ⟨h1, h2, h3, h4⟩ := h
  obtain ⟨a1, a2, a3⟩ := cells3_on ⟨h1, h2, h3⟩ hb
  exact ⟨a1, a2, a3, h4.trans (hb.mono h4.size)⟩
theorem r3_dr {w V : World} {b o : Nat} {X Y Z : ByteArray} (h : V.cell? ⟨b, o, none⟩ = some (.string X) ∧ V.cell? ⟨b, o + 1, none⟩ = some (.string Y) ∧ V.cell? ⟨b, o + 2, none⟩ = some (.string Z) ∧ Below w.heap.size w V) :
    V.drew.cell? ⟨b, o, none⟩ = some (.string X) ∧ V.drew.cell? ⟨b, o + 1, none⟩ = some (.string Y) ∧ V.drew.cell? ⟨b, o + 2, none⟩ = some (.string Z) ∧ Below w.heap.size w V.drew := r3_on h (Below.refl _ _).drew
theorem r4_on {w V V' : World} {b o o2 : Nat} {X Y Z P : ByteArray} (h : V.cell? ⟨b, o, none⟩ = some (.string X) ∧ V.cell? ⟨b, o + 1, none⟩ = some (.string Y) ∧ V.cell? ⟨b, o + 2, none⟩ = some (.string Z) ∧ V.cell? ⟨b, o2, none⟩ = some (.string P) ∧ Below w.heap.size w V) (hb : Below V.heap.size V V') :
    V'.cell? ⟨b, o, none⟩ = some (.string X) ∧ V'.cell? ⟨b, o + 1, none⟩ = some (.string Y) ∧ V'.cell? ⟨b, o + 2, none⟩ = some (.string Z) ∧ V'.cell? ⟨b, o2, none⟩ = some (.string P) ∧ Below w.heap.size w V' := by
  obtain ⟨h1, h2, h3, h5, h4⟩ := h
  obtain ⟨a1, a2, a3⟩ := cells3_on ⟨h1, h2, h3⟩ hb
  exact ⟨a1, a2, a3, (hb.cell (p := ⟨b, o2, none⟩) (World.block_lt_of_cell? V _ h5)).trans h5, h4.trans (hb.mono h4.size)⟩
theorem r4_dr {w V : World} {b o o2 : Nat} {X Y Z P : ByteArray} (h : V.cell? ⟨b, o, none⟩ = some (.string X) ∧ V.cell? ⟨b, o + 1, none⟩ = some (.string Y) ∧ V.cell? ⟨b, o + 2, none⟩ = some (.string Z) ∧ V.cell? ⟨b, o2, none⟩ = some (.string P) ∧ Below w.heap.size w V) :
    V.drew.cell? ⟨b, o, none⟩ = some (.string X) ∧ V.drew.cell? ⟨b, o + 1, none⟩ = some (.string Y) ∧ V.drew.cell? ⟨b, o + 2, none⟩ = some (.string Z) ∧ V.drew.cell? ⟨b, o2, none⟩ = some (.string P) ∧ Below w.heap.size w V.drew := r4_on h (Below.refl _ _).drew
set_option maxRecDepth 100000 in
set_option maxHeartbeats 16000000 in
theorem check9_ref (v : Value) (l : List Dv) (hl : l.length ≤ 90000) (hs : SmallD l) (w : World) (h : HoldD w v l) : Calls Tryd.prog 13 #[v] w (ChkPost l w) := by
  obtain ⟨a, c, b, o, rfl, hc, ha, hcell⟩ := h.parts
  have HC := Lib.hid hcell
  have HS := Lib.hid hs
  have HP : Hid (∀ z w', z = checkD l → Below w.heap.size w w' → ChkPost l w (.returned (.int .i64 z)) w') := Lib.hid (fun z w' e hb => ⟨by rw [e], hb⟩)
  obtain ⟨n, hN⟩ : ∃ n, l.length = n := ⟨_, rfl⟩
  rw [hN] at hc ha hl ⊢
  have HN := Lib.hid hN
  clear hcell hN h hs
  by_cases h64 : 64 < n
  · have HF : Hid ((22 : Int) = checkD l) := Lib.hid (by rw [checkD_long (by rw [HN.out]; exact h64)])
    go_enter Tryd.func13, Tryd.ntmps13
    go_wp2
    go_ret
    exact HP.out _ _ HF.out (Below.refl _ _)
  have HBAD : Hid (∀ (i : Nat) x, l[i]? = some x → ¬ (stepD l i x ∧ apartD l i x) → (1 : Int) = checkD l) := Lib.hid (fun i x hx g => by rw [checkD_no (by rw [HN.out]; exact h64) (fun q => g (q i x hx))])
  have HOK : Hid (OkD l → (0 : Int) = checkD l) := Lib.hid (fun g => by rw [checkD_ok (by rw [HN.out]; exact h64) g])
  go_enter Tryd.func13, Tryd.ntmps13
  go_wp2
  go_loopw [3] (fun i wr => ∃ k : Nat, k ≤ n ∧ i = .int .i64 k ∧ Hid (∀ (j : Nat) y, j < k → l[j]? = some y → stepD l j y ∧ apartD l j y) ∧ Hid (Below w.heap.size w wr)) (fun i _ => n - (intOf i).toNat)
  case atStart => exact ⟨0, by omega, rfl, Lib.hid (fun j y hj => by omega), Lib.hid (Below.refl _ _)⟩
  case round =>
    obtain ⟨k, hk, rfl, H, HB⟩ := hrel
    obtain ⟨wo, rfl⟩ : ∃ wo : World, wo = wr := ⟨_, rfl⟩
    by_cases hlt : k < n
    · obtain ⟨rfl, hbw⟩ := ha (by omega)
      obtain ⟨x, hx⟩ : ∃ x, l[k]? = some x := ⟨_, List.getElem?_eq_getElem (by rw [HN.out]; exact hlt)⟩
      obtain ⟨c0, c1, c2⟩ := HC.out k x hx
      rw [← HB.out.cell (p := ⟨b, o + k * 3, none⟩) hbw] at c0
      rw [← HB.out.cell (p := ⟨b, o + k * 3 + 1, none⟩) hbw] at c1
      rw [← HB.out.cell (p := ⟨b, o + k * 3 + 2, none⟩) hbw] at c2
      have RA := fun W => right9_rx x (HS.out x (List.mem_of_getElem? hx)) W
      have HX := Lib.hid hx
      have hs := And.intro c0 (And.intro c1 (And.intro c2 HB.out))
      unfold aggX aggD at RA
      clear hx
      cases hq : rightD x
      · have HF := Lib.hid (HBAD.out k x HX.out (fun g => by rw [g.1.1] at hq; cases hq))
        simp only [hq] at RA
        clear hq H HBAD HOK HC HS HX
        generalize bsA x.1 = X at *
        generalize bsA x.2.1 = Y at *
        generalize bsA x.2.2 = ZZ at *
        go_wp2
        refine wp_region_held_drew (S := (fun V => V.cell? ⟨b, o + k * 3, none⟩ = some (.string X) ∧ V.cell? ⟨b, o + k * 3 + 1, none⟩ = some (.string Y) ∧ V.cell? ⟨b, o + k * 3 + 2, none⟩ = some (.string ZZ) ∧ Below w.heap.size w V)) (by kernel_rfl) ?_ (fun hHeld => ?_)
        · (try dsimp only); (first | assumption | exact hs | exact r3_dr hs | exact r3_on (by assumption) (by assumption))
        refine heldYes 0 14 ?_ rfl (by kernel_rfl) (by kernel_rfl) (by kernel_rfl) (fun _ _ _ h => h) rfl (by assumption) ?_ ?_
        rotate_left
        · (intro w hSw; (try dsimp only at hSw); go_simp; (try with_reducible rfl))
        simp only [List.setIfInBounds_toArray, List.set_cons_zero, List.set_cons_succ]
        refine heldYes 1 15 ?_ rfl (by kernel_rfl) (by kernel_rfl) (by kernel_rfl) (fun _ _ _ h => h) rfl (by assumption) ?_ ?_
        rotate_left
        · (intro w hSw; (try dsimp only at hSw); go_simp; (try with_reducible rfl))
        simp only [List.setIfInBounds_toArray, List.set_cons_zero, List.set_cons_succ]
        refine heldYes 2 16 ?_ rfl (by kernel_rfl) (by kernel_rfl) (by kernel_rfl) (fun _ _ _ h => h) rfl (by assumption) ?_ ?_
        rotate_left
        · (intro w hSw; (try dsimp only at hSw); go_simp; (try with_reducible rfl))
        simp only [List.setIfInBounds_toArray, List.set_cons_zero, List.set_cons_succ]
        refine heldYes 3 17 ?_ rfl (by kernel_rfl) (by kernel_rfl) (by kernel_rfl) (fun _ _ _ h => h) rfl (by assumption) ?_ ?_
        rotate_left
        · (intro w hSw; (try dsimp only at hSw); go_simp; (try with_reducible rfl))
        simp only [List.setIfInBounds_toArray, List.set_cons_zero, List.set_cons_succ]
        refine wpAnyH_ready (rs := [4]) (by kernel_rfl) (by simp) ?_
        refine AllReadyH.cons rfl (fun K hK => ?_) AllReadyH.nil
        go_simp
        go_at_call 24; refine (RA _).mono ?_; rintro e w3 ⟨rfl, hb⟩
        refine hK.out _ _ ?_ (fun hHeld => ?_)
        · (try dsimp only); (first | assumption | exact hs | exact r3_dr hs | exact r3_on (by assumption) (by assumption))
        clear hK K
        try simp only [Act.put, List.setIfInBounds_toArray, List.set_cons_zero, List.set_cons_succ]
        refine heldYes 5 19 ?_ rfl (by kernel_rfl) (by kernel_rfl) (by kernel_rfl) (fun _ _ _ h => h) rfl (by assumption) ?_ ?_
        rotate_left
        · (intro w hSw; (try dsimp only at hSw); go_simp; (try with_reducible rfl))
        simp only [List.setIfInBounds_toArray, List.set_cons_zero, List.set_cons_succ]
        refine heldYes 6 20 ?_ rfl (by kernel_rfl) (by kernel_rfl) (by kernel_rfl) (fun _ _ _ h => h) rfl (by assumption) ?_ ?_
        rotate_left
        · (intro w hSw; (try dsimp only at hSw); go_simp; (try with_reducible rfl))
        simp only [List.setIfInBounds_toArray, List.set_cons_zero, List.set_cons_succ]
        refine heldNo 7 21 rfl (by kernel_rfl) (by kernel_rfl) (by kernel_rfl) (fun _ _ _ h => h) rfl (by assumption) ?_
        simp only [List.setIfInBounds_toArray, List.set_cons_zero, List.set_cons_succ]
        refine heldNo 8 22 rfl (by kernel_rfl) (by kernel_rfl) (by kernel_rfl) (fun _ _ _ h => h) rfl (by assumption) ?_
        simp only [List.setIfInBounds_toArray, List.set_cons_zero, List.set_cons_succ]
        refine heldNo 9 23 rfl (by kernel_rfl) (by kernel_rfl) (by kernel_rfl) (fun _ _ _ h => h) rfl (by assumption) ?_
        simp only [List.setIfInBounds_toArray, List.set_cons_zero, List.set_cons_succ]
        refine heldNo 10 24 rfl (by kernel_rfl) (by kernel_rfl) (by kernel_rfl) (fun _ _ _ h => h) rfl (by assumption) ?_
        simp only [List.setIfInBounds_toArray, List.set_cons_zero, List.set_cons_succ]
        refine heldNo 11 25 rfl (by kernel_rfl) (by kernel_rfl) (by kernel_rfl) (fun _ _ _ h => h) rfl (by assumption) ?_
        simp only [List.setIfInBounds_toArray, List.set_cons_zero, List.set_cons_succ]
        refine heldNo 12 26 rfl (by kernel_rfl) (by kernel_rfl) (by kernel_rfl) (fun _ _ _ h => h) rfl (by assumption) ?_
        simp only [List.setIfInBounds_toArray, List.set_cons_zero, List.set_cons_succ]
        refine heldNo 13 27 rfl (by kernel_rfl) (by kernel_rfl) (by kernel_rfl) (fun _ _ _ h => h) rfl (by assumption) ?_
        simp only [List.setIfInBounds_toArray, List.set_cons_zero, List.set_cons_succ]
        refine heldNo 14 28 rfl (by kernel_rfl) (by kernel_rfl) (by kernel_rfl) (fun _ _ _ h => h) rfl (by assumption) ?_
        simp only [List.setIfInBounds_toArray, List.set_cons_zero, List.set_cons_succ]
        refine heldNo 15 29 rfl (by kernel_rfl) (by kernel_rfl) (by kernel_rfl) (fun _ _ _ h => h) rfl (by assumption) ?_
        simp only [List.setIfInBounds_toArray, List.set_cons_zero, List.set_cons_succ]
        refine heldNo 16 30 rfl (by kernel_rfl) (by kernel_rfl) (by kernel_rfl) (fun _ _ _ h => h) rfl (by assumption) ?_
        simp only [List.setIfInBounds_toArray, List.set_cons_zero, List.set_cons_succ]
        refine heldNo 17 31 rfl (by kernel_rfl) (by kernel_rfl) (by kernel_rfl) (fun _ _ _ h => h) rfl (by assumption) ?_
        simp only [List.setIfInBounds_toArray, List.set_cons_zero, List.set_cons_succ]
        refine heldNo 18 32 rfl (by kernel_rfl) (by kernel_rfl) (by kernel_rfl) (fun _ _ _ h => h) rfl (by assumption) ?_
        simp only [List.setIfInBounds_toArray, List.set_cons_zero, List.set_cons_succ]
        refine heldNo 19 33 rfl (by kernel_rfl) (by kernel_rfl) (by kernel_rfl) (fun _ _ _ h => h) rfl (by assumption) ?_
        simp only [List.setIfInBounds_toArray, List.set_cons_zero, List.set_cons_succ]
        refine heldNo 20 34 rfl (by kernel_rfl) (by kernel_rfl) (by kernel_rfl) (fun _ _ _ h => h) rfl (by assumption) ?_
        simp only [List.setIfInBounds_toArray, List.set_cons_zero, List.set_cons_succ]
        refine heldNo 21 35 rfl (by kernel_rfl) (by kernel_rfl) (by kernel_rfl) (fun _ _ _ h => h) rfl (by assumption) ?_
        simp only [List.setIfInBounds_toArray, List.set_cons_zero, List.set_cons_succ]
        refine heldNo 22 36 rfl (by kernel_rfl) (by kernel_rfl) (by kernel_rfl) (fun _ _ _ h => h) rfl (by assumption) ?_
        simp only [List.setIfInBounds_toArray, List.set_cons_zero, List.set_cons_succ]
        refine heldYes 23 37 ?_ rfl (by kernel_rfl) (by kernel_rfl) (by kernel_rfl) (fun _ _ _ h => h) rfl (by assumption) ?_ ?_
        rotate_left
        · (intro w hSw; (try dsimp only at hSw); go_simp; (try with_reducible rfl))
        simp only [List.setIfInBounds_toArray, List.set_cons_zero, List.set_cons_succ]
        refine wpAnyH_done (by kernel_rfl) ?_ _
        have HW3 := Lib.hid hHeld.2.2.2
        clear hHeld
        go_wp2
        go_ret
        exact HP.out _ _ HF.out HW3.out
      simp only [hq] at RA
      obtain ⟨X, hX⟩ : ∃ X, X = bsA x.1 := ⟨_, rfl⟩
      obtain ⟨Y, hY⟩ : ∃ Y, Y = bsA x.2.1 := ⟨_, rfl⟩
      obtain ⟨ZZ, hZ⟩ : ∃ ZZ, ZZ = bsA x.2.2 := ⟨_, rfl⟩
      rw [← hX, ← hY, ← hZ] at hs RA
      rw [← hX] at c0
      rw [← hY] at c1
      rw [← hZ] at c2
      have HXe := Lib.hid hX
      have HYe := Lib.hid hY
      have HRX := Lib.hid hq
      have k0 : (0 : Int) ≤ (k : Int) := by omega
      have k1 : (k : Int) < (n : Int) := by omega
      clear hX hY hZ hq
      by_cases hk0 : 0 < k
      · obtain ⟨y, hy⟩ : ∃ y, l[k - 1]? = some y := ⟨_, List.getElem?_eq_getElem (by rw [HN.out]; omega)⟩
        obtain ⟨e0, -, -⟩ := HC.out (k - 1) y hy
        rw [← HB.out.cell (p := ⟨b, o + (k - 1) * 3, none⟩) hbw] at e0
        have hls := lessT (bsA y.1) X
        rw [HXe.out, bytesOf, bytesOf, ← HXe.out] at hls
        have HBADk : Hid (decide (y.1 < x.1) = false → (1 : Int) = checkD l) := Lib.hid (fun g => HBAD.out k x HX.out (fun q => by rw [decide_eq_true (q.1.2 y hk0 hy)] at g; cases g))
        have HST : Hid (decide (y.1 < x.1) = true → stepD l k x) := Lib.hid (fun g => ⟨HRX.out, fun u _ h2 => by rw [hy] at h2; cases h2; exact of_decide_eq_true g⟩)
        generalize decide (y.1 < x.1) = q at *
        generalize bsA y.1 = X' at *
        have hd : decide ((0 : Int) < (k : Int)) = true := decide_eq_true (by omega)
        have hk1 : (1 : Int) ≤ (k : Int) := by omega
        have hs := And.intro c0 (And.intro c1 (And.intro c2 (And.intro e0 HB.out)))
        clear hy
        go_wp2
        have i0 : (0 : Int) ≤ (k : Int) - 1 := by omega
        have i1 : (k : Int) - 1 < (n : Int) := by omega
        have i2 : ((k : Int) - 1).toNat = k - 1 := by omega
        have i3 : IntKind.i64.wrap ((k : Int) - 1) = (k : Int) - 1 := IntWalk.i64_in _ (by omega)
        go_region_held3 (fun V => V.cell? ⟨b, o + k * 3, none⟩ = some (.string X) ∧ V.cell? ⟨b, o + k * 3 + 1, none⟩ = some (.string Y) ∧ V.cell? ⟨b, o + k * 3 + 2, none⟩ = some (.string ZZ) ∧ V.cell? ⟨b, o + (k - 1) * 3, none⟩ = some (.string X') ∧ Below w.heap.size w V)
          (first | assumption | exact hs | exact r4_dr hs | exact r4_on (by assumption) (by assumption))
          ((go_at_call 24; refine (RA _).mono ?_; rintro e w3 ⟨rfl, hb⟩))
        rename_i hHeld
        have HW3 := Lib.hid hHeld.2.2.2.2
        clear hHeld i2 i3 hb e0 c0 c1 c2 hs RA
        cases q
        · have HF := Lib.hid (HBADk.out rfl)
          clear HBADk HST
          go_wp2
          go_ret
          exact HP.out _ _ HF.out HW3.out
        have HSTEP := Lib.hid (HST.out rfl)
        clear HBADk HST hls hd i0 i1 hk1
        go_wp2
        go_loopw [4] (fun i wx => ∃ t : Nat, t ≤ n ∧ i = .int .i64 t ∧ Hid (∀ (j : Nat) y, j < t → l[j]? = some y → y.1 ≠ x.2.1 ∧ (j ≠ k → y.2.1 ≠ x.2.1)) ∧ Hid (Below w.heap.size w wx)) (fun i _ => n - (intOf i).toNat)
        case atStart => exact ⟨0, by omega, rfl, Lib.hid (fun j y hj => by omega), HW3⟩
        case round =>
          obtain ⟨t, ht, rfl, HI, HBX⟩ := hrel
          obtain ⟨wx, rfl⟩ : ∃ wx : World, wx = wr := ⟨_, rfl⟩
          by_cases htn : t < n
          · obtain ⟨y, hy⟩ : ∃ y, l[t]? = some y := ⟨_, List.getElem?_eq_getElem (by rw [HN.out]; exact htn)⟩
            obtain ⟨f0, f1, -⟩ := HC.out t y hy
            obtain ⟨-, g1, -⟩ := HC.out k x HX.out
            rw [← HBX.out.cell (p := ⟨b, o + t * 3, none⟩) hbw] at f0
            rw [← HBX.out.cell (p := ⟨b, o + t * 3 + 1, none⟩) hbw] at f1
            rw [← HBX.out.cell (p := ⟨b, o + k * 3 + 1, none⟩) hbw, ← HYe.out] at g1
            have s1 := eqT (bsA y.1) Y
            have s2 := eqT (bsA y.2.1) Y
            rw [HYe.out, bytesOf, bytesOf, ← HYe.out] at s1 s2
            have HY := Lib.hid hy
            have t0 : (0 : Int) ≤ (t : Int) := by omega
            have t1 : (t : Int) < (n : Int) := by omega
            have HMM : Hid (∀ m', Below w.heap.size w (wx.drewN m')) := Lib.hid (fun m' => belowQ HBX.out m')
            clear hy
            by_cases e1 : y.1 = x.2.1
            · rw [decide_eq_true e1] at s1
              have HF := Lib.hid (HBAD.out k x HX.out (fun q => (q.2 t y HY.out).1 e1))
              generalize bsA y.1 = P1 at *
              generalize bsA y.2.1 = P2 at *
              clear e1 HI H HBAD HOK HC HS HX HYe HXe HSTEP HRX
              go_wp2
              go_quiet (fail)
              go_wp2
              go_ret
              exact HP.out _ _ HF.out (HMM.out _)
            rw [decide_eq_false e1] at s1
            by_cases ek : t = k
            · have HK2 : Hid (∀ (j : Nat) u, j < t + 1 → l[j]? = some u → u.1 ≠ x.2.1 ∧ (j ≠ k → u.2.1 ≠ x.2.1)) := Lib.hid (fun j u hj hu => by
                by_cases ej : j = t
                · subst ej; rw [HY.out] at hu; cases hu; exact ⟨e1, fun g => absurd ek g⟩
                · exact HI.out j u (by omega) hu)
              have hne : ((t : Int) != (k : Int)) = false := by rw [ek]; simp
              generalize bsA y.1 = P1 at *
              generalize bsA y.2.1 = P2 at *
              clear e1 ek HI s2
              go_wp2
              go_quiet (fail)
              go_wp2
              go_roundw
              case rel => exact ⟨t + 1, by omega, by go_num, HK2, Lib.hid (HMM.out _)⟩
              case measure => simp [intOf]; omega
            have hne : ((t : Int) != (k : Int)) = true := by rw [bne_iff_ne]; omega
            by_cases e2 : y.2.1 = x.2.1
            · rw [decide_eq_true e2] at s2
              have HF := Lib.hid (HBAD.out k x HX.out (fun q => (q.2 t y HY.out).2 ek e2))
              generalize bsA y.1 = P1 at *
              generalize bsA y.2.1 = P2 at *
              clear e1 e2 ek HI H HBAD HOK HC HS HX HYe HXe HSTEP HRX
              go_wp2
              go_quiet (fail)
              go_wp2
              go_ret
              exact HP.out _ _ HF.out (HMM.out _)
            · rw [decide_eq_false e2] at s2
              have HK2 : Hid (∀ (j : Nat) u, j < t + 1 → l[j]? = some u → u.1 ≠ x.2.1 ∧ (j ≠ k → u.2.1 ≠ x.2.1)) := Lib.hid (fun j u hj hu => by
                by_cases ej : j = t
                · subst ej; rw [HY.out] at hu; cases hu; exact ⟨e1, fun _ => e2⟩
                · exact HI.out j u (by omega) hu)
              generalize bsA y.1 = P1 at *
              generalize bsA y.2.1 = P2 at *
              clear e1 e2 ek HI
              go_wp2
              go_quiet (fail)
              go_wp2
              go_roundw
              case rel => exact ⟨t + 1, by omega, by go_num, HK2, Lib.hid (HMM.out _)⟩
              case measure => simp [intOf]; omega
          · have HK : Hid (∀ (j : Nat) u, j < k + 1 → l[j]? = some u → stepD l j u ∧ apartD l j u) := Lib.hid (fun j u hj hu => by
              by_cases ej : j = k
              · subst ej; rw [HX.out] at hu; cases hu
                exact ⟨HSTEP.out, fun k' y' hy' => HI.out k' y' (by have := (List.getElem?_eq_some_iff.1 hy').1; rw [HN.out] at this; omega) hy'⟩
              · exact H.out j u (by omega) hu)
            clear HI H HBAD HOK
            go_wp2
            go_roundw
            case rel => exact ⟨k + 1, by omega, by go_num, HK, HBX⟩
            case measure => simp [intOf]; omega
      · have HSTEP : Hid (stepD l k x) := Lib.hid ⟨HRX.out, fun _ h1 => absurd h1 hk0⟩
        have hd : decide ((0 : Int) < (k : Int)) = false := decide_eq_false (by omega)
        go_wp2
        refine wp_region_held_drew (S := (fun V => V.cell? ⟨b, o + k * 3, none⟩ = some (.string X) ∧ V.cell? ⟨b, o + k * 3 + 1, none⟩ = some (.string Y) ∧ V.cell? ⟨b, o + k * 3 + 2, none⟩ = some (.string ZZ) ∧ Below w.heap.size w V)) (by kernel_rfl) ?_ (fun hHeld => ?_)
        · (try dsimp only); (first | assumption | exact hs | exact r3_dr hs | exact r3_on (by assumption) (by assumption))
        refine heldYes 0 14 ?_ rfl (by kernel_rfl) (by kernel_rfl) (by kernel_rfl) (fun _ _ _ h => h) rfl (by assumption) ?_ ?_
        rotate_left
        · (intro w hSw; (try dsimp only at hSw); go_simp; (try with_reducible rfl))
        simp only [List.setIfInBounds_toArray, List.set_cons_zero, List.set_cons_succ]
        refine heldYes 1 15 ?_ rfl (by kernel_rfl) (by kernel_rfl) (by kernel_rfl) (fun _ _ _ h => h) rfl (by assumption) ?_ ?_
        rotate_left
        · (intro w hSw; (try dsimp only at hSw); go_simp; (try with_reducible rfl))
        simp only [List.setIfInBounds_toArray, List.set_cons_zero, List.set_cons_succ]
        refine heldYes 2 16 ?_ rfl (by kernel_rfl) (by kernel_rfl) (by kernel_rfl) (fun _ _ _ h => h) rfl (by assumption) ?_ ?_
        rotate_left
        · (intro w hSw; (try dsimp only at hSw); go_simp; (try with_reducible rfl))
        simp only [List.setIfInBounds_toArray, List.set_cons_zero, List.set_cons_succ]
        refine heldYes 3 17 ?_ rfl (by kernel_rfl) (by kernel_rfl) (by kernel_rfl) (fun _ _ _ h => h) rfl (by assumption) ?_ ?_
        rotate_left
        · (intro w hSw; (try dsimp only at hSw); go_simp; (try with_reducible rfl))
        simp only [List.setIfInBounds_toArray, List.set_cons_zero, List.set_cons_succ]
        refine wpAnyH_ready (rs := [4]) (by kernel_rfl) (by simp) ?_
        refine AllReadyH.cons rfl (fun K hK => ?_) AllReadyH.nil
        go_simp
        go_at_call 24; refine (RA _).mono ?_; rintro e w3 ⟨rfl, hb⟩
        refine hK.out _ _ ?_ (fun hHeld => ?_)
        · (try dsimp only); (first | assumption | exact hs | exact r3_dr hs | exact r3_on (by assumption) (by assumption))
        clear hK K
        try simp only [Act.put, List.setIfInBounds_toArray, List.set_cons_zero, List.set_cons_succ]
        refine heldYes 5 19 ?_ rfl (by kernel_rfl) (by kernel_rfl) (by kernel_rfl) (fun _ _ _ h => h) rfl (by assumption) ?_ ?_
        rotate_left
        · (intro w hSw; (try dsimp only at hSw); go_simp; (try with_reducible rfl))
        simp only [List.setIfInBounds_toArray, List.set_cons_zero, List.set_cons_succ]
        refine heldYes 6 20 ?_ rfl (by kernel_rfl) (by kernel_rfl) (by kernel_rfl) (fun _ _ _ h => h) rfl (by assumption) ?_ ?_
        rotate_left
        · (intro w hSw; (try dsimp only at hSw); go_simp; (try with_reducible rfl))
        simp only [List.setIfInBounds_toArray, List.set_cons_zero, List.set_cons_succ]
        refine heldYes 7 21 ?_ rfl (by kernel_rfl) (by kernel_rfl) (by kernel_rfl) (fun _ _ _ h => h) rfl (by assumption) ?_ ?_
        rotate_left
        · (intro w hSw; (try dsimp only at hSw); go_simp; (try with_reducible rfl))
        simp only [List.setIfInBounds_toArray, List.set_cons_zero, List.set_cons_succ]
        refine heldYes 8 22 ?_ rfl (by kernel_rfl) (by kernel_rfl) (by kernel_rfl) (fun _ _ _ h => h) rfl (by assumption) ?_ ?_
        rotate_left
        · (intro w hSw; (try dsimp only at hSw); go_simp; (try with_reducible rfl))
        simp only [List.setIfInBounds_toArray, List.set_cons_zero, List.set_cons_succ]
        refine heldYes 9 23 ?_ rfl (by kernel_rfl) (by kernel_rfl) (by kernel_rfl) (fun _ _ _ h => h) rfl (by assumption) ?_ ?_
        rotate_left
        · (intro w hSw; (try dsimp only at hSw); go_simp; (try with_reducible rfl))
        simp only [List.setIfInBounds_toArray, List.set_cons_zero, List.set_cons_succ]
        refine heldNo 10 24 rfl (by kernel_rfl) (by kernel_rfl) (by kernel_rfl) (fun _ _ _ h => h) rfl (by assumption) ?_
        simp only [List.setIfInBounds_toArray, List.set_cons_zero, List.set_cons_succ]
        refine heldNo 11 25 rfl (by kernel_rfl) (by kernel_rfl) (by kernel_rfl) (fun _ _ _ h => h) rfl (by assumption) ?_
        simp only [List.setIfInBounds_toArray, List.set_cons_zero, List.set_cons_succ]
        refine heldNo 12 26 rfl (by kernel_rfl) (by kernel_rfl) (by kernel_rfl) (fun _ _ _ h => h) rfl (by assumption) ?_
        simp only [List.setIfInBounds_toArray, List.set_cons_zero, List.set_cons_succ]
        refine heldNo 13 27 rfl (by kernel_rfl) (by kernel_rfl) (by kernel_rfl) (fun _ _ _ h => h) rfl (by assumption) ?_
        simp only [List.setIfInBounds_toArray, List.set_cons_zero, List.set_cons_succ]
        refine heldNo 14 28 rfl (by kernel_rfl) (by kernel_rfl) (by kernel_rfl) (fun _ _ _ h => h) rfl (by assumption) ?_
        simp only [List.setIfInBounds_toArray, List.set_cons_zero, List.set_cons_succ]
        refine heldNo 15 29 rfl (by kernel_rfl) (by kernel_rfl) (by kernel_rfl) (fun _ _ _ h => h) rfl (by assumption) ?_
        simp only [List.setIfInBounds_toArray, List.set_cons_zero, List.set_cons_succ]
        refine heldNo 16 30 rfl (by kernel_rfl) (by kernel_rfl) (by kernel_rfl) (fun _ _ _ h => h) rfl (by assumption) ?_
        simp only [List.setIfInBounds_toArray, List.set_cons_zero, List.set_cons_succ]
        refine heldNo 17 31 rfl (by kernel_rfl) (by kernel_rfl) (by kernel_rfl) (fun _ _ _ h => h) rfl (by assumption) ?_
        simp only [List.setIfInBounds_toArray, List.set_cons_zero, List.set_cons_succ]
        refine heldNo 18 32 rfl (by kernel_rfl) (by kernel_rfl) (by kernel_rfl) (fun _ _ _ h => h) rfl (by assumption) ?_
        simp only [List.setIfInBounds_toArray, List.set_cons_zero, List.set_cons_succ]
        refine heldNo 19 33 rfl (by kernel_rfl) (by kernel_rfl) (by kernel_rfl) (fun _ _ _ h => h) rfl (by assumption) ?_
        simp only [List.setIfInBounds_toArray, List.set_cons_zero, List.set_cons_succ]
        refine heldNo 20 34 rfl (by kernel_rfl) (by kernel_rfl) (by kernel_rfl) (fun _ _ _ h => h) rfl (by assumption) ?_
        simp only [List.setIfInBounds_toArray, List.set_cons_zero, List.set_cons_succ]
        refine heldNo 21 35 rfl (by kernel_rfl) (by kernel_rfl) (by kernel_rfl) (fun _ _ _ h => h) rfl (by assumption) ?_
        simp only [List.setIfInBounds_toArray, List.set_cons_zero, List.set_cons_succ]
        refine heldYes 22 36 ?_ rfl (by kernel_rfl) (by kernel_rfl) (by kernel_rfl) (fun _ _ _ h => h) rfl (by assumption) ?_ ?_
        rotate_left
        · (intro w hSw; (try dsimp only at hSw); go_simp; (try with_reducible rfl))
        simp only [List.setIfInBounds_toArray, List.set_cons_zero, List.set_cons_succ]
        refine heldYes 23 37 ?_ rfl (by kernel_rfl) (by kernel_rfl) (by kernel_rfl) (fun _ _ _ h => h) rfl (by assumption) ?_ ?_
        rotate_left
        · (intro w hSw; (try dsimp only at hSw); go_simp; (try with_reducible rfl))
        simp only [List.setIfInBounds_toArray, List.set_cons_zero, List.set_cons_succ]
        refine wpAnyH_done (by kernel_rfl) ?_ _
        have HW3 := Lib.hid hHeld.2.2.2
        clear hHeld hb c0 c1 c2 hs RA hd
        go_wp2
        go_loopw [4] (fun i wx => ∃ t : Nat, t ≤ n ∧ i = .int .i64 t ∧ Hid (∀ (j : Nat) y, j < t → l[j]? = some y → y.1 ≠ x.2.1 ∧ (j ≠ k → y.2.1 ≠ x.2.1)) ∧ Hid (Below w.heap.size w wx)) (fun i _ => n - (intOf i).toNat)
        case atStart => exact ⟨0, by omega, rfl, Lib.hid (fun j y hj => by omega), HW3⟩
        case round =>
          obtain ⟨t, ht, rfl, HI, HBX⟩ := hrel
          obtain ⟨wx, rfl⟩ : ∃ wx : World, wx = wr := ⟨_, rfl⟩
          by_cases htn : t < n
          · obtain ⟨y, hy⟩ : ∃ y, l[t]? = some y := ⟨_, List.getElem?_eq_getElem (by rw [HN.out]; exact htn)⟩
            obtain ⟨f0, f1, -⟩ := HC.out t y hy
            obtain ⟨-, g1, -⟩ := HC.out k x HX.out
            rw [← HBX.out.cell (p := ⟨b, o + t * 3, none⟩) hbw] at f0
            rw [← HBX.out.cell (p := ⟨b, o + t * 3 + 1, none⟩) hbw] at f1
            rw [← HBX.out.cell (p := ⟨b, o + k * 3 + 1, none⟩) hbw, ← HYe.out] at g1
            have s1 := eqT (bsA y.1) Y
            have s2 := eqT (bsA y.2.1) Y
            rw [HYe.out, bytesOf, bytesOf, ← HYe.out] at s1 s2
            have HY := Lib.hid hy
            have t0 : (0 : Int) ≤ (t : Int) := by omega
            have t1 : (t : Int) < (n : Int) := by omega
            have HMM : Hid (∀ m', Below w.heap.size w (wx.drewN m')) := Lib.hid (fun m' => belowQ HBX.out m')
            clear hy
            by_cases e1 : y.1 = x.2.1
            · rw [decide_eq_true e1] at s1
              have HF := Lib.hid (HBAD.out k x HX.out (fun q => (q.2 t y HY.out).1 e1))
              generalize bsA y.1 = P1 at *
              generalize bsA y.2.1 = P2 at *
              clear e1 HI H HBAD HOK HC HS HX HYe HXe HSTEP HRX
              go_wp2
              go_quiet (fail)
              go_wp2
              go_ret
              exact HP.out _ _ HF.out (HMM.out _)
            rw [decide_eq_false e1] at s1
            by_cases ek : t = k
            · have HK2 : Hid (∀ (j : Nat) u, j < t + 1 → l[j]? = some u → u.1 ≠ x.2.1 ∧ (j ≠ k → u.2.1 ≠ x.2.1)) := Lib.hid (fun j u hj hu => by
                by_cases ej : j = t
                · subst ej; rw [HY.out] at hu; cases hu; exact ⟨e1, fun g => absurd ek g⟩
                · exact HI.out j u (by omega) hu)
              have hne : ((t : Int) != (k : Int)) = false := by rw [ek]; simp
              generalize bsA y.1 = P1 at *
              generalize bsA y.2.1 = P2 at *
              clear e1 ek HI s2
              go_wp2
              go_quiet (fail)
              go_wp2
              go_roundw
              case rel => exact ⟨t + 1, by omega, by go_num, HK2, Lib.hid (HMM.out _)⟩
              case measure => simp [intOf]; omega
            have hne : ((t : Int) != (k : Int)) = true := by rw [bne_iff_ne]; omega
            by_cases e2 : y.2.1 = x.2.1
            · rw [decide_eq_true e2] at s2
              have HF := Lib.hid (HBAD.out k x HX.out (fun q => (q.2 t y HY.out).2 ek e2))
              generalize bsA y.1 = P1 at *
              generalize bsA y.2.1 = P2 at *
              clear e1 e2 ek HI H HBAD HOK HC HS HX HYe HXe HSTEP HRX
              go_wp2
              go_quiet (fail)
              go_wp2
              go_ret
              exact HP.out _ _ HF.out (HMM.out _)
            · rw [decide_eq_false e2] at s2
              have HK2 : Hid (∀ (j : Nat) u, j < t + 1 → l[j]? = some u → u.1 ≠ x.2.1 ∧ (j ≠ k → u.2.1 ≠ x.2.1)) := Lib.hid (fun j u hj hu => by
                by_cases ej : j = t
                · subst ej; rw [HY.out] at hu; cases hu; exact ⟨e1, fun _ => e2⟩
                · exact HI.out j u (by omega) hu)
              generalize bsA y.1 = P1 at *
              generalize bsA y.2.1 = P2 at *
              clear e1 e2 ek HI
              go_wp2
              go_quiet (fail)
              go_wp2
              go_roundw
              case rel => exact ⟨t + 1, by omega, by go_num, HK2, Lib.hid (HMM.out _)⟩
              case measure => simp [intOf]; omega
          · have HK : Hid (∀ (j : Nat) u, j < k + 1 → l[j]? = some u → stepD l j u ∧ apartD l j u) := Lib.hid (fun j u hj hu => by
              by_cases ej : j = k
              · subst ej; rw [HX.out] at hu; cases hu
                exact ⟨HSTEP.out, fun k' y' hy' => HI.out k' y' (by have := (List.getElem?_eq_some_iff.1 hy').1; rw [HN.out] at this; omega) hy'⟩
              · exact H.out j u (by omega) hu)
            clear HI H HBAD HOK
            go_wp2
            go_roundw
            case rel => exact ⟨k + 1, by omega, by go_num, HK, HBX⟩
            case measure => simp [intOf]; omega
    · obtain rfl : k = n := by omega
      have HF := Lib.hid (HOK.out (fun i x hx => H.out i x (by have := (List.getElem?_eq_some_iff.1 hx).1; rw [HN.out] at this; exact this) hx))
      clear hlt H HBAD HOK
      go_wp2
      go_ret
      exact HP.out _ _ HF.out HB.out
end Go.Proofs.YtgjnhnaccdmbjaaDoor
