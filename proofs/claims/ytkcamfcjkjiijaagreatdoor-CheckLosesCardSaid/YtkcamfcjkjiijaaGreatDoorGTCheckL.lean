/-
  The program's Check of lists: what it returns; nothing old turns. Condition: LaidP.
-/
import Derived.Test.YtkcamfcjkjiijaaGreatDoorGDPrint
import Derived.Test.YtkcamfcjkjiijaaGreatDoorGBoxV
import Derived.IntWalk
namespace Go.Proofs.YtkcamfcjkjiijaaGreatDoor
open Go.RowKit
def SmallL (L : List Lp) : Prop := ∀ p ∈ L, p.1.1.length ≤ 4000 ∧ p.1.2.length ≤ 90000 ∧ SmallP p.1.2
theorem s2_on {w V V' : World} {b : Nat} {x y : Value} (h : V.cell? ⟨b, 0, none⟩ = some x ∧ V.cell? ⟨b, 1, none⟩ = some y ∧ Below w.heap.size w V) (hb : Below V.heap.size V V') :
    V'.cell? ⟨b, 0, none⟩ = some x ∧ V'.cell? ⟨b, 1, none⟩ = some y ∧ Below w.heap.size w V' := by
  have l := World.block_lt_of_cell? V _ h.1
  exact ⟨(hb.cell (p := ⟨b, 0, none⟩) l).trans h.1, (hb.cell (p := ⟨b, 1, none⟩) l).trans h.2.1, h.2.2.trans (hb.mono h.2.2.size)⟩
theorem s2_dr {w V : World} {b : Nat} {x y : Value} (h : V.cell? ⟨b, 0, none⟩ = some x ∧ V.cell? ⟨b, 1, none⟩ = some y ∧ Below w.heap.size w V) :
    V.drew.cell? ⟨b, 0, none⟩ = some x ∧ V.drew.cell? ⟨b, 1, none⟩ = some y ∧ Below w.heap.size w V.drew := s2_on h (Below.refl _ _).drew
theorem s2_be {w V : World} {b : Nat} {x y : Value} (h : V.cell? ⟨b, 0, none⟩ = some x ∧ V.cell? ⟨b, 1, none⟩ = some y ∧ Below w.heap.size w V) : Below w.heap.size w V := h.2.2
theorem s4_on {w V V' : World} {b c o : Nat} {x y p q : Value} (h : V.cell? ⟨b, 0, none⟩ = some x ∧ V.cell? ⟨b, 1, none⟩ = some y ∧ V.cell? ⟨c, o, none⟩ = some p ∧ V.cell? ⟨c, o + 1, none⟩ = some q ∧ Below w.heap.size w V) (hb : Below V.heap.size V V') :
    V'.cell? ⟨b, 0, none⟩ = some x ∧ V'.cell? ⟨b, 1, none⟩ = some y ∧ V'.cell? ⟨c, o, none⟩ = some p ∧ V'.cell? ⟨c, o + 1, none⟩ = some q ∧ Below w.heap.size w V' := by
  obtain ⟨h1, h2, h3, h4, h5⟩ := h
  obtain ⟨a1, a2, a3⟩ := s2_on ⟨h1, h2, h5⟩ hb
  have l := World.block_lt_of_cell? V _ h3
  exact ⟨a1, a2, (hb.cell (p := ⟨c, o, none⟩) l).trans h3, (hb.cell (p := ⟨c, o + 1, none⟩) l).trans h4, a3⟩
theorem s4_dr {w V : World} {b c o : Nat} {x y p q : Value} (h : V.cell? ⟨b, 0, none⟩ = some x ∧ V.cell? ⟨b, 1, none⟩ = some y ∧ V.cell? ⟨c, o, none⟩ = some p ∧ V.cell? ⟨c, o + 1, none⟩ = some q ∧ Below w.heap.size w V) :
    V.drew.cell? ⟨b, 0, none⟩ = some x ∧ V.drew.cell? ⟨b, 1, none⟩ = some y ∧ V.drew.cell? ⟨c, o, none⟩ = some p ∧ V.drew.cell? ⟨c, o + 1, none⟩ = some q ∧ Below w.heap.size w V.drew := s4_on h (Below.refl _ _).drew
theorem s4_be {w V : World} {b c o : Nat} {x y p q : Value} (h : V.cell? ⟨b, 0, none⟩ = some x ∧ V.cell? ⟨b, 1, none⟩ = some y ∧ V.cell? ⟨c, o, none⟩ = some p ∧ V.cell? ⟨c, o + 1, none⟩ = some q ∧ Below w.heap.size w V) : Below w.heap.size w V := h.2.2.2.2
theorem nameOf_any (N : ByteArray) (u : Value) (w : World) : Calls Tryz.prog 60 #[.agg #[.string N, u]] w fun e w' => e = .returned (.string N) ∧ Below w.heap.size w w' := by
  obtain ⟨x0, x1⟩ := box2 w (.string N) u 63
  have B0 := Lib.hid ((Below.refl w.heap.size w).alloc (Nat.le_refl _) (.cells #[.string N, u] 63))
  go_enter Tryz.func60, Tryz.ntmps60
  go_wp2
  go_ret
  exact ⟨rfl, B0.out⟩
abbrev nmFxT : Value := .func (.func 60) #[] #[]
abbrev rtF : Value := .func (.func 61) #[] #[]
set_option maxRecDepth 100000 in
set_option maxHeartbeats 8000000 in
theorem kcheckL_any (v : Value) (L : List Lp) (hl : L.length ≤ 90000) (hs : SmallL L) (w : World) (hL : LaidP w) (h : HoldL w v L) :
    Calls Tryz.prog 59 #[v, nmFxT, rtF] w fun e w' => e = .returned (.int .i64 (check13 (L.map (·.1)))) ∧ Below w.heap.size w w' := by
  obtain ⟨hin, a, c, b, o, rfl, hc, ha, hcell⟩ := h
  unfold nmFxT rtF
  have HC := Lib.hid hcell
  have HI := Lib.hid hin
  have HL := Lib.hid hL
  have HS := Lib.hid hs
  have hml : (L.map (·.1)).length = L.length := List.length_map ..
  obtain ⟨Z, HZ⟩ : ∃ Z, Hid (check13 (L.map (·.1)) = Z) := ⟨_, rfl⟩
  rw [HZ.out]
  obtain ⟨n, hN⟩ : ∃ n, L.length = n := ⟨_, rfl⟩
  rw [hN] at hc ha hl hml ⊢
  have HN := Lib.hid hN
  have HML := Lib.hid hml
  clear hcell hL hs hN hin hml
  have HAT : Hid (∀ (i : Nat) p, L[i]? = some p → (L.map (·.1))[i]? = some p.1) := Lib.hid (fun i p hp => by rw [List.getElem?_map, hp]; rfl)
  by_cases h64 : 64 < n
  · have HF : Hid ((22 : Int) = Z) := Lib.hid (by rw [← HZ.out, check13_long (by rw [HML.out]; exact h64)])
    go_enter Tryz.func59, Tryz.ntmps59
    go_wp2
    go_ret
    exact ⟨reti HF.out, Below.refl _ _⟩
  have HBAD : Hid (∀ (i : Nat) p, L[i]? = some p → ¬ step13 (L.map (·.1)) i p.1 → (1 : Int) = Z) := Lib.hid (fun i p hp g => by rw [← HZ.out, check13_no (by rw [HML.out]; exact h64) (fun q => g (q i p.1 (HAT.out i p hp)))])
  have HOK : Hid (Steps13 (L.map (·.1)) → (0 : Int) = Z) := Lib.hid (fun g => by rw [← HZ.out, check13_ok (by rw [HML.out]; exact h64) g])
  clear HZ
  go_enter Tryz.func59, Tryz.ntmps59
  go_wp2
  go_loopw [14] (fun i wr => ∃ k : Nat, k ≤ n ∧ i = .int .i64 k ∧ Hid (∀ (j : Nat) p, j < k → L[j]? = some p → step13 (L.map (·.1)) j p.1) ∧ Hid (Below w.heap.size w wr)) (fun i _ => n - (intOf i).toNat)
  case atStart => exact ⟨0, by omega, rfl, Lib.hid (fun j y hj => by omega), Lib.hid (Below.refl _ _)⟩
  case round =>
    obtain ⟨k, hk, rfl, H, HB⟩ := hrel
    by_cases hlt : k < n
    · obtain ⟨rfl, hbw⟩ := ha (by omega)
      obtain ⟨p, hp⟩ : ∃ p, L[k]? = some p := ⟨_, List.getElem?_eq_getElem (by rw [HN.out]; exact hlt)⟩
      obtain ⟨c0, c1⟩ := HC.out k p hp
      rw [← HB.out.cell (p := ⟨b, o + k * 2, none⟩) hbw] at c0
      rw [← HB.out.cell (p := ⟨b, o + k * 2 + 1, none⟩) hbw] at c1
      have hpm := List.mem_of_getElem? hp
      have RA := fun W (hb : Below w.heap.size w W) => right13_any (bsT p.1.1) (by rw [sizeOf, bytesOf]; exact (HS.out p hpm).1) p.2 p.1.2 (HS.out p hpm).2.1 (HS.out p hpm).2.2 W (HL.out.on hb) ((HI.out p hpm).on hb)
      have KA := fun (x : ByteArray) (y : Value) W => nameOf_any x y W
      have HX := Lib.hid hp
      have hsz := HB.out.size
      have B0 := HB.out.alloc hsz (.cells #[.string (bsT p.1.1), p.2] 63)
      obtain ⟨x0, x1⟩ := box2 wr (.string (bsT p.1.1)) p.2 63
      have hs := And.intro x0 (And.intro x1 B0)
      rw [bytesOf] at RA
      have one := (HI.out p hpm).one
      obtain ⟨ua, un, uc, hu⟩ : ∃ ua un uc, p.2 = .slice ua un uc := by obtain ⟨a, c, b, o, e, _⟩ := HI.out p hpm; exact ⟨_, _, _, e⟩
      rw [hu] at RA c1 x1 hs
      clear hp hpm x0 x1 B0 one hu
      cases hq : right13 (p.1.1, p.1.2)
      · have HF := Lib.hid (HBAD.out k p HX.out (fun g => by rw [show p.1 = (p.1.1, p.1.2) from rfl] at g; rw [g.1] at hq; cases hq))
        simp only [hq] at RA
        clear hq H HBAD HOK KA HC HS HX
        generalize bsT p.1.1 = X at *
        go_wp2
        generalize wr.alloc (.cells #[.string X, .slice ua un uc] 63) = W2 at *
        generalize hb0 : wr.heap.size = b0 at *
        obtain ⟨x0, x1, hB⟩ := hs
        have hs := And.intro x0 (And.intro x1 hB)
        clear hb0
        refine wp_region_held_drew (S := (fun V => V.cell? ⟨b0, 0, none⟩ = some (.string X) ∧ V.cell? ⟨b0, 1, none⟩ = some (.slice ua un uc) ∧ Below w.heap.size w V)) (by kernel_rfl) ?_ (fun hHeld => ?_)
        · (try dsimp only); (first | assumption | exact hs | exact s2_dr hs | exact s2_on (by assumption) (by assumption))
        refine heldYes 0 19 ?_ rfl (by kernel_rfl) (by kernel_rfl) (by kernel_rfl) (fun _ _ _ h => h) rfl (by assumption) ?_ ?_
        rotate_left
        · (intro w hSw; (try dsimp only at hSw); go_simp; (try with_reducible rfl))
        simp only [List.setIfInBounds_toArray, List.set_cons_zero, List.set_cons_succ]
        refine heldYes 1 20 ?_ rfl (by kernel_rfl) (by kernel_rfl) (by kernel_rfl) (fun _ _ _ h => h) rfl (by assumption) ?_ ?_
        rotate_left
        · (intro w hSw; (try dsimp only at hSw); go_simp; (try with_reducible rfl))
        simp only [List.setIfInBounds_toArray, List.set_cons_zero, List.set_cons_succ]
        refine wpAnyH_ready (rs := [2]) (by kernel_rfl) (by simp) ?_
        refine AllReadyH.cons rfl (fun K hK => ?_) AllReadyH.nil
        go_simp
        go_at_call 61; refine (RA _ (s2_be (b := b0) (x := .string X) (y := .slice ua un uc) (by assumption))).mono ?_; rintro e w3 ⟨rfl, hb⟩
        refine hK.out _ _ ?_ (fun hHeld => ?_)
        · (try dsimp only); (first | assumption | exact hs | exact s2_dr hs | exact s2_on (by assumption) (by assumption))
        clear hK K
        try simp only [Act.put, List.setIfInBounds_toArray, List.set_cons_zero, List.set_cons_succ]
        refine heldYes 3 22 ?_ rfl (by kernel_rfl) (by kernel_rfl) (by kernel_rfl) (fun _ _ _ h => h) rfl (by assumption) ?_ ?_
        rotate_left
        · (intro w hSw; (try dsimp only at hSw); go_simp; (try with_reducible rfl))
        simp only [List.setIfInBounds_toArray, List.set_cons_zero, List.set_cons_succ]
        refine heldYes 4 23 ?_ rfl (by kernel_rfl) (by kernel_rfl) (by kernel_rfl) (fun _ _ _ h => h) rfl (by assumption) ?_ ?_
        rotate_left
        · (intro w hSw; (try dsimp only at hSw); go_simp; (try with_reducible rfl))
        simp only [List.setIfInBounds_toArray, List.set_cons_zero, List.set_cons_succ]
        refine heldNo 5 24 rfl (by kernel_rfl) (by kernel_rfl) (by kernel_rfl) (fun _ _ _ h => h) rfl (by assumption) ?_
        simp only [List.setIfInBounds_toArray, List.set_cons_zero, List.set_cons_succ]
        refine heldNo 6 25 rfl (by kernel_rfl) (by kernel_rfl) (by kernel_rfl) (fun _ _ _ h => h) rfl (by assumption) ?_
        simp only [List.setIfInBounds_toArray, List.set_cons_zero, List.set_cons_succ]
        refine heldNo 7 26 rfl (by kernel_rfl) (by kernel_rfl) (by kernel_rfl) (fun _ _ _ h => h) rfl (by assumption) ?_
        simp only [List.setIfInBounds_toArray, List.set_cons_zero, List.set_cons_succ]
        refine heldNo 8 27 rfl (by kernel_rfl) (by kernel_rfl) (by kernel_rfl) (fun _ _ _ h => h) rfl (by assumption) ?_
        simp only [List.setIfInBounds_toArray, List.set_cons_zero, List.set_cons_succ]
        refine heldNo 9 28 rfl (by kernel_rfl) (by kernel_rfl) (by kernel_rfl) (fun _ _ _ h => h) rfl (by assumption) ?_
        simp only [List.setIfInBounds_toArray, List.set_cons_zero, List.set_cons_succ]
        refine heldNo 10 29 rfl (by kernel_rfl) (by kernel_rfl) (by kernel_rfl) (fun _ _ _ h => h) rfl (by assumption) ?_
        simp only [List.setIfInBounds_toArray, List.set_cons_zero, List.set_cons_succ]
        refine heldNo 11 30 rfl (by kernel_rfl) (by kernel_rfl) (by kernel_rfl) (fun _ _ _ h => h) rfl (by assumption) ?_
        simp only [List.setIfInBounds_toArray, List.set_cons_zero, List.set_cons_succ]
        refine heldNo 12 31 rfl (by kernel_rfl) (by kernel_rfl) (by kernel_rfl) (fun _ _ _ h => h) rfl (by assumption) ?_
        simp only [List.setIfInBounds_toArray, List.set_cons_zero, List.set_cons_succ]
        refine heldNo 13 32 rfl (by kernel_rfl) (by kernel_rfl) (by kernel_rfl) (fun _ _ _ h => h) rfl (by assumption) ?_
        simp only [List.setIfInBounds_toArray, List.set_cons_zero, List.set_cons_succ]
        refine heldNo 14 33 rfl (by kernel_rfl) (by kernel_rfl) (by kernel_rfl) (fun _ _ _ h => h) rfl (by assumption) ?_
        simp only [List.setIfInBounds_toArray, List.set_cons_zero, List.set_cons_succ]
        refine heldNo 15 34 rfl (by kernel_rfl) (by kernel_rfl) (by kernel_rfl) (fun _ _ _ h => h) rfl (by assumption) ?_
        simp only [List.setIfInBounds_toArray, List.set_cons_zero, List.set_cons_succ]
        refine heldNo 16 35 rfl (by kernel_rfl) (by kernel_rfl) (by kernel_rfl) (fun _ _ _ h => h) rfl (by assumption) ?_
        simp only [List.setIfInBounds_toArray, List.set_cons_zero, List.set_cons_succ]
        refine heldNo 17 36 rfl (by kernel_rfl) (by kernel_rfl) (by kernel_rfl) (fun _ _ _ h => h) rfl (by assumption) ?_
        simp only [List.setIfInBounds_toArray, List.set_cons_zero, List.set_cons_succ]
        refine heldNo 18 37 rfl (by kernel_rfl) (by kernel_rfl) (by kernel_rfl) (fun _ _ _ h => h) rfl (by assumption) ?_
        simp only [List.setIfInBounds_toArray, List.set_cons_zero, List.set_cons_succ]
        refine heldNo 19 38 rfl (by kernel_rfl) (by kernel_rfl) (by kernel_rfl) (fun _ _ _ h => h) rfl (by assumption) ?_
        simp only [List.setIfInBounds_toArray, List.set_cons_zero, List.set_cons_succ]
        refine heldYes 20 39 ?_ rfl (by kernel_rfl) (by kernel_rfl) (by kernel_rfl) (fun _ _ _ h => h) rfl (by assumption) ?_ ?_
        rotate_left
        · (intro w hSw; (try dsimp only at hSw); go_simp; (try with_reducible rfl))
        simp only [List.setIfInBounds_toArray, List.set_cons_zero, List.set_cons_succ]
        refine wpAnyH_done (by kernel_rfl) ?_ _
        have HW3 := Lib.hid hHeld.2.2
        clear hHeld
        go_wp2
        go_ret
        exact ⟨reti HF.out, HW3.out⟩
      · simp only [hq] at RA
        by_cases hk0 : 0 < k
        · obtain ⟨r, hr⟩ : ∃ r, L[k - 1]? = some r := ⟨_, List.getElem?_eq_getElem (by rw [HN.out]; omega)⟩
          obtain ⟨e0, e1⟩ := HC.out (k - 1) r hr
          obtain ⟨va, vn, vc, hu⟩ : ∃ ua un uc, r.2 = .slice ua un uc := by obtain ⟨a, c, b, o, e, _⟩ := HI.out r (List.mem_of_getElem? hr); exact ⟨_, _, _, e⟩
          rw [hu] at e1
          rw [← HB.out.cell (p := ⟨b, o + (k - 1) * 2, none⟩) hbw] at e0
          rw [← HB.out.cell (p := ⟨b, o + (k - 1) * 2 + 1, none⟩) hbw] at e1
          have hbwr : b < wr.heap.size := Nat.lt_of_lt_of_le hbw hsz
          have hB1 := (Below.refl wr.heap.size wr).alloc (Nat.le_refl _) (.cells #[.string (bsT p.1.1), .slice ua un uc] 63)
          have e0 := (hB1.cell (p := ⟨b, o + (k - 1) * 2, none⟩) hbwr).trans e0
          have e1 := (hB1.cell (p := ⟨b, o + (k - 1) * 2 + 1, none⟩) hbwr).trans e1
          have hls := lessT (bsT r.1.1) (bsT p.1.1)
          rw [bytesOf, bytesOf] at hls
          have HBADk : Hid (decide (r.1.1 < p.1.1) = false → (1 : Int) = Z) := Lib.hid (fun g => HBAD.out k p HX.out (fun q => by rw [decide_eq_true (q.2 r.1 hk0 (HAT.out _ _ hr))] at g; cases g))
          have HNEXT : Hid (decide (r.1.1 < p.1.1) = true → ∀ (j : Nat) u, j < k + 1 → L[j]? = some u → step13 (L.map (·.1)) j u.1) := Lib.hid (fun g j u hj hu => by
            by_cases ej : j = k
            · subst ej
              rw [HX.out] at hu; cases hu
              exact ⟨hq, fun u h1 h2 => by rw [HAT.out _ _ hr] at h2; cases h2; exact of_decide_eq_true g⟩
            · exact H.out j u (by omega) hu)
          generalize decide (r.1.1 < p.1.1) = q at *
          have hd : decide ((0 : Int) < (k : Int)) = true := decide_eq_true (by omega)
          have hk1 : (1 : Int) ≤ (k : Int) := by omega
          clear hq H HBAD HC HS HX hr hu hB1
          generalize bsT p.1.1 = X at *
          generalize bsT r.1.1 = X' at *
          go_wp2
          generalize wr.alloc (.cells #[.string X, .slice ua un uc] 63) = W2 at *
          generalize hb0 : wr.heap.size = b0 at *
          obtain ⟨x0, x1, hB⟩ := hs
          have hs := And.intro x0 (And.intro x1 (And.intro e0 (And.intro e1 hB)))
          clear hb0
          have i0 : (0 : Int) ≤ (k : Int) - 1 := by omega
          have i1 : (k : Int) - 1 < (n : Int) := by omega
          have i2 : ((k : Int) - 1).toNat = k - 1 := by omega
          have i3 : IntKind.i64.wrap ((k : Int) - 1) = (k : Int) - 1 := IntWalk.i64_in _ (by omega)
          have KX := KA X (.slice ua un uc)
          have KY := KA X' (.slice va vn vc)
          clear KA
          go_region_held3 (fun V => V.cell? ⟨b0, 0, none⟩ = some (.string X) ∧ V.cell? ⟨b0, 1, none⟩ = some (.slice ua un uc) ∧ V.cell? ⟨b, o + (k - 1) * 2, none⟩ = some (.string X') ∧ V.cell? ⟨b, o + (k - 1) * 2 + 1, none⟩ = some (.slice va vn vc) ∧ Below w.heap.size w V)
            (first | assumption | exact hs | exact s4_dr hs | exact s4_on (by assumption) (by assumption))
            ((first
              | (go_at_call 61; (with_reducible refine (RA _ (s4_be (b := b0) (x := .string X) (y := .slice ua un uc) (c := b) (o := o + (k - 1) * 2) (p := .string X') (q := .slice va vn vc) (by assumption))).mono ?_); rintro e w3 ⟨rfl, hb⟩)
              | (go_at_call 60; first | ((with_reducible refine (KX _).mono ?_); rintro e w3 ⟨rfl, hb⟩) | ((with_reducible refine (KY _).mono ?_); rintro e w3 ⟨rfl, hb⟩))))
          all_goals
            rename_i hHeld
            have HW3 := Lib.hid hHeld.2.2.2.2
            clear hHeld i2 i3
            cases q
            · have HF := Lib.hid (HBADk.out rfl)
              clear HBADk HNEXT
              go_wp2
              go_ret
              exact ⟨reti HF.out, HW3.out⟩
            · have HK := Lib.hid (HNEXT.out rfl)
              clear HBADk HNEXT
              go_wp2
              go_roundw
              case rel => exact ⟨k + 1, by omega, by go_num, HK, HW3⟩
              case measure => simp [intOf]; omega
        · have HK : Hid (∀ (j : Nat) u, j < k + 1 → L[j]? = some u → step13 (L.map (·.1)) j u.1) := Lib.hid (fun j u hj hu => by
            obtain rfl : j = k := by omega
            rw [HX.out] at hu; cases hu
            exact ⟨hq, fun _ h1 => absurd h1 hk0⟩)
          have hd : decide ((0 : Int) < (k : Int)) = false := decide_eq_false (by omega)
          clear hq H HBAD HOK KA HC HS HX
          generalize bsT p.1.1 = X at *
          go_wp2
          generalize wr.alloc (.cells #[.string X, .slice ua un uc] 63) = W2 at *
          generalize hb0 : wr.heap.size = b0 at *
          obtain ⟨x0, x1, hB⟩ := hs
          have hs := And.intro x0 (And.intro x1 hB)
          clear hb0
          refine wp_region_held_drew (S := (fun V => V.cell? ⟨b0, 0, none⟩ = some (.string X) ∧ V.cell? ⟨b0, 1, none⟩ = some (.slice ua un uc) ∧ Below w.heap.size w V)) (by kernel_rfl) ?_ (fun hHeld => ?_)
          · (try dsimp only); (first | assumption | exact hs | exact s2_dr hs | exact s2_on (by assumption) (by assumption))
          refine heldYes 0 19 ?_ rfl (by kernel_rfl) (by kernel_rfl) (by kernel_rfl) (fun _ _ _ h => h) rfl (by assumption) ?_ ?_
          rotate_left
          · (intro w hSw; (try dsimp only at hSw); go_simp; (try with_reducible rfl))
          simp only [List.setIfInBounds_toArray, List.set_cons_zero, List.set_cons_succ]
          refine heldYes 1 20 ?_ rfl (by kernel_rfl) (by kernel_rfl) (by kernel_rfl) (fun _ _ _ h => h) rfl (by assumption) ?_ ?_
          rotate_left
          · (intro w hSw; (try dsimp only at hSw); go_simp; (try with_reducible rfl))
          simp only [List.setIfInBounds_toArray, List.set_cons_zero, List.set_cons_succ]
          refine wpAnyH_ready (rs := [2]) (by kernel_rfl) (by simp) ?_
          refine AllReadyH.cons rfl (fun K hK => ?_) AllReadyH.nil
          go_simp
          go_at_call 61; refine (RA _ (s2_be (b := b0) (x := .string X) (y := .slice ua un uc) (by assumption))).mono ?_; rintro e w3 ⟨rfl, hb⟩
          refine hK.out _ _ ?_ (fun hHeld => ?_)
          · (try dsimp only); (first | assumption | exact hs | exact s2_dr hs | exact s2_on (by assumption) (by assumption))
          clear hK K
          try simp only [Act.put, List.setIfInBounds_toArray, List.set_cons_zero, List.set_cons_succ]
          refine heldYes 3 22 ?_ rfl (by kernel_rfl) (by kernel_rfl) (by kernel_rfl) (fun _ _ _ h => h) rfl (by assumption) ?_ ?_
          rotate_left
          · (intro w hSw; (try dsimp only at hSw); go_simp; (try with_reducible rfl))
          simp only [List.setIfInBounds_toArray, List.set_cons_zero, List.set_cons_succ]
          refine heldYes 4 23 ?_ rfl (by kernel_rfl) (by kernel_rfl) (by kernel_rfl) (fun _ _ _ h => h) rfl (by assumption) ?_ ?_
          rotate_left
          · (intro w hSw; (try dsimp only at hSw); go_simp; (try with_reducible rfl))
          simp only [List.setIfInBounds_toArray, List.set_cons_zero, List.set_cons_succ]
          refine heldYes 5 24 ?_ rfl (by kernel_rfl) (by kernel_rfl) (by kernel_rfl) (fun _ _ _ h => h) rfl (by assumption) ?_ ?_
          rotate_left
          · (intro w hSw; (try dsimp only at hSw); go_simp; (try with_reducible rfl))
          simp only [List.setIfInBounds_toArray, List.set_cons_zero, List.set_cons_succ]
          refine heldYes 6 25 ?_ rfl (by kernel_rfl) (by kernel_rfl) (by kernel_rfl) (fun _ _ _ h => h) rfl (by assumption) ?_ ?_
          rotate_left
          · (intro w hSw; (try dsimp only at hSw); go_simp; (try with_reducible rfl))
          simp only [List.setIfInBounds_toArray, List.set_cons_zero, List.set_cons_succ]
          refine heldYes 7 26 ?_ rfl (by kernel_rfl) (by kernel_rfl) (by kernel_rfl) (fun _ _ _ h => h) rfl (by assumption) ?_ ?_
          rotate_left
          · (intro w hSw; (try dsimp only at hSw); go_simp; (try with_reducible rfl))
          simp only [List.setIfInBounds_toArray, List.set_cons_zero, List.set_cons_succ]
          refine heldNo 8 27 rfl (by kernel_rfl) (by kernel_rfl) (by kernel_rfl) (fun _ _ _ h => h) rfl (by assumption) ?_
          simp only [List.setIfInBounds_toArray, List.set_cons_zero, List.set_cons_succ]
          refine heldNo 9 28 rfl (by kernel_rfl) (by kernel_rfl) (by kernel_rfl) (fun _ _ _ h => h) rfl (by assumption) ?_
          simp only [List.setIfInBounds_toArray, List.set_cons_zero, List.set_cons_succ]
          refine heldNo 10 29 rfl (by kernel_rfl) (by kernel_rfl) (by kernel_rfl) (fun _ _ _ h => h) rfl (by assumption) ?_
          simp only [List.setIfInBounds_toArray, List.set_cons_zero, List.set_cons_succ]
          refine heldNo 11 30 rfl (by kernel_rfl) (by kernel_rfl) (by kernel_rfl) (fun _ _ _ h => h) rfl (by assumption) ?_
          simp only [List.setIfInBounds_toArray, List.set_cons_zero, List.set_cons_succ]
          refine heldNo 12 31 rfl (by kernel_rfl) (by kernel_rfl) (by kernel_rfl) (fun _ _ _ h => h) rfl (by assumption) ?_
          simp only [List.setIfInBounds_toArray, List.set_cons_zero, List.set_cons_succ]
          refine heldNo 13 32 rfl (by kernel_rfl) (by kernel_rfl) (by kernel_rfl) (fun _ _ _ h => h) rfl (by assumption) ?_
          simp only [List.setIfInBounds_toArray, List.set_cons_zero, List.set_cons_succ]
          refine heldNo 14 33 rfl (by kernel_rfl) (by kernel_rfl) (by kernel_rfl) (fun _ _ _ h => h) rfl (by assumption) ?_
          simp only [List.setIfInBounds_toArray, List.set_cons_zero, List.set_cons_succ]
          refine heldNo 15 34 rfl (by kernel_rfl) (by kernel_rfl) (by kernel_rfl) (fun _ _ _ h => h) rfl (by assumption) ?_
          simp only [List.setIfInBounds_toArray, List.set_cons_zero, List.set_cons_succ]
          refine heldNo 16 35 rfl (by kernel_rfl) (by kernel_rfl) (by kernel_rfl) (fun _ _ _ h => h) rfl (by assumption) ?_
          simp only [List.setIfInBounds_toArray, List.set_cons_zero, List.set_cons_succ]
          refine heldNo 17 36 rfl (by kernel_rfl) (by kernel_rfl) (by kernel_rfl) (fun _ _ _ h => h) rfl (by assumption) ?_
          simp only [List.setIfInBounds_toArray, List.set_cons_zero, List.set_cons_succ]
          refine heldNo 18 37 rfl (by kernel_rfl) (by kernel_rfl) (by kernel_rfl) (fun _ _ _ h => h) rfl (by assumption) ?_
          simp only [List.setIfInBounds_toArray, List.set_cons_zero, List.set_cons_succ]
          refine heldYes 19 38 ?_ rfl (by kernel_rfl) (by kernel_rfl) (by kernel_rfl) (fun _ _ _ h => h) rfl (by assumption) ?_ ?_
          rotate_left
          · (intro w hSw; (try dsimp only at hSw); go_simp; (try with_reducible rfl))
          simp only [List.setIfInBounds_toArray, List.set_cons_zero, List.set_cons_succ]
          refine heldYes 20 39 ?_ rfl (by kernel_rfl) (by kernel_rfl) (by kernel_rfl) (fun _ _ _ h => h) rfl (by assumption) ?_ ?_
          rotate_left
          · (intro w hSw; (try dsimp only at hSw); go_simp; (try with_reducible rfl))
          simp only [List.setIfInBounds_toArray, List.set_cons_zero, List.set_cons_succ]
          refine wpAnyH_done (by kernel_rfl) ?_ _
          have HW3 := Lib.hid hHeld.2.2
          clear hHeld
          go_wp2
          go_roundw
          case rel => exact ⟨k + 1, by omega, by go_num, HK, HW3⟩
          case measure => simp [intOf]; omega
    · obtain rfl : k = n := by omega
      have HF := Lib.hid (HOK.out (fun i x hx => by
        obtain ⟨p, hp, rfl⟩ : ∃ p, L[i]? = some p ∧ p.1 = x := by
          rw [List.getElem?_map] at hx
          cases hp : L[i]? with
          | none => rw [hp] at hx; cases hx
          | some p => rw [hp] at hx; exact ⟨p, rfl, Option.some.inj hx⟩
        exact H.out i p (by have := (List.getElem?_eq_some_iff.1 hp).1; rw [HN.out] at this; exact this) hp))
      clear hlt H HBAD HOK
      go_wp2
      go_ret
      exact ⟨reti HF.out, HB.out⟩
theorem check13_any (v : Value) (L : List Lp) (hl : L.length ≤ 90000) (hs : SmallL L) (w : World) (hL : LaidP w) (h : HoldL w v L) :
    Calls Tryz.prog 28 #[v] w fun e w' => e = .returned (.int .i64 (check13 (L.map (·.1)))) ∧ Below w.heap.size w w' := by
  have I := kcheckL_any v L hl hs w hL h
  unfold nmFxT rtF at I
  generalize check13 (L.map (·.1)) = z at *
  go_enter Tryz.func28, Tryz.ntmps28
  go_wp2_with (go_at_call 59; refine I.mono ?_; rintro e w1 ⟨rfl, hb⟩; have HB := Lib.hid hb; clear hb)
  go_ret
  exact ⟨rfl, HB.out⟩
end Go.Proofs.YtkcamfcjkjiijaaGreatDoor
