/-
  The program's keyed.Check over diversions: what it returns; nothing old turns. Condition: LaidP.
-/
import Derived.Test.YtogkickaebmeoaaDoorDFind
import Derived.Test.YtogkickaebmeoaaDoorHeld
import Derived.IntWalk
namespace Go.Proofs.YtogkickaebmeoaaDoor
open Go.RowKit
def StepsD (l : List Dv) : Prop := ∀ (i : Nat) x, l[i]? = some x → stepD l i x
open Classical in
noncomputable def kchkD (l : List Dv) : Int := if 64 < l.length then 22 else if StepsD l then 0 else 1
theorem kchkD_long {l : List Dv} (h : 64 < l.length) : kchkD l = 22 := by unfold kchkD; rw [if_pos h]
theorem kchkD_ok {l : List Dv} (h : ¬ 64 < l.length) (g : StepsD l) : kchkD l = 0 := by unfold kchkD; rw [if_neg h, if_pos g]
theorem kchkD_no {l : List Dv} (h : ¬ 64 < l.length) (g : ¬ StepsD l) : kchkD l = 1 := by unfold kchkD; rw [if_neg h, if_neg g]
def SmallD (l : List Dv) : Prop := ∀ x ∈ l, x.1.length ≤ 4000 ∧ x.2.1.length ≤ 4000 ∧ x.2.2.length ≤ 4000
theorem right9_x (x : Dv) (hx : x.1.length ≤ 4000 ∧ x.2.1.length ≤ 4000 ∧ x.2.2.length ≤ 4000) (w : World) (h : LaidP w) : Calls Tryd.prog 40 #[aggX x] w fun e w' => e = .returned (.bool (rightD x)) ∧ Below w.heap.size w w' := by
  have := right9_any (bsA x.1) (bsA x.2.1) (bsA x.2.2) (by rw [sizeOf, bytesOf]; omega) (by rw [sizeOf, bytesOf]; omega) (by rw [sizeOf, bytesOf]; omega) w h
  exact this
abbrev Cells3 (V : World) (b o : Nat) (X Y Z : ByteArray) : Prop := V.cell? ⟨b, o, none⟩ = some (.string X) ∧ V.cell? ⟨b, o + 1, none⟩ = some (.string Y) ∧ V.cell? ⟨b, o + 2, none⟩ = some (.string Z)
theorem cells3_on {V V' : World} {b o : Nat} {X Y Z : ByteArray} (h : V.cell? ⟨b, o, none⟩ = some (.string X) ∧ V.cell? ⟨b, o + 1, none⟩ = some (.string Y) ∧ V.cell? ⟨b, o + 2, none⟩ = some (.string Z)) (hb : Below V.heap.size V V') :
    V'.cell? ⟨b, o, none⟩ = some (.string X) ∧ V'.cell? ⟨b, o + 1, none⟩ = some (.string Y) ∧ V'.cell? ⟨b, o + 2, none⟩ = some (.string Z) := by
  have l := World.block_lt_of_cell? V _ h.1
  exact ⟨(hb.cell (p := ⟨b, o, none⟩) l).trans h.1, (hb.cell (p := ⟨b, o + 1, none⟩) l).trans h.2.1, (hb.cell (p := ⟨b, o + 2, none⟩) l).trans h.2.2⟩
/-- A box of three, and the rest as it was. -/
theorem s3_on {w V V' : World} {b : Nat} {X Y Z : ByteArray} (h : V.cell? ⟨b, 0, none⟩ = some (.string X) ∧ V.cell? ⟨b, 1, none⟩ = some (.string Y) ∧ V.cell? ⟨b, 2, none⟩ = some (.string Z) ∧ Below w.heap.size w V) (hb : Below V.heap.size V V') :
    V'.cell? ⟨b, 0, none⟩ = some (.string X) ∧ V'.cell? ⟨b, 1, none⟩ = some (.string Y) ∧ V'.cell? ⟨b, 2, none⟩ = some (.string Z) ∧ Below w.heap.size w V' := by
  have l := World.block_lt_of_cell? V _ h.1
  exact ⟨(hb.cell (p := ⟨b, 0, none⟩) l).trans h.1, (hb.cell (p := ⟨b, 1, none⟩) l).trans h.2.1, (hb.cell (p := ⟨b, 2, none⟩) l).trans h.2.2.1, h.2.2.2.trans (hb.mono h.2.2.2.size)⟩
theorem s3_dr {w V : World} {b : Nat} {X Y Z : ByteArray} (h : V.cell? ⟨b, 0, none⟩ = some (.string X) ∧ V.cell? ⟨b, 1, none⟩ = some (.string Y) ∧ V.cell? ⟨b, 2, none⟩ = some (.string Z) ∧ Below w.heap.size w V) :
    V.drew.cell? ⟨b, 0, none⟩ = some (.string X) ∧ V.drew.cell? ⟨b, 1, none⟩ = some (.string Y) ∧ V.drew.cell? ⟨b, 2, none⟩ = some (.string Z) ∧ Below w.heap.size w V.drew := s3_on h (Below.refl _ _).drew
theorem s3_be {w V : World} {b : Nat} {X Y Z : ByteArray} (h : V.cell? ⟨b, 0, none⟩ = some (.string X) ∧ V.cell? ⟨b, 1, none⟩ = some (.string Y) ∧ V.cell? ⟨b, 2, none⟩ = some (.string Z) ∧ Below w.heap.size w V) : Below w.heap.size w V := h.2.2.2
/-- .. and a row of three besides. -/
theorem s6_on {w V V' : World} {b c o : Nat} {X Y Z P Q R : ByteArray} (h : V.cell? ⟨b, 0, none⟩ = some (.string X) ∧ V.cell? ⟨b, 1, none⟩ = some (.string Y) ∧ V.cell? ⟨b, 2, none⟩ = some (.string Z) ∧ V.cell? ⟨c, o, none⟩ = some (.string P) ∧ V.cell? ⟨c, o + 1, none⟩ = some (.string Q) ∧ V.cell? ⟨c, o + 2, none⟩ = some (.string R) ∧ Below w.heap.size w V) (hb : Below V.heap.size V V') :
    V'.cell? ⟨b, 0, none⟩ = some (.string X) ∧ V'.cell? ⟨b, 1, none⟩ = some (.string Y) ∧ V'.cell? ⟨b, 2, none⟩ = some (.string Z) ∧ V'.cell? ⟨c, o, none⟩ = some (.string P) ∧ V'.cell? ⟨c, o + 1, none⟩ = some (.string Q) ∧ V'.cell? ⟨c, o + 2, none⟩ = some (.string R) ∧ Below w.heap.size w V' := by
  obtain ⟨h1, h2, h3, h4, h5, h6, h7⟩ := h
  obtain ⟨a1, a2, a3, a4⟩ := s3_on ⟨h1, h2, h3, h7⟩ hb
  obtain ⟨a5, a6, a7⟩ := cells3_on ⟨h4, h5, h6⟩ hb
  exact ⟨a1, a2, a3, a5, a6, a7, a4⟩
theorem s6_dr {w V : World} {b c o : Nat} {X Y Z P Q R : ByteArray} (h : V.cell? ⟨b, 0, none⟩ = some (.string X) ∧ V.cell? ⟨b, 1, none⟩ = some (.string Y) ∧ V.cell? ⟨b, 2, none⟩ = some (.string Z) ∧ V.cell? ⟨c, o, none⟩ = some (.string P) ∧ V.cell? ⟨c, o + 1, none⟩ = some (.string Q) ∧ V.cell? ⟨c, o + 2, none⟩ = some (.string R) ∧ Below w.heap.size w V) :
    V.drew.cell? ⟨b, 0, none⟩ = some (.string X) ∧ V.drew.cell? ⟨b, 1, none⟩ = some (.string Y) ∧ V.drew.cell? ⟨b, 2, none⟩ = some (.string Z) ∧ V.drew.cell? ⟨c, o, none⟩ = some (.string P) ∧ V.drew.cell? ⟨c, o + 1, none⟩ = some (.string Q) ∧ V.drew.cell? ⟨c, o + 2, none⟩ = some (.string R) ∧ Below w.heap.size w V.drew := s6_on h (Below.refl _ _).drew
theorem s6_be {w V : World} {b c o : Nat} {X Y Z P Q R : ByteArray} (h : V.cell? ⟨b, 0, none⟩ = some (.string X) ∧ V.cell? ⟨b, 1, none⟩ = some (.string Y) ∧ V.cell? ⟨b, 2, none⟩ = some (.string Z) ∧ V.cell? ⟨c, o, none⟩ = some (.string P) ∧ V.cell? ⟨c, o + 1, none⟩ = some (.string Q) ∧ V.cell? ⟨c, o + 2, none⟩ = some (.string R) ∧ Below w.heap.size w V) : Below w.heap.size w V := h.2.2.2.2.2.2
abbrev rightF : Value := .func (.func 40) #[] #[]
set_option maxRecDepth 100000 in
set_option maxHeartbeats 8000000 in
theorem kcheck_any (v : Value) (l : List Dv) (hl : l.length ≤ 90000) (hs : SmallD l) (w : World) (hL : LaidP w) (h : HoldD w v l) :
    Calls Tryd.prog 110 #[v, pathF, rightF] w fun e w' => e = .returned (.int .i64 (kchkD l)) ∧ Below w.heap.size w w' := by
  obtain ⟨a, c, b, o, rfl, hc, ha, hcell⟩ := h.parts
  unfold pathF rightF
  have HC := Lib.hid hcell
  have HL := Lib.hid hL
  have HS := Lib.hid hs
  obtain ⟨Z, HZ⟩ : ∃ Z, Hid (kchkD l = Z) := ⟨_, rfl⟩
  rw [HZ.out]
  obtain ⟨n, hN⟩ : ∃ n, l.length = n := ⟨_, rfl⟩
  rw [hN] at hc ha hl ⊢
  have HN := Lib.hid hN
  clear hcell hL hs hN h
  by_cases h64 : 64 < n
  · have HF : Hid ((22 : Int) = Z) := Lib.hid (by rw [← HZ.out, kchkD_long (by rw [HN.out]; exact h64)])
    go_enter Tryd.func110, Tryd.ntmps110
    go_wp2
    go_ret
    exact ⟨reti HF.out, Below.refl _ _⟩
  have HBAD : Hid (∀ (i : Nat) x, l[i]? = some x → ¬ stepD l i x → (1 : Int) = Z) := Lib.hid (fun i x hx g => by rw [← HZ.out, kchkD_no (by rw [HN.out]; exact h64) (fun q => g (q i x hx))])
  have HOK : Hid (StepsD l → (0 : Int) = Z) := Lib.hid (fun g => by rw [← HZ.out, kchkD_ok (by rw [HN.out]; exact h64) g])
  clear HZ
  go_enter Tryd.func110, Tryd.ntmps110
  go_wp2
  go_loopw [14] (fun i wr => ∃ k : Nat, k ≤ n ∧ i = .int .i64 k ∧ Hid (∀ (j : Nat) y, j < k → l[j]? = some y → stepD l j y) ∧ Hid (Below w.heap.size w wr)) (fun i _ => n - (intOf i).toNat)
  case atStart => exact ⟨0, by omega, rfl, Lib.hid (fun j y hj => by omega), Lib.hid (Below.refl _ _)⟩
  case round =>
    obtain ⟨k, hk, rfl, H, HB⟩ := hrel
    by_cases hlt : k < n
    · obtain ⟨rfl, hbw⟩ := ha (by omega)
      obtain ⟨x, hx⟩ : ∃ x, l[k]? = some x := ⟨_, List.getElem?_eq_getElem (by rw [HN.out]; exact hlt)⟩
      obtain ⟨c0, c1, c2⟩ := HC.out k x hx
      rw [← HB.out.cell (p := ⟨b, o + k * 3, none⟩) hbw] at c0
      rw [← HB.out.cell (p := ⟨b, o + k * 3 + 1, none⟩) hbw] at c1
      rw [← HB.out.cell (p := ⟨b, o + k * 3 + 2, none⟩) hbw] at c2
      have RA := fun W h => right9_x x (HS.out x (List.mem_of_getElem? hx)) W h
      have KA := fun (x y z : ByteArray) W => pathOf_any x y z W
      have HX := Lib.hid hx
      have hsz := HB.out.size
      have B0 := HB.out.alloc hsz (.cells #[.string (bsA x.1), .string (bsA x.2.1), .string (bsA x.2.2)] 54)
      obtain ⟨x0, x1, x2⟩ := box3 wr (bsA x.1) (bsA x.2.1) (bsA x.2.2) 54
      have hs := And.intro x0 (And.intro x1 (And.intro x2 B0))
      unfold aggX aggD at RA
      unfold aggD at KA
      clear hx x0 x1 x2 B0
      cases hq : rightD x
      · have HF := Lib.hid (HBAD.out k x HX.out (fun g => by rw [g.1] at hq; cases hq))
        simp only [hq] at RA
        clear hq H HBAD HOK KA HC HS HX
        generalize bsA x.1 = X at *
        generalize bsA x.2.1 = Y at *
        generalize bsA x.2.2 = ZZ at *
        go_wp2
        generalize wr.alloc (.cells #[.string X, .string Y, .string ZZ] 54) = W2 at *
        generalize hb0 : wr.heap.size = b0 at *
        obtain ⟨x0, x1, x2, hB⟩ := hs
        have hs := And.intro x0 (And.intro x1 (And.intro x2 hB))
        clear hb0
        refine wp_region_held_drew (S := (fun V => V.cell? ⟨b0, 0, none⟩ = some (.string X) ∧ V.cell? ⟨b0, 1, none⟩ = some (.string Y) ∧ V.cell? ⟨b0, 2, none⟩ = some (.string ZZ) ∧ Below w.heap.size w V)) (by kernel_rfl) ?_ (fun hHeld => ?_)
        · (try dsimp only); (first | assumption | exact hs | exact s3_dr hs | exact s3_on (by assumption) (by assumption))
        refine heldYes 0 19 ?_ rfl (by kernel_rfl) (by kernel_rfl) (by kernel_rfl) (fun _ _ _ h => h) rfl (by assumption) ?_ ?_
        rotate_left
        · (intro w hSw; (try dsimp only at hSw); go_simp; (try with_reducible rfl))
        simp only [List.setIfInBounds_toArray, List.set_cons_zero, List.set_cons_succ]
        refine heldYes 1 20 ?_ rfl (by kernel_rfl) (by kernel_rfl) (by kernel_rfl) (fun _ _ _ h => h) rfl (by assumption) ?_ ?_
        rotate_left
        · (intro w hSw; (try dsimp only at hSw); go_simp; (try with_reducible rfl))
        simp only [List.setIfInBounds_toArray, List.set_cons_zero, List.set_cons_succ]
        refine wpAnyH_ready (rs := [2]) (by kernel_rfl) (by simp) ?_
        refine AllReadyH.cons rfl (fun K hK => ?_) AllReadyH.nil
        go_simp
        go_at_call 40; refine (RA _ (HL.out.on (s3_be (b := b0) (X := X) (Y := Y) (Z := ZZ) (by assumption)))).mono ?_; rintro e w3 ⟨rfl, hb⟩
        refine hK.out _ _ ?_ (fun hHeld => ?_)
        · (try dsimp only); (first | assumption | exact hs | exact s3_dr hs | exact s3_on (by assumption) (by assumption))
        clear hK K
        try simp only [Act.put, List.setIfInBounds_toArray, List.set_cons_zero, List.set_cons_succ]
        refine heldYes 3 22 ?_ rfl (by kernel_rfl) (by kernel_rfl) (by kernel_rfl) (fun _ _ _ h => h) rfl (by assumption) ?_ ?_
        rotate_left
        · (intro w hSw; (try dsimp only at hSw); go_simp; (try with_reducible rfl))
        simp only [List.setIfInBounds_toArray, List.set_cons_zero, List.set_cons_succ]
        refine heldYes 4 23 ?_ rfl (by kernel_rfl) (by kernel_rfl) (by kernel_rfl) (fun _ _ _ h => h) rfl (by assumption) ?_ ?_
        rotate_left
        · (intro w hSw; (try dsimp only at hSw); go_simp; (try with_reducible rfl))
        simp only [List.setIfInBounds_toArray, List.set_cons_zero, List.set_cons_succ]
        refine heldNo 5 24 rfl (by kernel_rfl) (by kernel_rfl) (by kernel_rfl) (fun _ _ _ h => h) rfl (by assumption) ?_
        simp only [List.setIfInBounds_toArray, List.set_cons_zero, List.set_cons_succ]
        refine heldNo 6 25 rfl (by kernel_rfl) (by kernel_rfl) (by kernel_rfl) (fun _ _ _ h => h) rfl (by assumption) ?_
        simp only [List.setIfInBounds_toArray, List.set_cons_zero, List.set_cons_succ]
        refine heldNo 7 26 rfl (by kernel_rfl) (by kernel_rfl) (by kernel_rfl) (fun _ _ _ h => h) rfl (by assumption) ?_
        simp only [List.setIfInBounds_toArray, List.set_cons_zero, List.set_cons_succ]
        refine heldNo 8 27 rfl (by kernel_rfl) (by kernel_rfl) (by kernel_rfl) (fun _ _ _ h => h) rfl (by assumption) ?_
        simp only [List.setIfInBounds_toArray, List.set_cons_zero, List.set_cons_succ]
        refine heldNo 9 28 rfl (by kernel_rfl) (by kernel_rfl) (by kernel_rfl) (fun _ _ _ h => h) rfl (by assumption) ?_
        simp only [List.setIfInBounds_toArray, List.set_cons_zero, List.set_cons_succ]
        refine heldNo 10 29 rfl (by kernel_rfl) (by kernel_rfl) (by kernel_rfl) (fun _ _ _ h => h) rfl (by assumption) ?_
        simp only [List.setIfInBounds_toArray, List.set_cons_zero, List.set_cons_succ]
        refine heldNo 11 30 rfl (by kernel_rfl) (by kernel_rfl) (by kernel_rfl) (fun _ _ _ h => h) rfl (by assumption) ?_
        simp only [List.setIfInBounds_toArray, List.set_cons_zero, List.set_cons_succ]
        refine heldNo 12 31 rfl (by kernel_rfl) (by kernel_rfl) (by kernel_rfl) (fun _ _ _ h => h) rfl (by assumption) ?_
        simp only [List.setIfInBounds_toArray, List.set_cons_zero, List.set_cons_succ]
        refine heldNo 13 32 rfl (by kernel_rfl) (by kernel_rfl) (by kernel_rfl) (fun _ _ _ h => h) rfl (by assumption) ?_
        simp only [List.setIfInBounds_toArray, List.set_cons_zero, List.set_cons_succ]
        refine heldNo 14 33 rfl (by kernel_rfl) (by kernel_rfl) (by kernel_rfl) (fun _ _ _ h => h) rfl (by assumption) ?_
        simp only [List.setIfInBounds_toArray, List.set_cons_zero, List.set_cons_succ]
        refine heldNo 15 34 rfl (by kernel_rfl) (by kernel_rfl) (by kernel_rfl) (fun _ _ _ h => h) rfl (by assumption) ?_
        simp only [List.setIfInBounds_toArray, List.set_cons_zero, List.set_cons_succ]
        refine heldNo 16 35 rfl (by kernel_rfl) (by kernel_rfl) (by kernel_rfl) (fun _ _ _ h => h) rfl (by assumption) ?_
        simp only [List.setIfInBounds_toArray, List.set_cons_zero, List.set_cons_succ]
        refine heldNo 17 36 rfl (by kernel_rfl) (by kernel_rfl) (by kernel_rfl) (fun _ _ _ h => h) rfl (by assumption) ?_
        simp only [List.setIfInBounds_toArray, List.set_cons_zero, List.set_cons_succ]
        refine heldNo 18 37 rfl (by kernel_rfl) (by kernel_rfl) (by kernel_rfl) (fun _ _ _ h => h) rfl (by assumption) ?_
        simp only [List.setIfInBounds_toArray, List.set_cons_zero, List.set_cons_succ]
        refine heldNo 19 38 rfl (by kernel_rfl) (by kernel_rfl) (by kernel_rfl) (fun _ _ _ h => h) rfl (by assumption) ?_
        simp only [List.setIfInBounds_toArray, List.set_cons_zero, List.set_cons_succ]
        refine heldYes 20 39 ?_ rfl (by kernel_rfl) (by kernel_rfl) (by kernel_rfl) (fun _ _ _ h => h) rfl (by assumption) ?_ ?_
        rotate_left
        · (intro w hSw; (try dsimp only at hSw); go_simp; (try with_reducible rfl))
        simp only [List.setIfInBounds_toArray, List.set_cons_zero, List.set_cons_succ]
        refine wpAnyH_done (by kernel_rfl) ?_ _
        have HW3 := Lib.hid hHeld.2.2.2
        clear hHeld
        go_wp2
        go_ret
        exact ⟨reti HF.out, HW3.out⟩
      · simp only [hq] at RA
        by_cases hk0 : 0 < k
        · obtain ⟨y, hy⟩ : ∃ y, l[k - 1]? = some y := ⟨_, List.getElem?_eq_getElem (by rw [HN.out]; omega)⟩
          obtain ⟨e0, e1, e2⟩ := HC.out (k - 1) y hy
          rw [← HB.out.cell (p := ⟨b, o + (k - 1) * 3, none⟩) hbw] at e0
          rw [← HB.out.cell (p := ⟨b, o + (k - 1) * 3 + 1, none⟩) hbw] at e1
          rw [← HB.out.cell (p := ⟨b, o + (k - 1) * 3 + 2, none⟩) hbw] at e2
          have hbwr : b < wr.heap.size := Nat.lt_of_lt_of_le hbw hsz
          have e3 := cells3_on ⟨e0, e1, e2⟩ ((Below.refl wr.heap.size wr).alloc (Nat.le_refl _) (.cells #[.string (bsA x.1), .string (bsA x.2.1), .string (bsA x.2.2)] 54))
          have hls := lessT (bsA y.1) (bsA x.1)
          rw [bytesOf, bytesOf] at hls
          have HBADk : Hid (decide (y.1 < x.1) = false → (1 : Int) = Z) := Lib.hid (fun g => HBAD.out k x HX.out (fun q => by rw [decide_eq_true (q.2 y hk0 hy)] at g; cases g))
          have HNEXT : Hid (decide (y.1 < x.1) = true → ∀ (j : Nat) u, j < k + 1 → l[j]? = some u → stepD l j u) := Lib.hid (fun g j u hj hu => by
            by_cases ej : j = k
            · subst ej
              rw [HX.out] at hu; cases hu
              exact ⟨hq, fun u h1 h2 => by rw [hy] at h2; cases h2; exact of_decide_eq_true g⟩
            · exact H.out j u (by omega) hu)
          generalize decide (y.1 < x.1) = q at *
          have hd : decide ((0 : Int) < (k : Int)) = true := decide_eq_true (by omega)
          have hk1 : (1 : Int) ≤ (k : Int) := by omega
          clear hq H HBAD HC HS HX hy e0 e1 e2
          generalize bsA x.1 = X at *
          generalize bsA x.2.1 = Y at *
          generalize bsA x.2.2 = ZZ at *
          generalize bsA y.1 = X' at *
          generalize bsA y.2.1 = Y' at *
          generalize bsA y.2.2 = Z' at *
          go_wp2
          generalize wr.alloc (.cells #[.string X, .string Y, .string ZZ] 54) = W2 at *
          generalize hb0 : wr.heap.size = b0 at *
          obtain ⟨x0, x1, x2, hB⟩ := hs
          obtain ⟨e0, e1, e2⟩ := e3
          have hs := And.intro x0 (And.intro x1 (And.intro x2 (And.intro e0 (And.intro e1 (And.intro e2 hB)))))
          clear hb0
          have i0 : (0 : Int) ≤ (k : Int) - 1 := by omega
          have i1 : (k : Int) - 1 < (n : Int) := by omega
          have i2 : ((k : Int) - 1).toNat = k - 1 := by omega
          have i3 : IntKind.i64.wrap ((k : Int) - 1) = (k : Int) - 1 := IntWalk.i64_in _ (by omega)
          have KX := KA X Y ZZ
          have KY := KA X' Y' Z'
          clear KA
          go_region_held3 (fun V => V.cell? ⟨b0, 0, none⟩ = some (.string X) ∧ V.cell? ⟨b0, 1, none⟩ = some (.string Y) ∧ V.cell? ⟨b0, 2, none⟩ = some (.string ZZ) ∧ V.cell? ⟨b, o + (k - 1) * 3, none⟩ = some (.string X') ∧ V.cell? ⟨b, o + (k - 1) * 3 + 1, none⟩ = some (.string Y') ∧ V.cell? ⟨b, o + (k - 1) * 3 + 2, none⟩ = some (.string Z') ∧ Below w.heap.size w V)
            (first | assumption | exact hs | exact s6_dr hs | exact s6_on (by assumption) (by assumption))
            ((first
              | (go_at_call 40; (with_reducible refine (RA _ (HL.out.on (s6_be (b := b0) (X := X) (Y := Y) (Z := ZZ) (c := b) (o := o + (k - 1) * 3) (P := X') (Q := Y') (R := Z') (by assumption)))).mono ?_); rintro e w3 ⟨rfl, hb⟩)
              | (go_at_call 69; first | ((with_reducible refine (KX _).mono ?_); rintro e w3 ⟨rfl, hb⟩) | ((with_reducible refine (KY _).mono ?_); rintro e w3 ⟨rfl, hb⟩))))
          all_goals
            rename_i hHeld
            have HW3 := Lib.hid hHeld.2.2.2.2.2.2
            clear hHeld i2 i3
            cases q
            · have HF := Lib.hid (HBADk.out rfl)
              clear HBADk HNEXT
              go_wp2
              go_ret
              exact ⟨reti HF.out, HW3.out⟩
            · have HK := Lib.hid (HNEXT.out rfl)
              clear HBADk HNEXT
              go_wp2
              go_roundw
              case rel => exact ⟨k + 1, by omega, by go_num, HK, HW3⟩
              case measure => simp [intOf]; omega
        · have HK : Hid (∀ (j : Nat) u, j < k + 1 → l[j]? = some u → stepD l j u) := Lib.hid (fun j u hj hu => by
            obtain rfl : j = k := by omega
            rw [HX.out] at hu; cases hu
            exact ⟨hq, fun _ h1 => absurd h1 hk0⟩)
          have hd : decide ((0 : Int) < (k : Int)) = false := decide_eq_false (by omega)
          clear hq H HBAD HOK KA HC HS HX
          generalize bsA x.1 = X at *
          generalize bsA x.2.1 = Y at *
          generalize bsA x.2.2 = ZZ at *
          go_wp2
          generalize wr.alloc (.cells #[.string X, .string Y, .string ZZ] 54) = W2 at *
          generalize hb0 : wr.heap.size = b0 at *
          obtain ⟨x0, x1, x2, hB⟩ := hs
          have hs := And.intro x0 (And.intro x1 (And.intro x2 hB))
          clear hb0
          refine wp_region_held_drew (S := (fun V => V.cell? ⟨b0, 0, none⟩ = some (.string X) ∧ V.cell? ⟨b0, 1, none⟩ = some (.string Y) ∧ V.cell? ⟨b0, 2, none⟩ = some (.string ZZ) ∧ Below w.heap.size w V)) (by kernel_rfl) ?_ (fun hHeld => ?_)
          · (try dsimp only); (first | assumption | exact hs | exact s3_dr hs | exact s3_on (by assumption) (by assumption))
          refine heldYes 0 19 ?_ rfl (by kernel_rfl) (by kernel_rfl) (by kernel_rfl) (fun _ _ _ h => h) rfl (by assumption) ?_ ?_
          rotate_left
          · (intro w hSw; (try dsimp only at hSw); go_simp; (try with_reducible rfl))
          simp only [List.setIfInBounds_toArray, List.set_cons_zero, List.set_cons_succ]
          refine heldYes 1 20 ?_ rfl (by kernel_rfl) (by kernel_rfl) (by kernel_rfl) (fun _ _ _ h => h) rfl (by assumption) ?_ ?_
          rotate_left
          · (intro w hSw; (try dsimp only at hSw); go_simp; (try with_reducible rfl))
          simp only [List.setIfInBounds_toArray, List.set_cons_zero, List.set_cons_succ]
          refine wpAnyH_ready (rs := [2]) (by kernel_rfl) (by simp) ?_
          refine AllReadyH.cons rfl (fun K hK => ?_) AllReadyH.nil
          go_simp
          go_at_call 40; refine (RA _ (HL.out.on (s3_be (b := b0) (X := X) (Y := Y) (Z := ZZ) (by assumption)))).mono ?_; rintro e w3 ⟨rfl, hb⟩
          refine hK.out _ _ ?_ (fun hHeld => ?_)
          · (try dsimp only); (first | assumption | exact hs | exact s3_dr hs | exact s3_on (by assumption) (by assumption))
          clear hK K
          try simp only [Act.put, List.setIfInBounds_toArray, List.set_cons_zero, List.set_cons_succ]
          refine heldYes 3 22 ?_ rfl (by kernel_rfl) (by kernel_rfl) (by kernel_rfl) (fun _ _ _ h => h) rfl (by assumption) ?_ ?_
          rotate_left
          · (intro w hSw; (try dsimp only at hSw); go_simp; (try with_reducible rfl))
          simp only [List.setIfInBounds_toArray, List.set_cons_zero, List.set_cons_succ]
          refine heldYes 4 23 ?_ rfl (by kernel_rfl) (by kernel_rfl) (by kernel_rfl) (fun _ _ _ h => h) rfl (by assumption) ?_ ?_
          rotate_left
          · (intro w hSw; (try dsimp only at hSw); go_simp; (try with_reducible rfl))
          simp only [List.setIfInBounds_toArray, List.set_cons_zero, List.set_cons_succ]
          refine heldYes 5 24 ?_ rfl (by kernel_rfl) (by kernel_rfl) (by kernel_rfl) (fun _ _ _ h => h) rfl (by assumption) ?_ ?_
          rotate_left
          · (intro w hSw; (try dsimp only at hSw); go_simp; (try with_reducible rfl))
          simp only [List.setIfInBounds_toArray, List.set_cons_zero, List.set_cons_succ]
          refine heldYes 6 25 ?_ rfl (by kernel_rfl) (by kernel_rfl) (by kernel_rfl) (fun _ _ _ h => h) rfl (by assumption) ?_ ?_
          rotate_left
          · (intro w hSw; (try dsimp only at hSw); go_simp; (try with_reducible rfl))
          simp only [List.setIfInBounds_toArray, List.set_cons_zero, List.set_cons_succ]
          refine heldYes 7 26 ?_ rfl (by kernel_rfl) (by kernel_rfl) (by kernel_rfl) (fun _ _ _ h => h) rfl (by assumption) ?_ ?_
          rotate_left
          · (intro w hSw; (try dsimp only at hSw); go_simp; (try with_reducible rfl))
          simp only [List.setIfInBounds_toArray, List.set_cons_zero, List.set_cons_succ]
          refine heldNo 8 27 rfl (by kernel_rfl) (by kernel_rfl) (by kernel_rfl) (fun _ _ _ h => h) rfl (by assumption) ?_
          simp only [List.setIfInBounds_toArray, List.set_cons_zero, List.set_cons_succ]
          refine heldNo 9 28 rfl (by kernel_rfl) (by kernel_rfl) (by kernel_rfl) (fun _ _ _ h => h) rfl (by assumption) ?_
          simp only [List.setIfInBounds_toArray, List.set_cons_zero, List.set_cons_succ]
          refine heldNo 10 29 rfl (by kernel_rfl) (by kernel_rfl) (by kernel_rfl) (fun _ _ _ h => h) rfl (by assumption) ?_
          simp only [List.setIfInBounds_toArray, List.set_cons_zero, List.set_cons_succ]
          refine heldNo 11 30 rfl (by kernel_rfl) (by kernel_rfl) (by kernel_rfl) (fun _ _ _ h => h) rfl (by assumption) ?_
          simp only [List.setIfInBounds_toArray, List.set_cons_zero, List.set_cons_succ]
          refine heldNo 12 31 rfl (by kernel_rfl) (by kernel_rfl) (by kernel_rfl) (fun _ _ _ h => h) rfl (by assumption) ?_
          simp only [List.setIfInBounds_toArray, List.set_cons_zero, List.set_cons_succ]
          refine heldNo 13 32 rfl (by kernel_rfl) (by kernel_rfl) (by kernel_rfl) (fun _ _ _ h => h) rfl (by assumption) ?_
          simp only [List.setIfInBounds_toArray, List.set_cons_zero, List.set_cons_succ]
          refine heldNo 14 33 rfl (by kernel_rfl) (by kernel_rfl) (by kernel_rfl) (fun _ _ _ h => h) rfl (by assumption) ?_
          simp only [List.setIfInBounds_toArray, List.set_cons_zero, List.set_cons_succ]
          refine heldNo 15 34 rfl (by kernel_rfl) (by kernel_rfl) (by kernel_rfl) (fun _ _ _ h => h) rfl (by assumption) ?_
          simp only [List.setIfInBounds_toArray, List.set_cons_zero, List.set_cons_succ]
          refine heldNo 16 35 rfl (by kernel_rfl) (by kernel_rfl) (by kernel_rfl) (fun _ _ _ h => h) rfl (by assumption) ?_
          simp only [List.setIfInBounds_toArray, List.set_cons_zero, List.set_cons_succ]
          refine heldNo 17 36 rfl (by kernel_rfl) (by kernel_rfl) (by kernel_rfl) (fun _ _ _ h => h) rfl (by assumption) ?_
          simp only [List.setIfInBounds_toArray, List.set_cons_zero, List.set_cons_succ]
          refine heldNo 18 37 rfl (by kernel_rfl) (by kernel_rfl) (by kernel_rfl) (fun _ _ _ h => h) rfl (by assumption) ?_
          simp only [List.setIfInBounds_toArray, List.set_cons_zero, List.set_cons_succ]
          refine heldYes 19 38 ?_ rfl (by kernel_rfl) (by kernel_rfl) (by kernel_rfl) (fun _ _ _ h => h) rfl (by assumption) ?_ ?_
          rotate_left
          · (intro w hSw; (try dsimp only at hSw); go_simp; (try with_reducible rfl))
          simp only [List.setIfInBounds_toArray, List.set_cons_zero, List.set_cons_succ]
          refine heldYes 20 39 ?_ rfl (by kernel_rfl) (by kernel_rfl) (by kernel_rfl) (fun _ _ _ h => h) rfl (by assumption) ?_ ?_
          rotate_left
          · (intro w hSw; (try dsimp only at hSw); go_simp; (try with_reducible rfl))
          simp only [List.setIfInBounds_toArray, List.set_cons_zero, List.set_cons_succ]
          refine wpAnyH_done (by kernel_rfl) ?_ _
          have HW3 := Lib.hid hHeld.2.2.2
          clear hHeld
          go_wp2
          go_roundw
          case rel => exact ⟨k + 1, by omega, by go_num, HK, HW3⟩
          case measure => simp [intOf]; omega
    · obtain rfl : k = n := by omega
      have HF := Lib.hid (HOK.out (fun i x hx => H.out i x (by have := (List.getElem?_eq_some_iff.1 hx).1; rw [HN.out] at this; exact this) hx))
      clear hlt H HBAD HOK
      go_wp2
      go_ret
      exact ⟨reti HF.out, HB.out⟩
end Go.Proofs.YtogkickaebmeoaaDoor
