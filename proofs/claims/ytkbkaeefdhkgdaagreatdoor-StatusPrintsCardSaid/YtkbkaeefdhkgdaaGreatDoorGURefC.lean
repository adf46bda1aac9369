import Derived.Test.YtkbkaeefdhkgdaaGreatDoorGURefR
set_option maxRecDepth 100000
set_option maxHeartbeats 32000000
namespace Go.Proofs.YtkbkaeefdhkgdaaGreatDoor
open Go.RowKit
theorem check8_ref (v : Value) (l : List Uv) (hl : l.length ≤ 90000) (hsm : ∀ x ∈ l, SmallU x) (w : World) (h : HoldU w v l) : Calls Tryz.prog 10 #[v] w fun e w' => e = .returned (.int .i64 (kchkK rightU (fun x => x.nm) l)) ∧ Below w.heap.size w w' := by
 have HRR := Lib.hid (fun x (hx : x ∈ l) W (hb : Below w.heap.size w W) => rightU_ref x (hsm x hx) W ((h.2 x hx).on hb))
 have HIN := Lib.hid h.2
 obtain ⟨Z, HZ⟩ : ∃ Z, Hid (kchkK rightU (fun x => x.nm) l = Z) := ⟨_, rfl⟩
 rw [HZ.out]
 obtain ⟨a, c, b, o, rfl, hc, ha, hcell⟩ := h.parts
 have HC := Lib.hid hcell
 by_cases h64 : 64 < l.length
 ·
  have HF : Hid ((22 : Int) = Z) := Lib.hid (by rw [← HZ.out, kchkK_long h64])
  generalize l.length = n at *
  clear hcell h hsm
  go_enter Tryz.func10, Tryz.ntmps10
  go_wp2
  go_ret
  exact ⟨reti HF.out, Below.refl _ _⟩
 have HBAD : Hid (∀ (i : Nat) x, l[i]? = some x → ¬ stepK rightU (fun x => x.nm) l i x → (1 : Int) = Z) := Lib.hid (fun i x hx g => by rw [← HZ.out, kchkK_no h64 (fun q => g (q i x hx))])
 have HOK : Hid (StepsK rightU (fun x => x.nm) l → (0 : Int) = Z) := Lib.hid (fun g => by rw [← HZ.out, kchkK_ok h64 g])
 clear HZ
 obtain ⟨n, hN⟩ : ∃ n, l.length = n := ⟨_, rfl⟩
 rw [hN] at hc ha hl h64 ⊢
 have HN := Lib.hid hN
 clear hcell hN h hsm
 go_enter Tryz.func10, Tryz.ntmps10
 go_wp2
 go_loopw [3] (fun i wr => ∃ k : Nat, k ≤ n ∧ i = .int .i64 k ∧ Hid (∀ (j : Nat) x, j < k → l[j]? = some x → stepK rightU (fun x => x.nm) l j x) ∧ Hid (Below w.heap.size w wr)) (fun i _ => n - (intOf i).toNat)
 case atStart => exact ⟨0, by omega, rfl, Lib.hid (fun j y hj => by omega), Lib.hid (Below.refl _ _)⟩
 case round =>
  obtain ⟨k, hk, rfl, H, HB⟩ := hrel
  by_cases hlt : k < n
  ·
   obtain ⟨rfl, hbw⟩ := ha (by omega)
   obtain ⟨x, hx⟩ : ∃ x, l[k]? = some x := ⟨_, List.getElem?_eq_getElem (by rw [HN.out]; exact hlt)⟩
   have hxm := List.mem_of_getElem? hx
   have RR := HRR.out x hxm
   obtain ⟨a3, n3, m3, q3⟩ := formU3 (HIN.out x hxm)
   obtain ⟨a4, n4, m4, q4⟩ := formU4 (HIN.out x hxm)
   obtain ⟨a5, n5, m5, q5⟩ := formU5 (HIN.out x hxm)
   obtain ⟨a6, n6, m6, q6⟩ := formU6 (HIN.out x hxm)
   obtain ⟨a7, n7, m7, q7⟩ := formU7 (HIN.out x hxm)
   obtain ⟨a8, n8, m8, q8⟩ := formU8 (HIN.out x hxm)
   obtain ⟨c0, c1, c2, c3, c4, c5, c6, c7, c8⟩ := HC.out k x hx
   rw [← HB.out.cell (p := ⟨b, o + k * 9, none⟩) hbw] at c0
   rw [← HB.out.cell (p := ⟨b, o + k * 9 + 1, none⟩) hbw] at c1
   rw [← HB.out.cell (p := ⟨b, o + k * 9 + 2, none⟩) hbw] at c2
   rw [← HB.out.cell (p := ⟨b, o + k * 9 + 3, none⟩) hbw] at c3
   rw [← HB.out.cell (p := ⟨b, o + k * 9 + 4, none⟩) hbw] at c4
   rw [← HB.out.cell (p := ⟨b, o + k * 9 + 5, none⟩) hbw] at c5
   rw [← HB.out.cell (p := ⟨b, o + k * 9 + 6, none⟩) hbw] at c6
   rw [← HB.out.cell (p := ⟨b, o + k * 9 + 7, none⟩) hbw] at c7
   rw [← HB.out.cell (p := ⟨b, o + k * 9 + 8, none⟩) hbw] at c8
   have HX := Lib.hid hx
   unfold agZU at RR
   rw [q3] at c3
   rw [q4] at c4
   rw [q5] at c5
   rw [q6] at c6
   rw [q7] at c7
   rw [q8] at c8
   simp only [q3, q4, q5, q6, q7, q8] at RR
   clear q3 q4 q5 q6 q7 q8 hx hxm
   cases hq : rightU x
   ·
    have HF := Lib.hid (HBAD.out k x HX.out (fun g => by rw [g.1] at hq; cases hq))
    simp only [hq] at RR
    clear hq H HBAD HOK HX HC HRR HIN
    generalize (⟨x.nm.toArray⟩ : ByteArray) = X0 at *
    generalize (⟨x.vr.toArray⟩ : ByteArray) = X1 at *
    generalize x.st = z2 at *
    have hs := And.intro c0 (And.intro c1 (And.intro c2 (And.intro c3 (And.intro c4 (And.intro c5 (And.intro c6 (And.intro c7 (And.intro c8 (HB.out)))))))))
    have j0 : (0 : Int) ≤ (k : Int) := by omega
    have j1 : (k : Int) < (n : Int) := by omega
    clear c0 c1 c2 c3 c4 c5 c6 c7 c8
    go_wp2
    have KQ := Lib.hid (atK w [(⟨b, o + k * 9, none⟩, .string X0), (⟨b, o + k * 9 + 1, none⟩, .string X1), (⟨b, o + k * 9 + 2, none⟩, .int .i64 z2), (⟨b, o + k * 9 + 3, none⟩, .slice a3 n3 m3), (⟨b, o + k * 9 + 4, none⟩, .slice a4 n4 m4), (⟨b, o + k * 9 + 5, none⟩, .slice a5 n5 m5), (⟨b, o + k * 9 + 6, none⟩, .slice a6 n6 m6), (⟨b, o + k * 9 + 7, none⟩, .slice a7 n7 m7), (⟨b, o + k * 9 + 8, none⟩, .slice a8 n8 m8)])
    have BE := fun (V : World) (h : V.cell? ⟨b, o + k * 9, none⟩ = some (.string X0) ∧ V.cell? ⟨b, o + k * 9 + 1, none⟩ = some (.string X1) ∧ V.cell? ⟨b, o + k * 9 + 2, none⟩ = some (.int .i64 z2) ∧ V.cell? ⟨b, o + k * 9 + 3, none⟩ = some (.slice a3 n3 m3) ∧ V.cell? ⟨b, o + k * 9 + 4, none⟩ = some (.slice a4 n4 m4) ∧ V.cell? ⟨b, o + k * 9 + 5, none⟩ = some (.slice a5 n5 m5) ∧ V.cell? ⟨b, o + k * 9 + 6, none⟩ = some (.slice a6 n6 m6) ∧ V.cell? ⟨b, o + k * 9 + 7, none⟩ = some (.slice a7 n7 m7) ∧ V.cell? ⟨b, o + k * 9 + 8, none⟩ = some (.slice a8 n8 m8) ∧ Below w.heap.size w V) => AtF.be (w := w) (l := [(⟨b, o + k * 9, none⟩, .string X0), (⟨b, o + k * 9 + 1, none⟩, .string X1), (⟨b, o + k * 9 + 2, none⟩, .int .i64 z2), (⟨b, o + k * 9 + 3, none⟩, .slice a3 n3 m3), (⟨b, o + k * 9 + 4, none⟩, .slice a4 n4 m4), (⟨b, o + k * 9 + 5, none⟩, .slice a5 n5 m5), (⟨b, o + k * 9 + 6, none⟩, .slice a6 n6 m6), (⟨b, o + k * 9 + 7, none⟩, .slice a7 n7 m7), (⟨b, o + k * 9 + 8, none⟩, .slice a8 n8 m8)]) h
    refine wp_region_held_drew (S := (fun V => V.cell? ⟨b, o + k * 9, none⟩ = some (.string X0) ∧ V.cell? ⟨b, o + k * 9 + 1, none⟩ = some (.string X1) ∧ V.cell? ⟨b, o + k * 9 + 2, none⟩ = some (.int .i64 z2) ∧ V.cell? ⟨b, o + k * 9 + 3, none⟩ = some (.slice a3 n3 m3) ∧ V.cell? ⟨b, o + k * 9 + 4, none⟩ = some (.slice a4 n4 m4) ∧ V.cell? ⟨b, o + k * 9 + 5, none⟩ = some (.slice a5 n5 m5) ∧ V.cell? ⟨b, o + k * 9 + 6, none⟩ = some (.slice a6 n6 m6) ∧ V.cell? ⟨b, o + k * 9 + 7, none⟩ = some (.slice a7 n7 m7) ∧ V.cell? ⟨b, o + k * 9 + 8, none⟩ = some (.slice a8 n8 m8) ∧ Below w.heap.size w V)) (by kernel_rfl) ?_ (fun hHeld => ?_)
    ·
     (try dsimp only); (first | assumption | exact hs | exact KQ.out.dr _ hs | exact KQ.out.dr _ (by assumption) | exact KQ.out.on _ _ (by assumption) (by assumption) | exact KQ.out.al _ _ (by assumption) | exact KQ.out.ald _ _ (by assumption) | exact KQ.out.al _ _ hs | exact KQ.out.ald _ _ hs)
    refine heldY 0 13 ?_ _ rfl rfl (by kernel_rfl) (by kernel_rfl) (by kernel_rfl) (fun _ _ _ h => h) rfl (by assumption) ?_ ?_
    rotate_left
    ·
     (intro w hSw; (try dsimp only at hSw); go_simp; (try with_reducible rfl))
    try simp only [SL]
    refine heldY 1 14 ?_ _ rfl rfl (by kernel_rfl) (by kernel_rfl) (by kernel_rfl) (fun _ _ _ h => h) rfl (by assumption) ?_ ?_
    rotate_left
    ·
     (intro w hSw; (try dsimp only at hSw); go_simp; (try with_reducible rfl))
    try simp only [SL]
    refine heldY 2 15 ?_ _ rfl rfl (by kernel_rfl) (by kernel_rfl) (by kernel_rfl) (fun _ _ _ h => h) rfl (by assumption) ?_ ?_
    rotate_left
    ·
     (intro w hSw; (try dsimp only at hSw); go_simp; (try with_reducible rfl))
    try simp only [SL]
    refine heldY 3 16 ?_ _ rfl rfl (by kernel_rfl) (by kernel_rfl) (by kernel_rfl) (fun _ _ _ h => h) rfl (by assumption) ?_ ?_
    rotate_left
    ·
     (intro w hSw; (try dsimp only at hSw); go_simp; (try with_reducible rfl))
    try simp only [SL]
    refine wpAnyH_ready (rs := [4]) (by kernel_rfl) (by simp) ?_
    refine AllReadyH.cons rfl (fun K hK => ?_) AllReadyH.nil
    go_simp
    (go_at_call 26; (with_reducible refine (RR _ (BE _ (by assumption))).mono ?_); rintro e w3 ⟨rfl, hb⟩)
    refine hK.out _ _ ?_ (fun hHeld => ?_)
    ·
     (try dsimp only); (first | assumption | exact hs | exact KQ.out.dr _ hs | exact KQ.out.dr _ (by assumption) | exact KQ.out.on _ _ (by assumption) (by assumption) | exact KQ.out.al _ _ (by assumption) | exact KQ.out.ald _ _ (by assumption) | exact KQ.out.al _ _ hs | exact KQ.out.ald _ _ hs)
    clear hK K
    try simp only [Act.put, List.setIfInBounds_toArray, List.set_cons_zero, List.set_cons_succ]
    refine heldY 5 18 ?_ _ rfl rfl (by kernel_rfl) (by kernel_rfl) (by kernel_rfl) (fun _ _ _ h => h) rfl (by assumption) ?_ ?_
    rotate_left
    ·
     (intro w hSw; (try dsimp only at hSw); go_simp; (try with_reducible rfl))
    try simp only [SL]
    refine heldY 6 19 ?_ _ rfl rfl (by kernel_rfl) (by kernel_rfl) (by kernel_rfl) (fun _ _ _ h => h) rfl (by assumption) ?_ ?_
    rotate_left
    ·
     (intro w hSw; (try dsimp only at hSw); go_simp; (try with_reducible rfl))
    try simp only [SL]
    refine heldNo 7 20 rfl (by kernel_rfl) (by kernel_rfl) (by kernel_rfl) (fun _ _ _ h => h) rfl (by assumption) ?_
    try simp only [SL]
    refine heldNo 8 21 rfl (by kernel_rfl) (by kernel_rfl) (by kernel_rfl) (fun _ _ _ h => h) rfl (by assumption) ?_
    try simp only [SL]
    refine heldNo 9 22 rfl (by kernel_rfl) (by kernel_rfl) (by kernel_rfl) (fun _ _ _ h => h) rfl (by assumption) ?_
    try simp only [SL]
    refine heldNo 10 23 rfl (by kernel_rfl) (by kernel_rfl) (by kernel_rfl) (fun _ _ _ h => h) rfl (by assumption) ?_
    try simp only [SL]
    refine heldNo 11 24 rfl (by kernel_rfl) (by kernel_rfl) (by kernel_rfl) (fun _ _ _ h => h) rfl (by assumption) ?_
    try simp only [SL]
    refine heldNo 12 25 rfl (by kernel_rfl) (by kernel_rfl) (by kernel_rfl) (fun _ _ _ h => h) rfl (by assumption) ?_
    try simp only [SL]
    refine heldNo 13 26 rfl (by kernel_rfl) (by kernel_rfl) (by kernel_rfl) (fun _ _ _ h => h) rfl (by assumption) ?_
    try simp only [SL]
    refine heldNo 14 27 rfl (by kernel_rfl) (by kernel_rfl) (by kernel_rfl) (fun _ _ _ h => h) rfl (by assumption) ?_
    try simp only [SL]
    refine heldNo 15 28 rfl (by kernel_rfl) (by kernel_rfl) (by kernel_rfl) (fun _ _ _ h => h) rfl (by assumption) ?_
    try simp only [SL]
    refine heldNo 16 29 rfl (by kernel_rfl) (by kernel_rfl) (by kernel_rfl) (fun _ _ _ h => h) rfl (by assumption) ?_
    try simp only [SL]
    refine heldNo 17 30 rfl (by kernel_rfl) (by kernel_rfl) (by kernel_rfl) (fun _ _ _ h => h) rfl (by assumption) ?_
    try simp only [SL]
    refine heldNo 18 31 rfl (by kernel_rfl) (by kernel_rfl) (by kernel_rfl) (fun _ _ _ h => h) rfl (by assumption) ?_
    try simp only [SL]
    refine heldNo 19 32 rfl (by kernel_rfl) (by kernel_rfl) (by kernel_rfl) (fun _ _ _ h => h) rfl (by assumption) ?_
    try simp only [SL]
    refine heldNo 20 33 rfl (by kernel_rfl) (by kernel_rfl) (by kernel_rfl) (fun _ _ _ h => h) rfl (by assumption) ?_
    try simp only [SL]
    refine heldNo 21 34 rfl (by kernel_rfl) (by kernel_rfl) (by kernel_rfl) (fun _ _ _ h => h) rfl (by assumption) ?_
    try simp only [SL]
    refine heldNo 22 35 rfl (by kernel_rfl) (by kernel_rfl) (by kernel_rfl) (fun _ _ _ h => h) rfl (by assumption) ?_
    try simp only [SL]
    refine heldY 23 36 ?_ _ rfl rfl (by kernel_rfl) (by kernel_rfl) (by kernel_rfl) (fun _ _ _ h => h) rfl (by assumption) ?_ ?_
    rotate_left
    ·
     (intro w hSw; (try dsimp only at hSw); go_simp; (try with_reducible rfl))
    try simp only [SL]
    refine wpAnyH_done (by kernel_rfl) ?_ _
    have HW3 := Lib.hid (BE _ hHeld)
    clear hHeld
    go_wp2
    go_ret
    exact ⟨reti HF.out, HW3.out⟩
   ·
    simp only [hq] at RR
    have HST : Hid ((0 < k → ∀ y, l[k - 1]? = some y → y.nm < x.nm) → ∀ (j : Nat) u, j < k + 1 → l[j]? = some u → stepK rightU (fun x => x.nm) l j u) := Lib.hid (fun g j u hj hu => by
     by_cases ej : j = k
     ·
      subst ej
      rw [HX.out] at hu; cases hu
      exact ⟨hq, fun y h1 h2 => g h1 y h2⟩
     ·
      exact H.out j u (by omega) hu)
    obtain ⟨X0, hX0⟩ : ∃ q : ByteArray, (⟨x.nm.toArray⟩ : ByteArray) = q := ⟨_, rfl⟩
    have HXX : Hid (X0.data.toList = x.nm) := Lib.hid (by rw [← hX0])
    simp only [hX0] at RR
    rw [hX0] at c0
    have HXB : Hid (∀ y, l[k - 1]? = some y → 0 < k → decide (y.nm < x.nm) = false → (1 : Int) = Z) := Lib.hid (fun y hy h0 g => HBAD.out k x HX.out (fun q => by have := q.2 y h0 hy; simp only at this; rw [decide_eq_true this] at g; cases g))
    clear hq hX0
    generalize (⟨x.vr.toArray⟩ : ByteArray) = X1 at *
    generalize x.st = z2 at *
    have j0 : (0 : Int) ≤ (k : Int) := by omega
    have j1 : (k : Int) < (n : Int) := by omega
    by_cases hk0 : 0 < k
    ·
     obtain ⟨y, hy⟩ : ∃ y, l[k - 1]? = some y := ⟨_, List.getElem?_eq_getElem (by rw [HN.out]; omega)⟩
     obtain ⟨e0, -, -, -, -, -⟩ := HC.out (k - 1) y hy
     rw [← HB.out.cell (p := ⟨b, o + (k - 1) * 9, none⟩) hbw] at e0
     have hls := lessT (⟨y.nm.toArray⟩ : ByteArray) X0
     rw [bytesOf, HXX.out] at hls
     have HBAD2 := Lib.hid (HXB.out y hy hk0)
     have HST2 : Hid (decide (y.nm < x.nm) = true → ∀ (j : Nat) u, j < k + 1 → l[j]? = some u → stepK rightU (fun x => x.nm) l j u) := Lib.hid (fun g => HST.out (fun _ y' hy' => by rw [hy] at hy'; cases hy'; exact of_decide_eq_true g))
     generalize decide (y.nm < x.nm) = q at *
     generalize (⟨y.nm.toArray⟩ : ByteArray) = Y0 at *
     have hd : decide ((0 : Int) < (k : Int)) = true := decide_eq_true (by omega)
     have hk1 : (1 : Int) ≤ (k : Int) := by omega
     have hs := And.intro e0 (And.intro c0 (And.intro c1 (And.intro c2 (And.intro c3 (And.intro c4 (And.intro c5 (And.intro c6 (And.intro c7 (And.intro c8 (HB.out))))))))))
     have i0' : (0 : Int) ≤ (k : Int) - 1 := by omega
     have i1 : (k : Int) - 1 < (n : Int) := by omega
     have i2 : ((k : Int) - 1).toNat = k - 1 := by omega
     have i3 : IntKind.i64.wrap ((k : Int) - 1) = (k : Int) - 1 := IntWalk.i64_in _ (by omega)
     clear HBAD HRR HIN hy HXB HST c0 c1 c2 c3 c4 c5 c6 c7 c8 e0
     go_wp2
     have KQ := Lib.hid (atK w [(⟨b, o + (k - 1) * 9, none⟩, .string Y0), (⟨b, o + k * 9, none⟩, .string X0), (⟨b, o + k * 9 + 1, none⟩, .string X1), (⟨b, o + k * 9 + 2, none⟩, .int .i64 z2), (⟨b, o + k * 9 + 3, none⟩, .slice a3 n3 m3), (⟨b, o + k * 9 + 4, none⟩, .slice a4 n4 m4), (⟨b, o + k * 9 + 5, none⟩, .slice a5 n5 m5), (⟨b, o + k * 9 + 6, none⟩, .slice a6 n6 m6), (⟨b, o + k * 9 + 7, none⟩, .slice a7 n7 m7), (⟨b, o + k * 9 + 8, none⟩, .slice a8 n8 m8)])
     have BE := fun (V : World) (h : V.cell? ⟨b, o + (k - 1) * 9, none⟩ = some (.string Y0) ∧ V.cell? ⟨b, o + k * 9, none⟩ = some (.string X0) ∧ V.cell? ⟨b, o + k * 9 + 1, none⟩ = some (.string X1) ∧ V.cell? ⟨b, o + k * 9 + 2, none⟩ = some (.int .i64 z2) ∧ V.cell? ⟨b, o + k * 9 + 3, none⟩ = some (.slice a3 n3 m3) ∧ V.cell? ⟨b, o + k * 9 + 4, none⟩ = some (.slice a4 n4 m4) ∧ V.cell? ⟨b, o + k * 9 + 5, none⟩ = some (.slice a5 n5 m5) ∧ V.cell? ⟨b, o + k * 9 + 6, none⟩ = some (.slice a6 n6 m6) ∧ V.cell? ⟨b, o + k * 9 + 7, none⟩ = some (.slice a7 n7 m7) ∧ V.cell? ⟨b, o + k * 9 + 8, none⟩ = some (.slice a8 n8 m8) ∧ Below w.heap.size w V) => AtF.be (w := w) (l := [(⟨b, o + (k - 1) * 9, none⟩, .string Y0), (⟨b, o + k * 9, none⟩, .string X0), (⟨b, o + k * 9 + 1, none⟩, .string X1), (⟨b, o + k * 9 + 2, none⟩, .int .i64 z2), (⟨b, o + k * 9 + 3, none⟩, .slice a3 n3 m3), (⟨b, o + k * 9 + 4, none⟩, .slice a4 n4 m4), (⟨b, o + k * 9 + 5, none⟩, .slice a5 n5 m5), (⟨b, o + k * 9 + 6, none⟩, .slice a6 n6 m6), (⟨b, o + k * 9 + 7, none⟩, .slice a7 n7 m7), (⟨b, o + k * 9 + 8, none⟩, .slice a8 n8 m8)]) h
     refine wp_region_held_drew (S := (fun V => V.cell? ⟨b, o + (k - 1) * 9, none⟩ = some (.string Y0) ∧ V.cell? ⟨b, o + k * 9, none⟩ = some (.string X0) ∧ V.cell? ⟨b, o + k * 9 + 1, none⟩ = some (.string X1) ∧ V.cell? ⟨b, o + k * 9 + 2, none⟩ = some (.int .i64 z2) ∧ V.cell? ⟨b, o + k * 9 + 3, none⟩ = some (.slice a3 n3 m3) ∧ V.cell? ⟨b, o + k * 9 + 4, none⟩ = some (.slice a4 n4 m4) ∧ V.cell? ⟨b, o + k * 9 + 5, none⟩ = some (.slice a5 n5 m5) ∧ V.cell? ⟨b, o + k * 9 + 6, none⟩ = some (.slice a6 n6 m6) ∧ V.cell? ⟨b, o + k * 9 + 7, none⟩ = some (.slice a7 n7 m7) ∧ V.cell? ⟨b, o + k * 9 + 8, none⟩ = some (.slice a8 n8 m8) ∧ Below w.heap.size w V)) (by kernel_rfl) ?_ (fun hHeld => ?_)
     ·
      (try dsimp only); (first | assumption | exact hs | exact KQ.out.dr _ hs | exact KQ.out.dr _ (by assumption) | exact KQ.out.on _ _ (by assumption) (by assumption) | exact KQ.out.al _ _ (by assumption) | exact KQ.out.ald _ _ (by assumption) | exact KQ.out.al _ _ hs | exact KQ.out.ald _ _ hs)
     refine heldY 0 13 ?_ _ rfl rfl (by kernel_rfl) (by kernel_rfl) (by kernel_rfl) (fun _ _ _ h => h) rfl (by assumption) ?_ ?_
     rotate_left
     ·
      (intro w hSw; (try dsimp only at hSw); go_simp; (try with_reducible rfl))
     try simp only [SL]
     refine heldY 1 14 ?_ _ rfl rfl (by kernel_rfl) (by kernel_rfl) (by kernel_rfl) (fun _ _ _ h => h) rfl (by assumption) ?_ ?_
     rotate_left
     ·
      (intro w hSw; (try dsimp only at hSw); go_simp; (try with_reducible rfl))
     try simp only [SL]
     refine heldY 2 15 ?_ _ rfl rfl (by kernel_rfl) (by kernel_rfl) (by kernel_rfl) (fun _ _ _ h => h) rfl (by assumption) ?_ ?_
     rotate_left
     ·
      (intro w hSw; (try dsimp only at hSw); go_simp; (try with_reducible rfl))
     try simp only [SL]
     refine heldY 3 16 ?_ _ rfl rfl (by kernel_rfl) (by kernel_rfl) (by kernel_rfl) (fun _ _ _ h => h) rfl (by assumption) ?_ ?_
     rotate_left
     ·
      (intro w hSw; (try dsimp only at hSw); go_simp; (try with_reducible rfl))
     try simp only [SL]
     refine wpAnyH_ready (rs := [4]) (by kernel_rfl) (by simp) ?_
     refine AllReadyH.cons rfl (fun K hK => ?_) AllReadyH.nil
     go_simp
     (go_at_call 26; (with_reducible refine (RR _ (BE _ (by assumption))).mono ?_); rintro e w3 ⟨rfl, hb⟩)
     refine hK.out _ _ ?_ (fun hHeld => ?_)
     ·
      (try dsimp only); (first | assumption | exact hs | exact KQ.out.dr _ hs | exact KQ.out.dr _ (by assumption) | exact KQ.out.on _ _ (by assumption) (by assumption) | exact KQ.out.al _ _ (by assumption) | exact KQ.out.ald _ _ (by assumption) | exact KQ.out.al _ _ hs | exact KQ.out.ald _ _ hs)
     clear hK K
     try simp only [Act.put, List.setIfInBounds_toArray, List.set_cons_zero, List.set_cons_succ]
     refine heldY 5 18 ?_ _ rfl rfl (by kernel_rfl) (by kernel_rfl) (by kernel_rfl) (fun _ _ _ h => h) rfl (by assumption) ?_ ?_
     rotate_left
     ·
      (intro w hSw; (try dsimp only at hSw); go_simp; (try with_reducible rfl))
     try simp only [SL]
     refine heldY 6 19 ?_ _ rfl rfl (by kernel_rfl) (by kernel_rfl) (by kernel_rfl) (fun _ _ _ h => h) rfl (by assumption) ?_ ?_
     rotate_left
     ·
      (intro w hSw; (try dsimp only at hSw); go_simp; (try with_reducible rfl))
     try simp only [SL]
     refine heldY 7 20 ?_ _ rfl rfl (by kernel_rfl) (by kernel_rfl) (by kernel_rfl) (fun _ _ _ h => h) rfl (by assumption) ?_ ?_
     rotate_left
     ·
      (intro w hSw; (try dsimp only at hSw); go_simp; (try with_reducible rfl))
     try simp only [SL]
     refine heldY 8 21 ?_ _ rfl rfl (by kernel_rfl) (by kernel_rfl) (by kernel_rfl) (fun _ _ _ h => h) rfl (by assumption) ?_ ?_
     rotate_left
     ·
      (intro w hSw; (try dsimp only at hSw); go_simp; (try with_reducible rfl))
     try simp only [SL]
     refine heldY 9 22 ?_ _ rfl rfl (by kernel_rfl) (by kernel_rfl) (by kernel_rfl) (fun _ _ _ h => h) rfl (by assumption) ?_ ?_
     rotate_left
     ·
      (intro w hSw; (try dsimp only at hSw); go_simp; (try with_reducible rfl))
     try simp only [SL]
     refine heldY 10 23 ?_ _ rfl rfl (by kernel_rfl) (by kernel_rfl) (by kernel_rfl) (fun _ _ _ h => h) rfl (by assumption) ?_ ?_
     rotate_left
     ·
      (intro w hSw; (try dsimp only at hSw); go_simp; (try with_reducible rfl))
     try simp only [SL]
     refine heldY 11 24 ?_ _ rfl rfl (by kernel_rfl) (by kernel_rfl) (by kernel_rfl) (fun _ _ _ h => h) rfl (by assumption) ?_ ?_
     rotate_left
     ·
      (intro w hSw; (try dsimp only at hSw); go_simp; (try with_reducible rfl))
     try simp only [SL]
     refine heldY 12 25 ?_ _ rfl rfl (by kernel_rfl) (by kernel_rfl) (by kernel_rfl) (fun _ _ _ h => h) rfl (by assumption) ?_ ?_
     rotate_left
     ·
      (intro w hSw; (try dsimp only at hSw); go_simp; (try with_reducible rfl))
     try simp only [SL]
     refine heldY 13 26 ?_ _ rfl rfl (by kernel_rfl) (by kernel_rfl) (by kernel_rfl) (fun _ _ _ h => h) rfl (by assumption) ?_ ?_
     rotate_left
     ·
      (intro w hSw; (try dsimp only at hSw); go_simp; (try with_reducible rfl))
     try simp only [SL]
     refine heldY 14 27 ?_ _ rfl rfl (by kernel_rfl) (by kernel_rfl) (by kernel_rfl) (fun _ _ _ h => h) rfl (by assumption) ?_ ?_
     rotate_left
     ·
      (intro w hSw; (try dsimp only at hSw); go_simp; (try with_reducible rfl))
     try simp only [SL]
     refine heldY 15 28 ?_ _ rfl rfl (by kernel_rfl) (by kernel_rfl) (by kernel_rfl) (fun _ _ _ h => h) rfl (by assumption) ?_ ?_
     rotate_left
     ·
      (intro w hSw; (try dsimp only at hSw); go_simp; (try with_reducible rfl))
     try simp only [SL]
     refine heldY 16 29 ?_ _ rfl rfl (by kernel_rfl) (by kernel_rfl) (by kernel_rfl) (fun _ _ _ h => h) rfl (by assumption) ?_ ?_
     rotate_left
     ·
      (intro w hSw; (try dsimp only at hSw); go_simp; (try with_reducible rfl))
     try simp only [SL]
     refine heldY 17 30 ?_ _ rfl rfl (by kernel_rfl) (by kernel_rfl) (by kernel_rfl) (fun _ _ _ h => h) rfl (by assumption) ?_ ?_
     rotate_left
     ·
      (intro w hSw; (try dsimp only at hSw); go_simp; (try with_reducible rfl))
     try simp only [SL]
     refine heldY 18 31 ?_ _ rfl rfl (by kernel_rfl) (by kernel_rfl) (by kernel_rfl) (fun _ _ _ h => h) rfl (by assumption) ?_ ?_
     rotate_left
     ·
      (intro w hSw; (try dsimp only at hSw); go_simp; (try with_reducible rfl))
     try simp only [SL]
     refine heldY 19 32 ?_ _ rfl rfl (by kernel_rfl) (by kernel_rfl) (by kernel_rfl) (fun _ _ _ h => h) rfl (by assumption) ?_ ?_
     rotate_left
     ·
      (intro w hSw; (try dsimp only at hSw); go_simp; (try with_reducible rfl))
     try simp only [SL]
     refine heldY 20 33 ?_ _ rfl rfl (by kernel_rfl) (by kernel_rfl) (by kernel_rfl) (fun _ _ _ h => h) rfl (by assumption) ?_ ?_
     rotate_left
     ·
      (intro w hSw; (try dsimp only at hSw); go_simp; (try with_reducible rfl))
     try simp only [SL]
     refine heldY 21 34 ?_ _ rfl rfl (by kernel_rfl) (by kernel_rfl) (by kernel_rfl) (fun _ _ _ h => h) rfl (by assumption) ?_ ?_
     rotate_left
     ·
      (intro w hSw; (try dsimp only at hSw); go_simp; (try with_reducible rfl))
     try simp only [SL]
     refine heldY 22 35 ?_ _ rfl rfl (by kernel_rfl) (by kernel_rfl) (by kernel_rfl) (fun _ _ _ h => h) rfl (by assumption) ?_ ?_
     rotate_left
     ·
      (intro w hSw; (try dsimp only at hSw); go_simp; (try with_reducible rfl))
     try simp only [SL]
     refine heldY 23 36 ?_ _ rfl rfl (by kernel_rfl) (by kernel_rfl) (by kernel_rfl) (fun _ _ _ h => h) rfl (by assumption) ?_ ?_
     rotate_left
     ·
      (intro w hSw; (try dsimp only at hSw); go_simp; (try with_reducible rfl))
     try simp only [SL]
     refine wpAnyH_done (by kernel_rfl) ?_ _
     have HW3 := Lib.hid (BE _ hHeld)
     clear hHeld
     cases q
     ·
      have HF := Lib.hid (HBAD2.out rfl)
      clear HBAD2 HST2
      go_wp2
      go_ret
      exact ⟨reti HF.out, HW3.out⟩
     ·
      have HK := Lib.hid (HST2.out rfl)
      clear HBAD2 HST2 i2 i3
      go_wp2
      go_roundw
      case rel => exact ⟨k + 1, by omega, by go_num, HK, HW3⟩
      case measure => simp [intOf]; omega
    ·
     have HST2 : Hid (∀ (j : Nat) u, j < k + 1 → l[j]? = some u → stepK rightU (fun x => x.nm) l j u) := Lib.hid (HST.out (fun g => absurd g hk0))
     have hd : decide ((0 : Int) < (k : Int)) = false := decide_eq_false (by omega)
     have hs := And.intro c0 (And.intro c1 (And.intro c2 (And.intro c3 (And.intro c4 (And.intro c5 (And.intro c6 (And.intro c7 (And.intro c8 (HB.out)))))))))
     clear HBAD HRR HIN HXB HST c0 c1 c2 c3 c4 c5 c6 c7 c8
     go_wp2
     have KQ := Lib.hid (atK w [(⟨b, o + k * 9, none⟩, .string X0), (⟨b, o + k * 9 + 1, none⟩, .string X1), (⟨b, o + k * 9 + 2, none⟩, .int .i64 z2), (⟨b, o + k * 9 + 3, none⟩, .slice a3 n3 m3), (⟨b, o + k * 9 + 4, none⟩, .slice a4 n4 m4), (⟨b, o + k * 9 + 5, none⟩, .slice a5 n5 m5), (⟨b, o + k * 9 + 6, none⟩, .slice a6 n6 m6), (⟨b, o + k * 9 + 7, none⟩, .slice a7 n7 m7), (⟨b, o + k * 9 + 8, none⟩, .slice a8 n8 m8)])
     have BE := fun (V : World) (h : V.cell? ⟨b, o + k * 9, none⟩ = some (.string X0) ∧ V.cell? ⟨b, o + k * 9 + 1, none⟩ = some (.string X1) ∧ V.cell? ⟨b, o + k * 9 + 2, none⟩ = some (.int .i64 z2) ∧ V.cell? ⟨b, o + k * 9 + 3, none⟩ = some (.slice a3 n3 m3) ∧ V.cell? ⟨b, o + k * 9 + 4, none⟩ = some (.slice a4 n4 m4) ∧ V.cell? ⟨b, o + k * 9 + 5, none⟩ = some (.slice a5 n5 m5) ∧ V.cell? ⟨b, o + k * 9 + 6, none⟩ = some (.slice a6 n6 m6) ∧ V.cell? ⟨b, o + k * 9 + 7, none⟩ = some (.slice a7 n7 m7) ∧ V.cell? ⟨b, o + k * 9 + 8, none⟩ = some (.slice a8 n8 m8) ∧ Below w.heap.size w V) => AtF.be (w := w) (l := [(⟨b, o + k * 9, none⟩, .string X0), (⟨b, o + k * 9 + 1, none⟩, .string X1), (⟨b, o + k * 9 + 2, none⟩, .int .i64 z2), (⟨b, o + k * 9 + 3, none⟩, .slice a3 n3 m3), (⟨b, o + k * 9 + 4, none⟩, .slice a4 n4 m4), (⟨b, o + k * 9 + 5, none⟩, .slice a5 n5 m5), (⟨b, o + k * 9 + 6, none⟩, .slice a6 n6 m6), (⟨b, o + k * 9 + 7, none⟩, .slice a7 n7 m7), (⟨b, o + k * 9 + 8, none⟩, .slice a8 n8 m8)]) h
     refine wp_region_held_drew (S := (fun V => V.cell? ⟨b, o + k * 9, none⟩ = some (.string X0) ∧ V.cell? ⟨b, o + k * 9 + 1, none⟩ = some (.string X1) ∧ V.cell? ⟨b, o + k * 9 + 2, none⟩ = some (.int .i64 z2) ∧ V.cell? ⟨b, o + k * 9 + 3, none⟩ = some (.slice a3 n3 m3) ∧ V.cell? ⟨b, o + k * 9 + 4, none⟩ = some (.slice a4 n4 m4) ∧ V.cell? ⟨b, o + k * 9 + 5, none⟩ = some (.slice a5 n5 m5) ∧ V.cell? ⟨b, o + k * 9 + 6, none⟩ = some (.slice a6 n6 m6) ∧ V.cell? ⟨b, o + k * 9 + 7, none⟩ = some (.slice a7 n7 m7) ∧ V.cell? ⟨b, o + k * 9 + 8, none⟩ = some (.slice a8 n8 m8) ∧ Below w.heap.size w V)) (by kernel_rfl) ?_ (fun hHeld => ?_)
     ·
      (try dsimp only); (first | assumption | exact hs | exact KQ.out.dr _ hs | exact KQ.out.dr _ (by assumption) | exact KQ.out.on _ _ (by assumption) (by assumption) | exact KQ.out.al _ _ (by assumption) | exact KQ.out.ald _ _ (by assumption) | exact KQ.out.al _ _ hs | exact KQ.out.ald _ _ hs)
     refine heldY 0 13 ?_ _ rfl rfl (by kernel_rfl) (by kernel_rfl) (by kernel_rfl) (fun _ _ _ h => h) rfl (by assumption) ?_ ?_
     rotate_left
     ·
      (intro w hSw; (try dsimp only at hSw); go_simp; (try with_reducible rfl))
     try simp only [SL]
     refine heldY 1 14 ?_ _ rfl rfl (by kernel_rfl) (by kernel_rfl) (by kernel_rfl) (fun _ _ _ h => h) rfl (by assumption) ?_ ?_
     rotate_left
     ·
      (intro w hSw; (try dsimp only at hSw); go_simp; (try with_reducible rfl))
     try simp only [SL]
     refine heldY 2 15 ?_ _ rfl rfl (by kernel_rfl) (by kernel_rfl) (by kernel_rfl) (fun _ _ _ h => h) rfl (by assumption) ?_ ?_
     rotate_left
     ·
      (intro w hSw; (try dsimp only at hSw); go_simp; (try with_reducible rfl))
     try simp only [SL]
     refine heldY 3 16 ?_ _ rfl rfl (by kernel_rfl) (by kernel_rfl) (by kernel_rfl) (fun _ _ _ h => h) rfl (by assumption) ?_ ?_
     rotate_left
     ·
      (intro w hSw; (try dsimp only at hSw); go_simp; (try with_reducible rfl))
     try simp only [SL]
     refine wpAnyH_ready (rs := [4]) (by kernel_rfl) (by simp) ?_
     refine AllReadyH.cons rfl (fun K hK => ?_) AllReadyH.nil
     go_simp
     (go_at_call 26; (with_reducible refine (RR _ (BE _ (by assumption))).mono ?_); rintro e w3 ⟨rfl, hb⟩)
     refine hK.out _ _ ?_ (fun hHeld => ?_)
     ·
      (try dsimp only); (first | assumption | exact hs | exact KQ.out.dr _ hs | exact KQ.out.dr _ (by assumption) | exact KQ.out.on _ _ (by assumption) (by assumption) | exact KQ.out.al _ _ (by assumption) | exact KQ.out.ald _ _ (by assumption) | exact KQ.out.al _ _ hs | exact KQ.out.ald _ _ hs)
     clear hK K
     try simp only [Act.put, List.setIfInBounds_toArray, List.set_cons_zero, List.set_cons_succ]
     refine heldY 5 18 ?_ _ rfl rfl (by kernel_rfl) (by kernel_rfl) (by kernel_rfl) (fun _ _ _ h => h) rfl (by assumption) ?_ ?_
     rotate_left
     ·
      (intro w hSw; (try dsimp only at hSw); go_simp; (try with_reducible rfl))
     try simp only [SL]
     refine heldY 6 19 ?_ _ rfl rfl (by kernel_rfl) (by kernel_rfl) (by kernel_rfl) (fun _ _ _ h => h) rfl (by assumption) ?_ ?_
     rotate_left
     ·
      (intro w hSw; (try dsimp only at hSw); go_simp; (try with_reducible rfl))
     try simp only [SL]
     refine heldY 7 20 ?_ _ rfl rfl (by kernel_rfl) (by kernel_rfl) (by kernel_rfl) (fun _ _ _ h => h) rfl (by assumption) ?_ ?_
     rotate_left
     ·
      (intro w hSw; (try dsimp only at hSw); go_simp; (try with_reducible rfl))
     try simp only [SL]
     refine heldY 8 21 ?_ _ rfl rfl (by kernel_rfl) (by kernel_rfl) (by kernel_rfl) (fun _ _ _ h => h) rfl (by assumption) ?_ ?_
     rotate_left
     ·
      (intro w hSw; (try dsimp only at hSw); go_simp; (try with_reducible rfl))
     try simp only [SL]
     refine heldY 9 22 ?_ _ rfl rfl (by kernel_rfl) (by kernel_rfl) (by kernel_rfl) (fun _ _ _ h => h) rfl (by assumption) ?_ ?_
     rotate_left
     ·
      (intro w hSw; (try dsimp only at hSw); go_simp; (try with_reducible rfl))
     try simp only [SL]
     refine heldNo 10 23 rfl (by kernel_rfl) (by kernel_rfl) (by kernel_rfl) (fun _ _ _ h => h) rfl (by assumption) ?_
     try simp only [SL]
     refine heldNo 11 24 rfl (by kernel_rfl) (by kernel_rfl) (by kernel_rfl) (fun _ _ _ h => h) rfl (by assumption) ?_
     try simp only [SL]
     refine heldNo 12 25 rfl (by kernel_rfl) (by kernel_rfl) (by kernel_rfl) (fun _ _ _ h => h) rfl (by assumption) ?_
     try simp only [SL]
     refine heldNo 13 26 rfl (by kernel_rfl) (by kernel_rfl) (by kernel_rfl) (fun _ _ _ h => h) rfl (by assumption) ?_
     try simp only [SL]
     refine heldNo 14 27 rfl (by kernel_rfl) (by kernel_rfl) (by kernel_rfl) (fun _ _ _ h => h) rfl (by assumption) ?_
     try simp only [SL]
     refine heldNo 15 28 rfl (by kernel_rfl) (by kernel_rfl) (by kernel_rfl) (fun _ _ _ h => h) rfl (by assumption) ?_
     try simp only [SL]
     refine heldNo 16 29 rfl (by kernel_rfl) (by kernel_rfl) (by kernel_rfl) (fun _ _ _ h => h) rfl (by assumption) ?_
     try simp only [SL]
     refine heldNo 17 30 rfl (by kernel_rfl) (by kernel_rfl) (by kernel_rfl) (fun _ _ _ h => h) rfl (by assumption) ?_
     try simp only [SL]
     refine heldNo 18 31 rfl (by kernel_rfl) (by kernel_rfl) (by kernel_rfl) (fun _ _ _ h => h) rfl (by assumption) ?_
     try simp only [SL]
     refine heldNo 19 32 rfl (by kernel_rfl) (by kernel_rfl) (by kernel_rfl) (fun _ _ _ h => h) rfl (by assumption) ?_
     try simp only [SL]
     refine heldNo 20 33 rfl (by kernel_rfl) (by kernel_rfl) (by kernel_rfl) (fun _ _ _ h => h) rfl (by assumption) ?_
     try simp only [SL]
     refine heldNo 21 34 rfl (by kernel_rfl) (by kernel_rfl) (by kernel_rfl) (fun _ _ _ h => h) rfl (by assumption) ?_
     try simp only [SL]
     refine heldY 22 35 ?_ _ rfl rfl (by kernel_rfl) (by kernel_rfl) (by kernel_rfl) (fun _ _ _ h => h) rfl (by assumption) ?_ ?_
     rotate_left
     ·
      (intro w hSw; (try dsimp only at hSw); go_simp; (try with_reducible rfl))
     try simp only [SL]
     refine heldY 23 36 ?_ _ rfl rfl (by kernel_rfl) (by kernel_rfl) (by kernel_rfl) (fun _ _ _ h => h) rfl (by assumption) ?_ ?_
     rotate_left
     ·
      (intro w hSw; (try dsimp only at hSw); go_simp; (try with_reducible rfl))
     try simp only [SL]
     refine wpAnyH_done (by kernel_rfl) ?_ _
     have HW3 := Lib.hid (BE _ hHeld)
     clear hHeld
     go_wp2
     go_roundw
     case rel => exact ⟨k + 1, by omega, by go_num, HST2, HW3⟩
     case measure => simp [intOf]; omega
  ·
   obtain rfl : k = n := by omega
   have HF := Lib.hid (HOK.out (fun i x hx => H.out i x (by have := (List.getElem?_eq_some_iff.1 hx).1; rw [HN.out] at this; exact this) hx))
   clear hlt H HBAD HOK HRR HIN HC
   go_wp2
   go_ret
   exact ⟨reti HF.out, HB.out⟩
end Go.Proofs.YtkbkaeefdhkgdaaGreatDoor
