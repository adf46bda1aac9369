/-
  The program's keyed.Check over conffiles: what it returns; nothing old turns.
-/
import Derived.Test.YtpkdnohaefkfgaaGreatDoorGUKeyT
import Derived.Test.YtpkdnohaefkfgaaGreatDoorGUTrig
import Derived.Test.YtpkdnohaefkfgaaGreatDoorGZHold
import Derived.IntWalk
import Derived.Deep.RegionHeld3
import Derived.RangeFuncBox
namespace Go.Proofs.YtpkdnohaefkfgaaGreatDoor
open Go.RowKit
theorem keyF_any (X0 : ByteArray) (X1 : ByteArray) (w : World) : Calls Tryz.prog 45 #[.agg #[.string X0, .string X1]] w fun e w' => e = .returned (.string X0) ∧ Below w.heap.size w w' := by
  obtain ⟨x0, x1⟩ := boxV2U w (.string X0) (.string X1) 45
  have B0 := Lib.hid ((Below.refl w.heap.size w).alloc (Nat.le_refl _) (.cells #[.string X0, .string X1] 45))
  go_enter Tryz.func45, Tryz.ntmps45
  go_wp2
  go_ret
  exact ⟨rfl, B0.out⟩
abbrev keyFF : Value := .func (.func 45) #[] #[]
abbrev agZF (x : (Bs × Bs)) : Value := .agg #[.string (⟨(x.1).toArray⟩ : ByteArray), .string (⟨(x.2).toArray⟩ : ByteArray)]
/-- What is asked of a predicate: at each of l's, in each later world. -/
def PredKF (g : Nat) (lb : Array Value) (l : List (Bs × Bs)) (p : (Bs × Bs) → Bool) (w : World) : Prop :=
  ∀ x ∈ l, ∀ W, Below w.heap.size w W → Calls Tryz.prog g (#[agZF x] ++ lb) W fun e w' => e = .returned (.bool (p x)) ∧ Below W.heap.size W w'
set_option maxRecDepth 100000 in
set_option maxHeartbeats 8000000 in
theorem kcheckF_any (g : Nat) (lb : Array Value) (eg : ∀ args w, (callFunc g args).run Tryz.prog w = .ok (.enter g args) w) (rt : (Bs × Bs) → Bool) (v : Value) (l : List (Bs × Bs)) (hl : l.length ≤ 90000) (w : World) (h : HoldW2 w v l) (hra : PredKF g lb l rt w) :
    Calls Tryz.prog 44 #[v, keyFF, .func (.func g) #[] lb] w fun e w' => e = .returned (.int .i64 (kchkK rt (fun x => x.1) l)) ∧ Below w.heap.size w w' := by
  obtain ⟨a, c, b, o, rfl, hc, ha, hcell⟩ := h.parts
  have HC := Lib.hid hcell
  have HRA := Lib.hid hra
  unfold keyFF
  obtain ⟨Z, HZ⟩ : ∃ Z, Hid (kchkK rt (fun x => x.1) l = Z) := ⟨_, rfl⟩
  rw [HZ.out]
  obtain ⟨n, hN⟩ : ∃ n, l.length = n := ⟨_, rfl⟩
  rw [hN] at hc ha hl ⊢
  have HN := Lib.hid hN
  clear hcell hN h hra
  by_cases h64 : 64 < n
  · have HF : Hid ((22 : Int) = Z) := Lib.hid (by rw [← HZ.out, kchkK_long (by rw [HN.out]; exact h64)])
    go_enter Tryz.func44, Tryz.ntmps44
    go_wp2
    go_ret
    exact ⟨reti HF.out, Below.refl _ _⟩
  have HBAD : Hid (∀ (i : Nat) x, l[i]? = some x → ¬ stepK rt (fun x => x.1) l i x → (1 : Int) = Z) := Lib.hid (fun i x hx g => by rw [← HZ.out, kchkK_no (by rw [HN.out]; exact h64) (fun q => g (q i x hx))])
  have HOK : Hid (StepsK rt (fun x => x.1) l → (0 : Int) = Z) := Lib.hid (fun g => by rw [← HZ.out, kchkK_ok (by rw [HN.out]; exact h64) g])
  clear HZ
  go_enter Tryz.func44, Tryz.ntmps44
  go_wp2
  go_loopw [14] (fun i wr => ∃ k : Nat, k ≤ n ∧ i = .int .i64 k ∧ Hid (∀ (j : Nat) x, j < k → l[j]? = some x → stepK rt (fun x => x.1) l j x) ∧ Hid (Below w.heap.size w wr)) (fun i _ => n - (intOf i).toNat)
  case atStart => exact ⟨0, by omega, rfl, Lib.hid (fun j y hj => by omega), Lib.hid (Below.refl _ _)⟩
  case round =>
    obtain ⟨k, hk, rfl, H, HB⟩ := hrel
    by_cases hlt : k < n
    · obtain ⟨rfl, hbw⟩ := ha (by omega)
      obtain ⟨x, hx⟩ : ∃ x, l[k]? = some x := ⟨_, List.getElem?_eq_getElem (by rw [HN.out]; exact hlt)⟩
      obtain ⟨c0, c1⟩ := HC.out k x hx
      rw [← HB.out.cell (p := ⟨b, o + k * 2, none⟩) hbw] at c0
      rw [← HB.out.cell (p := ⟨b, o + k * 2 + 1, none⟩) hbw] at c1
      have RA := HRA.out x (List.mem_of_getElem? hx)
      have HX := Lib.hid hx
      have hsz := HB.out.size
      have B0 := HB.out.alloc hsz (.cells #[.string (⟨(x.1).toArray⟩ : ByteArray), .string (⟨(x.2).toArray⟩ : ByteArray)] 45)
      obtain ⟨x0, x1⟩ := boxV2U wr (.string (⟨(x.1).toArray⟩ : ByteArray)) (.string (⟨(x.2).toArray⟩ : ByteArray)) 45
      have hs := (And.intro x0 (And.intro x1 B0))
      unfold agZF at RA
      clear x0 x1 B0
      clear hx
      cases hq : rt x
      · have HF := Lib.hid (HBAD.out k x HX.out (fun g => by rw [g.1] at hq; cases hq))
        simp only [hq] at RA
        clear hq H HBAD HOK HC HX HRA
        generalize (⟨(x.1).toArray⟩ : ByteArray) = X0 at *
        generalize (⟨(x.2).toArray⟩ : ByteArray) = X1 at *
        go_wp2
        generalize wr.alloc (.cells #[.string X0, .string X1] 45) = W2 at *
        generalize hb0 : wr.heap.size = b0 at *
        obtain ⟨x0, x1, hB⟩ := hs
        have hs := (And.intro x0 (And.intro x1 hB))
        clear hb0
        have BE := fun (V : World) (h : V.cell? ⟨b0, 0, none⟩ = some (.string X0) ∧ V.cell? ⟨b0, 1, none⟩ = some (.string X1) ∧ Below w.heap.size w V) => AtF.be (w := w) (l := [(⟨b0, 0, none⟩, .string X0), (⟨b0, 1, none⟩, .string X1)]) h
        refine wp_region_held_drew (S := (fun V => V.cell? ⟨b0, 0, none⟩ = some (.string X0) ∧ V.cell? ⟨b0, 1, none⟩ = some (.string X1) ∧ Below w.heap.size w V)) (by kernel_rfl) ?_ (fun hHeld => ?_)
        · (try dsimp only); (first | assumption | exact hs | exact AtF.dr (w := w) (l := [(⟨b0, 0, none⟩, .string X0), (⟨b0, 1, none⟩, .string X1)]) hs | exact AtF.dr (w := w) (l := [(⟨b0, 0, none⟩, .string X0), (⟨b0, 1, none⟩, .string X1)]) (by assumption) | exact AtF.on (w := w) (l := [(⟨b0, 0, none⟩, .string X0), (⟨b0, 1, none⟩, .string X1)]) (by assumption) (by assumption) | exact AtF.al (w := w) (l := [(⟨b0, 0, none⟩, .string X0), (⟨b0, 1, none⟩, .string X1)]) (by assumption) _ | exact AtF.ald (w := w) (l := [(⟨b0, 0, none⟩, .string X0), (⟨b0, 1, none⟩, .string X1)]) (by assumption) _ | exact AtF.al (w := w) (l := [(⟨b0, 0, none⟩, .string X0), (⟨b0, 1, none⟩, .string X1)]) hs _ | exact AtF.ald (w := w) (l := [(⟨b0, 0, none⟩, .string X0), (⟨b0, 1, none⟩, .string X1)]) hs _)
        refine heldY 0 19 ?_ _ rfl rfl (by kernel_rfl) (by kernel_rfl) (by kernel_rfl) (fun _ _ _ h => h) rfl (by assumption) ?_ ?_
        rotate_left
        · (intro w hSw; (try dsimp only at hSw); go_simp; (try with_reducible rfl))
        try simp only [List.setIfInBounds_toArray, List.set_cons_zero, List.set_cons_succ]
        refine heldY 1 20 ?_ _ rfl rfl (by kernel_rfl) (by kernel_rfl) (by kernel_rfl) (fun _ _ _ h => h) rfl (by assumption) ?_ ?_
        rotate_left
        · (intro w hSw; (try dsimp only at hSw); go_simp; (try with_reducible rfl))
        try simp only [List.setIfInBounds_toArray, List.set_cons_zero, List.set_cons_succ]
        refine wpAnyH_ready (rs := [2]) (by kernel_rfl) (by simp) ?_
        refine AllReadyH.cons rfl (fun K hK => ?_) AllReadyH.nil
        go_simp
        (go_at_fn g; refine (RA _ (BE _ (by assumption))).mono ?_; rintro e w3 ⟨rfl, hb⟩)
        refine hK.out _ _ ?_ (fun hHeld => ?_)
        · (try dsimp only); (first | assumption | exact hs | exact AtF.dr (w := w) (l := [(⟨b0, 0, none⟩, .string X0), (⟨b0, 1, none⟩, .string X1)]) hs | exact AtF.dr (w := w) (l := [(⟨b0, 0, none⟩, .string X0), (⟨b0, 1, none⟩, .string X1)]) (by assumption) | exact AtF.on (w := w) (l := [(⟨b0, 0, none⟩, .string X0), (⟨b0, 1, none⟩, .string X1)]) (by assumption) (by assumption) | exact AtF.al (w := w) (l := [(⟨b0, 0, none⟩, .string X0), (⟨b0, 1, none⟩, .string X1)]) (by assumption) _ | exact AtF.ald (w := w) (l := [(⟨b0, 0, none⟩, .string X0), (⟨b0, 1, none⟩, .string X1)]) (by assumption) _ | exact AtF.al (w := w) (l := [(⟨b0, 0, none⟩, .string X0), (⟨b0, 1, none⟩, .string X1)]) hs _ | exact AtF.ald (w := w) (l := [(⟨b0, 0, none⟩, .string X0), (⟨b0, 1, none⟩, .string X1)]) hs _)
        clear hK K
        try simp only [Act.put, List.setIfInBounds_toArray, List.set_cons_zero, List.set_cons_succ]
        refine heldY 3 22 ?_ _ rfl rfl (by kernel_rfl) (by kernel_rfl) (by kernel_rfl) (fun _ _ _ h => h) rfl (by assumption) ?_ ?_
        rotate_left
        · (intro w hSw; (try dsimp only at hSw); go_simp; (try with_reducible rfl))
        try simp only [List.setIfInBounds_toArray, List.set_cons_zero, List.set_cons_succ]
        refine heldY 4 23 ?_ _ rfl rfl (by kernel_rfl) (by kernel_rfl) (by kernel_rfl) (fun _ _ _ h => h) rfl (by assumption) ?_ ?_
        rotate_left
        · (intro w hSw; (try dsimp only at hSw); go_simp; (try with_reducible rfl))
        try simp only [List.setIfInBounds_toArray, List.set_cons_zero, List.set_cons_succ]
        refine heldNo 5 24 rfl (by kernel_rfl) (by kernel_rfl) (by kernel_rfl) (fun _ _ _ h => h) rfl (by assumption) ?_
        try simp only [List.setIfInBounds_toArray, List.set_cons_zero, List.set_cons_succ]
        refine heldNo 6 25 rfl (by kernel_rfl) (by kernel_rfl) (by kernel_rfl) (fun _ _ _ h => h) rfl (by assumption) ?_
        try simp only [List.setIfInBounds_toArray, List.set_cons_zero, List.set_cons_succ]
        refine heldNo 7 26 rfl (by kernel_rfl) (by kernel_rfl) (by kernel_rfl) (fun _ _ _ h => h) rfl (by assumption) ?_
        try simp only [List.setIfInBounds_toArray, List.set_cons_zero, List.set_cons_succ]
        refine heldNo 8 27 rfl (by kernel_rfl) (by kernel_rfl) (by kernel_rfl) (fun _ _ _ h => h) rfl (by assumption) ?_
        try simp only [List.setIfInBounds_toArray, List.set_cons_zero, List.set_cons_succ]
        refine heldNo 9 28 rfl (by kernel_rfl) (by kernel_rfl) (by kernel_rfl) (fun _ _ _ h => h) rfl (by assumption) ?_
        try simp only [List.setIfInBounds_toArray, List.set_cons_zero, List.set_cons_succ]
        refine heldNo 10 29 rfl (by kernel_rfl) (by kernel_rfl) (by kernel_rfl) (fun _ _ _ h => h) rfl (by assumption) ?_
        try simp only [List.setIfInBounds_toArray, List.set_cons_zero, List.set_cons_succ]
        refine heldNo 11 30 rfl (by kernel_rfl) (by kernel_rfl) (by kernel_rfl) (fun _ _ _ h => h) rfl (by assumption) ?_
        try simp only [List.setIfInBounds_toArray, List.set_cons_zero, List.set_cons_succ]
        refine heldNo 12 31 rfl (by kernel_rfl) (by kernel_rfl) (by kernel_rfl) (fun _ _ _ h => h) rfl (by assumption) ?_
        try simp only [List.setIfInBounds_toArray, List.set_cons_zero, List.set_cons_succ]
        refine heldNo 13 32 rfl (by kernel_rfl) (by kernel_rfl) (by kernel_rfl) (fun _ _ _ h => h) rfl (by assumption) ?_
        try simp only [List.setIfInBounds_toArray, List.set_cons_zero, List.set_cons_succ]
        refine heldNo 14 33 rfl (by kernel_rfl) (by kernel_rfl) (by kernel_rfl) (fun _ _ _ h => h) rfl (by assumption) ?_
        try simp only [List.setIfInBounds_toArray, List.set_cons_zero, List.set_cons_succ]
        refine heldNo 15 34 rfl (by kernel_rfl) (by kernel_rfl) (by kernel_rfl) (fun _ _ _ h => h) rfl (by assumption) ?_
        try simp only [List.setIfInBounds_toArray, List.set_cons_zero, List.set_cons_succ]
        refine heldNo 16 35 rfl (by kernel_rfl) (by kernel_rfl) (by kernel_rfl) (fun _ _ _ h => h) rfl (by assumption) ?_
        try simp only [List.setIfInBounds_toArray, List.set_cons_zero, List.set_cons_succ]
        refine heldNo 17 36 rfl (by kernel_rfl) (by kernel_rfl) (by kernel_rfl) (fun _ _ _ h => h) rfl (by assumption) ?_
        try simp only [List.setIfInBounds_toArray, List.set_cons_zero, List.set_cons_succ]
        refine heldNo 18 37 rfl (by kernel_rfl) (by kernel_rfl) (by kernel_rfl) (fun _ _ _ h => h) rfl (by assumption) ?_
        try simp only [List.setIfInBounds_toArray, List.set_cons_zero, List.set_cons_succ]
        refine heldNo 19 38 rfl (by kernel_rfl) (by kernel_rfl) (by kernel_rfl) (fun _ _ _ h => h) rfl (by assumption) ?_
        try simp only [List.setIfInBounds_toArray, List.set_cons_zero, List.set_cons_succ]
        refine heldY 20 39 ?_ _ rfl rfl (by kernel_rfl) (by kernel_rfl) (by kernel_rfl) (fun _ _ _ h => h) rfl (by assumption) ?_ ?_
        rotate_left
        · (intro w hSw; (try dsimp only at hSw); go_simp; (try with_reducible rfl))
        try simp only [List.setIfInBounds_toArray, List.set_cons_zero, List.set_cons_succ]
        refine wpAnyH_done (by kernel_rfl) ?_ _
        have HW3 := Lib.hid (BE _ hHeld)
        clear hHeld
        go_wp2
        go_ret
        exact ⟨reti HF.out, HW3.out⟩
      · simp only [hq] at RA
        by_cases hk0 : 0 < k
        · obtain ⟨y, hy⟩ : ∃ y, l[k - 1]? = some y := ⟨_, List.getElem?_eq_getElem (by rw [HN.out]; omega)⟩
          obtain ⟨e0, e1⟩ := HC.out (k - 1) y hy
          rw [← HB.out.cell (p := ⟨b, o + (k - 1) * 2, none⟩) hbw] at e0
          rw [← HB.out.cell (p := ⟨b, o + (k - 1) * 2 + 1, none⟩) hbw] at e1
          have hbwr : b < wr.heap.size := Nat.lt_of_lt_of_le hbw hsz
          have hB1 := (Below.refl wr.heap.size wr).alloc (Nat.le_refl _) (.cells #[.string (⟨(x.1).toArray⟩ : ByteArray), .string (⟨(x.2).toArray⟩ : ByteArray)] 45)
          have e0 := (hB1.cell (p := ⟨b, o + (k - 1) * 2, none⟩) hbwr).trans e0
          have e1 := (hB1.cell (p := ⟨b, o + (k - 1) * 2 + 1, none⟩) hbwr).trans e1
          have hls := lessT (⟨(y.1).toArray⟩ : ByteArray) (⟨(x.1).toArray⟩ : ByteArray)
          rw [bytesOf, bytesOf] at hls
          have HBADk : Hid (decide (y.1 < x.1) = false → (1 : Int) = Z) := Lib.hid (fun g => HBAD.out k x HX.out (fun q => by have := q.2 y hk0 hy; simp only at this; rw [decide_eq_true this] at g; cases g))
          have HNEXT : Hid (decide (y.1 < x.1) = true → ∀ (j : Nat) u, j < k + 1 → l[j]? = some u → stepK rt (fun x => x.1) l j u) := Lib.hid (fun g j u hj hu => by
            by_cases ej : j = k
            · subst ej
              rw [HX.out] at hu; cases hu
              exact ⟨hq, fun u h1 h2 => by rw [hy] at h2; cases h2; exact of_decide_eq_true g⟩
            · exact H.out j u (by omega) hu)
          generalize decide (y.1 < x.1) = q at *
          have hd : decide ((0 : Int) < (k : Int)) = true := decide_eq_true (by omega)
          have hk1 : (1 : Int) ≤ (k : Int) := by omega
          clear hq H HBAD HC HX hy hB1 HRA
          generalize (⟨(x.1).toArray⟩ : ByteArray) = X0 at *
          generalize (⟨(x.2).toArray⟩ : ByteArray) = X1 at *
          generalize (⟨(y.1).toArray⟩ : ByteArray) = X0' at *
          generalize (⟨(y.2).toArray⟩ : ByteArray) = X1' at *
          go_wp2
          generalize wr.alloc (.cells #[.string X0, .string X1] 45) = W2 at *
          generalize hb0 : wr.heap.size = b0 at *
          obtain ⟨x0, x1, hB⟩ := hs
          have hs := (And.intro x0 (And.intro x1 (And.intro e0 (And.intro e1 hB))))
          clear hb0
          have i0 : (0 : Int) ≤ (k : Int) - 1 := by omega
          have i1 : (k : Int) - 1 < (n : Int) := by omega
          have i2 : ((k : Int) - 1).toNat = k - 1 := by omega
          have i3 : IntKind.i64.wrap ((k : Int) - 1) = (k : Int) - 1 := IntWalk.i64_in _ (by omega)
          have KX := fun W => keyF_any X0 X1 W
          have KY := fun W => keyF_any X0' X1' W
          have BE := fun (V : World) (h : V.cell? ⟨b0, 0, none⟩ = some (.string X0) ∧ V.cell? ⟨b0, 1, none⟩ = some (.string X1) ∧ V.cell? ⟨b, o + (k - 1) * 2, none⟩ = some (.string X0') ∧ V.cell? ⟨b, o + (k - 1) * 2 + 1, none⟩ = some (.string X1') ∧ Below w.heap.size w V) => AtF.be (w := w) (l := [(⟨b0, 0, none⟩, .string X0), (⟨b0, 1, none⟩, .string X1), (⟨b, o + (k - 1) * 2, none⟩, .string X0'), (⟨b, o + (k - 1) * 2 + 1, none⟩, .string X1')]) h
          refine wp_region_held_drew (S := (fun V => V.cell? ⟨b0, 0, none⟩ = some (.string X0) ∧ V.cell? ⟨b0, 1, none⟩ = some (.string X1) ∧ V.cell? ⟨b, o + (k - 1) * 2, none⟩ = some (.string X0') ∧ V.cell? ⟨b, o + (k - 1) * 2 + 1, none⟩ = some (.string X1') ∧ Below w.heap.size w V)) (by kernel_rfl) ?_ (fun hHeld => ?_)
          · (try dsimp only); (first | assumption | exact hs | exact AtF.dr (w := w) (l := [(⟨b0, 0, none⟩, .string X0), (⟨b0, 1, none⟩, .string X1), (⟨b, o + (k - 1) * 2, none⟩, .string X0'), (⟨b, o + (k - 1) * 2 + 1, none⟩, .string X1')]) hs | exact AtF.dr (w := w) (l := [(⟨b0, 0, none⟩, .string X0), (⟨b0, 1, none⟩, .string X1), (⟨b, o + (k - 1) * 2, none⟩, .string X0'), (⟨b, o + (k - 1) * 2 + 1, none⟩, .string X1')]) (by assumption) | exact AtF.on (w := w) (l := [(⟨b0, 0, none⟩, .string X0), (⟨b0, 1, none⟩, .string X1), (⟨b, o + (k - 1) * 2, none⟩, .string X0'), (⟨b, o + (k - 1) * 2 + 1, none⟩, .string X1')]) (by assumption) (by assumption) | exact AtF.al (w := w) (l := [(⟨b0, 0, none⟩, .string X0), (⟨b0, 1, none⟩, .string X1), (⟨b, o + (k - 1) * 2, none⟩, .string X0'), (⟨b, o + (k - 1) * 2 + 1, none⟩, .string X1')]) (by assumption) _ | exact AtF.ald (w := w) (l := [(⟨b0, 0, none⟩, .string X0), (⟨b0, 1, none⟩, .string X1), (⟨b, o + (k - 1) * 2, none⟩, .string X0'), (⟨b, o + (k - 1) * 2 + 1, none⟩, .string X1')]) (by assumption) _ | exact AtF.al (w := w) (l := [(⟨b0, 0, none⟩, .string X0), (⟨b0, 1, none⟩, .string X1), (⟨b, o + (k - 1) * 2, none⟩, .string X0'), (⟨b, o + (k - 1) * 2 + 1, none⟩, .string X1')]) hs _ | exact AtF.ald (w := w) (l := [(⟨b0, 0, none⟩, .string X0), (⟨b0, 1, none⟩, .string X1), (⟨b, o + (k - 1) * 2, none⟩, .string X0'), (⟨b, o + (k - 1) * 2 + 1, none⟩, .string X1')]) hs _)
          refine heldY 0 19 ?_ _ rfl rfl (by kernel_rfl) (by kernel_rfl) (by kernel_rfl) (fun _ _ _ h => h) rfl (by assumption) ?_ ?_
          rotate_left
          · (intro w hSw; (try dsimp only at hSw); go_simp; (try with_reducible rfl))
          try simp only [List.setIfInBounds_toArray, List.set_cons_zero, List.set_cons_succ]
          refine heldY 1 20 ?_ _ rfl rfl (by kernel_rfl) (by kernel_rfl) (by kernel_rfl) (fun _ _ _ h => h) rfl (by assumption) ?_ ?_
          rotate_left
          · (intro w hSw; (try dsimp only at hSw); go_simp; (try with_reducible rfl))
          try simp only [List.setIfInBounds_toArray, List.set_cons_zero, List.set_cons_succ]
          refine wpAnyH_ready (rs := [2]) (by kernel_rfl) (by simp) ?_
          refine AllReadyH.cons rfl (fun K hK => ?_) AllReadyH.nil
          go_simp
          first | (go_at_fn g; refine (RA _ (BE _ (by assumption))).mono ?_; rintro e w3 ⟨rfl, hb⟩) | (go_at_call 45; first | ((with_reducible refine (KX _).mono ?_); rintro e w3 ⟨rfl, hb⟩) | ((with_reducible refine (KY _).mono ?_); rintro e w3 ⟨rfl, hb⟩))
          refine hK.out _ _ ?_ (fun hHeld => ?_)
          · (try dsimp only); (first | assumption | exact hs | exact AtF.dr (w := w) (l := [(⟨b0, 0, none⟩, .string X0), (⟨b0, 1, none⟩, .string X1), (⟨b, o + (k - 1) * 2, none⟩, .string X0'), (⟨b, o + (k - 1) * 2 + 1, none⟩, .string X1')]) hs | exact AtF.dr (w := w) (l := [(⟨b0, 0, none⟩, .string X0), (⟨b0, 1, none⟩, .string X1), (⟨b, o + (k - 1) * 2, none⟩, .string X0'), (⟨b, o + (k - 1) * 2 + 1, none⟩, .string X1')]) (by assumption) | exact AtF.on (w := w) (l := [(⟨b0, 0, none⟩, .string X0), (⟨b0, 1, none⟩, .string X1), (⟨b, o + (k - 1) * 2, none⟩, .string X0'), (⟨b, o + (k - 1) * 2 + 1, none⟩, .string X1')]) (by assumption) (by assumption) | exact AtF.al (w := w) (l := [(⟨b0, 0, none⟩, .string X0), (⟨b0, 1, none⟩, .string X1), (⟨b, o + (k - 1) * 2, none⟩, .string X0'), (⟨b, o + (k - 1) * 2 + 1, none⟩, .string X1')]) (by assumption) _ | exact AtF.ald (w := w) (l := [(⟨b0, 0, none⟩, .string X0), (⟨b0, 1, none⟩, .string X1), (⟨b, o + (k - 1) * 2, none⟩, .string X0'), (⟨b, o + (k - 1) * 2 + 1, none⟩, .string X1')]) (by assumption) _ | exact AtF.al (w := w) (l := [(⟨b0, 0, none⟩, .string X0), (⟨b0, 1, none⟩, .string X1), (⟨b, o + (k - 1) * 2, none⟩, .string X0'), (⟨b, o + (k - 1) * 2 + 1, none⟩, .string X1')]) hs _ | exact AtF.ald (w := w) (l := [(⟨b0, 0, none⟩, .string X0), (⟨b0, 1, none⟩, .string X1), (⟨b, o + (k - 1) * 2, none⟩, .string X0'), (⟨b, o + (k - 1) * 2 + 1, none⟩, .string X1')]) hs _)
          clear hK K
          try simp only [Act.put, List.setIfInBounds_toArray, List.set_cons_zero, List.set_cons_succ]
          refine heldY 3 22 ?_ _ rfl rfl (by kernel_rfl) (by kernel_rfl) (by kernel_rfl) (fun _ _ _ h => h) rfl (by assumption) ?_ ?_
          rotate_left
          · (intro w hSw; (try dsimp only at hSw); go_simp; (try with_reducible rfl))
          try simp only [List.setIfInBounds_toArray, List.set_cons_zero, List.set_cons_succ]
          refine heldY 4 23 ?_ _ rfl rfl (by kernel_rfl) (by kernel_rfl) (by kernel_rfl) (fun _ _ _ h => h) rfl (by assumption) ?_ ?_
          rotate_left
          · (intro w hSw; (try dsimp only at hSw); go_simp; (try with_reducible rfl))
          try simp only [List.setIfInBounds_toArray, List.set_cons_zero, List.set_cons_succ]
          refine heldY 5 24 ?_ _ rfl rfl (by kernel_rfl) (by kernel_rfl) (by kernel_rfl) (fun _ _ _ h => h) rfl (by assumption) ?_ ?_
          rotate_left
          · (intro w hSw; (try dsimp only at hSw); go_simp; (try with_reducible rfl))
          try simp only [List.setIfInBounds_toArray, List.set_cons_zero, List.set_cons_succ]
          refine heldY 6 25 ?_ _ rfl rfl (by kernel_rfl) (by kernel_rfl) (by kernel_rfl) (fun _ _ _ h => h) rfl (by assumption) ?_ ?_
          rotate_left
          · (intro w hSw; (try dsimp only at hSw); go_simp; (try with_reducible rfl))
          try simp only [List.setIfInBounds_toArray, List.set_cons_zero, List.set_cons_succ]
          refine heldY 7 26 ?_ _ rfl rfl (by kernel_rfl) (by kernel_rfl) (by kernel_rfl) (fun _ _ _ h => h) rfl (by assumption) ?_ ?_
          rotate_left
          · (intro w hSw; (try dsimp only at hSw); go_simp; (try with_reducible rfl))
          try simp only [List.setIfInBounds_toArray, List.set_cons_zero, List.set_cons_succ]
          refine heldY 8 27 ?_ _ rfl rfl (by kernel_rfl) (by kernel_rfl) (by kernel_rfl) (fun _ _ _ h => h) rfl (by assumption) ?_ ?_
          rotate_left
          · (intro w hSw; (try dsimp only at hSw); go_simp; (try with_reducible rfl))
          try simp only [List.setIfInBounds_toArray, List.set_cons_zero, List.set_cons_succ]
          refine heldY 9 28 ?_ _ rfl rfl (by kernel_rfl) (by kernel_rfl) (by kernel_rfl) (fun _ _ _ h => h) rfl (by assumption) ?_ ?_
          rotate_left
          · (intro w hSw; (try dsimp only at hSw); go_simp; (try with_reducible rfl))
          try simp only [List.setIfInBounds_toArray, List.set_cons_zero, List.set_cons_succ]
          refine heldY 10 29 ?_ _ rfl rfl (by kernel_rfl) (by kernel_rfl) (by kernel_rfl) (fun _ _ _ h => h) rfl (by assumption) ?_ ?_
          rotate_left
          · (intro w hSw; (try dsimp only at hSw); go_simp; (try with_reducible rfl))
          try simp only [List.setIfInBounds_toArray, List.set_cons_zero, List.set_cons_succ]
          refine heldY 11 30 ?_ _ rfl rfl (by kernel_rfl) (by kernel_rfl) (by kernel_rfl) (fun _ _ _ h => h) rfl (by assumption) ?_ ?_
          rotate_left
          · (intro w hSw; (try dsimp only at hSw); go_simp; (try with_reducible rfl))
          try simp only [List.setIfInBounds_toArray, List.set_cons_zero, List.set_cons_succ]
          refine heldY 12 31 ?_ _ rfl rfl (by kernel_rfl) (by kernel_rfl) (by kernel_rfl) (fun _ _ _ h => h) rfl (by assumption) ?_ ?_
          rotate_left
          · (intro w hSw; (try dsimp only at hSw); go_simp; (try with_reducible rfl))
          try simp only [List.setIfInBounds_toArray, List.set_cons_zero, List.set_cons_succ]
          refine heldY 13 32 ?_ _ rfl rfl (by kernel_rfl) (by kernel_rfl) (by kernel_rfl) (fun _ _ _ h => h) rfl (by assumption) ?_ ?_
          rotate_left
          · (intro w hSw; (try dsimp only at hSw); go_simp; (try with_reducible rfl))
          try simp only [List.setIfInBounds_toArray, List.set_cons_zero, List.set_cons_succ]
          refine heldY 15 34 ?_ _ rfl rfl (by kernel_rfl) (by kernel_rfl) (by kernel_rfl) (fun _ _ _ h => h) rfl (by assumption) ?_ ?_
          rotate_left
          · (intro w hSw; (try dsimp only at hSw); go_simp; (try with_reducible rfl))
          try simp only [List.setIfInBounds_toArray, List.set_cons_zero, List.set_cons_succ]
          refine heldY 16 35 ?_ _ rfl rfl (by kernel_rfl) (by kernel_rfl) (by kernel_rfl) (fun _ _ _ h => h) rfl (by assumption) ?_ ?_
          rotate_left
          · (intro w hSw; (try dsimp only at hSw); go_simp; (try with_reducible rfl))
          try simp only [List.setIfInBounds_toArray, List.set_cons_zero, List.set_cons_succ]
          refine wpAnyH_ready (rs := [14]) (by kernel_rfl) (by simp) ?_
          refine AllReadyH.cons rfl (fun K hK => ?_) AllReadyH.nil
          go_simp
          first | (go_at_fn g; refine (RA _ (BE _ (by assumption))).mono ?_; rintro e w3 ⟨rfl, hb⟩) | (go_at_call 45; first | ((with_reducible refine (KX _).mono ?_); rintro e w3 ⟨rfl, hb⟩) | ((with_reducible refine (KY _).mono ?_); rintro e w3 ⟨rfl, hb⟩))
          refine hK.out _ _ ?_ (fun hHeld => ?_)
          · (try dsimp only); (first | assumption | exact hs | exact AtF.dr (w := w) (l := [(⟨b0, 0, none⟩, .string X0), (⟨b0, 1, none⟩, .string X1), (⟨b, o + (k - 1) * 2, none⟩, .string X0'), (⟨b, o + (k - 1) * 2 + 1, none⟩, .string X1')]) hs | exact AtF.dr (w := w) (l := [(⟨b0, 0, none⟩, .string X0), (⟨b0, 1, none⟩, .string X1), (⟨b, o + (k - 1) * 2, none⟩, .string X0'), (⟨b, o + (k - 1) * 2 + 1, none⟩, .string X1')]) (by assumption) | exact AtF.on (w := w) (l := [(⟨b0, 0, none⟩, .string X0), (⟨b0, 1, none⟩, .string X1), (⟨b, o + (k - 1) * 2, none⟩, .string X0'), (⟨b, o + (k - 1) * 2 + 1, none⟩, .string X1')]) (by assumption) (by assumption) | exact AtF.al (w := w) (l := [(⟨b0, 0, none⟩, .string X0), (⟨b0, 1, none⟩, .string X1), (⟨b, o + (k - 1) * 2, none⟩, .string X0'), (⟨b, o + (k - 1) * 2 + 1, none⟩, .string X1')]) (by assumption) _ | exact AtF.ald (w := w) (l := [(⟨b0, 0, none⟩, .string X0), (⟨b0, 1, none⟩, .string X1), (⟨b, o + (k - 1) * 2, none⟩, .string X0'), (⟨b, o + (k - 1) * 2 + 1, none⟩, .string X1')]) (by assumption) _ | exact AtF.al (w := w) (l := [(⟨b0, 0, none⟩, .string X0), (⟨b0, 1, none⟩, .string X1), (⟨b, o + (k - 1) * 2, none⟩, .string X0'), (⟨b, o + (k - 1) * 2 + 1, none⟩, .string X1')]) hs _ | exact AtF.ald (w := w) (l := [(⟨b0, 0, none⟩, .string X0), (⟨b0, 1, none⟩, .string X1), (⟨b, o + (k - 1) * 2, none⟩, .string X0'), (⟨b, o + (k - 1) * 2 + 1, none⟩, .string X1')]) hs _)
          clear hK K
          try simp only [Act.put, List.setIfInBounds_toArray, List.set_cons_zero, List.set_cons_succ]
          refine wpAnyH_ready (rs := [17]) (by kernel_rfl) (by simp) ?_
          refine AllReadyH.cons rfl (fun K hK => ?_) AllReadyH.nil
          go_simp
          first | (go_at_fn g; refine (RA _ (BE _ (by assumption))).mono ?_; rintro e w3 ⟨rfl, hb⟩) | (go_at_call 45; first | ((with_reducible refine (KX _).mono ?_); rintro e w3 ⟨rfl, hb⟩) | ((with_reducible refine (KY _).mono ?_); rintro e w3 ⟨rfl, hb⟩))
          refine hK.out _ _ ?_ (fun hHeld => ?_)
          · (try dsimp only); (first | assumption | exact hs | exact AtF.dr (w := w) (l := [(⟨b0, 0, none⟩, .string X0), (⟨b0, 1, none⟩, .string X1), (⟨b, o + (k - 1) * 2, none⟩, .string X0'), (⟨b, o + (k - 1) * 2 + 1, none⟩, .string X1')]) hs | exact AtF.dr (w := w) (l := [(⟨b0, 0, none⟩, .string X0), (⟨b0, 1, none⟩, .string X1), (⟨b, o + (k - 1) * 2, none⟩, .string X0'), (⟨b, o + (k - 1) * 2 + 1, none⟩, .string X1')]) (by assumption) | exact AtF.on (w := w) (l := [(⟨b0, 0, none⟩, .string X0), (⟨b0, 1, none⟩, .string X1), (⟨b, o + (k - 1) * 2, none⟩, .string X0'), (⟨b, o + (k - 1) * 2 + 1, none⟩, .string X1')]) (by assumption) (by assumption) | exact AtF.al (w := w) (l := [(⟨b0, 0, none⟩, .string X0), (⟨b0, 1, none⟩, .string X1), (⟨b, o + (k - 1) * 2, none⟩, .string X0'), (⟨b, o + (k - 1) * 2 + 1, none⟩, .string X1')]) (by assumption) _ | exact AtF.ald (w := w) (l := [(⟨b0, 0, none⟩, .string X0), (⟨b0, 1, none⟩, .string X1), (⟨b, o + (k - 1) * 2, none⟩, .string X0'), (⟨b, o + (k - 1) * 2 + 1, none⟩, .string X1')]) (by assumption) _ | exact AtF.al (w := w) (l := [(⟨b0, 0, none⟩, .string X0), (⟨b0, 1, none⟩, .string X1), (⟨b, o + (k - 1) * 2, none⟩, .string X0'), (⟨b, o + (k - 1) * 2 + 1, none⟩, .string X1')]) hs _ | exact AtF.ald (w := w) (l := [(⟨b0, 0, none⟩, .string X0), (⟨b0, 1, none⟩, .string X1), (⟨b, o + (k - 1) * 2, none⟩, .string X0'), (⟨b, o + (k - 1) * 2 + 1, none⟩, .string X1')]) hs _)
          clear hK K
          try simp only [Act.put, List.setIfInBounds_toArray, List.set_cons_zero, List.set_cons_succ]
          refine heldY 18 37 ?_ _ rfl rfl (by kernel_rfl) (by kernel_rfl) (by kernel_rfl) (fun _ _ _ h => h) rfl (by assumption) ?_ ?_
          rotate_left
          · (intro w hSw; (try dsimp only at hSw); go_simp; (try with_reducible rfl))
          try simp only [List.setIfInBounds_toArray, List.set_cons_zero, List.set_cons_succ]
          refine heldY 19 38 ?_ _ rfl rfl (by kernel_rfl) (by kernel_rfl) (by kernel_rfl) (fun _ _ _ h => h) rfl (by assumption) ?_ ?_
          rotate_left
          · (intro w hSw; (try dsimp only at hSw); go_simp; (try with_reducible rfl))
          try simp only [List.setIfInBounds_toArray, List.set_cons_zero, List.set_cons_succ]
          refine heldY 20 39 ?_ _ rfl rfl (by kernel_rfl) (by kernel_rfl) (by kernel_rfl) (fun _ _ _ h => h) rfl (by assumption) ?_ ?_
          rotate_left
          · (intro w hSw; (try dsimp only at hSw); go_simp; (try with_reducible rfl))
          try simp only [List.setIfInBounds_toArray, List.set_cons_zero, List.set_cons_succ]
          refine wpAnyH_done (by kernel_rfl) ?_ _
          have HW3 := Lib.hid (BE _ hHeld)
          clear hHeld i2 i3
          cases q
          · have HF := Lib.hid (HBADk.out rfl)
            clear HBADk HNEXT
            go_wp2
            go_ret
            exact ⟨reti HF.out, HW3.out⟩
          · have HK := Lib.hid (HNEXT.out rfl)
            clear HBADk HNEXT
            go_wp2
            go_roundw
            case rel => exact ⟨k + 1, by omega, by go_num, HK, HW3⟩
            case measure => simp [intOf]; omega
        · have HK : Hid (∀ (j : Nat) u, j < k + 1 → l[j]? = some u → stepK rt (fun x => x.1) l j u) := Lib.hid (fun j u hj hu => by
            obtain rfl : j = k := by omega
            rw [HX.out] at hu; cases hu
            exact ⟨hq, fun _ h1 => absurd h1 hk0⟩)
          have hd : decide ((0 : Int) < (k : Int)) = false := decide_eq_false (by omega)
          clear hq H HBAD HOK HC HX HRA
          generalize (⟨(x.1).toArray⟩ : ByteArray) = X0 at *
          generalize (⟨(x.2).toArray⟩ : ByteArray) = X1 at *
          go_wp2
          generalize wr.alloc (.cells #[.string X0, .string X1] 45) = W2 at *
          generalize hb0 : wr.heap.size = b0 at *
          obtain ⟨x0, x1, hB⟩ := hs
          have hs := (And.intro x0 (And.intro x1 hB))
          clear hb0
          have BE := fun (V : World) (h : V.cell? ⟨b0, 0, none⟩ = some (.string X0) ∧ V.cell? ⟨b0, 1, none⟩ = some (.string X1) ∧ Below w.heap.size w V) => AtF.be (w := w) (l := [(⟨b0, 0, none⟩, .string X0), (⟨b0, 1, none⟩, .string X1)]) h
          refine wp_region_held_drew (S := (fun V => V.cell? ⟨b0, 0, none⟩ = some (.string X0) ∧ V.cell? ⟨b0, 1, none⟩ = some (.string X1) ∧ Below w.heap.size w V)) (by kernel_rfl) ?_ (fun hHeld => ?_)
          · (try dsimp only); (first | assumption | exact hs | exact AtF.dr (w := w) (l := [(⟨b0, 0, none⟩, .string X0), (⟨b0, 1, none⟩, .string X1)]) hs | exact AtF.dr (w := w) (l := [(⟨b0, 0, none⟩, .string X0), (⟨b0, 1, none⟩, .string X1)]) (by assumption) | exact AtF.on (w := w) (l := [(⟨b0, 0, none⟩, .string X0), (⟨b0, 1, none⟩, .string X1)]) (by assumption) (by assumption) | exact AtF.al (w := w) (l := [(⟨b0, 0, none⟩, .string X0), (⟨b0, 1, none⟩, .string X1)]) (by assumption) _ | exact AtF.ald (w := w) (l := [(⟨b0, 0, none⟩, .string X0), (⟨b0, 1, none⟩, .string X1)]) (by assumption) _ | exact AtF.al (w := w) (l := [(⟨b0, 0, none⟩, .string X0), (⟨b0, 1, none⟩, .string X1)]) hs _ | exact AtF.ald (w := w) (l := [(⟨b0, 0, none⟩, .string X0), (⟨b0, 1, none⟩, .string X1)]) hs _)
          refine heldY 0 19 ?_ _ rfl rfl (by kernel_rfl) (by kernel_rfl) (by kernel_rfl) (fun _ _ _ h => h) rfl (by assumption) ?_ ?_
          rotate_left
          · (intro w hSw; (try dsimp only at hSw); go_simp; (try with_reducible rfl))
          try simp only [List.setIfInBounds_toArray, List.set_cons_zero, List.set_cons_succ]
          refine heldY 1 20 ?_ _ rfl rfl (by kernel_rfl) (by kernel_rfl) (by kernel_rfl) (fun _ _ _ h => h) rfl (by assumption) ?_ ?_
          rotate_left
          · (intro w hSw; (try dsimp only at hSw); go_simp; (try with_reducible rfl))
          try simp only [List.setIfInBounds_toArray, List.set_cons_zero, List.set_cons_succ]
          refine wpAnyH_ready (rs := [2]) (by kernel_rfl) (by simp) ?_
          refine AllReadyH.cons rfl (fun K hK => ?_) AllReadyH.nil
          go_simp
          (go_at_fn g; refine (RA _ (BE _ (by assumption))).mono ?_; rintro e w3 ⟨rfl, hb⟩)
          refine hK.out _ _ ?_ (fun hHeld => ?_)
          · (try dsimp only); (first | assumption | exact hs | exact AtF.dr (w := w) (l := [(⟨b0, 0, none⟩, .string X0), (⟨b0, 1, none⟩, .string X1)]) hs | exact AtF.dr (w := w) (l := [(⟨b0, 0, none⟩, .string X0), (⟨b0, 1, none⟩, .string X1)]) (by assumption) | exact AtF.on (w := w) (l := [(⟨b0, 0, none⟩, .string X0), (⟨b0, 1, none⟩, .string X1)]) (by assumption) (by assumption) | exact AtF.al (w := w) (l := [(⟨b0, 0, none⟩, .string X0), (⟨b0, 1, none⟩, .string X1)]) (by assumption) _ | exact AtF.ald (w := w) (l := [(⟨b0, 0, none⟩, .string X0), (⟨b0, 1, none⟩, .string X1)]) (by assumption) _ | exact AtF.al (w := w) (l := [(⟨b0, 0, none⟩, .string X0), (⟨b0, 1, none⟩, .string X1)]) hs _ | exact AtF.ald (w := w) (l := [(⟨b0, 0, none⟩, .string X0), (⟨b0, 1, none⟩, .string X1)]) hs _)
          clear hK K
          try simp only [Act.put, List.setIfInBounds_toArray, List.set_cons_zero, List.set_cons_succ]
          refine heldY 3 22 ?_ _ rfl rfl (by kernel_rfl) (by kernel_rfl) (by kernel_rfl) (fun _ _ _ h => h) rfl (by assumption) ?_ ?_
          rotate_left
          · (intro w hSw; (try dsimp only at hSw); go_simp; (try with_reducible rfl))
          try simp only [List.setIfInBounds_toArray, List.set_cons_zero, List.set_cons_succ]
          refine heldY 4 23 ?_ _ rfl rfl (by kernel_rfl) (by kernel_rfl) (by kernel_rfl) (fun _ _ _ h => h) rfl (by assumption) ?_ ?_
          rotate_left
          · (intro w hSw; (try dsimp only at hSw); go_simp; (try with_reducible rfl))
          try simp only [List.setIfInBounds_toArray, List.set_cons_zero, List.set_cons_succ]
          refine heldY 5 24 ?_ _ rfl rfl (by kernel_rfl) (by kernel_rfl) (by kernel_rfl) (fun _ _ _ h => h) rfl (by assumption) ?_ ?_
          rotate_left
          · (intro w hSw; (try dsimp only at hSw); go_simp; (try with_reducible rfl))
          try simp only [List.setIfInBounds_toArray, List.set_cons_zero, List.set_cons_succ]
          refine heldY 6 25 ?_ _ rfl rfl (by kernel_rfl) (by kernel_rfl) (by kernel_rfl) (fun _ _ _ h => h) rfl (by assumption) ?_ ?_
          rotate_left
          · (intro w hSw; (try dsimp only at hSw); go_simp; (try with_reducible rfl))
          try simp only [List.setIfInBounds_toArray, List.set_cons_zero, List.set_cons_succ]
          refine heldY 7 26 ?_ _ rfl rfl (by kernel_rfl) (by kernel_rfl) (by kernel_rfl) (fun _ _ _ h => h) rfl (by assumption) ?_ ?_
          rotate_left
          · (intro w hSw; (try dsimp only at hSw); go_simp; (try with_reducible rfl))
          try simp only [List.setIfInBounds_toArray, List.set_cons_zero, List.set_cons_succ]
          refine heldNo 8 27 rfl (by kernel_rfl) (by kernel_rfl) (by kernel_rfl) (fun _ _ _ h => h) rfl (by assumption) ?_
          try simp only [List.setIfInBounds_toArray, List.set_cons_zero, List.set_cons_succ]
          refine heldNo 9 28 rfl (by kernel_rfl) (by kernel_rfl) (by kernel_rfl) (fun _ _ _ h => h) rfl (by assumption) ?_
          try simp only [List.setIfInBounds_toArray, List.set_cons_zero, List.set_cons_succ]
          refine heldNo 10 29 rfl (by kernel_rfl) (by kernel_rfl) (by kernel_rfl) (fun _ _ _ h => h) rfl (by assumption) ?_
          try simp only [List.setIfInBounds_toArray, List.set_cons_zero, List.set_cons_succ]
          refine heldNo 11 30 rfl (by kernel_rfl) (by kernel_rfl) (by kernel_rfl) (fun _ _ _ h => h) rfl (by assumption) ?_
          try simp only [List.setIfInBounds_toArray, List.set_cons_zero, List.set_cons_succ]
          refine heldNo 12 31 rfl (by kernel_rfl) (by kernel_rfl) (by kernel_rfl) (fun _ _ _ h => h) rfl (by assumption) ?_
          try simp only [List.setIfInBounds_toArray, List.set_cons_zero, List.set_cons_succ]
          refine heldNo 13 32 rfl (by kernel_rfl) (by kernel_rfl) (by kernel_rfl) (fun _ _ _ h => h) rfl (by assumption) ?_
          try simp only [List.setIfInBounds_toArray, List.set_cons_zero, List.set_cons_succ]
          refine heldNo 14 33 rfl (by kernel_rfl) (by kernel_rfl) (by kernel_rfl) (fun _ _ _ h => h) rfl (by assumption) ?_
          try simp only [List.setIfInBounds_toArray, List.set_cons_zero, List.set_cons_succ]
          refine heldNo 15 34 rfl (by kernel_rfl) (by kernel_rfl) (by kernel_rfl) (fun _ _ _ h => h) rfl (by assumption) ?_
          try simp only [List.setIfInBounds_toArray, List.set_cons_zero, List.set_cons_succ]
          refine heldNo 16 35 rfl (by kernel_rfl) (by kernel_rfl) (by kernel_rfl) (fun _ _ _ h => h) rfl (by assumption) ?_
          try simp only [List.setIfInBounds_toArray, List.set_cons_zero, List.set_cons_succ]
          refine heldNo 17 36 rfl (by kernel_rfl) (by kernel_rfl) (by kernel_rfl) (fun _ _ _ h => h) rfl (by assumption) ?_
          try simp only [List.setIfInBounds_toArray, List.set_cons_zero, List.set_cons_succ]
          refine heldNo 18 37 rfl (by kernel_rfl) (by kernel_rfl) (by kernel_rfl) (fun _ _ _ h => h) rfl (by assumption) ?_
          try simp only [List.setIfInBounds_toArray, List.set_cons_zero, List.set_cons_succ]
          refine heldY 19 38 ?_ _ rfl rfl (by kernel_rfl) (by kernel_rfl) (by kernel_rfl) (fun _ _ _ h => h) rfl (by assumption) ?_ ?_
          rotate_left
          · (intro w hSw; (try dsimp only at hSw); go_simp; (try with_reducible rfl))
          try simp only [List.setIfInBounds_toArray, List.set_cons_zero, List.set_cons_succ]
          refine heldY 20 39 ?_ _ rfl rfl (by kernel_rfl) (by kernel_rfl) (by kernel_rfl) (fun _ _ _ h => h) rfl (by assumption) ?_ ?_
          rotate_left
          · (intro w hSw; (try dsimp only at hSw); go_simp; (try with_reducible rfl))
          try simp only [List.setIfInBounds_toArray, List.set_cons_zero, List.set_cons_succ]
          refine wpAnyH_done (by kernel_rfl) ?_ _
          have HW3 := Lib.hid (BE _ hHeld)
          clear hHeld
          go_wp2
          go_roundw
          case rel => exact ⟨k + 1, by omega, by go_num, HK, HW3⟩
          case measure => simp [intOf]; omega
    · obtain rfl : k = n := by omega
      have HF := Lib.hid (HOK.out (fun i x hx => H.out i x (by have := (List.getElem?_eq_some_iff.1 hx).1; rw [HN.out] at this; exact this) hx))
      clear hlt H HBAD HOK
      go_wp2
      go_ret
      exact ⟨reti HF.out, HB.out⟩
end Go.Proofs.YtpkdnohaefkfgaaGreatDoor
