/-
  The program's keyed.Check and keyed.Find over choices: what each returns; nothing old turns. cmp.Compare of ints and of texts, cmp.Or: what each returns; nothing turns. The best choice, by the program and by the reference: what each returns; nothing old turns. The best choice, by the program and by the reference: what each returns; nothing old turns.
-/
import Derived.Test.YtnfhccnicojdcaaGreatDoorZMath
import Derived.Test.YtnfhccnicojdcaaGreatDoorRowV
import Derived.IntWalk
import Derived.Deep.RegionHeld3
import Derived.RangeFuncBox
namespace Go.Proofs.YtnfhccnicojdcaaGreatDoor
open Go.RowKit
theorem keyC_any (X0 : ByteArray) (z1 : Int) (v2 : Value) (w : World) : Calls Tryz.prog 50 #[.agg #[.string X0, .int .i64 z1, v2]] w fun e w' => e = .returned (.string X0) ∧ Below w.heap.size w w' := by
  obtain ⟨x0, x1, x2⟩ := boxV3 w (.string X0) (.int .i64 z1) v2 32
  have B0 := Lib.hid ((Below.refl w.heap.size w).alloc (Nat.le_refl _) (.cells #[.string X0, .int .i64 z1, v2] 32))
  go_enter Tryz.func50, Tryz.ntmps50
  go_wp2
  go_ret
  exact ⟨rfl, B0.out⟩
abbrev keyFC : Value := .func (.func 50) #[] #[]
abbrev agZC (x : Cv) : Value := .agg #[.string (⟨(x.1.1).toArray⟩ : ByteArray), .int .i64 (x.1.2.1), x.2]
/-- What is asked of a predicate: at each of l's, in each later world. -/
def PredKC (g : Nat) (lb : Array Value) (l : List Cv) (p : Cv → Bool) (w : World) : Prop :=
  ∀ x ∈ l, ∀ W, Below w.heap.size w W → Calls Tryz.prog g (#[agZC x] ++ lb) W fun e w' => e = .returned (.bool (p x)) ∧ Below W.heap.size W w'
theorem formC {w : World} {v : Value} {l : List Bs} (h : HoldT w v l) : ∃ a n c, v = .slice a n c := by obtain ⟨a, c, b, o, e, _⟩ := h; exact ⟨_, _, _, e⟩
set_option maxRecDepth 100000 in
set_option maxHeartbeats 8000000 in
theorem kcheckC_any (g : Nat) (lb : Array Value) (eg : ∀ args w, (callFunc g args).run Tryz.prog w = .ok (.enter g args) w) (rt : Cv → Bool) (v : Value) (l : List Cv) (hl : l.length ≤ 90000) (w : World) (h : HoldC w v l) (hra : PredKC g lb l rt w) :
    Calls Tryz.prog 110 #[v, keyFC, .func (.func g) #[] lb] w fun e w' => e = .returned (.int .i64 (kchkK rt (fun x => x.1.1) l)) ∧ Below w.heap.size w w' := by
  obtain ⟨a, c, b, o, rfl, hc, ha, hcell⟩ := h.parts
  have HC := Lib.hid hcell
  have HIN := Lib.hid h.2
  have HRA := Lib.hid hra
  unfold keyFC
  obtain ⟨Z, HZ⟩ : ∃ Z, Hid (kchkK rt (fun x => x.1.1) l = Z) := ⟨_, rfl⟩
  rw [HZ.out]
  obtain ⟨n, hN⟩ : ∃ n, l.length = n := ⟨_, rfl⟩
  rw [hN] at hc ha hl ⊢
  have HN := Lib.hid hN
  clear hcell hN h hra
  by_cases h64 : 64 < n
  · have HF : Hid ((22 : Int) = Z) := Lib.hid (by rw [← HZ.out, kchkK_long (by rw [HN.out]; exact h64)])
    go_enter Tryz.func110, Tryz.ntmps110
    go_wp2
    go_ret
    exact ⟨reti HF.out, Below.refl _ _⟩
  have HBAD : Hid (∀ (i : Nat) x, l[i]? = some x → ¬ stepK rt (fun x => x.1.1) l i x → (1 : Int) = Z) := Lib.hid (fun i x hx g => by rw [← HZ.out, kchkK_no (by rw [HN.out]; exact h64) (fun q => g (q i x hx))])
  have HOK : Hid (StepsK rt (fun x => x.1.1) l → (0 : Int) = Z) := Lib.hid (fun g => by rw [← HZ.out, kchkK_ok (by rw [HN.out]; exact h64) g])
  clear HZ
  go_enter Tryz.func110, Tryz.ntmps110
  go_wp2
  go_loopw [14] (fun i wr => ∃ k : Nat, k ≤ n ∧ i = .int .i64 k ∧ Hid (∀ (j : Nat) x, j < k → l[j]? = some x → stepK rt (fun x => x.1.1) l j x) ∧ Hid (Below w.heap.size w wr)) (fun i _ => n - (intOf i).toNat)
  case atStart => exact ⟨0, by omega, rfl, Lib.hid (fun j y hj => by omega), Lib.hid (Below.refl _ _)⟩
  case round =>
    obtain ⟨k, hk, rfl, H, HB⟩ := hrel
    by_cases hlt : k < n
    · obtain ⟨rfl, hbw⟩ := ha (by omega)
      obtain ⟨x, hx⟩ : ∃ x, l[k]? = some x := ⟨_, List.getElem?_eq_getElem (by rw [HN.out]; exact hlt)⟩
      obtain ⟨c0, c1, c2⟩ := HC.out k x hx
      rw [← HB.out.cell (p := ⟨b, o + k * 3, none⟩) hbw] at c0
      rw [← HB.out.cell (p := ⟨b, o + k * 3 + 1, none⟩) hbw] at c1
      rw [← HB.out.cell (p := ⟨b, o + k * 3 + 2, none⟩) hbw] at c2
      have RA := HRA.out x (List.mem_of_getElem? hx)
      have HX := Lib.hid hx
      have hsz := HB.out.size
      have B0 := HB.out.alloc hsz (.cells #[.string (⟨(x.1.1).toArray⟩ : ByteArray), .int .i64 (x.1.2.1), x.2] 32)
      obtain ⟨x0, x1, x2⟩ := boxV3 wr (.string (⟨(x.1.1).toArray⟩ : ByteArray)) (.int .i64 (x.1.2.1)) x.2 32
      have hs := (And.intro x0 (And.intro x1 (And.intro x2 B0)))
      unfold agZC at RA
      clear x0 x1 x2 B0
      obtain ⟨a2, n2, m2, hf2⟩ := formC (HIN.out x (List.mem_of_getElem? hx))
      rw [hf2] at RA hs c2
      clear hf2
      clear hx
      cases hq : rt x
      · have HF := Lib.hid (HBAD.out k x HX.out (fun g => by rw [g.1] at hq; cases hq))
        simp only [hq] at RA
        clear hq H HBAD HOK HC HX HRA HIN
        generalize (⟨(x.1.1).toArray⟩ : ByteArray) = X0 at *
        generalize x.1.2.1 = z1 at *
        go_wp2
        generalize wr.alloc (.cells #[.string X0, .int .i64 z1, .slice a2 n2 m2] 32) = W2 at *
        generalize hb0 : wr.heap.size = b0 at *
        obtain ⟨x0, x1, x2, hB⟩ := hs
        have hs := (And.intro x0 (And.intro x1 (And.intro x2 hB)))
        clear hb0
        have BE := fun (V : World) (h : V.cell? ⟨b0, 0, none⟩ = some (.string X0) ∧ V.cell? ⟨b0, 1, none⟩ = some (.int .i64 z1) ∧ V.cell? ⟨b0, 2, none⟩ = some (.slice a2 n2 m2) ∧ Below w.heap.size w V) => AtF.be (w := w) (l := [(⟨b0, 0, none⟩, .string X0), (⟨b0, 1, none⟩, .int .i64 z1), (⟨b0, 2, none⟩, .slice a2 n2 m2)]) h
        refine wp_region_held_drew (S := (fun V => V.cell? ⟨b0, 0, none⟩ = some (.string X0) ∧ V.cell? ⟨b0, 1, none⟩ = some (.int .i64 z1) ∧ V.cell? ⟨b0, 2, none⟩ = some (.slice a2 n2 m2) ∧ Below w.heap.size w V)) (by kernel_rfl) ?_ (fun hHeld => ?_)
        · (try dsimp only); (first | assumption | exact hs | exact AtF.dr (w := w) (l := [(⟨b0, 0, none⟩, .string X0), (⟨b0, 1, none⟩, .int .i64 z1), (⟨b0, 2, none⟩, .slice a2 n2 m2)]) hs | exact AtF.dr (w := w) (l := [(⟨b0, 0, none⟩, .string X0), (⟨b0, 1, none⟩, .int .i64 z1), (⟨b0, 2, none⟩, .slice a2 n2 m2)]) (by assumption) | exact AtF.on (w := w) (l := [(⟨b0, 0, none⟩, .string X0), (⟨b0, 1, none⟩, .int .i64 z1), (⟨b0, 2, none⟩, .slice a2 n2 m2)]) (by assumption) (by assumption) | exact AtF.al (w := w) (l := [(⟨b0, 0, none⟩, .string X0), (⟨b0, 1, none⟩, .int .i64 z1), (⟨b0, 2, none⟩, .slice a2 n2 m2)]) (by assumption) _ | exact AtF.ald (w := w) (l := [(⟨b0, 0, none⟩, .string X0), (⟨b0, 1, none⟩, .int .i64 z1), (⟨b0, 2, none⟩, .slice a2 n2 m2)]) (by assumption) _ | exact AtF.al (w := w) (l := [(⟨b0, 0, none⟩, .string X0), (⟨b0, 1, none⟩, .int .i64 z1), (⟨b0, 2, none⟩, .slice a2 n2 m2)]) hs _ | exact AtF.ald (w := w) (l := [(⟨b0, 0, none⟩, .string X0), (⟨b0, 1, none⟩, .int .i64 z1), (⟨b0, 2, none⟩, .slice a2 n2 m2)]) hs _)
        refine heldY 0 19 ?_ _ rfl rfl (by kernel_rfl) (by kernel_rfl) (by kernel_rfl) (fun _ _ _ h => h) rfl (by assumption) ?_ ?_
        rotate_left
        · (intro w hSw; (try dsimp only at hSw); go_simp; (try with_reducible rfl))
        try simp only [List.setIfInBounds_toArray, List.set_cons_zero, List.set_cons_succ]
        refine heldY 1 20 ?_ _ rfl rfl (by kernel_rfl) (by kernel_rfl) (by kernel_rfl) (fun _ _ _ h => h) rfl (by assumption) ?_ ?_
        rotate_left
        · (intro w hSw; (try dsimp only at hSw); go_simp; (try with_reducible rfl))
        try simp only [List.setIfInBounds_toArray, List.set_cons_zero, List.set_cons_succ]
        refine wpAnyH_ready (rs := [2]) (by kernel_rfl) (by simp) ?_
        refine AllReadyH.cons rfl (fun K hK => ?_) AllReadyH.nil
        go_simp
        (go_at_fn g; refine (RA _ (BE _ (by assumption))).mono ?_; rintro e w3 ⟨rfl, hb⟩)
        refine hK.out _ _ ?_ (fun hHeld => ?_)
        · (try dsimp only); (first | assumption | exact hs | exact AtF.dr (w := w) (l := [(⟨b0, 0, none⟩, .string X0), (⟨b0, 1, none⟩, .int .i64 z1), (⟨b0, 2, none⟩, .slice a2 n2 m2)]) hs | exact AtF.dr (w := w) (l := [(⟨b0, 0, none⟩, .string X0), (⟨b0, 1, none⟩, .int .i64 z1), (⟨b0, 2, none⟩, .slice a2 n2 m2)]) (by assumption) | exact AtF.on (w := w) (l := [(⟨b0, 0, none⟩, .string X0), (⟨b0, 1, none⟩, .int .i64 z1), (⟨b0, 2, none⟩, .slice a2 n2 m2)]) (by assumption) (by assumption) | exact AtF.al (w := w) (l := [(⟨b0, 0, none⟩, .string X0), (⟨b0, 1, none⟩, .int .i64 z1), (⟨b0, 2, none⟩, .slice a2 n2 m2)]) (by assumption) _ | exact AtF.ald (w := w) (l := [(⟨b0, 0, none⟩, .string X0), (⟨b0, 1, none⟩, .int .i64 z1), (⟨b0, 2, none⟩, .slice a2 n2 m2)]) (by assumption) _ | exact AtF.al (w := w) (l := [(⟨b0, 0, none⟩, .string X0), (⟨b0, 1, none⟩, .int .i64 z1), (⟨b0, 2, none⟩, .slice a2 n2 m2)]) hs _ | exact AtF.ald (w := w) (l := [(⟨b0, 0, none⟩, .string X0), (⟨b0, 1, none⟩, .int .i64 z1), (⟨b0, 2, none⟩, .slice a2 n2 m2)]) hs _)
        clear hK K
        try simp only [Act.put, List.setIfInBounds_toArray, List.set_cons_zero, List.set_cons_succ]
        refine heldY 3 22 ?_ _ rfl rfl (by kernel_rfl) (by kernel_rfl) (by kernel_rfl) (fun _ _ _ h => h) rfl (by assumption) ?_ ?_
        rotate_left
        · (intro w hSw; (try dsimp only at hSw); go_simp; (try with_reducible rfl))
        try simp only [List.setIfInBounds_toArray, List.set_cons_zero, List.set_cons_succ]
        refine heldY 4 23 ?_ _ rfl rfl (by kernel_rfl) (by kernel_rfl) (by kernel_rfl) (fun _ _ _ h => h) rfl (by assumption) ?_ ?_
        rotate_left
        · (intro w hSw; (try dsimp only at hSw); go_simp; (try with_reducible rfl))
        try simp only [List.setIfInBounds_toArray, List.set_cons_zero, List.set_cons_succ]
        refine heldNo 5 24 rfl (by kernel_rfl) (by kernel_rfl) (by kernel_rfl) (fun _ _ _ h => h) rfl (by assumption) ?_
        try simp only [List.setIfInBounds_toArray, List.set_cons_zero, List.set_cons_succ]
        refine heldNo 6 25 rfl (by kernel_rfl) (by kernel_rfl) (by kernel_rfl) (fun _ _ _ h => h) rfl (by assumption) ?_
        try simp only [List.setIfInBounds_toArray, List.set_cons_zero, List.set_cons_succ]
        refine heldNo 7 26 rfl (by kernel_rfl) (by kernel_rfl) (by kernel_rfl) (fun _ _ _ h => h) rfl (by assumption) ?_
        try simp only [List.setIfInBounds_toArray, List.set_cons_zero, List.set_cons_succ]
        refine heldNo 8 27 rfl (by kernel_rfl) (by kernel_rfl) (by kernel_rfl) (fun _ _ _ h => h) rfl (by assumption) ?_
        try simp only [List.setIfInBounds_toArray, List.set_cons_zero, List.set_cons_succ]
        refine heldNo 9 28 rfl (by kernel_rfl) (by kernel_rfl) (by kernel_rfl) (fun _ _ _ h => h) rfl (by assumption) ?_
        try simp only [List.setIfInBounds_toArray, List.set_cons_zero, List.set_cons_succ]
        refine heldNo 10 29 rfl (by kernel_rfl) (by kernel_rfl) (by kernel_rfl) (fun _ _ _ h => h) rfl (by assumption) ?_
        try simp only [List.setIfInBounds_toArray, List.set_cons_zero, List.set_cons_succ]
        refine heldNo 11 30 rfl (by kernel_rfl) (by kernel_rfl) (by kernel_rfl) (fun _ _ _ h => h) rfl (by assumption) ?_
        try simp only [List.setIfInBounds_toArray, List.set_cons_zero, List.set_cons_succ]
        refine heldNo 12 31 rfl (by kernel_rfl) (by kernel_rfl) (by kernel_rfl) (fun _ _ _ h => h) rfl (by assumption) ?_
        try simp only [List.setIfInBounds_toArray, List.set_cons_zero, List.set_cons_succ]
        refine heldNo 13 32 rfl (by kernel_rfl) (by kernel_rfl) (by kernel_rfl) (fun _ _ _ h => h) rfl (by assumption) ?_
        try simp only [List.setIfInBounds_toArray, List.set_cons_zero, List.set_cons_succ]
        refine heldNo 14 33 rfl (by kernel_rfl) (by kernel_rfl) (by kernel_rfl) (fun _ _ _ h => h) rfl (by assumption) ?_
        try simp only [List.setIfInBounds_toArray, List.set_cons_zero, List.set_cons_succ]
        refine heldNo 15 34 rfl (by kernel_rfl) (by kernel_rfl) (by kernel_rfl) (fun _ _ _ h => h) rfl (by assumption) ?_
        try simp only [List.setIfInBounds_toArray, List.set_cons_zero, List.set_cons_succ]
        refine heldNo 16 35 rfl (by kernel_rfl) (by kernel_rfl) (by kernel_rfl) (fun _ _ _ h => h) rfl (by assumption) ?_
        try simp only [List.setIfInBounds_toArray, List.set_cons_zero, List.set_cons_succ]
        refine heldNo 17 36 rfl (by kernel_rfl) (by kernel_rfl) (by kernel_rfl) (fun _ _ _ h => h) rfl (by assumption) ?_
        try simp only [List.setIfInBounds_toArray, List.set_cons_zero, List.set_cons_succ]
        refine heldNo 18 37 rfl (by kernel_rfl) (by kernel_rfl) (by kernel_rfl) (fun _ _ _ h => h) rfl (by assumption) ?_
        try simp only [List.setIfInBounds_toArray, List.set_cons_zero, List.set_cons_succ]
        refine heldNo 19 38 rfl (by kernel_rfl) (by kernel_rfl) (by kernel_rfl) (fun _ _ _ h => h) rfl (by assumption) ?_
        try simp only [List.setIfInBounds_toArray, List.set_cons_zero, List.set_cons_succ]
        refine heldY 20 39 ?_ _ rfl rfl (by kernel_rfl) (by kernel_rfl) (by kernel_rfl) (fun _ _ _ h => h) rfl (by assumption) ?_ ?_
        rotate_left
        · (intro w hSw; (try dsimp only at hSw); go_simp; (try with_reducible rfl))
        try simp only [List.setIfInBounds_toArray, List.set_cons_zero, List.set_cons_succ]
        refine wpAnyH_done (by kernel_rfl) ?_ _
        have HW3 := Lib.hid (BE _ hHeld)
        clear hHeld
        go_wp2
        go_ret
        exact ⟨reti HF.out, HW3.out⟩
      · simp only [hq] at RA
        by_cases hk0 : 0 < k
        · obtain ⟨y, hy⟩ : ∃ y, l[k - 1]? = some y := ⟨_, List.getElem?_eq_getElem (by rw [HN.out]; omega)⟩
          obtain ⟨e0, e1, e2⟩ := HC.out (k - 1) y hy
          rw [← HB.out.cell (p := ⟨b, o + (k - 1) * 3, none⟩) hbw] at e0
          rw [← HB.out.cell (p := ⟨b, o + (k - 1) * 3 + 1, none⟩) hbw] at e1
          rw [← HB.out.cell (p := ⟨b, o + (k - 1) * 3 + 2, none⟩) hbw] at e2
          obtain ⟨a2', n2', m2', hf2'⟩ := formC (HIN.out y (List.mem_of_getElem? hy))
          rw [hf2'] at e2
          clear hf2'
          have hbwr : b < wr.heap.size := Nat.lt_of_lt_of_le hbw hsz
          have hB1 := (Below.refl wr.heap.size wr).alloc (Nat.le_refl _) (.cells #[.string (⟨(x.1.1).toArray⟩ : ByteArray), .int .i64 (x.1.2.1), .slice a2 n2 m2] 32)
          have e0 := (hB1.cell (p := ⟨b, o + (k - 1) * 3, none⟩) hbwr).trans e0
          have e1 := (hB1.cell (p := ⟨b, o + (k - 1) * 3 + 1, none⟩) hbwr).trans e1
          have e2 := (hB1.cell (p := ⟨b, o + (k - 1) * 3 + 2, none⟩) hbwr).trans e2
          have hls := lessT (⟨(y.1.1).toArray⟩ : ByteArray) (⟨(x.1.1).toArray⟩ : ByteArray)
          rw [bytesOf, bytesOf] at hls
          have HBADk : Hid (decide (y.1.1 < x.1.1) = false → (1 : Int) = Z) := Lib.hid (fun g => HBAD.out k x HX.out (fun q => by have := q.2 y hk0 hy; simp only at this; rw [decide_eq_true this] at g; cases g))
          have HNEXT : Hid (decide (y.1.1 < x.1.1) = true → ∀ (j : Nat) u, j < k + 1 → l[j]? = some u → stepK rt (fun x => x.1.1) l j u) := Lib.hid (fun g j u hj hu => by
            by_cases ej : j = k
            · subst ej
              rw [HX.out] at hu; cases hu
              exact ⟨hq, fun u h1 h2 => by rw [hy] at h2; cases h2; exact of_decide_eq_true g⟩
            · exact H.out j u (by omega) hu)
          generalize decide (y.1.1 < x.1.1) = q at *
          have hd : decide ((0 : Int) < (k : Int)) = true := decide_eq_true (by omega)
          have hk1 : (1 : Int) ≤ (k : Int) := by omega
          clear hq H HBAD HC HX hy hB1 HRA HIN
          generalize (⟨(x.1.1).toArray⟩ : ByteArray) = X0 at *
          generalize x.1.2.1 = z1 at *
          generalize (⟨(y.1.1).toArray⟩ : ByteArray) = X0' at *
          generalize y.1.2.1 = z1' at *
          go_wp2
          generalize wr.alloc (.cells #[.string X0, .int .i64 z1, .slice a2 n2 m2] 32) = W2 at *
          generalize hb0 : wr.heap.size = b0 at *
          obtain ⟨x0, x1, x2, hB⟩ := hs
          have hs := (And.intro x0 (And.intro x1 (And.intro x2 (And.intro e0 (And.intro e1 (And.intro e2 hB))))))
          clear hb0
          have i0 : (0 : Int) ≤ (k : Int) - 1 := by omega
          have i1 : (k : Int) - 1 < (n : Int) := by omega
          have i2 : ((k : Int) - 1).toNat = k - 1 := by omega
          have i3 : IntKind.i64.wrap ((k : Int) - 1) = (k : Int) - 1 := IntWalk.i64_in _ (by omega)
          have KX := fun W => keyC_any X0 z1 (.slice a2 n2 m2) W
          have KY := fun W => keyC_any X0' z1' (.slice a2' n2' m2') W
          have BE := fun (V : World) (h : V.cell? ⟨b0, 0, none⟩ = some (.string X0) ∧ V.cell? ⟨b0, 1, none⟩ = some (.int .i64 z1) ∧ V.cell? ⟨b0, 2, none⟩ = some (.slice a2 n2 m2) ∧ V.cell? ⟨b, o + (k - 1) * 3, none⟩ = some (.string X0') ∧ V.cell? ⟨b, o + (k - 1) * 3 + 1, none⟩ = some (.int .i64 z1') ∧ V.cell? ⟨b, o + (k - 1) * 3 + 2, none⟩ = some (.slice a2' n2' m2') ∧ Below w.heap.size w V) => AtF.be (w := w) (l := [(⟨b0, 0, none⟩, .string X0), (⟨b0, 1, none⟩, .int .i64 z1), (⟨b0, 2, none⟩, .slice a2 n2 m2), (⟨b, o + (k - 1) * 3, none⟩, .string X0'), (⟨b, o + (k - 1) * 3 + 1, none⟩, .int .i64 z1'), (⟨b, o + (k - 1) * 3 + 2, none⟩, .slice a2' n2' m2')]) h
          refine wp_region_held_drew (S := (fun V => V.cell? ⟨b0, 0, none⟩ = some (.string X0) ∧ V.cell? ⟨b0, 1, none⟩ = some (.int .i64 z1) ∧ V.cell? ⟨b0, 2, none⟩ = some (.slice a2 n2 m2) ∧ V.cell? ⟨b, o + (k - 1) * 3, none⟩ = some (.string X0') ∧ V.cell? ⟨b, o + (k - 1) * 3 + 1, none⟩ = some (.int .i64 z1') ∧ V.cell? ⟨b, o + (k - 1) * 3 + 2, none⟩ = some (.slice a2' n2' m2') ∧ Below w.heap.size w V)) (by kernel_rfl) ?_ (fun hHeld => ?_)
          · (try dsimp only); (first | assumption | exact hs | exact AtF.dr (w := w) (l := [(⟨b0, 0, none⟩, .string X0), (⟨b0, 1, none⟩, .int .i64 z1), (⟨b0, 2, none⟩, .slice a2 n2 m2), (⟨b, o + (k - 1) * 3, none⟩, .string X0'), (⟨b, o + (k - 1) * 3 + 1, none⟩, .int .i64 z1'), (⟨b, o + (k - 1) * 3 + 2, none⟩, .slice a2' n2' m2')]) hs | exact AtF.dr (w := w) (l := [(⟨b0, 0, none⟩, .string X0), (⟨b0, 1, none⟩, .int .i64 z1), (⟨b0, 2, none⟩, .slice a2 n2 m2), (⟨b, o + (k - 1) * 3, none⟩, .string X0'), (⟨b, o + (k - 1) * 3 + 1, none⟩, .int .i64 z1'), (⟨b, o + (k - 1) * 3 + 2, none⟩, .slice a2' n2' m2')]) (by assumption) | exact AtF.on (w := w) (l := [(⟨b0, 0, none⟩, .string X0), (⟨b0, 1, none⟩, .int .i64 z1), (⟨b0, 2, none⟩, .slice a2 n2 m2), (⟨b, o + (k - 1) * 3, none⟩, .string X0'), (⟨b, o + (k - 1) * 3 + 1, none⟩, .int .i64 z1'), (⟨b, o + (k - 1) * 3 + 2, none⟩, .slice a2' n2' m2')]) (by assumption) (by assumption) | exact AtF.al (w := w) (l := [(⟨b0, 0, none⟩, .string X0), (⟨b0, 1, none⟩, .int .i64 z1), (⟨b0, 2, none⟩, .slice a2 n2 m2), (⟨b, o + (k - 1) * 3, none⟩, .string X0'), (⟨b, o + (k - 1) * 3 + 1, none⟩, .int .i64 z1'), (⟨b, o + (k - 1) * 3 + 2, none⟩, .slice a2' n2' m2')]) (by assumption) _ | exact AtF.ald (w := w) (l := [(⟨b0, 0, none⟩, .string X0), (⟨b0, 1, none⟩, .int .i64 z1), (⟨b0, 2, none⟩, .slice a2 n2 m2), (⟨b, o + (k - 1) * 3, none⟩, .string X0'), (⟨b, o + (k - 1) * 3 + 1, none⟩, .int .i64 z1'), (⟨b, o + (k - 1) * 3 + 2, none⟩, .slice a2' n2' m2')]) (by assumption) _ | exact AtF.al (w := w) (l := [(⟨b0, 0, none⟩, .string X0), (⟨b0, 1, none⟩, .int .i64 z1), (⟨b0, 2, none⟩, .slice a2 n2 m2), (⟨b, o + (k - 1) * 3, none⟩, .string X0'), (⟨b, o + (k - 1) * 3 + 1, none⟩, .int .i64 z1'), (⟨b, o + (k - 1) * 3 + 2, none⟩, .slice a2' n2' m2')]) hs _ | exact AtF.ald (w := w) (l := [(⟨b0, 0, none⟩, .string X0), (⟨b0, 1, none⟩, .int .i64 z1), (⟨b0, 2, none⟩, .slice a2 n2 m2), (⟨b, o + (k - 1) * 3, none⟩, .string X0'), (⟨b, o + (k - 1) * 3 + 1, none⟩, .int .i64 z1'), (⟨b, o + (k - 1) * 3 + 2, none⟩, .slice a2' n2' m2')]) hs _)
          refine heldY 0 19 ?_ _ rfl rfl (by kernel_rfl) (by kernel_rfl) (by kernel_rfl) (fun _ _ _ h => h) rfl (by assumption) ?_ ?_
          rotate_left
          · (intro w hSw; (try dsimp only at hSw); go_simp; (try with_reducible rfl))
          try simp only [List.setIfInBounds_toArray, List.set_cons_zero, List.set_cons_succ]
          refine heldY 1 20 ?_ _ rfl rfl (by kernel_rfl) (by kernel_rfl) (by kernel_rfl) (fun _ _ _ h => h) rfl (by assumption) ?_ ?_
          rotate_left
          · (intro w hSw; (try dsimp only at hSw); go_simp; (try with_reducible rfl))
          try simp only [List.setIfInBounds_toArray, List.set_cons_zero, List.set_cons_succ]
          refine wpAnyH_ready (rs := [2]) (by kernel_rfl) (by simp) ?_
          refine AllReadyH.cons rfl (fun K hK => ?_) AllReadyH.nil
          go_simp
          first | (go_at_fn g; refine (RA _ (BE _ (by assumption))).mono ?_; rintro e w3 ⟨rfl, hb⟩) | (go_at_call 50; first | ((with_reducible refine (KX _).mono ?_); rintro e w3 ⟨rfl, hb⟩) | ((with_reducible refine (KY _).mono ?_); rintro e w3 ⟨rfl, hb⟩))
          refine hK.out _ _ ?_ (fun hHeld => ?_)
          · (try dsimp only); (first | assumption | exact hs | exact AtF.dr (w := w) (l := [(⟨b0, 0, none⟩, .string X0), (⟨b0, 1, none⟩, .int .i64 z1), (⟨b0, 2, none⟩, .slice a2 n2 m2), (⟨b, o + (k - 1) * 3, none⟩, .string X0'), (⟨b, o + (k - 1) * 3 + 1, none⟩, .int .i64 z1'), (⟨b, o + (k - 1) * 3 + 2, none⟩, .slice a2' n2' m2')]) hs | exact AtF.dr (w := w) (l := [(⟨b0, 0, none⟩, .string X0), (⟨b0, 1, none⟩, .int .i64 z1), (⟨b0, 2, none⟩, .slice a2 n2 m2), (⟨b, o + (k - 1) * 3, none⟩, .string X0'), (⟨b, o + (k - 1) * 3 + 1, none⟩, .int .i64 z1'), (⟨b, o + (k - 1) * 3 + 2, none⟩, .slice a2' n2' m2')]) (by assumption) | exact AtF.on (w := w) (l := [(⟨b0, 0, none⟩, .string X0), (⟨b0, 1, none⟩, .int .i64 z1), (⟨b0, 2, none⟩, .slice a2 n2 m2), (⟨b, o + (k - 1) * 3, none⟩, .string X0'), (⟨b, o + (k - 1) * 3 + 1, none⟩, .int .i64 z1'), (⟨b, o + (k - 1) * 3 + 2, none⟩, .slice a2' n2' m2')]) (by assumption) (by assumption) | exact AtF.al (w := w) (l := [(⟨b0, 0, none⟩, .string X0), (⟨b0, 1, none⟩, .int .i64 z1), (⟨b0, 2, none⟩, .slice a2 n2 m2), (⟨b, o + (k - 1) * 3, none⟩, .string X0'), (⟨b, o + (k - 1) * 3 + 1, none⟩, .int .i64 z1'), (⟨b, o + (k - 1) * 3 + 2, none⟩, .slice a2' n2' m2')]) (by assumption) _ | exact AtF.ald (w := w) (l := [(⟨b0, 0, none⟩, .string X0), (⟨b0, 1, none⟩, .int .i64 z1), (⟨b0, 2, none⟩, .slice a2 n2 m2), (⟨b, o + (k - 1) * 3, none⟩, .string X0'), (⟨b, o + (k - 1) * 3 + 1, none⟩, .int .i64 z1'), (⟨b, o + (k - 1) * 3 + 2, none⟩, .slice a2' n2' m2')]) (by assumption) _ | exact AtF.al (w := w) (l := [(⟨b0, 0, none⟩, .string X0), (⟨b0, 1, none⟩, .int .i64 z1), (⟨b0, 2, none⟩, .slice a2 n2 m2), (⟨b, o + (k - 1) * 3, none⟩, .string X0'), (⟨b, o + (k - 1) * 3 + 1, none⟩, .int .i64 z1'), (⟨b, o + (k - 1) * 3 + 2, none⟩, .slice a2' n2' m2')]) hs _ | exact AtF.ald (w := w) (l := [(⟨b0, 0, none⟩, .string X0), (⟨b0, 1, none⟩, .int .i64 z1), (⟨b0, 2, none⟩, .slice a2 n2 m2), (⟨b, o + (k - 1) * 3, none⟩, .string X0'), (⟨b, o + (k - 1) * 3 + 1, none⟩, .int .i64 z1'), (⟨b, o + (k - 1) * 3 + 2, none⟩, .slice a2' n2' m2')]) hs _)
          clear hK K
          try simp only [Act.put, List.setIfInBounds_toArray, List.set_cons_zero, List.set_cons_succ]
          refine heldY 3 22 ?_ _ rfl rfl (by kernel_rfl) (by kernel_rfl) (by kernel_rfl) (fun _ _ _ h => h) rfl (by assumption) ?_ ?_
          rotate_left
          · (intro w hSw; (try dsimp only at hSw); go_simp; (try with_reducible rfl))
          try simp only [List.setIfInBounds_toArray, List.set_cons_zero, List.set_cons_succ]
          refine heldY 4 23 ?_ _ rfl rfl (by kernel_rfl) (by kernel_rfl) (by kernel_rfl) (fun _ _ _ h => h) rfl (by assumption) ?_ ?_
          rotate_left
          · (intro w hSw; (try dsimp only at hSw); go_simp; (try with_reducible rfl))
          try simp only [List.setIfInBounds_toArray, List.set_cons_zero, List.set_cons_succ]
          refine heldY 5 24 ?_ _ rfl rfl (by kernel_rfl) (by kernel_rfl) (by kernel_rfl) (fun _ _ _ h => h) rfl (by assumption) ?_ ?_
          rotate_left
          · (intro w hSw; (try dsimp only at hSw); go_simp; (try with_reducible rfl))
          try simp only [List.setIfInBounds_toArray, List.set_cons_zero, List.set_cons_succ]
          refine heldY 6 25 ?_ _ rfl rfl (by kernel_rfl) (by kernel_rfl) (by kernel_rfl) (fun _ _ _ h => h) rfl (by assumption) ?_ ?_
          rotate_left
          · (intro w hSw; (try dsimp only at hSw); go_simp; (try with_reducible rfl))
          try simp only [List.setIfInBounds_toArray, List.set_cons_zero, List.set_cons_succ]
          refine heldY 7 26 ?_ _ rfl rfl (by kernel_rfl) (by kernel_rfl) (by kernel_rfl) (fun _ _ _ h => h) rfl (by assumption) ?_ ?_
          rotate_left
          · (intro w hSw; (try dsimp only at hSw); go_simp; (try with_reducible rfl))
          try simp only [List.setIfInBounds_toArray, List.set_cons_zero, List.set_cons_succ]
          refine heldY 8 27 ?_ _ rfl rfl (by kernel_rfl) (by kernel_rfl) (by kernel_rfl) (fun _ _ _ h => h) rfl (by assumption) ?_ ?_
          rotate_left
          · (intro w hSw; (try dsimp only at hSw); go_simp; (try with_reducible rfl))
          try simp only [List.setIfInBounds_toArray, List.set_cons_zero, List.set_cons_succ]
          refine heldY 9 28 ?_ _ rfl rfl (by kernel_rfl) (by kernel_rfl) (by kernel_rfl) (fun _ _ _ h => h) rfl (by assumption) ?_ ?_
          rotate_left
          · (intro w hSw; (try dsimp only at hSw); go_simp; (try with_reducible rfl))
          try simp only [List.setIfInBounds_toArray, List.set_cons_zero, List.set_cons_succ]
          refine heldY 10 29 ?_ _ rfl rfl (by kernel_rfl) (by kernel_rfl) (by kernel_rfl) (fun _ _ _ h => h) rfl (by assumption) ?_ ?_
          rotate_left
          · (intro w hSw; (try dsimp only at hSw); go_simp; (try with_reducible rfl))
          try simp only [List.setIfInBounds_toArray, List.set_cons_zero, List.set_cons_succ]
          refine heldY 11 30 ?_ _ rfl rfl (by kernel_rfl) (by kernel_rfl) (by kernel_rfl) (fun _ _ _ h => h) rfl (by assumption) ?_ ?_
          rotate_left
          · (intro w hSw; (try dsimp only at hSw); go_simp; (try with_reducible rfl))
          try simp only [List.setIfInBounds_toArray, List.set_cons_zero, List.set_cons_succ]
          refine heldY 12 31 ?_ _ rfl rfl (by kernel_rfl) (by kernel_rfl) (by kernel_rfl) (fun _ _ _ h => h) rfl (by assumption) ?_ ?_
          rotate_left
          · (intro w hSw; (try dsimp only at hSw); go_simp; (try with_reducible rfl))
          try simp only [List.setIfInBounds_toArray, List.set_cons_zero, List.set_cons_succ]
          refine heldY 13 32 ?_ _ rfl rfl (by kernel_rfl) (by kernel_rfl) (by kernel_rfl) (fun _ _ _ h => h) rfl (by assumption) ?_ ?_
          rotate_left
          · (intro w hSw; (try dsimp only at hSw); go_simp; (try with_reducible rfl))
          try simp only [List.setIfInBounds_toArray, List.set_cons_zero, List.set_cons_succ]
          refine heldY 15 34 ?_ _ rfl rfl (by kernel_rfl) (by kernel_rfl) (by kernel_rfl) (fun _ _ _ h => h) rfl (by assumption) ?_ ?_
          rotate_left
          · (intro w hSw; (try dsimp only at hSw); go_simp; (try with_reducible rfl))
          try simp only [List.setIfInBounds_toArray, List.set_cons_zero, List.set_cons_succ]
          refine heldY 16 35 ?_ _ rfl rfl (by kernel_rfl) (by kernel_rfl) (by kernel_rfl) (fun _ _ _ h => h) rfl (by assumption) ?_ ?_
          rotate_left
          · (intro w hSw; (try dsimp only at hSw); go_simp; (try with_reducible rfl))
          try simp only [List.setIfInBounds_toArray, List.set_cons_zero, List.set_cons_succ]
          refine wpAnyH_ready (rs := [14]) (by kernel_rfl) (by simp) ?_
          refine AllReadyH.cons rfl (fun K hK => ?_) AllReadyH.nil
          go_simp
          first | (go_at_fn g; refine (RA _ (BE _ (by assumption))).mono ?_; rintro e w3 ⟨rfl, hb⟩) | (go_at_call 50; first | ((with_reducible refine (KX _).mono ?_); rintro e w3 ⟨rfl, hb⟩) | ((with_reducible refine (KY _).mono ?_); rintro e w3 ⟨rfl, hb⟩))
          refine hK.out _ _ ?_ (fun hHeld => ?_)
          · (try dsimp only); (first | assumption | exact hs | exact AtF.dr (w := w) (l := [(⟨b0, 0, none⟩, .string X0), (⟨b0, 1, none⟩, .int .i64 z1), (⟨b0, 2, none⟩, .slice a2 n2 m2), (⟨b, o + (k - 1) * 3, none⟩, .string X0'), (⟨b, o + (k - 1) * 3 + 1, none⟩, .int .i64 z1'), (⟨b, o + (k - 1) * 3 + 2, none⟩, .slice a2' n2' m2')]) hs | exact AtF.dr (w := w) (l := [(⟨b0, 0, none⟩, .string X0), (⟨b0, 1, none⟩, .int .i64 z1), (⟨b0, 2, none⟩, .slice a2 n2 m2), (⟨b, o + (k - 1) * 3, none⟩, .string X0'), (⟨b, o + (k - 1) * 3 + 1, none⟩, .int .i64 z1'), (⟨b, o + (k - 1) * 3 + 2, none⟩, .slice a2' n2' m2')]) (by assumption) | exact AtF.on (w := w) (l := [(⟨b0, 0, none⟩, .string X0), (⟨b0, 1, none⟩, .int .i64 z1), (⟨b0, 2, none⟩, .slice a2 n2 m2), (⟨b, o + (k - 1) * 3, none⟩, .string X0'), (⟨b, o + (k - 1) * 3 + 1, none⟩, .int .i64 z1'), (⟨b, o + (k - 1) * 3 + 2, none⟩, .slice a2' n2' m2')]) (by assumption) (by assumption) | exact AtF.al (w := w) (l := [(⟨b0, 0, none⟩, .string X0), (⟨b0, 1, none⟩, .int .i64 z1), (⟨b0, 2, none⟩, .slice a2 n2 m2), (⟨b, o + (k - 1) * 3, none⟩, .string X0'), (⟨b, o + (k - 1) * 3 + 1, none⟩, .int .i64 z1'), (⟨b, o + (k - 1) * 3 + 2, none⟩, .slice a2' n2' m2')]) (by assumption) _ | exact AtF.ald (w := w) (l := [(⟨b0, 0, none⟩, .string X0), (⟨b0, 1, none⟩, .int .i64 z1), (⟨b0, 2, none⟩, .slice a2 n2 m2), (⟨b, o + (k - 1) * 3, none⟩, .string X0'), (⟨b, o + (k - 1) * 3 + 1, none⟩, .int .i64 z1'), (⟨b, o + (k - 1) * 3 + 2, none⟩, .slice a2' n2' m2')]) (by assumption) _ | exact AtF.al (w := w) (l := [(⟨b0, 0, none⟩, .string X0), (⟨b0, 1, none⟩, .int .i64 z1), (⟨b0, 2, none⟩, .slice a2 n2 m2), (⟨b, o + (k - 1) * 3, none⟩, .string X0'), (⟨b, o + (k - 1) * 3 + 1, none⟩, .int .i64 z1'), (⟨b, o + (k - 1) * 3 + 2, none⟩, .slice a2' n2' m2')]) hs _ | exact AtF.ald (w := w) (l := [(⟨b0, 0, none⟩, .string X0), (⟨b0, 1, none⟩, .int .i64 z1), (⟨b0, 2, none⟩, .slice a2 n2 m2), (⟨b, o + (k - 1) * 3, none⟩, .string X0'), (⟨b, o + (k - 1) * 3 + 1, none⟩, .int .i64 z1'), (⟨b, o + (k - 1) * 3 + 2, none⟩, .slice a2' n2' m2')]) hs _)
          clear hK K
          try simp only [Act.put, List.setIfInBounds_toArray, List.set_cons_zero, List.set_cons_succ]
          refine wpAnyH_ready (rs := [17]) (by kernel_rfl) (by simp) ?_
          refine AllReadyH.cons rfl (fun K hK => ?_) AllReadyH.nil
          go_simp
          first | (go_at_fn g; refine (RA _ (BE _ (by assumption))).mono ?_; rintro e w3 ⟨rfl, hb⟩) | (go_at_call 50; first | ((with_reducible refine (KX _).mono ?_); rintro e w3 ⟨rfl, hb⟩) | ((with_reducible refine (KY _).mono ?_); rintro e w3 ⟨rfl, hb⟩))
          refine hK.out _ _ ?_ (fun hHeld => ?_)
          · (try dsimp only); (first | assumption | exact hs | exact AtF.dr (w := w) (l := [(⟨b0, 0, none⟩, .string X0), (⟨b0, 1, none⟩, .int .i64 z1), (⟨b0, 2, none⟩, .slice a2 n2 m2), (⟨b, o + (k - 1) * 3, none⟩, .string X0'), (⟨b, o + (k - 1) * 3 + 1, none⟩, .int .i64 z1'), (⟨b, o + (k - 1) * 3 + 2, none⟩, .slice a2' n2' m2')]) hs | exact AtF.dr (w := w) (l := [(⟨b0, 0, none⟩, .string X0), (⟨b0, 1, none⟩, .int .i64 z1), (⟨b0, 2, none⟩, .slice a2 n2 m2), (⟨b, o + (k - 1) * 3, none⟩, .string X0'), (⟨b, o + (k - 1) * 3 + 1, none⟩, .int .i64 z1'), (⟨b, o + (k - 1) * 3 + 2, none⟩, .slice a2' n2' m2')]) (by assumption) | exact AtF.on (w := w) (l := [(⟨b0, 0, none⟩, .string X0), (⟨b0, 1, none⟩, .int .i64 z1), (⟨b0, 2, none⟩, .slice a2 n2 m2), (⟨b, o + (k - 1) * 3, none⟩, .string X0'), (⟨b, o + (k - 1) * 3 + 1, none⟩, .int .i64 z1'), (⟨b, o + (k - 1) * 3 + 2, none⟩, .slice a2' n2' m2')]) (by assumption) (by assumption) | exact AtF.al (w := w) (l := [(⟨b0, 0, none⟩, .string X0), (⟨b0, 1, none⟩, .int .i64 z1), (⟨b0, 2, none⟩, .slice a2 n2 m2), (⟨b, o + (k - 1) * 3, none⟩, .string X0'), (⟨b, o + (k - 1) * 3 + 1, none⟩, .int .i64 z1'), (⟨b, o + (k - 1) * 3 + 2, none⟩, .slice a2' n2' m2')]) (by assumption) _ | exact AtF.ald (w := w) (l := [(⟨b0, 0, none⟩, .string X0), (⟨b0, 1, none⟩, .int .i64 z1), (⟨b0, 2, none⟩, .slice a2 n2 m2), (⟨b, o + (k - 1) * 3, none⟩, .string X0'), (⟨b, o + (k - 1) * 3 + 1, none⟩, .int .i64 z1'), (⟨b, o + (k - 1) * 3 + 2, none⟩, .slice a2' n2' m2')]) (by assumption) _ | exact AtF.al (w := w) (l := [(⟨b0, 0, none⟩, .string X0), (⟨b0, 1, none⟩, .int .i64 z1), (⟨b0, 2, none⟩, .slice a2 n2 m2), (⟨b, o + (k - 1) * 3, none⟩, .string X0'), (⟨b, o + (k - 1) * 3 + 1, none⟩, .int .i64 z1'), (⟨b, o + (k - 1) * 3 + 2, none⟩, .slice a2' n2' m2')]) hs _ | exact AtF.ald (w := w) (l := [(⟨b0, 0, none⟩, .string X0), (⟨b0, 1, none⟩, .int .i64 z1), (⟨b0, 2, none⟩, .slice a2 n2 m2), (⟨b, o + (k - 1) * 3, none⟩, .string X0'), (⟨b, o + (k - 1) * 3 + 1, none⟩, .int .i64 z1'), (⟨b, o + (k - 1) * 3 + 2, none⟩, .slice a2' n2' m2')]) hs _)
          clear hK K
          try simp only [Act.put, List.setIfInBounds_toArray, List.set_cons_zero, List.set_cons_succ]
          refine heldY 18 37 ?_ _ rfl rfl (by kernel_rfl) (by kernel_rfl) (by kernel_rfl) (fun _ _ _ h => h) rfl (by assumption) ?_ ?_
          rotate_left
          · (intro w hSw; (try dsimp only at hSw); go_simp; (try with_reducible rfl))
          try simp only [List.setIfInBounds_toArray, List.set_cons_zero, List.set_cons_succ]
          refine heldY 19 38 ?_ _ rfl rfl (by kernel_rfl) (by kernel_rfl) (by kernel_rfl) (fun _ _ _ h => h) rfl (by assumption) ?_ ?_
          rotate_left
          · (intro w hSw; (try dsimp only at hSw); go_simp; (try with_reducible rfl))
          try simp only [List.setIfInBounds_toArray, List.set_cons_zero, List.set_cons_succ]
          refine heldY 20 39 ?_ _ rfl rfl (by kernel_rfl) (by kernel_rfl) (by kernel_rfl) (fun _ _ _ h => h) rfl (by assumption) ?_ ?_
          rotate_left
          · (intro w hSw; (try dsimp only at hSw); go_simp; (try with_reducible rfl))
          try simp only [List.setIfInBounds_toArray, List.set_cons_zero, List.set_cons_succ]
          refine wpAnyH_done (by kernel_rfl) ?_ _
          have HW3 := Lib.hid (BE _ hHeld)
          clear hHeld i2 i3
          cases q
          · have HF := Lib.hid (HBADk.out rfl)
            clear HBADk HNEXT
            go_wp2
            go_ret
            exact ⟨reti HF.out, HW3.out⟩
          · have HK := Lib.hid (HNEXT.out rfl)
            clear HBADk HNEXT
            go_wp2
            go_roundw
            case rel => exact ⟨k + 1, by omega, by go_num, HK, HW3⟩
            case measure => simp [intOf]; omega
        · have HK : Hid (∀ (j : Nat) u, j < k + 1 → l[j]? = some u → stepK rt (fun x => x.1.1) l j u) := Lib.hid (fun j u hj hu => by
            obtain rfl : j = k := by omega
            rw [HX.out] at hu; cases hu
            exact ⟨hq, fun _ h1 => absurd h1 hk0⟩)
          have hd : decide ((0 : Int) < (k : Int)) = false := decide_eq_false (by omega)
          clear hq H HBAD HOK HC HX HRA HIN
          generalize (⟨(x.1.1).toArray⟩ : ByteArray) = X0 at *
          generalize x.1.2.1 = z1 at *
          go_wp2
          generalize wr.alloc (.cells #[.string X0, .int .i64 z1, .slice a2 n2 m2] 32) = W2 at *
          generalize hb0 : wr.heap.size = b0 at *
          obtain ⟨x0, x1, x2, hB⟩ := hs
          have hs := (And.intro x0 (And.intro x1 (And.intro x2 hB)))
          clear hb0
          have BE := fun (V : World) (h : V.cell? ⟨b0, 0, none⟩ = some (.string X0) ∧ V.cell? ⟨b0, 1, none⟩ = some (.int .i64 z1) ∧ V.cell? ⟨b0, 2, none⟩ = some (.slice a2 n2 m2) ∧ Below w.heap.size w V) => AtF.be (w := w) (l := [(⟨b0, 0, none⟩, .string X0), (⟨b0, 1, none⟩, .int .i64 z1), (⟨b0, 2, none⟩, .slice a2 n2 m2)]) h
          refine wp_region_held_drew (S := (fun V => V.cell? ⟨b0, 0, none⟩ = some (.string X0) ∧ V.cell? ⟨b0, 1, none⟩ = some (.int .i64 z1) ∧ V.cell? ⟨b0, 2, none⟩ = some (.slice a2 n2 m2) ∧ Below w.heap.size w V)) (by kernel_rfl) ?_ (fun hHeld => ?_)
          · (try dsimp only); (first | assumption | exact hs | exact AtF.dr (w := w) (l := [(⟨b0, 0, none⟩, .string X0), (⟨b0, 1, none⟩, .int .i64 z1), (⟨b0, 2, none⟩, .slice a2 n2 m2)]) hs | exact AtF.dr (w := w) (l := [(⟨b0, 0, none⟩, .string X0), (⟨b0, 1, none⟩, .int .i64 z1), (⟨b0, 2, none⟩, .slice a2 n2 m2)]) (by assumption) | exact AtF.on (w := w) (l := [(⟨b0, 0, none⟩, .string X0), (⟨b0, 1, none⟩, .int .i64 z1), (⟨b0, 2, none⟩, .slice a2 n2 m2)]) (by assumption) (by assumption) | exact AtF.al (w := w) (l := [(⟨b0, 0, none⟩, .string X0), (⟨b0, 1, none⟩, .int .i64 z1), (⟨b0, 2, none⟩, .slice a2 n2 m2)]) (by assumption) _ | exact AtF.ald (w := w) (l := [(⟨b0, 0, none⟩, .string X0), (⟨b0, 1, none⟩, .int .i64 z1), (⟨b0, 2, none⟩, .slice a2 n2 m2)]) (by assumption) _ | exact AtF.al (w := w) (l := [(⟨b0, 0, none⟩, .string X0), (⟨b0, 1, none⟩, .int .i64 z1), (⟨b0, 2, none⟩, .slice a2 n2 m2)]) hs _ | exact AtF.ald (w := w) (l := [(⟨b0, 0, none⟩, .string X0), (⟨b0, 1, none⟩, .int .i64 z1), (⟨b0, 2, none⟩, .slice a2 n2 m2)]) hs _)
          refine heldY 0 19 ?_ _ rfl rfl (by kernel_rfl) (by kernel_rfl) (by kernel_rfl) (fun _ _ _ h => h) rfl (by assumption) ?_ ?_
          rotate_left
          · (intro w hSw; (try dsimp only at hSw); go_simp; (try with_reducible rfl))
          try simp only [List.setIfInBounds_toArray, List.set_cons_zero, List.set_cons_succ]
          refine heldY 1 20 ?_ _ rfl rfl (by kernel_rfl) (by kernel_rfl) (by kernel_rfl) (fun _ _ _ h => h) rfl (by assumption) ?_ ?_
          rotate_left
          · (intro w hSw; (try dsimp only at hSw); go_simp; (try with_reducible rfl))
          try simp only [List.setIfInBounds_toArray, List.set_cons_zero, List.set_cons_succ]
          refine wpAnyH_ready (rs := [2]) (by kernel_rfl) (by simp) ?_
          refine AllReadyH.cons rfl (fun K hK => ?_) AllReadyH.nil
          go_simp
          (go_at_fn g; refine (RA _ (BE _ (by assumption))).mono ?_; rintro e w3 ⟨rfl, hb⟩)
          refine hK.out _ _ ?_ (fun hHeld => ?_)
          · (try dsimp only); (first | assumption | exact hs | exact AtF.dr (w := w) (l := [(⟨b0, 0, none⟩, .string X0), (⟨b0, 1, none⟩, .int .i64 z1), (⟨b0, 2, none⟩, .slice a2 n2 m2)]) hs | exact AtF.dr (w := w) (l := [(⟨b0, 0, none⟩, .string X0), (⟨b0, 1, none⟩, .int .i64 z1), (⟨b0, 2, none⟩, .slice a2 n2 m2)]) (by assumption) | exact AtF.on (w := w) (l := [(⟨b0, 0, none⟩, .string X0), (⟨b0, 1, none⟩, .int .i64 z1), (⟨b0, 2, none⟩, .slice a2 n2 m2)]) (by assumption) (by assumption) | exact AtF.al (w := w) (l := [(⟨b0, 0, none⟩, .string X0), (⟨b0, 1, none⟩, .int .i64 z1), (⟨b0, 2, none⟩, .slice a2 n2 m2)]) (by assumption) _ | exact AtF.ald (w := w) (l := [(⟨b0, 0, none⟩, .string X0), (⟨b0, 1, none⟩, .int .i64 z1), (⟨b0, 2, none⟩, .slice a2 n2 m2)]) (by assumption) _ | exact AtF.al (w := w) (l := [(⟨b0, 0, none⟩, .string X0), (⟨b0, 1, none⟩, .int .i64 z1), (⟨b0, 2, none⟩, .slice a2 n2 m2)]) hs _ | exact AtF.ald (w := w) (l := [(⟨b0, 0, none⟩, .string X0), (⟨b0, 1, none⟩, .int .i64 z1), (⟨b0, 2, none⟩, .slice a2 n2 m2)]) hs _)
          clear hK K
          try simp only [Act.put, List.setIfInBounds_toArray, List.set_cons_zero, List.set_cons_succ]
          refine heldY 3 22 ?_ _ rfl rfl (by kernel_rfl) (by kernel_rfl) (by kernel_rfl) (fun _ _ _ h => h) rfl (by assumption) ?_ ?_
          rotate_left
          · (intro w hSw; (try dsimp only at hSw); go_simp; (try with_reducible rfl))
          try simp only [List.setIfInBounds_toArray, List.set_cons_zero, List.set_cons_succ]
          refine heldY 4 23 ?_ _ rfl rfl (by kernel_rfl) (by kernel_rfl) (by kernel_rfl) (fun _ _ _ h => h) rfl (by assumption) ?_ ?_
          rotate_left
          · (intro w hSw; (try dsimp only at hSw); go_simp; (try with_reducible rfl))
          try simp only [List.setIfInBounds_toArray, List.set_cons_zero, List.set_cons_succ]
          refine heldY 5 24 ?_ _ rfl rfl (by kernel_rfl) (by kernel_rfl) (by kernel_rfl) (fun _ _ _ h => h) rfl (by assumption) ?_ ?_
          rotate_left
          · (intro w hSw; (try dsimp only at hSw); go_simp; (try with_reducible rfl))
          try simp only [List.setIfInBounds_toArray, List.set_cons_zero, List.set_cons_succ]
          refine heldY 6 25 ?_ _ rfl rfl (by kernel_rfl) (by kernel_rfl) (by kernel_rfl) (fun _ _ _ h => h) rfl (by assumption) ?_ ?_
          rotate_left
          · (intro w hSw; (try dsimp only at hSw); go_simp; (try with_reducible rfl))
          try simp only [List.setIfInBounds_toArray, List.set_cons_zero, List.set_cons_succ]
          refine heldY 7 26 ?_ _ rfl rfl (by kernel_rfl) (by kernel_rfl) (by kernel_rfl) (fun _ _ _ h => h) rfl (by assumption) ?_ ?_
          rotate_left
          · (intro w hSw; (try dsimp only at hSw); go_simp; (try with_reducible rfl))
          try simp only [List.setIfInBounds_toArray, List.set_cons_zero, List.set_cons_succ]
          refine heldNo 8 27 rfl (by kernel_rfl) (by kernel_rfl) (by kernel_rfl) (fun _ _ _ h => h) rfl (by assumption) ?_
          try simp only [List.setIfInBounds_toArray, List.set_cons_zero, List.set_cons_succ]
          refine heldNo 9 28 rfl (by kernel_rfl) (by kernel_rfl) (by kernel_rfl) (fun _ _ _ h => h) rfl (by assumption) ?_
          try simp only [List.setIfInBounds_toArray, List.set_cons_zero, List.set_cons_succ]
          refine heldNo 10 29 rfl (by kernel_rfl) (by kernel_rfl) (by kernel_rfl) (fun _ _ _ h => h) rfl (by assumption) ?_
          try simp only [List.setIfInBounds_toArray, List.set_cons_zero, List.set_cons_succ]
          refine heldNo 11 30 rfl (by kernel_rfl) (by kernel_rfl) (by kernel_rfl) (fun _ _ _ h => h) rfl (by assumption) ?_
          try simp only [List.setIfInBounds_toArray, List.set_cons_zero, List.set_cons_succ]
          refine heldNo 12 31 rfl (by kernel_rfl) (by kernel_rfl) (by kernel_rfl) (fun _ _ _ h => h) rfl (by assumption) ?_
          try simp only [List.setIfInBounds_toArray, List.set_cons_zero, List.set_cons_succ]
          refine heldNo 13 32 rfl (by kernel_rfl) (by kernel_rfl) (by kernel_rfl) (fun _ _ _ h => h) rfl (by assumption) ?_
          try simp only [List.setIfInBounds_toArray, List.set_cons_zero, List.set_cons_succ]
          refine heldNo 14 33 rfl (by kernel_rfl) (by kernel_rfl) (by kernel_rfl) (fun _ _ _ h => h) rfl (by assumption) ?_
          try simp only [List.setIfInBounds_toArray, List.set_cons_zero, List.set_cons_succ]
          refine heldNo 15 34 rfl (by kernel_rfl) (by kernel_rfl) (by kernel_rfl) (fun _ _ _ h => h) rfl (by assumption) ?_
          try simp only [List.setIfInBounds_toArray, List.set_cons_zero, List.set_cons_succ]
          refine heldNo 16 35 rfl (by kernel_rfl) (by kernel_rfl) (by kernel_rfl) (fun _ _ _ h => h) rfl (by assumption) ?_
          try simp only [List.setIfInBounds_toArray, List.set_cons_zero, List.set_cons_succ]
          refine heldNo 17 36 rfl (by kernel_rfl) (by kernel_rfl) (by kernel_rfl) (fun _ _ _ h => h) rfl (by assumption) ?_
          try simp only [List.setIfInBounds_toArray, List.set_cons_zero, List.set_cons_succ]
          refine heldNo 18 37 rfl (by kernel_rfl) (by kernel_rfl) (by kernel_rfl) (fun _ _ _ h => h) rfl (by assumption) ?_
          try simp only [List.setIfInBounds_toArray, List.set_cons_zero, List.set_cons_succ]
          refine heldY 19 38 ?_ _ rfl rfl (by kernel_rfl) (by kernel_rfl) (by kernel_rfl) (fun _ _ _ h => h) rfl (by assumption) ?_ ?_
          rotate_left
          · (intro w hSw; (try dsimp only at hSw); go_simp; (try with_reducible rfl))
          try simp only [List.setIfInBounds_toArray, List.set_cons_zero, List.set_cons_succ]
          refine heldY 20 39 ?_ _ rfl rfl (by kernel_rfl) (by kernel_rfl) (by kernel_rfl) (fun _ _ _ h => h) rfl (by assumption) ?_ ?_
          rotate_left
          · (intro w hSw; (try dsimp only at hSw); go_simp; (try with_reducible rfl))
          try simp only [List.setIfInBounds_toArray, List.set_cons_zero, List.set_cons_succ]
          refine wpAnyH_done (by kernel_rfl) ?_ _
          have HW3 := Lib.hid (BE _ hHeld)
          clear hHeld
          go_wp2
          go_roundw
          case rel => exact ⟨k + 1, by omega, by go_num, HK, HW3⟩
          case measure => simp [intOf]; omega
    · obtain rfl : k = n := by omega
      have HF := Lib.hid (HOK.out (fun i x hx => H.out i x (by have := (List.getElem?_eq_some_iff.1 hx).1; rw [HN.out] at this; exact this) hx))
      clear hlt H HBAD HOK
      go_wp2
      go_ret
      exact ⟨reti HF.out, HB.out⟩
set_option maxRecDepth 100000 in
set_option maxHeartbeats 8000000 in
theorem idxC_any (g : Nat) (lb : Array Value) (eg : ∀ args w, (callFunc g args).run Tryz.prog w = .ok (.enter g args) w) (p : Cv → Bool) (v : Value) (l : List Cv) (hl : l.length ≤ 90000) (w : World) (h : HoldC w v l) (hp : PredKC g lb l p w) :
    Calls Tryz.prog 79 #[v, .func (.func g) #[] lb] w fun e w' => e = .returned (.int .i64 (idxK l p)) ∧ Below w.heap.size w w' := by
  obtain ⟨a, c, b, o, rfl, hc, ha, hcell⟩ := h.parts
  have HC := Lib.hid hcell
  have HIN := Lib.hid h.2
  obtain ⟨Z, HZ⟩ : ∃ Z, Hid (idxK l p = Z) := ⟨_, rfl⟩
  rw [HZ.out]
  have HP := Lib.hid hp
  obtain ⟨n, hN⟩ : ∃ n, l.length = n := ⟨_, rfl⟩
  rw [hN] at hc ha hl ⊢
  have HN := Lib.hid hN
  clear hcell hp hN h
  go_enter Tryz.func79, Tryz.ntmps79
  go_wp2
  go_loopw [8] (fun i wr => ∃ k : Nat, k ≤ n ∧ i = .int .i64 k ∧ Hid (∀ (j : Nat) y, j < k → l[j]? = some y → p y = false) ∧ Hid (Below w.heap.size w wr)) (fun i _ => n - (intOf i).toNat)
  case atStart => exact ⟨0, by omega, rfl, Lib.hid (fun j y hj => by omega), Lib.hid (Below.refl _ _)⟩
  case round =>
    obtain ⟨k, hk, rfl, H, HB⟩ := hrel
    by_cases hlt : k < n
    · obtain ⟨rfl, hbw⟩ := ha (by omega)
      obtain ⟨x, hx⟩ : ∃ x, l[k]? = some x := ⟨_, List.getElem?_eq_getElem (by rw [HN.out]; exact hlt)⟩
      obtain ⟨c0, c1, c2⟩ := HC.out k x hx
      rw [← HB.out.cell (p := ⟨b, o + k * 3, none⟩) hbw] at c0
      rw [← HB.out.cell (p := ⟨b, o + k * 3 + 1, none⟩) hbw] at c1
      rw [← HB.out.cell (p := ⟨b, o + k * 3 + 2, none⟩) hbw] at c2
      have hcall := HP.out x (List.mem_of_getElem? hx) wr HB.out
      unfold agZC at hcall
      obtain ⟨a2, n2, m2, hf2⟩ := formC (HIN.out x (List.mem_of_getElem? hx))
      rw [hf2] at hcall c2
      clear hf2
      have HX := Lib.hid hx
      clear hx
      cases hq : p x
      · rw [hq] at hcall
        have HK : Hid (∀ (j : Nat) y, j < k + 1 → l[j]? = some y → p y = false) := Lib.hid (fun j y hj hy => by
          by_cases e : j = k
          · subst e
            rw [HX.out] at hy; cases hy; exact hq
          · exact H.out j y (by omega) hy)
        clear hq H
        go_wp2_with (go_at_fn g; refine hcall.mono ?_; rintro e w1 ⟨rfl, hb1⟩; have HB1 := Lib.hid (HB.out.trans (hb1.mono HB.out.size)); clear hb1)
        go_roundw
        case rel => exact ⟨k + 1, by omega, by go_num, HK, HB1⟩
        case measure => simp [intOf]; omega
      · rw [hq] at hcall
        have HF : Hid ((k : Int) = Z) := Lib.hid (by rw [← HZ.out, idxK_hit HX.out hq H.out])
        clear hq H
        go_wp2_with (go_at_fn g; refine hcall.mono ?_; rintro e w1 ⟨rfl, hb1⟩; have HB1 := Lib.hid (HB.out.trans (hb1.mono HB.out.size)); clear hb1)
        go_ret
        exact ⟨reti HF.out, HB1.out⟩
    · obtain rfl : k = n := by omega
      have HF : Hid ((-1 : Int) = Z) := Lib.hid (by rw [← HZ.out, idxK_miss (fun j y hy => H.out j y (by have := (List.getElem?_eq_some_iff.1 hy).1; rw [HN.out] at this; exact this) hy)])
      clear hlt H
      go_wp2
      go_ret
      exact ⟨reti HF.out, HB.out⟩
set_option maxRecDepth 100000 in
set_option maxHeartbeats 8000000 in
theorem findpC_any (B1 B2 : Nat) (k : ByteArray) (x : Cv) (hu2 : ∃ a n c, x.2 = .slice a n c) (W : World) (h1 : W.cell? ⟨B1, 0, none⟩ = some keyFC) (h2 : W.cell? ⟨B2, 0, none⟩ = some (.string k)) :
    Calls Tryz.prog 80 #[agZC x, .pointer (some ⟨B1, 0, none⟩), .pointer (some ⟨B2, 0, none⟩)] W fun e w' => e = .returned (.bool (decide (x.1.1 = k.data.toList))) ∧ Below W.heap.size W w' := by
  have hq := eqT (⟨(x.1.1).toArray⟩ : ByteArray) k
  rw [bytesOf] at hq
  unfold agZC
  unfold keyFC at h1
  generalize decide (x.1.1 = k.data.toList) = q at *
  obtain ⟨a2, n2, m2, hu2⟩ := hu2
  rw [hu2]
  clear hu2
  generalize (⟨(x.1.1).toArray⟩ : ByteArray) = X0 at *
  generalize x.1.2.1 = z1 at *
  have PA := fun w => keyC_any X0 z1 (.slice a2 n2 m2) w
  have l1 := World.block_lt_of_cell? W _ h1
  have l2 := World.block_lt_of_cell? W _ h2
  have B0 := (Below.refl W.heap.size W).alloc (Nat.le_refl _) (.cells #[.string X0, .int .i64 z1, .slice a2 n2 m2] 32)
  obtain ⟨x0, x1, x2⟩ := boxV3 W (.string X0) (.int .i64 z1) (.slice a2 n2 m2) 32
  have k1 := (B0.cell l1).trans h1
  have k2 := (B0.cell l2).trans h2
  clear h1 h2 l1 l2
  obtain ⟨U, hU⟩ : ∃ U : World, U = W := ⟨_, rfl⟩
  have HU := Lib.hid hU
  have BU : Below U.heap.size U (W.alloc (.cells #[.string X0, .int .i64 z1, .slice a2 n2 m2] 32)) := by rw [hU]; exact B0
  clear B0 hU
  go_enter Tryz.func80, Tryz.ntmps80
  go_wp2
  generalize W.alloc (.cells #[.string X0, .int .i64 z1, .slice a2 n2 m2] 32) = W2 at *
  generalize hb0 : W.heap.size = b0 at *
  have hs := (And.intro x0 (And.intro x1 (And.intro x2 (And.intro k1 (And.intro k2 BU)))))
  clear hb0
  have BE := fun (V : World) (h : V.cell? ⟨b0, 0, none⟩ = some (.string X0) ∧ V.cell? ⟨b0, 1, none⟩ = some (.int .i64 z1) ∧ V.cell? ⟨b0, 2, none⟩ = some (.slice a2 n2 m2) ∧ V.cell? ⟨B1, 0, none⟩ = some (.func (.func 50) #[] #[]) ∧ V.cell? ⟨B2, 0, none⟩ = some (.string k) ∧ Below U.heap.size U V) => AtF.be (w := U) (l := [(⟨b0, 0, none⟩, .string X0), (⟨b0, 1, none⟩, .int .i64 z1), (⟨b0, 2, none⟩, .slice a2 n2 m2), (⟨B1, 0, none⟩, .func (.func 50) #[] #[]), (⟨B2, 0, none⟩, .string k)]) h
  go_region_held3 (fun V => V.cell? ⟨b0, 0, none⟩ = some (.string X0) ∧ V.cell? ⟨b0, 1, none⟩ = some (.int .i64 z1) ∧ V.cell? ⟨b0, 2, none⟩ = some (.slice a2 n2 m2) ∧ V.cell? ⟨B1, 0, none⟩ = some (.func (.func 50) #[] #[]) ∧ V.cell? ⟨B2, 0, none⟩ = some (.string k) ∧ Below U.heap.size U V)
    (first | assumption | exact hs | exact AtF.dr (w := U) (l := [(⟨b0, 0, none⟩, .string X0), (⟨b0, 1, none⟩, .int .i64 z1), (⟨b0, 2, none⟩, .slice a2 n2 m2), (⟨B1, 0, none⟩, .func (.func 50) #[] #[]), (⟨B2, 0, none⟩, .string k)]) hs | exact AtF.dr (w := U) (l := [(⟨b0, 0, none⟩, .string X0), (⟨b0, 1, none⟩, .int .i64 z1), (⟨b0, 2, none⟩, .slice a2 n2 m2), (⟨B1, 0, none⟩, .func (.func 50) #[] #[]), (⟨B2, 0, none⟩, .string k)]) (by assumption) | exact AtF.on (w := U) (l := [(⟨b0, 0, none⟩, .string X0), (⟨b0, 1, none⟩, .int .i64 z1), (⟨b0, 2, none⟩, .slice a2 n2 m2), (⟨B1, 0, none⟩, .func (.func 50) #[] #[]), (⟨B2, 0, none⟩, .string k)]) (by assumption) (by assumption) | exact AtF.al (w := U) (l := [(⟨b0, 0, none⟩, .string X0), (⟨b0, 1, none⟩, .int .i64 z1), (⟨b0, 2, none⟩, .slice a2 n2 m2), (⟨B1, 0, none⟩, .func (.func 50) #[] #[]), (⟨B2, 0, none⟩, .string k)]) (by assumption) _ | exact AtF.ald (w := U) (l := [(⟨b0, 0, none⟩, .string X0), (⟨b0, 1, none⟩, .int .i64 z1), (⟨b0, 2, none⟩, .slice a2 n2 m2), (⟨B1, 0, none⟩, .func (.func 50) #[] #[]), (⟨B2, 0, none⟩, .string k)]) (by assumption) _ | exact AtF.al (w := U) (l := [(⟨b0, 0, none⟩, .string X0), (⟨b0, 1, none⟩, .int .i64 z1), (⟨b0, 2, none⟩, .slice a2 n2 m2), (⟨B1, 0, none⟩, .func (.func 50) #[] #[]), (⟨B2, 0, none⟩, .string k)]) hs _ | exact AtF.ald (w := U) (l := [(⟨b0, 0, none⟩, .string X0), (⟨b0, 1, none⟩, .int .i64 z1), (⟨b0, 2, none⟩, .slice a2 n2 m2), (⟨B1, 0, none⟩, .func (.func 50) #[] #[]), (⟨B2, 0, none⟩, .string k)]) hs _)
    (((go_at_call 50; refine (PA _).mono ?_; rintro e w3 ⟨rfl, hb⟩)))
  all_goals
    rename_i hHeld
    have HW3 := Lib.hid (BE _ hHeld)
    clear hHeld
    go_wp2
    go_ret
    exact ⟨rfl, by rw [HU.out] at HW3; exact HW3.out⟩
set_option maxRecDepth 100000 in
set_option maxHeartbeats 8000000 in
theorem kfindC_any (v : Value) (l : List Cv) (hl : l.length ≤ 90000) (k : ByteArray) (w : World) (h : HoldC w v l) :
    Calls Tryz.prog 49 #[v, keyFC, .string k] w fun e w' => e = .returned (.int .i64 (idxK l (fun x => decide (x.1.1 = k.data.toList)))) ∧ Below w.heap.size w w' := by
  have B2 := ((Below.refl w.heap.size w).alloc (Nat.le_refl _) (.cells #[keyFC] 80)).alloc (by simp) (.cells #[.string k] 9)
  have q1 := (Boxed.new w 80 keyFC).alloc (.cells #[.string k] 9)
  have q2 := Boxed.new (w.alloc (.cells #[keyFC] 80)) 9 (.string k)
  rw [World.size_alloc] at q2
  have I := idxC_any 80 #[.pointer (some ⟨w.heap.size, 0, none⟩), .pointer (some ⟨w.heap.size + 1, 0, none⟩)] (enters_of Tryz.func80 (by kernel_rfl) rfl) (fun x => decide (x.1.1 = k.data.toList)) v l hl _ (HoldC.on h B2)
    (fun x hx W hb => findpC_any _ _ k x (formC (h.2 x hx)) W ((hb.cell q1.lt).trans q1.cell) ((hb.cell q2.lt).trans q2.cell))
  have HB2 := Lib.hid B2
  clear B2 q1 q2
  unfold keyFC at I ⊢
  generalize idxK l (fun x => decide (x.1.1 = k.data.toList)) = z at *
  go_enter Tryz.func49, Tryz.ntmps49
  go_wp2_with (go_at_call 79; refine I.mono ?_; rintro e w1 ⟨rfl, hb⟩; have HB := Lib.hid (HB2.out.trans (hb.mono HB2.out.size)); clear hb)
  go_ret
  exact ⟨rfl, HB.out⟩
end Go.Proofs.YtnfhccnicojdcaaGreatDoor
namespace Go.Proofs.YtnfhccnicojdcaaGreatDoor
open Go.RowKit
set_option maxRecDepth 100000 in
theorem nan_any (s : ByteArray) (w : World) : Calls Tryz.prog 70 #[.string s] w fun e w' => e = .returned (.bool false) ∧ w = w' := by
  have q0 := eqT s s
  rw [decide_eq_true rfl] at q0
  go_enter Tryz.func70, Tryz.ntmps70
  go_wp2
  go_ret
  exact ⟨rfl, rfl⟩
open Classical in
noncomputable def cmpT (a b : Bs) : Int := if a < b then -1 else if a = b then 0 else 1
theorem cmpT_ways (a b : Bs) : (cmpT a b = -1 ∧ a < b) ∨ (cmpT a b = 0 ∧ a = b) ∨ (cmpT a b = 1 ∧ ¬ a < b ∧ a ≠ b) := by
  unfold cmpT
  by_cases h : a < b
  · exact .inl ⟨if_pos h, h⟩
  · by_cases e : a = b
    · exact .inr (.inl ⟨by rw [if_neg h, if_pos e], e⟩)
    · exact .inr (.inr ⟨by rw [if_neg h, if_neg e], h, e⟩)
set_option maxRecDepth 100000 in
theorem cmp_any (a b : ByteArray) (w : World) : Calls Tryz.prog 39 #[.string a, .string b] w fun e w' => e = .returned (.int .i64 (cmpT a.data.toList b.data.toList)) ∧ w = w' := by
  have NA := fun s w => nan_any s w
  have h1 := lessT a b
  have h3 := eqT a b
  rcases cmpT_ways a.data.toList b.data.toList with ⟨e, h⟩ | ⟨e, h⟩ | ⟨e, h, g⟩
  · rw [e]
    rw [decide_eq_true h] at h1
    clear e h h3
    go_enter Tryz.func39, Tryz.ntmps39
    go_wp2_with (go_at_call 70; refine (NA _ _).mono ?_; rintro e w1 ⟨rfl, rfl⟩)
    go_ret
    exact ⟨rfl, rfl⟩
  · rw [e]
    rw [decide_eq_true h] at h3
    rw [decide_eq_false (by rw [h]; exact List.lt_irrefl _)] at h1
    clear e h
    go_enter Tryz.func39, Tryz.ntmps39
    go_wp2_with (go_at_call 70; refine (NA _ _).mono ?_; rintro e w1 ⟨rfl, rfl⟩)
    go_ret
    exact ⟨rfl, rfl⟩
  · rw [e]
    rw [decide_eq_false h] at h1
    rw [decide_eq_false g] at h3
    clear e h g
    go_enter Tryz.func39, Tryz.ntmps39
    go_wp2_with (go_at_call 70; refine (NA _ _).mono ?_; rintro e w1 ⟨rfl, rfl⟩)
    go_ret
    exact ⟨rfl, rfl⟩
def orI (a b : Int) : Int := if a ≠ 0 then a else b
/-- The first that isn't 0. -/
def orL : List Int → Int
  | [] => 0
  | x :: l => orI x (orL l)
theorem orL_zero {xs : List Int} {k : Nat} {x : Int} (h : xs[k]? = some x) : orL (xs.drop k) = if x ≠ 0 then x else orL (xs.drop (k + 1)) := by
  obtain ⟨hk, rfl⟩ := List.getElem?_eq_some_iff.1 h
  rw [List.drop_eq_getElem_cons hk]
  rfl
theorem orL_two (x y : Int) : orL [x, y] = orI x y := by
  unfold orL orL orL orI
  by_cases h : y = 0 <;> simp [h]
theorem or_any (b : Nat) (xs : List Int) (n : Nat) (hn : xs.length = n) (h10 : n ≤ 10) (w : World) (hcell : ∀ (j : Nat) x, xs[j]? = some x → w.cell? ⟨b, j, none⟩ = some (.int .i64 x)) :
    Calls Tryz.prog 37 #[.slice (some ⟨b, 0, none⟩) n n] w fun e w' => e = .returned (.int .i64 (orL xs)) ∧ w = w' := by
  have HC := Lib.hid hcell
  have HN := Lib.hid hn
  clear hcell hn
  go_enter Tryz.func37, Tryz.ntmps37
  go_wp2
  go_loop [8] (fun i => ∃ k : Nat, k ≤ n ∧ i = .int .i64 k ∧ Hid (orL xs = orL (xs.drop k))) (fun i => n - (intOf i).toNat)
  case atStart => exact ⟨0, by omega, rfl, Lib.hid (by simp)⟩
  case round =>
    obtain ⟨k, hk, rfl, H⟩ := hrel
    by_cases hlt : k < n
    · obtain ⟨x, hx⟩ : ∃ x, xs[k]? = some x := ⟨_, List.getElem?_eq_getElem (by rw [HN.out]; exact hlt)⟩
      have hc := HC.out k x hx
      have hz := orL_zero hx
      by_cases h0 : x = 0
      · have HZ : Hid (orL xs = orL (xs.drop (k + 1))) := Lib.hid (by rw [H.out, hz, if_neg (by omega)])
        subst h0
        clear hz hx
        go_wp2
        go_round
        case rel => exact ⟨k + 1, by omega, by go_num, HZ⟩
        case measure => simp [intOf]; omega
      · have HZ : Hid (x = orL xs) := Lib.hid (by rw [H.out, hz, if_pos h0])
        have h0' : (x != 0) = true := by simpa using h0
        clear hz hx h0
        go_wp2
        go_ret
        exact ⟨reti HZ.out, rfl⟩
    · have HZ : Hid (0 = orL xs) := Lib.hid (by rw [H.out, List.drop_eq_nil_of_le (by rw [HN.out]; omega)]; rfl)
      clear H
      go_wp2
      go_ret
      exact ⟨reti HZ.out, rfl⟩
theorem or2 (b : Nat) (z q : Int) (w : World) (h0 : w.cell? ⟨b, 0, none⟩ = some (.int .i64 z)) (h1 : w.cell? ⟨b, 1, none⟩ = some (.int .i64 q)) :
    Calls Tryz.prog 37 #[.slice (some ⟨b, 0, none⟩) 2 2] w fun e w' => e = .returned (.int .i64 (orI z q)) ∧ w = w' := by
  have := or_any b [z, q] 2 rfl (by decide) w (fun j x h => by
    match j, h with
    | 0, h => cases h; exact h0
    | 1, h => cases h; exact h1
    | j + 2, h => simp at h)
  rwa [orL_two] at this
set_option maxRecDepth 100000 in
theorem nanI_any (s : Int) (w : World) : Calls Tryz.prog 69 #[.int .i64 s] w fun e w' => e = .returned (.bool false) ∧ w = w' := by
  have q0 : (s == s) = true := by simp
  go_enter Tryz.func69, Tryz.ntmps69
  go_wp2
  go_ret
  exact ⟨retb (by simp), rfl⟩
def cmpN (a b : Int) : Int := if a < b then -1 else if a = b then 0 else 1
theorem cmpN_ways (a b : Int) : (cmpN a b = -1 ∧ a < b) ∨ (cmpN a b = 0 ∧ a = b) ∨ (cmpN a b = 1 ∧ b < a) := by
  unfold cmpN
  by_cases h : a < b
  · exact .inl ⟨if_pos h, h⟩
  · by_cases e : a = b
    · exact .inr (.inl ⟨by rw [if_neg h, if_pos e], e⟩)
    · exact .inr (.inr ⟨by rw [if_neg h, if_neg e], by omega⟩)
set_option maxRecDepth 100000 in
theorem cmpN_any (a b : Int) (w : World) : Calls Tryz.prog 38 #[.int .i64 a, .int .i64 b] w fun e w' => e = .returned (.int .i64 (cmpN a b)) ∧ w = w' := by
  have NA := fun s w => nanI_any s w
  rcases cmpN_ways a b with ⟨e, h⟩ | ⟨e, h⟩ | ⟨e, h⟩
  · rw [e]
    clear e
    go_enter Tryz.func38, Tryz.ntmps38
    go_wp2_with (go_at_call 69; refine (NA _ _).mono ?_; rintro e w1 ⟨rfl, rfl⟩)
    go_ret
    exact ⟨rfl, rfl⟩
  · rw [e]
    clear e
    subst h
    go_enter Tryz.func38, Tryz.ntmps38
    go_wp2_with (go_at_call 69; refine (NA _ _).mono ?_; rintro e w1 ⟨rfl, rfl⟩)
    go_ret
    exact ⟨rfl, rfl⟩
  · rw [e]
    clear e
    have h1 : ¬ a < b := by omega
    have h2 : ¬ a = b := by omega
    go_enter Tryz.func38, Tryz.ntmps38
    go_wp2_with (go_at_call 69; refine (NA _ _).mono ?_; rintro e w1 ⟨rfl, rfl⟩)
    go_ret
    exact ⟨rfl, rfl⟩
end Go.Proofs.YtnfhccnicojdcaaGreatDoor
namespace Go.Proofs.YtnfhccnicojdcaaGreatDoor
open Go.RowKit
theorem over_cmp (c d : Cv) : decide (orI (cmpN d.1.2.1 c.1.2.1) (cmpT c.1.1 d.1.1) < 0) = overC c d := by
  unfold overC orI
  rcases cmpN_ways d.1.2.1 c.1.2.1 with ⟨e, h⟩ | ⟨e, h⟩ | ⟨e, h⟩
  · rw [e]; simp [h]
  · rw [e, if_neg (by decide), decide_eq_false (show ¬ d.1.2.1 < c.1.2.1 by omega), decide_eq_true h.symm]
    rcases cmpT_ways c.1.1 d.1.1 with ⟨e, h⟩ | ⟨e, h⟩ | ⟨e, h, _⟩
    · rw [e]; simp [h]
    · rw [e, h]; simp [List.lt_irrefl]
    · rw [e, decide_eq_false h]; rfl
  · rw [e]; simp; omega
set_option maxRecDepth 100000 in
set_option maxHeartbeats 8000000 in
theorem better_first (B1 B2 : Nat) (x : Cv) (hu : ∃ a n c, x.2 = .slice a n c) (W : World) (h1 : W.cell? ⟨B1, 0, none⟩ = some (.int .i64 (-1))) (v : Value) (hv : ∃ a n c, v = .slice a n c) (h2 : W.cell? ⟨B2, 0, none⟩ = some v) :
    Calls Tryz.prog 36 #[agZC x, .pointer (some ⟨B1, 0, none⟩), .pointer (some ⟨B2, 0, none⟩)] W fun e w' => e = .returned (.bool true) ∧ Below W.heap.size W w' := by
  unfold agZC
  obtain ⟨a2, n2, m2, hu⟩ := hu
  rw [hu]
  clear hu
  obtain ⟨va, vn, vm, rfl⟩ := hv
  generalize (⟨(x.1.1).toArray⟩ : ByteArray) = X0 at *
  generalize x.1.2.1 = z1 at *
  have l1 := World.block_lt_of_cell? W _ h1
  have l2 := World.block_lt_of_cell? W _ h2
  have B0 := (Below.refl W.heap.size W).alloc (Nat.le_refl _) (.cells #[.string X0, .int .i64 (z1), .slice a2 n2 m2] 32)
  obtain ⟨x0, x1, x2⟩ := boxV3 W (.string X0) (.int .i64 (z1)) (.slice a2 n2 m2) 32
  have k1 := (B0.cell l1).trans h1
  have k2 := (B0.cell l2).trans h2
  clear h1 h2 l1 l2
  obtain ⟨U, hU⟩ : ∃ U : World, U = W := ⟨_, rfl⟩
  have HU := Lib.hid hU
  have BU : Below U.heap.size U (W.alloc (.cells #[.string X0, .int .i64 (z1), .slice a2 n2 m2] 32)) := by rw [hU]; exact B0
  clear B0 hU
  go_enter Tryz.func36, Tryz.ntmps36
  go_wp2
  generalize W.alloc (.cells #[.string X0, .int .i64 (z1), .slice a2 n2 m2] 32) = W2 at *
  generalize hb0 : W.heap.size = b0 at *
  have hs := (And.intro x0 (And.intro x1 (And.intro x2 (And.intro k1 (And.intro k2 BU)))))
  clear hb0
  have j2 : decide ((-1 : Int) < 0) = true := by decide
  have BE := fun (V : World) (h : V.cell? ⟨b0, 0, none⟩ = some (.string X0) ∧ V.cell? ⟨b0, 1, none⟩ = some (.int .i64 (z1)) ∧ V.cell? ⟨b0, 2, none⟩ = some (.slice a2 n2 m2) ∧ V.cell? ⟨B1, 0, none⟩ = some (.int .i64 (-1)) ∧ V.cell? ⟨B2, 0, none⟩ = some (.slice va vn vm) ∧ Below U.heap.size U V) => AtF.be (w := U) (l := [(⟨b0, 0, none⟩, .string X0), (⟨b0, 1, none⟩, .int .i64 (z1)), (⟨b0, 2, none⟩, .slice a2 n2 m2), (⟨B1, 0, none⟩, .int .i64 (-1)), (⟨B2, 0, none⟩, .slice va vn vm)]) h
  refine wp_region_held_drew (S := (fun V => V.cell? ⟨b0, 0, none⟩ = some (.string X0) ∧ V.cell? ⟨b0, 1, none⟩ = some (.int .i64 (z1)) ∧ V.cell? ⟨b0, 2, none⟩ = some (.slice a2 n2 m2) ∧ V.cell? ⟨B1, 0, none⟩ = some (.int .i64 (-1)) ∧ V.cell? ⟨B2, 0, none⟩ = some (.slice va vn vm) ∧ Below U.heap.size U V)) (by kernel_rfl) ?_ (fun hHeld => ?_)
  · (try dsimp only); (first | assumption | exact hs | exact AtF.dr (w := U) (l := [(⟨b0, 0, none⟩, .string X0), (⟨b0, 1, none⟩, .int .i64 (z1)), (⟨b0, 2, none⟩, .slice a2 n2 m2), (⟨B1, 0, none⟩, .int .i64 (-1)), (⟨B2, 0, none⟩, .slice va vn vm)]) hs | exact AtF.dr (w := U) (l := [(⟨b0, 0, none⟩, .string X0), (⟨b0, 1, none⟩, .int .i64 (z1)), (⟨b0, 2, none⟩, .slice a2 n2 m2), (⟨B1, 0, none⟩, .int .i64 (-1)), (⟨B2, 0, none⟩, .slice va vn vm)]) (by assumption) | exact AtF.on (w := U) (l := [(⟨b0, 0, none⟩, .string X0), (⟨b0, 1, none⟩, .int .i64 (z1)), (⟨b0, 2, none⟩, .slice a2 n2 m2), (⟨B1, 0, none⟩, .int .i64 (-1)), (⟨B2, 0, none⟩, .slice va vn vm)]) (by assumption) (by assumption) | exact AtF.al (w := U) (l := [(⟨b0, 0, none⟩, .string X0), (⟨b0, 1, none⟩, .int .i64 (z1)), (⟨b0, 2, none⟩, .slice a2 n2 m2), (⟨B1, 0, none⟩, .int .i64 (-1)), (⟨B2, 0, none⟩, .slice va vn vm)]) (by assumption) _ | exact AtF.ald (w := U) (l := [(⟨b0, 0, none⟩, .string X0), (⟨b0, 1, none⟩, .int .i64 (z1)), (⟨b0, 2, none⟩, .slice a2 n2 m2), (⟨B1, 0, none⟩, .int .i64 (-1)), (⟨B2, 0, none⟩, .slice va vn vm)]) (by assumption) _ | exact AtF.al (w := U) (l := [(⟨b0, 0, none⟩, .string X0), (⟨b0, 1, none⟩, .int .i64 (z1)), (⟨b0, 2, none⟩, .slice a2 n2 m2), (⟨B1, 0, none⟩, .int .i64 (-1)), (⟨B2, 0, none⟩, .slice va vn vm)]) hs _ | exact AtF.ald (w := U) (l := [(⟨b0, 0, none⟩, .string X0), (⟨b0, 1, none⟩, .int .i64 (z1)), (⟨b0, 2, none⟩, .slice a2 n2 m2), (⟨B1, 0, none⟩, .int .i64 (-1)), (⟨B2, 0, none⟩, .slice va vn vm)]) hs _)
  refine heldY 0 5 ?_ _ rfl rfl (by kernel_rfl) (by kernel_rfl) (by kernel_rfl) (fun _ _ _ h => h) rfl (by assumption) ?_ ?_
  rotate_left
  · (intro w hSw; (try dsimp only at hSw); go_simp; (try with_reducible rfl))
  try simp only [List.setIfInBounds_toArray, List.set_cons_zero, List.set_cons_succ]
  refine heldY 1 6 ?_ _ rfl rfl (by kernel_rfl) (by kernel_rfl) (by kernel_rfl) (fun _ _ _ h => h) rfl (by assumption) ?_ ?_
  rotate_left
  · (intro w hSw; (try dsimp only at hSw); go_simp; (try with_reducible rfl))
  try simp only [List.setIfInBounds_toArray, List.set_cons_zero, List.set_cons_succ]
  refine heldY 2 7 ?_ _ rfl rfl (by kernel_rfl) (by kernel_rfl) (by kernel_rfl) (fun _ _ _ h => h) rfl (by assumption) ?_ ?_
  rotate_left
  · (intro w hSw; (try dsimp only at hSw); go_simp; (try with_reducible rfl))
  try simp only [List.setIfInBounds_toArray, List.set_cons_zero, List.set_cons_succ]
  refine heldNo 3 8 rfl (by kernel_rfl) (by kernel_rfl) (by kernel_rfl) (fun _ _ _ h => h) rfl (by assumption) ?_
  try simp only [List.setIfInBounds_toArray, List.set_cons_zero, List.set_cons_succ]
  refine heldNo 4 9 rfl (by kernel_rfl) (by kernel_rfl) (by kernel_rfl) (fun _ _ _ h => h) rfl (by assumption) ?_
  try simp only [List.setIfInBounds_toArray, List.set_cons_zero, List.set_cons_succ]
  refine heldNo 5 10 rfl (by kernel_rfl) (by kernel_rfl) (by kernel_rfl) (fun _ _ _ h => h) rfl (by assumption) ?_
  try simp only [List.setIfInBounds_toArray, List.set_cons_zero, List.set_cons_succ]
  refine heldNo 6 11 rfl (by kernel_rfl) (by kernel_rfl) (by kernel_rfl) (fun _ _ _ h => h) rfl (by assumption) ?_
  try simp only [List.setIfInBounds_toArray, List.set_cons_zero, List.set_cons_succ]
  refine heldNo 7 12 rfl (by kernel_rfl) (by kernel_rfl) (by kernel_rfl) (fun _ _ _ h => h) rfl (by assumption) ?_
  try simp only [List.setIfInBounds_toArray, List.set_cons_zero, List.set_cons_succ]
  refine heldNo 8 13 rfl (by kernel_rfl) (by kernel_rfl) (by kernel_rfl) (fun _ _ _ h => h) rfl (by assumption) ?_
  try simp only [List.setIfInBounds_toArray, List.set_cons_zero, List.set_cons_succ]
  refine heldNo 9 14 rfl (by kernel_rfl) (by kernel_rfl) (by kernel_rfl) (fun _ _ _ h => h) rfl (by assumption) ?_
  try simp only [List.setIfInBounds_toArray, List.set_cons_zero, List.set_cons_succ]
  refine heldNo 10 15 rfl (by kernel_rfl) (by kernel_rfl) (by kernel_rfl) (fun _ _ _ h => h) rfl (by assumption) ?_
  try simp only [List.setIfInBounds_toArray, List.set_cons_zero, List.set_cons_succ]
  refine heldNo 11 16 rfl (by kernel_rfl) (by kernel_rfl) (by kernel_rfl) (fun _ _ _ h => h) rfl (by assumption) ?_
  try simp only [List.setIfInBounds_toArray, List.set_cons_zero, List.set_cons_succ]
  refine heldNo 12 17 rfl (by kernel_rfl) (by kernel_rfl) (by kernel_rfl) (fun _ _ _ h => h) rfl (by assumption) ?_
  try simp only [List.setIfInBounds_toArray, List.set_cons_zero, List.set_cons_succ]
  refine heldNo 13 18 rfl (by kernel_rfl) (by kernel_rfl) (by kernel_rfl) (fun _ _ _ h => h) rfl (by assumption) ?_
  try simp only [List.setIfInBounds_toArray, List.set_cons_zero, List.set_cons_succ]
  refine heldNo 14 19 rfl (by kernel_rfl) (by kernel_rfl) (by kernel_rfl) (fun _ _ _ h => h) rfl (by assumption) ?_
  try simp only [List.setIfInBounds_toArray, List.set_cons_zero, List.set_cons_succ]
  refine heldNo 15 20 rfl (by kernel_rfl) (by kernel_rfl) (by kernel_rfl) (fun _ _ _ h => h) rfl (by assumption) ?_
  try simp only [List.setIfInBounds_toArray, List.set_cons_zero, List.set_cons_succ]
  refine heldNo 16 21 rfl (by kernel_rfl) (by kernel_rfl) (by kernel_rfl) (fun _ _ _ h => h) rfl (by assumption) ?_
  try simp only [List.setIfInBounds_toArray, List.set_cons_zero, List.set_cons_succ]
  refine heldNo 17 22 rfl (by kernel_rfl) (by kernel_rfl) (by kernel_rfl) (fun _ _ _ h => h) rfl (by assumption) ?_
  try simp only [List.setIfInBounds_toArray, List.set_cons_zero, List.set_cons_succ]
  refine heldNo 18 23 rfl (by kernel_rfl) (by kernel_rfl) (by kernel_rfl) (fun _ _ _ h => h) rfl (by assumption) ?_
  try simp only [List.setIfInBounds_toArray, List.set_cons_zero, List.set_cons_succ]
  refine heldNo 19 24 rfl (by kernel_rfl) (by kernel_rfl) (by kernel_rfl) (fun _ _ _ h => h) rfl (by assumption) ?_
  try simp only [List.setIfInBounds_toArray, List.set_cons_zero, List.set_cons_succ]
  refine heldNo 20 25 rfl (by kernel_rfl) (by kernel_rfl) (by kernel_rfl) (fun _ _ _ h => h) rfl (by assumption) ?_
  try simp only [List.setIfInBounds_toArray, List.set_cons_zero, List.set_cons_succ]
  refine heldNo 21 26 rfl (by kernel_rfl) (by kernel_rfl) (by kernel_rfl) (fun _ _ _ h => h) rfl (by assumption) ?_
  try simp only [List.setIfInBounds_toArray, List.set_cons_zero, List.set_cons_succ]
  refine heldY 22 27 ?_ _ rfl rfl (by kernel_rfl) (by kernel_rfl) (by kernel_rfl) (fun _ _ _ h => h) rfl (by assumption) ?_ ?_
  rotate_left
  · (intro w hSw; (try dsimp only at hSw); go_simp; (try with_reducible rfl))
  try simp only [List.setIfInBounds_toArray, List.set_cons_zero, List.set_cons_succ]
  refine heldY 23 4 ?_ _ rfl rfl (by kernel_rfl) (by kernel_rfl) (by kernel_rfl) (fun _ _ _ h => h) rfl (by assumption) ?_ ?_
  rotate_left
  · (intro w hSw; (try dsimp only at hSw); go_simp; (try with_reducible rfl))
  try simp only [List.setIfInBounds_toArray, List.set_cons_zero, List.set_cons_succ]
  refine wpAnyH_done (by kernel_rfl) ?_ _
  have HW3 := Lib.hid (BE _ hHeld)
  clear hHeld
  go_wp2
  go_ret
  exact ⟨rfl, by rw [HU.out] at HW3; exact HW3.out⟩
end Go.Proofs.YtnfhccnicojdcaaGreatDoor
namespace Go.Proofs.YtnfhccnicojdcaaGreatDoor
open Go.RowKit
set_option maxRecDepth 100000 in
set_option maxHeartbeats 8000000 in
theorem better_next (B1 B2 : Nat) (x : Cv) (hu : ∃ a n c, x.2 = .slice a n c) (l : List Cv) (hl : l.length ≤ 90000) (v : Value) (m : Nat) (d : Cv) (hm : l[m]? = some d) (W : World) (h : HoldC W v l) (h1 : W.cell? ⟨B1, 0, none⟩ = some (.int .i64 m)) (h2 : W.cell? ⟨B2, 0, none⟩ = some v) :
    Calls Tryz.prog 36 #[agZC x, .pointer (some ⟨B1, 0, none⟩), .pointer (some ⟨B2, 0, none⟩)] W fun e w' => e = .returned (.bool (overC x d)) ∧ Below W.heap.size W w' := by
  obtain ⟨a, c, b, o, rfl, hc, ha, hcell⟩ := h.parts
  have hml := (List.getElem?_eq_some_iff.1 hm).1
  obtain ⟨rfl, hbw⟩ := ha (by omega)
  obtain ⟨d0, d1, d2⟩ := hcell m d hm
  have CN := fun W => cmpN_any d.1.2.1 x.1.2.1 W
  have CT := fun W => cmp_any (⟨(x.1.1).toArray⟩ : ByteArray) (⟨(d.1.1).toArray⟩ : ByteArray) W
  rw [bytesOf, bytesOf] at CT
  have HOV := Lib.hid (over_cmp x d)
  rw [← HOV.out]
  unfold agZC
  obtain ⟨a2, n2, m2, hu⟩ := hu
  rw [hu]
  clear hu h hcell hm HOV d2
  generalize cmpN d.1.2.1 x.1.2.1 = p at *
  generalize cmpT x.1.1 d.1.1 = q at *
  generalize (⟨(x.1.1).toArray⟩ : ByteArray) = X0 at *
  generalize (⟨(d.1.1).toArray⟩ : ByteArray) = D0 at *
  generalize x.1.2.1 = z1 at *
  generalize d.1.2.1 = y1 at *
  generalize l.length = n at *
  have l1 := World.block_lt_of_cell? W _ h1
  have l2 := World.block_lt_of_cell? W _ h2
  have B0 := (Below.refl W.heap.size W).alloc (Nat.le_refl _) (.cells #[.string X0, .int .i64 (z1), .slice a2 n2 m2] 32)
  obtain ⟨x0, x1, x2⟩ := boxV3 W (.string X0) (.int .i64 (z1)) (.slice a2 n2 m2) 32
  have k1 := (B0.cell l1).trans h1
  have k2 := (B0.cell l2).trans h2
  have k3 := (B0.cell (p := ⟨b, o + m * 3, none⟩) hbw).trans d0
  have k4 := (B0.cell (p := ⟨b, o + m * 3 + 1, none⟩) hbw).trans d1
  clear h1 h2 l1 l2 d0 d1 hbw ha
  obtain ⟨U, hU⟩ : ∃ U : World, U = W := ⟨_, rfl⟩
  have HU := Lib.hid hU
  have BU : Below U.heap.size U (W.alloc (.cells #[.string X0, .int .i64 (z1), .slice a2 n2 m2] 32)) := by rw [hU]; exact B0
  clear B0 hU
  have j0 : (0 : Int) ≤ (m : Int) := by omega
  have j1 : (m : Int) < (n : Int) := by omega
  have j2 : decide ((m : Int) < 0) = false := decide_eq_false (by omega)
  go_enter Tryz.func36, Tryz.ntmps36
  go_wp2
  generalize W.alloc (.cells #[.string X0, .int .i64 (z1), .slice a2 n2 m2] 32) = W2 at *
  generalize hb0 : W.heap.size = b0 at *
  have hs := (And.intro x0 (And.intro x1 (And.intro x2 (And.intro k1 (And.intro k2 (And.intro k3 (And.intro k4 BU)))))))
  clear hb0
  have BE := fun (V : World) (h : V.cell? ⟨b0, 0, none⟩ = some (.string X0) ∧ V.cell? ⟨b0, 1, none⟩ = some (.int .i64 (z1)) ∧ V.cell? ⟨b0, 2, none⟩ = some (.slice a2 n2 m2) ∧ V.cell? ⟨B1, 0, none⟩ = some (.int .i64 m) ∧ V.cell? ⟨B2, 0, none⟩ = some (.slice (some ⟨b, o, none⟩) n c) ∧ V.cell? ⟨b, o + m * 3, none⟩ = some (.string D0) ∧ V.cell? ⟨b, o + m * 3 + 1, none⟩ = some (.int .i64 y1) ∧ Below U.heap.size U V) => AtF.be (w := U) (l := [(⟨b0, 0, none⟩, .string X0), (⟨b0, 1, none⟩, .int .i64 (z1)), (⟨b0, 2, none⟩, .slice a2 n2 m2), (⟨B1, 0, none⟩, .int .i64 m), (⟨B2, 0, none⟩, .slice (some ⟨b, o, none⟩) n c), (⟨b, o + m * 3, none⟩, .string D0), (⟨b, o + m * 3 + 1, none⟩, .int .i64 y1)]) h
  go_region_held3 (fun V => V.cell? ⟨b0, 0, none⟩ = some (.string X0) ∧ V.cell? ⟨b0, 1, none⟩ = some (.int .i64 (z1)) ∧ V.cell? ⟨b0, 2, none⟩ = some (.slice a2 n2 m2) ∧ V.cell? ⟨B1, 0, none⟩ = some (.int .i64 m) ∧ V.cell? ⟨B2, 0, none⟩ = some (.slice (some ⟨b, o, none⟩) n c) ∧ V.cell? ⟨b, o + m * 3, none⟩ = some (.string D0) ∧ V.cell? ⟨b, o + m * 3 + 1, none⟩ = some (.int .i64 y1) ∧ Below U.heap.size U V)
    (first | assumption | exact hs | exact AtF.dr (w := U) (l := [(⟨b0, 0, none⟩, .string X0), (⟨b0, 1, none⟩, .int .i64 (z1)), (⟨b0, 2, none⟩, .slice a2 n2 m2), (⟨B1, 0, none⟩, .int .i64 m), (⟨B2, 0, none⟩, .slice (some ⟨b, o, none⟩) n c), (⟨b, o + m * 3, none⟩, .string D0), (⟨b, o + m * 3 + 1, none⟩, .int .i64 y1)]) hs | exact AtF.dr (w := U) (l := [(⟨b0, 0, none⟩, .string X0), (⟨b0, 1, none⟩, .int .i64 (z1)), (⟨b0, 2, none⟩, .slice a2 n2 m2), (⟨B1, 0, none⟩, .int .i64 m), (⟨B2, 0, none⟩, .slice (some ⟨b, o, none⟩) n c), (⟨b, o + m * 3, none⟩, .string D0), (⟨b, o + m * 3 + 1, none⟩, .int .i64 y1)]) (by assumption) | exact AtF.on (w := U) (l := [(⟨b0, 0, none⟩, .string X0), (⟨b0, 1, none⟩, .int .i64 (z1)), (⟨b0, 2, none⟩, .slice a2 n2 m2), (⟨B1, 0, none⟩, .int .i64 m), (⟨B2, 0, none⟩, .slice (some ⟨b, o, none⟩) n c), (⟨b, o + m * 3, none⟩, .string D0), (⟨b, o + m * 3 + 1, none⟩, .int .i64 y1)]) (by assumption) (by assumption) | exact AtF.al (w := U) (l := [(⟨b0, 0, none⟩, .string X0), (⟨b0, 1, none⟩, .int .i64 (z1)), (⟨b0, 2, none⟩, .slice a2 n2 m2), (⟨B1, 0, none⟩, .int .i64 m), (⟨B2, 0, none⟩, .slice (some ⟨b, o, none⟩) n c), (⟨b, o + m * 3, none⟩, .string D0), (⟨b, o + m * 3 + 1, none⟩, .int .i64 y1)]) (by assumption) _ | exact AtF.ald (w := U) (l := [(⟨b0, 0, none⟩, .string X0), (⟨b0, 1, none⟩, .int .i64 (z1)), (⟨b0, 2, none⟩, .slice a2 n2 m2), (⟨B1, 0, none⟩, .int .i64 m), (⟨B2, 0, none⟩, .slice (some ⟨b, o, none⟩) n c), (⟨b, o + m * 3, none⟩, .string D0), (⟨b, o + m * 3 + 1, none⟩, .int .i64 y1)]) (by assumption) _ | exact AtF.al (w := U) (l := [(⟨b0, 0, none⟩, .string X0), (⟨b0, 1, none⟩, .int .i64 (z1)), (⟨b0, 2, none⟩, .slice a2 n2 m2), (⟨B1, 0, none⟩, .int .i64 m), (⟨B2, 0, none⟩, .slice (some ⟨b, o, none⟩) n c), (⟨b, o + m * 3, none⟩, .string D0), (⟨b, o + m * 3 + 1, none⟩, .int .i64 y1)]) hs _ | exact AtF.ald (w := U) (l := [(⟨b0, 0, none⟩, .string X0), (⟨b0, 1, none⟩, .int .i64 (z1)), (⟨b0, 2, none⟩, .slice a2 n2 m2), (⟨B1, 0, none⟩, .int .i64 m), (⟨B2, 0, none⟩, .slice (some ⟨b, o, none⟩) n c), (⟨b, o + m * 3, none⟩, .string D0), (⟨b, o + m * 3 + 1, none⟩, .int .i64 y1)]) hs _)
    ((first | (go_at_call 38; (with_reducible refine (CN _).mono ?_); rintro e w3 ⟨rfl, rfl⟩) | (go_at_call 39; (with_reducible refine (CT _).mono ?_); rintro e w3 ⟨rfl, rfl⟩) | (go_at_call 37; refine (or2 _ p q _ (by simp [World.cell?_alloc_new]) (by simp [World.cell?_alloc_new])).mono ?_; rintro e w3 ⟨rfl, rfl⟩)))
  all_goals
    rename_i hHeld
    have HW3 := Lib.hid (BE _ hHeld)
    clear hHeld
    go_wp2
    go_ret
    exact ⟨rfl, by rw [HU.out] at HW3; exact HW3.out⟩
structure Box1 (w : World) (b : Nat) (x : Value) : Prop where
  c0 : w.cell? ⟨b, 0, none⟩ = some x
  f : w.frozen? ⟨b, 0, none⟩ = false
theorem Box1.lt {w : World} {b : Nat} {x : Value} (h : Box1 w b x) : b < w.heap.size := World.block_lt_of_cell? _ _ h.c0
theorem Box1.new (A : World) (x : Value) (t : TypeId) : Box1 (A.alloc (.cells #[x] t)) A.heap.size x :=
  ⟨boxV1 A x t, frozen_of_row _ A.heap.size 0 _ t (heap_alloc_new A _)⟩
theorem Box1.on {A B : World} {b : Nat} {x : Value} (h : Box1 A b x) (hb : Below A.heap.size A B) : Box1 B b x :=
  ⟨(hb.cell (p := ⟨b, 0, none⟩) h.lt).trans h.c0, (hb.frozen (p := ⟨b, 0, none⟩) h.lt).trans h.f⟩
theorem Box1.set {w : World} {b : Nat} {x : Value} (h : Box1 w b x) (u : Value) : Box1 (w.setCell ⟨b, 0, none⟩ u) b u :=
  ⟨World.cell?_setCell_same _ _ _ h.c0, by rw [World.frozen?_setCell]; exact h.f⟩
set_option maxRecDepth 100000 in
set_option maxHeartbeats 8000000 in
theorem bestC_any (v : Value) (l : List Cv) (hl : l.length ≤ 90000) (w : World) (h : HoldC w v l) : Calls Tryz.prog 11 #[v] w fun e w' => e = .returned (.int .i64 (bestC l)) ∧ Below w.heap.size w w' := by
  have HH := Lib.hid h
  obtain ⟨a, c, b, o, rfl, hc, ha, hcell⟩ := h.parts
  have HC := Lib.hid hcell
  have HIN := Lib.hid h.2
  obtain ⟨n, hN⟩ : ∃ n, l.length = n := ⟨_, rfl⟩
  have HF : Hid (bestC l = bestAt l n) := Lib.hid (by unfold bestC; rw [hN])
  rw [hN] at hc ha hl HH ⊢
  have HN := Lib.hid hN
  rw [HF.out]
  clear hcell hN h HF
  have B1 := (Below.refl w.heap.size w).alloc (Nat.le_refl _) (.cells #[.slice a n c] 22)
  have B2 := B1.alloc B1.size (.cells #[.int .i64 (-1)] 3)
  have q1 := boxV1 w (.slice a n c) 22
  have q2 := Box1.new (w.alloc (.cells #[.slice a n c] 22)) (.int .i64 (-1)) 3
  rw [World.size_alloc] at q2
  have q1 := (((Below.refl (w.alloc (.cells #[.slice a n c] 22)).heap.size (w.alloc (.cells #[.slice a n c] 22))).alloc (Nat.le_refl _) (.cells #[.int .i64 (-1)] 3)).cell (p := ⟨w.heap.size, 0, none⟩) (World.block_lt_of_cell? _ _ q1)).trans q1
  have HQ := Lib.hid (And.intro q1 (And.intro q2 B2))
  clear q1 q2 B1 B2
  go_enter Tryz.func11, Tryz.ntmps11
  go_wp2
  go_loopw [10] (fun i wr => ∃ k : Nat, k ≤ n ∧ i = .int .i64 k ∧ Hid (Box1 wr (w.heap.size + 1) (.int .i64 (bestAt l k))) ∧ Hid (wr.cell? ⟨w.heap.size, 0, none⟩ = some (.slice a n c)) ∧ Hid (Below w.heap.size w wr)) (fun i _ => n - (intOf i).toNat)
  case atStart => exact ⟨0, by omega, rfl, Lib.hid HQ.out.2.1, Lib.hid HQ.out.1, Lib.hid HQ.out.2.2⟩
  case round =>
    obtain ⟨k, hk, rfl, HX, HV, HB⟩ := hrel
    have hsz := HB.out.size
    by_cases hlt : k < n
    · obtain ⟨rfl, hbw⟩ := ha (by omega)
      obtain ⟨x, hx⟩ : ∃ x, l[k]? = some x := ⟨_, List.getElem?_eq_getElem (by rw [HN.out]; exact hlt)⟩
      obtain ⟨c0, c1, c2⟩ := HC.out k x hx
      rw [← HB.out.cell (p := ⟨b, o + k * 3, none⟩) hbw] at c0
      rw [← HB.out.cell (p := ⟨b, o + k * 3 + 1, none⟩) hbw] at c1
      rw [← HB.out.cell (p := ⟨b, o + k * 3 + 2, none⟩) hbw] at c2
      obtain ⟨ua, un, uc, hu⟩ := formC (HIN.out x (List.mem_of_getElem? hx))
      have B3 := (Below.refl wr.heap.size wr).alloc (Nat.le_refl _) (.cells #[.string (⟨x.1.1.toArray⟩ : ByteArray), .int .i64 x.1.2.1, .slice ua un uc] 32)
      obtain ⟨x0, x1, x2⟩ := boxV3 wr (.string (⟨x.1.1.toArray⟩ : ByteArray)) (.int .i64 x.1.2.1) (.slice ua un uc) 32
      have HX3 := Lib.hid (HX.out.on B3)
      have hv3 := (B3.cell (p := ⟨w.heap.size, 0, none⟩) (World.block_lt_of_cell? _ _ HV.out)).trans HV.out
      have HB3 := Lib.hid (HB.out.trans (B3.mono hsz))
      have hNEXT : ∃ (r : Bool) (z : Int), (r = true → z = k) ∧ (r = false → z = bestAt l k) ∧ z = bestAt l (k + 1) ∧ Calls Tryz.prog 36 #[agZC x, .pointer (some ⟨w.heap.size + 1, 0, none⟩), .pointer (some ⟨w.heap.size, 0, none⟩)] (wr.alloc (.cells #[.string (⟨x.1.1.toArray⟩ : ByteArray), .int .i64 x.1.2.1, .slice ua un uc] 32)) fun e w' => e = .returned (.bool r) ∧ Below (wr.alloc (.cells #[.string (⟨x.1.1.toArray⟩ : ByteArray), .int .i64 x.1.2.1, .slice ua un uc] 32)).heap.size (wr.alloc (.cells #[.string (⟨x.1.1.toArray⟩ : ByteArray), .int .i64 x.1.2.1, .slice ua un uc] 32)) w' := by
        rcases bestAt_range l k (by rw [HN.out]; omega) with ⟨h1, h0⟩ | ⟨h1, h2⟩
        · refine ⟨true, k, fun _ => rfl, fun q => (by cases q), (bestAt_first hx (by omega)).symm, better_first _ _ x ⟨_, _, _, hu⟩ _ (by rw [← h1]; exact HX3.out.c0) _ ⟨_, _, _, rfl⟩ hv3⟩
        · obtain ⟨m, hm⟩ : ∃ m : Nat, bestAt l k = m := ⟨(bestAt l k).toNat, by omega⟩
          obtain ⟨d, hd⟩ : ∃ d, l[m]? = some d := ⟨_, List.getElem?_eq_getElem (by rw [HN.out]; omega)⟩
          have := better_next (w.heap.size + 1) w.heap.size x ⟨_, _, _, hu⟩ l (by rw [HN.out]; exact hl) _ m d hd _ (HoldC.on HH.out HB3.out) (by rw [← hm]; exact HX3.out.c0) hv3
          cases ho : overC x d
          · rw [ho] at this
            exact ⟨false, m, fun q => (by cases q), fun _ => hm.symm, (bestAt_stay hx hm hd ho).symm, this⟩
          · rw [ho] at this
            exact ⟨true, k, fun _ => rfl, fun q => (by cases q), (bestAt_over hx hm hd ho).symm, this⟩
      obtain ⟨r, z, hz1, hz2, hz3, CL⟩ := hNEXT
      unfold agZC at CL
      rw [hu] at CL c2
      have HZ3 := Lib.hid hz3
      generalize bestAt l k = y at *
      generalize (⟨x.1.1.toArray⟩ : ByteArray) = X0 at *
      generalize x.1.2.1 = z1 at *
      clear hx hu hz3 HH HX HV HIN HC B3
      cases r
      · obtain rfl := hz2 rfl
        clear hz1 hz2
        go_wp2_with (go_at_call 36; (with_reducible refine CL.mono ?_); rintro e w4 ⟨rfl, hb⟩; have HX4 := Lib.hid (HX3.out.on hb); have HV4 := Lib.hid ((hb.cell (p := ⟨w.heap.size, 0, none⟩) (World.block_lt_of_cell? _ _ hv3)).trans hv3); have HB4 := Lib.hid (HB3.out.trans (hb.mono HB3.out.size)); clear hb)
        go_roundw
        case rel => exact ⟨k + 1, by omega, by go_num, by rw [← HZ3.out]; exact HX4, HV4, HB4⟩
        case measure => simp [intOf]; omega
      · obtain rfl := hz1 rfl
        clear hz1 hz2
        go_wp2_with (go_at_call 36; (with_reducible refine CL.mono ?_); rintro e w4 ⟨rfl, hb⟩; have HX4 := Lib.hid (HX3.out.on hb); have HV4 := Lib.hid ((hb.cell (p := ⟨w.heap.size, 0, none⟩) (World.block_lt_of_cell? _ _ hv3)).trans hv3); have HB4 := Lib.hid (HB3.out.trans (hb.mono HB3.out.size)); clear hb; have hw0 := HX4.out.c0; have hw1 := HX4.out.f)
        go_roundw
        case rel => exact ⟨k + 1, by omega, by go_num, by rw [← HZ3.out]; exact Lib.hid (HX4.out.set _), Lib.hid ((World.cell?_setCell_other _ _ _ _ (fun e => by have := congrArg Addr.block e; simp at this)).trans HV4.out), Lib.hid (HB4.out.setCell (p := ⟨w.heap.size + 1, 0, none⟩) (by simp) _)⟩
        case measure => simp [intOf]; omega
    · obtain rfl : k = n := by omega
      have hx0 := HX.out.c0
      clear hlt HH
      go_wp2
      go_ret
      exact ⟨rfl, HB.out⟩
set_option maxRecDepth 100000 in
set_option maxHeartbeats 8000000 in
theorem bestC_ref (v : Value) (l : List Cv) (hl : l.length ≤ 90000) (w : World) (h : HoldC w v l) : Calls Tryz.prog 12 #[v] w fun e w' => e = .returned (.int .i64 (bestC l)) ∧ Below w.heap.size w w' := by
  obtain ⟨a, c, b, o, rfl, hc, ha, hcell⟩ := h.parts
  have HC := Lib.hid hcell
  obtain ⟨n, hN⟩ : ∃ n, l.length = n := ⟨_, rfl⟩
  have HF : Hid (bestC l = bestAt l n) := Lib.hid (by unfold bestC; rw [hN])
  rw [hN] at hc ha hl ⊢
  have HN := Lib.hid hN
  rw [HF.out]
  clear hcell hN h HF
  go_enter Tryz.func12, Tryz.ntmps12
  go_wp2
  go_loopw [3, 4] (fun t i wr => ∃ k : Nat, k ≤ n ∧ i = .int .i64 k ∧ t = .int .i64 (bestAt l k) ∧ Hid (Below w.heap.size w wr)) (fun _ i _ => n - (intOf i).toNat)
  case atStart => exact ⟨0, by omega, rfl, rfl, Lib.hid (Below.refl _ _)⟩
  case round =>
    obtain ⟨k, hk, rfl, rfl, HB⟩ := hrel
    have hsz := HB.out.size
    by_cases hlt : k < n
    · obtain ⟨rfl, hbw⟩ := ha (by omega)
      obtain ⟨x, hx⟩ : ∃ x, l[k]? = some x := ⟨_, List.getElem?_eq_getElem (by rw [HN.out]; exact hlt)⟩
      obtain ⟨c0, c1, c2⟩ := HC.out k x hx
      rw [← HB.out.cell (p := ⟨b, o + k * 3, none⟩) hbw] at c0
      rw [← HB.out.cell (p := ⟨b, o + k * 3 + 1, none⟩) hbw] at c1
      have j0 : (0 : Int) ≤ (k : Int) := by omega
      have j1 : (k : Int) < (n : Int) := by omega
      rcases bestAt_range l k (by rw [HN.out]; omega) with ⟨h1, h0⟩ | ⟨h1, h2⟩
      · have HE : Hid (((k : Nat) : Int) = bestAt l (k + 1)) := Lib.hid (bestAt_first hx (by omega)).symm
        rw [h1]
        have j2 : decide ((-1 : Int) < 0) = true := by decide
        have hs := HB.out
        clear hx c0 c1 c2 h1 h0 HC
        go_wp2
        have BE := fun (V : World) (h : Below w.heap.size w V) => AtF.be (w := w) (l := []) h
        refine wp_region_held_drew (S := (fun V => Below w.heap.size w V)) (by kernel_rfl) ?_ (fun hHeld => ?_)
        · (try dsimp only); (first | assumption | exact hs | exact AtF.dr (w := w) (l := []) hs | exact AtF.dr (w := w) (l := []) (by assumption) | exact AtF.on (w := w) (l := []) (by assumption) (by assumption) | exact AtF.al (w := w) (l := []) (by assumption) _ | exact AtF.ald (w := w) (l := []) (by assumption) _ | exact AtF.al (w := w) (l := []) hs _ | exact AtF.ald (w := w) (l := []) hs _)
        refine heldY 0 11 ?_ _ rfl rfl (by kernel_rfl) (by kernel_rfl) (by kernel_rfl) (fun _ _ _ h => h) rfl (by assumption) ?_ ?_
        rotate_left
        · (intro w hSw; (try dsimp only at hSw); go_simp; (try with_reducible rfl))
        try simp only [List.setIfInBounds_toArray, List.set_cons_zero, List.set_cons_succ]
        refine heldY 1 12 ?_ _ rfl rfl (by kernel_rfl) (by kernel_rfl) (by kernel_rfl) (fun _ _ _ h => h) rfl (by assumption) ?_ ?_
        rotate_left
        · (intro w hSw; (try dsimp only at hSw); go_simp; (try with_reducible rfl))
        try simp only [List.setIfInBounds_toArray, List.set_cons_zero, List.set_cons_succ]
        refine heldY 2 13 ?_ _ rfl rfl (by kernel_rfl) (by kernel_rfl) (by kernel_rfl) (fun _ _ _ h => h) rfl (by assumption) ?_ ?_
        rotate_left
        · (intro w hSw; (try dsimp only at hSw); go_simp; (try with_reducible rfl))
        try simp only [List.setIfInBounds_toArray, List.set_cons_zero, List.set_cons_succ]
        refine heldNo 3 14 rfl (by kernel_rfl) (by kernel_rfl) (by kernel_rfl) (fun _ _ _ h => h) rfl (by assumption) ?_
        try simp only [List.setIfInBounds_toArray, List.set_cons_zero, List.set_cons_succ]
        refine heldNo 4 15 rfl (by kernel_rfl) (by kernel_rfl) (by kernel_rfl) (fun _ _ _ h => h) rfl (by assumption) ?_
        try simp only [List.setIfInBounds_toArray, List.set_cons_zero, List.set_cons_succ]
        refine heldNo 5 16 rfl (by kernel_rfl) (by kernel_rfl) (by kernel_rfl) (fun _ _ _ h => h) rfl (by assumption) ?_
        try simp only [List.setIfInBounds_toArray, List.set_cons_zero, List.set_cons_succ]
        refine heldNo 6 17 rfl (by kernel_rfl) (by kernel_rfl) (by kernel_rfl) (fun _ _ _ h => h) rfl (by assumption) ?_
        try simp only [List.setIfInBounds_toArray, List.set_cons_zero, List.set_cons_succ]
        refine heldNo 7 18 rfl (by kernel_rfl) (by kernel_rfl) (by kernel_rfl) (fun _ _ _ h => h) rfl (by assumption) ?_
        try simp only [List.setIfInBounds_toArray, List.set_cons_zero, List.set_cons_succ]
        refine heldNo 8 19 rfl (by kernel_rfl) (by kernel_rfl) (by kernel_rfl) (fun _ _ _ h => h) rfl (by assumption) ?_
        try simp only [List.setIfInBounds_toArray, List.set_cons_zero, List.set_cons_succ]
        refine heldNo 9 20 rfl (by kernel_rfl) (by kernel_rfl) (by kernel_rfl) (fun _ _ _ h => h) rfl (by assumption) ?_
        try simp only [List.setIfInBounds_toArray, List.set_cons_zero, List.set_cons_succ]
        refine heldNo 10 21 rfl (by kernel_rfl) (by kernel_rfl) (by kernel_rfl) (fun _ _ _ h => h) rfl (by assumption) ?_
        try simp only [List.setIfInBounds_toArray, List.set_cons_zero, List.set_cons_succ]
        refine heldNo 11 22 rfl (by kernel_rfl) (by kernel_rfl) (by kernel_rfl) (fun _ _ _ h => h) rfl (by assumption) ?_
        try simp only [List.setIfInBounds_toArray, List.set_cons_zero, List.set_cons_succ]
        refine heldNo 12 23 rfl (by kernel_rfl) (by kernel_rfl) (by kernel_rfl) (fun _ _ _ h => h) rfl (by assumption) ?_
        try simp only [List.setIfInBounds_toArray, List.set_cons_zero, List.set_cons_succ]
        refine heldNo 13 24 rfl (by kernel_rfl) (by kernel_rfl) (by kernel_rfl) (fun _ _ _ h => h) rfl (by assumption) ?_
        try simp only [List.setIfInBounds_toArray, List.set_cons_zero, List.set_cons_succ]
        refine heldY 14 25 ?_ _ rfl rfl (by kernel_rfl) (by kernel_rfl) (by kernel_rfl) (fun _ _ _ h => h) rfl (by assumption) ?_ ?_
        rotate_left
        · (intro w hSw; (try dsimp only at hSw); go_simp; (try with_reducible rfl))
        try simp only [List.setIfInBounds_toArray, List.set_cons_zero, List.set_cons_succ]
        refine heldY 15 26 ?_ _ rfl rfl (by kernel_rfl) (by kernel_rfl) (by kernel_rfl) (fun _ _ _ h => h) rfl (by assumption) ?_ ?_
        rotate_left
        · (intro w hSw; (try dsimp only at hSw); go_simp; (try with_reducible rfl))
        try simp only [List.setIfInBounds_toArray, List.set_cons_zero, List.set_cons_succ]
        refine heldNo 16 27 rfl (by kernel_rfl) (by kernel_rfl) (by kernel_rfl) (fun _ _ _ h => h) rfl (by assumption) ?_
        try simp only [List.setIfInBounds_toArray, List.set_cons_zero, List.set_cons_succ]
        refine heldNo 17 28 rfl (by kernel_rfl) (by kernel_rfl) (by kernel_rfl) (fun _ _ _ h => h) rfl (by assumption) ?_
        try simp only [List.setIfInBounds_toArray, List.set_cons_zero, List.set_cons_succ]
        refine heldNo 18 29 rfl (by kernel_rfl) (by kernel_rfl) (by kernel_rfl) (fun _ _ _ h => h) rfl (by assumption) ?_
        try simp only [List.setIfInBounds_toArray, List.set_cons_zero, List.set_cons_succ]
        refine heldNo 19 30 rfl (by kernel_rfl) (by kernel_rfl) (by kernel_rfl) (fun _ _ _ h => h) rfl (by assumption) ?_
        try simp only [List.setIfInBounds_toArray, List.set_cons_zero, List.set_cons_succ]
        refine heldNo 20 31 rfl (by kernel_rfl) (by kernel_rfl) (by kernel_rfl) (fun _ _ _ h => h) rfl (by assumption) ?_
        try simp only [List.setIfInBounds_toArray, List.set_cons_zero, List.set_cons_succ]
        refine heldNo 21 32 rfl (by kernel_rfl) (by kernel_rfl) (by kernel_rfl) (fun _ _ _ h => h) rfl (by assumption) ?_
        try simp only [List.setIfInBounds_toArray, List.set_cons_zero, List.set_cons_succ]
        refine heldNo 22 33 rfl (by kernel_rfl) (by kernel_rfl) (by kernel_rfl) (fun _ _ _ h => h) rfl (by assumption) ?_
        try simp only [List.setIfInBounds_toArray, List.set_cons_zero, List.set_cons_succ]
        refine heldNo 23 34 rfl (by kernel_rfl) (by kernel_rfl) (by kernel_rfl) (fun _ _ _ h => h) rfl (by assumption) ?_
        try simp only [List.setIfInBounds_toArray, List.set_cons_zero, List.set_cons_succ]
        refine heldNo 24 35 rfl (by kernel_rfl) (by kernel_rfl) (by kernel_rfl) (fun _ _ _ h => h) rfl (by assumption) ?_
        try simp only [List.setIfInBounds_toArray, List.set_cons_zero, List.set_cons_succ]
        refine heldNo 25 36 rfl (by kernel_rfl) (by kernel_rfl) (by kernel_rfl) (fun _ _ _ h => h) rfl (by assumption) ?_
        try simp only [List.setIfInBounds_toArray, List.set_cons_zero, List.set_cons_succ]
        refine heldNo 26 37 rfl (by kernel_rfl) (by kernel_rfl) (by kernel_rfl) (fun _ _ _ h => h) rfl (by assumption) ?_
        try simp only [List.setIfInBounds_toArray, List.set_cons_zero, List.set_cons_succ]
        refine heldNo 27 38 rfl (by kernel_rfl) (by kernel_rfl) (by kernel_rfl) (fun _ _ _ h => h) rfl (by assumption) ?_
        try simp only [List.setIfInBounds_toArray, List.set_cons_zero, List.set_cons_succ]
        refine heldNo 28 39 rfl (by kernel_rfl) (by kernel_rfl) (by kernel_rfl) (fun _ _ _ h => h) rfl (by assumption) ?_
        try simp only [List.setIfInBounds_toArray, List.set_cons_zero, List.set_cons_succ]
        refine heldNo 29 40 rfl (by kernel_rfl) (by kernel_rfl) (by kernel_rfl) (fun _ _ _ h => h) rfl (by assumption) ?_
        try simp only [List.setIfInBounds_toArray, List.set_cons_zero, List.set_cons_succ]
        refine heldNo 30 41 rfl (by kernel_rfl) (by kernel_rfl) (by kernel_rfl) (fun _ _ _ h => h) rfl (by assumption) ?_
        try simp only [List.setIfInBounds_toArray, List.set_cons_zero, List.set_cons_succ]
        refine heldNo 31 42 rfl (by kernel_rfl) (by kernel_rfl) (by kernel_rfl) (fun _ _ _ h => h) rfl (by assumption) ?_
        try simp only [List.setIfInBounds_toArray, List.set_cons_zero, List.set_cons_succ]
        refine heldNo 32 43 rfl (by kernel_rfl) (by kernel_rfl) (by kernel_rfl) (fun _ _ _ h => h) rfl (by assumption) ?_
        try simp only [List.setIfInBounds_toArray, List.set_cons_zero, List.set_cons_succ]
        refine heldNo 33 44 rfl (by kernel_rfl) (by kernel_rfl) (by kernel_rfl) (fun _ _ _ h => h) rfl (by assumption) ?_
        try simp only [List.setIfInBounds_toArray, List.set_cons_zero, List.set_cons_succ]
        refine heldNo 34 45 rfl (by kernel_rfl) (by kernel_rfl) (by kernel_rfl) (fun _ _ _ h => h) rfl (by assumption) ?_
        try simp only [List.setIfInBounds_toArray, List.set_cons_zero, List.set_cons_succ]
        refine heldNo 35 46 rfl (by kernel_rfl) (by kernel_rfl) (by kernel_rfl) (fun _ _ _ h => h) rfl (by assumption) ?_
        try simp only [List.setIfInBounds_toArray, List.set_cons_zero, List.set_cons_succ]
        refine heldNo 36 47 rfl (by kernel_rfl) (by kernel_rfl) (by kernel_rfl) (fun _ _ _ h => h) rfl (by assumption) ?_
        try simp only [List.setIfInBounds_toArray, List.set_cons_zero, List.set_cons_succ]
        refine heldNo 37 48 rfl (by kernel_rfl) (by kernel_rfl) (by kernel_rfl) (fun _ _ _ h => h) rfl (by assumption) ?_
        try simp only [List.setIfInBounds_toArray, List.set_cons_zero, List.set_cons_succ]
        refine heldNo 38 49 rfl (by kernel_rfl) (by kernel_rfl) (by kernel_rfl) (fun _ _ _ h => h) rfl (by assumption) ?_
        try simp only [List.setIfInBounds_toArray, List.set_cons_zero, List.set_cons_succ]
        refine heldNo 39 50 rfl (by kernel_rfl) (by kernel_rfl) (by kernel_rfl) (fun _ _ _ h => h) rfl (by assumption) ?_
        try simp only [List.setIfInBounds_toArray, List.set_cons_zero, List.set_cons_succ]
        refine heldY 40 51 ?_ _ rfl rfl (by kernel_rfl) (by kernel_rfl) (by kernel_rfl) (fun _ _ _ h => h) rfl (by assumption) ?_ ?_
        rotate_left
        · (intro w hSw; (try dsimp only at hSw); go_simp; (try with_reducible rfl))
        try simp only [List.setIfInBounds_toArray, List.set_cons_zero, List.set_cons_succ]
        refine wpAnyH_done (by kernel_rfl) ?_ _
        have HW3 := Lib.hid (BE _ hHeld)
        clear hHeld
        go_wp2
        go_roundw
        case rel => exact ⟨k + 1, by omega, by go_num, by rw [← HE.out], HW3⟩
        case measure => simp [intOf]; omega
      · obtain ⟨m, hm⟩ : ∃ m : Nat, bestAt l k = m := ⟨(bestAt l k).toNat, by omega⟩
        obtain ⟨d, hd⟩ : ∃ d, l[m]? = some d := ⟨_, List.getElem?_eq_getElem (by rw [HN.out]; omega)⟩
        obtain ⟨d0, d1, d2⟩ := HC.out m d hd
        rw [← HB.out.cell (p := ⟨b, o + m * 3, none⟩) hbw] at d0
        rw [← HB.out.cell (p := ⟨b, o + m * 3 + 1, none⟩) hbw] at d1
        have hls := lessT (⟨x.1.1.toArray⟩ : ByteArray) (⟨d.1.1.toArray⟩ : ByteArray)
        rw [bytesOf, bytesOf] at hls
        have HOV : Hid (overC x d = (decide (d.1.2.1 < x.1.2.1) || (decide (x.1.2.1 = d.1.2.1) && decide (x.1.1 < d.1.1)))) := Lib.hid rfl
        have HY : Hid (overC x d = true → ((k : Nat) : Int) = bestAt l (k + 1)) := Lib.hid (fun g => (bestAt_over hx hm hd g).symm)
        have HN' : Hid (overC x d = false → ((m : Nat) : Int) = bestAt l (k + 1)) := Lib.hid (fun g => (bestAt_stay hx hm hd g).symm)
        rw [hm]
        have j2 : decide ((m : Int) < 0) = false := decide_eq_false (by omega)
        have j3 : (0 : Int) ≤ (m : Int) := by omega
        have j4 : (m : Int) < (n : Int) := by omega
        have hs := (And.intro c0 (And.intro c1 (And.intro d0 (And.intro d1 HB.out))))
        generalize overC x d = q at *
        generalize decide (x.1.1 < d.1.1) = q3 at *
        generalize (⟨x.1.1.toArray⟩ : ByteArray) = X0 at *
        generalize (⟨d.1.1.toArray⟩ : ByteArray) = D0 at *
        generalize x.1.2.1 = z at *
        generalize d.1.2.1 = y at *
        clear hx c0 c1 c2 hd d0 d1 d2 hm h1 h2 HC
        by_cases h1 : y < z
        · have HZ := Lib.hid (HY.out (by rw [HOV.out, decide_eq_true h1]; rfl))
          have e1 : decide (z > y) = true := decide_eq_true h1
          clear HOV HY HN'
          go_wp2
          have BE := fun (V : World) (h : V.cell? ⟨b, o + k * 3, none⟩ = some (.string X0) ∧ V.cell? ⟨b, o + k * 3 + 1, none⟩ = some (.int .i64 z) ∧ V.cell? ⟨b, o + m * 3, none⟩ = some (.string D0) ∧ V.cell? ⟨b, o + m * 3 + 1, none⟩ = some (.int .i64 y) ∧ Below w.heap.size w V) => AtF.be (w := w) (l := [(⟨b, o + k * 3, none⟩, .string X0), (⟨b, o + k * 3 + 1, none⟩, .int .i64 z), (⟨b, o + m * 3, none⟩, .string D0), (⟨b, o + m * 3 + 1, none⟩, .int .i64 y)]) h
          refine wp_region_held_drew (S := (fun V => V.cell? ⟨b, o + k * 3, none⟩ = some (.string X0) ∧ V.cell? ⟨b, o + k * 3 + 1, none⟩ = some (.int .i64 z) ∧ V.cell? ⟨b, o + m * 3, none⟩ = some (.string D0) ∧ V.cell? ⟨b, o + m * 3 + 1, none⟩ = some (.int .i64 y) ∧ Below w.heap.size w V)) (by kernel_rfl) ?_ (fun hHeld => ?_)
          · (try dsimp only); (first | assumption | exact hs | exact AtF.dr (w := w) (l := [(⟨b, o + k * 3, none⟩, .string X0), (⟨b, o + k * 3 + 1, none⟩, .int .i64 z), (⟨b, o + m * 3, none⟩, .string D0), (⟨b, o + m * 3 + 1, none⟩, .int .i64 y)]) hs | exact AtF.dr (w := w) (l := [(⟨b, o + k * 3, none⟩, .string X0), (⟨b, o + k * 3 + 1, none⟩, .int .i64 z), (⟨b, o + m * 3, none⟩, .string D0), (⟨b, o + m * 3 + 1, none⟩, .int .i64 y)]) (by assumption) | exact AtF.on (w := w) (l := [(⟨b, o + k * 3, none⟩, .string X0), (⟨b, o + k * 3 + 1, none⟩, .int .i64 z), (⟨b, o + m * 3, none⟩, .string D0), (⟨b, o + m * 3 + 1, none⟩, .int .i64 y)]) (by assumption) (by assumption) | exact AtF.al (w := w) (l := [(⟨b, o + k * 3, none⟩, .string X0), (⟨b, o + k * 3 + 1, none⟩, .int .i64 z), (⟨b, o + m * 3, none⟩, .string D0), (⟨b, o + m * 3 + 1, none⟩, .int .i64 y)]) (by assumption) _ | exact AtF.ald (w := w) (l := [(⟨b, o + k * 3, none⟩, .string X0), (⟨b, o + k * 3 + 1, none⟩, .int .i64 z), (⟨b, o + m * 3, none⟩, .string D0), (⟨b, o + m * 3 + 1, none⟩, .int .i64 y)]) (by assumption) _ | exact AtF.al (w := w) (l := [(⟨b, o + k * 3, none⟩, .string X0), (⟨b, o + k * 3 + 1, none⟩, .int .i64 z), (⟨b, o + m * 3, none⟩, .string D0), (⟨b, o + m * 3 + 1, none⟩, .int .i64 y)]) hs _ | exact AtF.ald (w := w) (l := [(⟨b, o + k * 3, none⟩, .string X0), (⟨b, o + k * 3 + 1, none⟩, .int .i64 z), (⟨b, o + m * 3, none⟩, .string D0), (⟨b, o + m * 3 + 1, none⟩, .int .i64 y)]) hs _)
          refine heldY 0 11 ?_ _ rfl rfl (by kernel_rfl) (by kernel_rfl) (by kernel_rfl) (fun _ _ _ h => h) rfl (by assumption) ?_ ?_
          rotate_left
          · (intro w hSw; (try dsimp only at hSw); go_simp; (try with_reducible rfl))
          try simp only [List.setIfInBounds_toArray, List.set_cons_zero, List.set_cons_succ]
          refine heldY 1 12 ?_ _ rfl rfl (by kernel_rfl) (by kernel_rfl) (by kernel_rfl) (fun _ _ _ h => h) rfl (by assumption) ?_ ?_
          rotate_left
          · (intro w hSw; (try dsimp only at hSw); go_simp; (try with_reducible rfl))
          try simp only [List.setIfInBounds_toArray, List.set_cons_zero, List.set_cons_succ]
          refine heldY 2 13 ?_ _ rfl rfl (by kernel_rfl) (by kernel_rfl) (by kernel_rfl) (fun _ _ _ h => h) rfl (by assumption) ?_ ?_
          rotate_left
          · (intro w hSw; (try dsimp only at hSw); go_simp; (try with_reducible rfl))
          try simp only [List.setIfInBounds_toArray, List.set_cons_zero, List.set_cons_succ]
          refine heldY 3 14 ?_ _ rfl rfl (by kernel_rfl) (by kernel_rfl) (by kernel_rfl) (fun _ _ _ h => h) rfl (by assumption) ?_ ?_
          rotate_left
          · (intro w hSw; (try dsimp only at hSw); go_simp; (try with_reducible rfl))
          try simp only [List.setIfInBounds_toArray, List.set_cons_zero, List.set_cons_succ]
          refine heldY 4 15 ?_ _ rfl rfl (by kernel_rfl) (by kernel_rfl) (by kernel_rfl) (fun _ _ _ h => h) rfl (by assumption) ?_ ?_
          rotate_left
          · (intro w hSw; (try dsimp only at hSw); go_simp; (try with_reducible rfl))
          try simp only [List.setIfInBounds_toArray, List.set_cons_zero, List.set_cons_succ]
          refine heldY 5 16 ?_ _ rfl rfl (by kernel_rfl) (by kernel_rfl) (by kernel_rfl) (fun _ _ _ h => h) rfl (by assumption) ?_ ?_
          rotate_left
          · (intro w hSw; (try dsimp only at hSw); go_simp; (try with_reducible rfl))
          try simp only [List.setIfInBounds_toArray, List.set_cons_zero, List.set_cons_succ]
          refine heldY 6 17 ?_ _ rfl rfl (by kernel_rfl) (by kernel_rfl) (by kernel_rfl) (fun _ _ _ h => h) rfl (by assumption) ?_ ?_
          rotate_left
          · (intro w hSw; (try dsimp only at hSw); go_simp; (try with_reducible rfl))
          try simp only [List.setIfInBounds_toArray, List.set_cons_zero, List.set_cons_succ]
          refine heldY 7 18 ?_ _ rfl rfl (by kernel_rfl) (by kernel_rfl) (by kernel_rfl) (fun _ _ _ h => h) rfl (by assumption) ?_ ?_
          rotate_left
          · (intro w hSw; (try dsimp only at hSw); go_simp; (try with_reducible rfl))
          try simp only [List.setIfInBounds_toArray, List.set_cons_zero, List.set_cons_succ]
          refine heldY 8 19 ?_ _ rfl rfl (by kernel_rfl) (by kernel_rfl) (by kernel_rfl) (fun _ _ _ h => h) rfl (by assumption) ?_ ?_
          rotate_left
          · (intro w hSw; (try dsimp only at hSw); go_simp; (try with_reducible rfl))
          try simp only [List.setIfInBounds_toArray, List.set_cons_zero, List.set_cons_succ]
          refine heldY 9 20 ?_ _ rfl rfl (by kernel_rfl) (by kernel_rfl) (by kernel_rfl) (fun _ _ _ h => h) rfl (by assumption) ?_ ?_
          rotate_left
          · (intro w hSw; (try dsimp only at hSw); go_simp; (try with_reducible rfl))
          try simp only [List.setIfInBounds_toArray, List.set_cons_zero, List.set_cons_succ]
          refine heldY 10 21 ?_ _ rfl rfl (by kernel_rfl) (by kernel_rfl) (by kernel_rfl) (fun _ _ _ h => h) rfl (by assumption) ?_ ?_
          rotate_left
          · (intro w hSw; (try dsimp only at hSw); go_simp; (try with_reducible rfl))
          try simp only [List.setIfInBounds_toArray, List.set_cons_zero, List.set_cons_succ]
          refine heldY 11 22 ?_ _ rfl rfl (by kernel_rfl) (by kernel_rfl) (by kernel_rfl) (fun _ _ _ h => h) rfl (by assumption) ?_ ?_
          rotate_left
          · (intro w hSw; (try dsimp only at hSw); go_simp; (try with_reducible rfl))
          try simp only [List.setIfInBounds_toArray, List.set_cons_zero, List.set_cons_succ]
          refine heldY 12 23 ?_ _ rfl rfl (by kernel_rfl) (by kernel_rfl) (by kernel_rfl) (fun _ _ _ h => h) rfl (by assumption) ?_ ?_
          rotate_left
          · (intro w hSw; (try dsimp only at hSw); go_simp; (try with_reducible rfl))
          try simp only [List.setIfInBounds_toArray, List.set_cons_zero, List.set_cons_succ]
          refine heldY 13 24 ?_ _ rfl rfl (by kernel_rfl) (by kernel_rfl) (by kernel_rfl) (fun _ _ _ h => h) rfl (by assumption) ?_ ?_
          rotate_left
          · (intro w hSw; (try dsimp only at hSw); go_simp; (try with_reducible rfl))
          try simp only [List.setIfInBounds_toArray, List.set_cons_zero, List.set_cons_succ]
          refine heldY 14 25 ?_ _ rfl rfl (by kernel_rfl) (by kernel_rfl) (by kernel_rfl) (fun _ _ _ h => h) rfl (by assumption) ?_ ?_
          rotate_left
          · (intro w hSw; (try dsimp only at hSw); go_simp; (try with_reducible rfl))
          try simp only [List.setIfInBounds_toArray, List.set_cons_zero, List.set_cons_succ]
          refine heldY 15 26 ?_ _ rfl rfl (by kernel_rfl) (by kernel_rfl) (by kernel_rfl) (fun _ _ _ h => h) rfl (by assumption) ?_ ?_
          rotate_left
          · (intro w hSw; (try dsimp only at hSw); go_simp; (try with_reducible rfl))
          try simp only [List.setIfInBounds_toArray, List.set_cons_zero, List.set_cons_succ]
          refine heldNo 16 27 rfl (by kernel_rfl) (by kernel_rfl) (by kernel_rfl) (fun _ _ _ h => h) rfl (by assumption) ?_
          try simp only [List.setIfInBounds_toArray, List.set_cons_zero, List.set_cons_succ]
          refine heldNo 17 28 rfl (by kernel_rfl) (by kernel_rfl) (by kernel_rfl) (fun _ _ _ h => h) rfl (by assumption) ?_
          try simp only [List.setIfInBounds_toArray, List.set_cons_zero, List.set_cons_succ]
          refine heldNo 18 29 rfl (by kernel_rfl) (by kernel_rfl) (by kernel_rfl) (fun _ _ _ h => h) rfl (by assumption) ?_
          try simp only [List.setIfInBounds_toArray, List.set_cons_zero, List.set_cons_succ]
          refine heldNo 19 30 rfl (by kernel_rfl) (by kernel_rfl) (by kernel_rfl) (fun _ _ _ h => h) rfl (by assumption) ?_
          try simp only [List.setIfInBounds_toArray, List.set_cons_zero, List.set_cons_succ]
          refine heldNo 20 31 rfl (by kernel_rfl) (by kernel_rfl) (by kernel_rfl) (fun _ _ _ h => h) rfl (by assumption) ?_
          try simp only [List.setIfInBounds_toArray, List.set_cons_zero, List.set_cons_succ]
          refine heldNo 21 32 rfl (by kernel_rfl) (by kernel_rfl) (by kernel_rfl) (fun _ _ _ h => h) rfl (by assumption) ?_
          try simp only [List.setIfInBounds_toArray, List.set_cons_zero, List.set_cons_succ]
          refine heldNo 22 33 rfl (by kernel_rfl) (by kernel_rfl) (by kernel_rfl) (fun _ _ _ h => h) rfl (by assumption) ?_
          try simp only [List.setIfInBounds_toArray, List.set_cons_zero, List.set_cons_succ]
          refine heldNo 23 34 rfl (by kernel_rfl) (by kernel_rfl) (by kernel_rfl) (fun _ _ _ h => h) rfl (by assumption) ?_
          try simp only [List.setIfInBounds_toArray, List.set_cons_zero, List.set_cons_succ]
          refine heldNo 24 35 rfl (by kernel_rfl) (by kernel_rfl) (by kernel_rfl) (fun _ _ _ h => h) rfl (by assumption) ?_
          try simp only [List.setIfInBounds_toArray, List.set_cons_zero, List.set_cons_succ]
          refine heldNo 25 36 rfl (by kernel_rfl) (by kernel_rfl) (by kernel_rfl) (fun _ _ _ h => h) rfl (by assumption) ?_
          try simp only [List.setIfInBounds_toArray, List.set_cons_zero, List.set_cons_succ]
          refine heldNo 26 37 rfl (by kernel_rfl) (by kernel_rfl) (by kernel_rfl) (fun _ _ _ h => h) rfl (by assumption) ?_
          try simp only [List.setIfInBounds_toArray, List.set_cons_zero, List.set_cons_succ]
          refine heldNo 27 38 rfl (by kernel_rfl) (by kernel_rfl) (by kernel_rfl) (fun _ _ _ h => h) rfl (by assumption) ?_
          try simp only [List.setIfInBounds_toArray, List.set_cons_zero, List.set_cons_succ]
          refine heldNo 28 39 rfl (by kernel_rfl) (by kernel_rfl) (by kernel_rfl) (fun _ _ _ h => h) rfl (by assumption) ?_
          try simp only [List.setIfInBounds_toArray, List.set_cons_zero, List.set_cons_succ]
          refine heldNo 29 40 rfl (by kernel_rfl) (by kernel_rfl) (by kernel_rfl) (fun _ _ _ h => h) rfl (by assumption) ?_
          try simp only [List.setIfInBounds_toArray, List.set_cons_zero, List.set_cons_succ]
          refine heldNo 30 41 rfl (by kernel_rfl) (by kernel_rfl) (by kernel_rfl) (fun _ _ _ h => h) rfl (by assumption) ?_
          try simp only [List.setIfInBounds_toArray, List.set_cons_zero, List.set_cons_succ]
          refine heldNo 31 42 rfl (by kernel_rfl) (by kernel_rfl) (by kernel_rfl) (fun _ _ _ h => h) rfl (by assumption) ?_
          try simp only [List.setIfInBounds_toArray, List.set_cons_zero, List.set_cons_succ]
          refine heldNo 32 43 rfl (by kernel_rfl) (by kernel_rfl) (by kernel_rfl) (fun _ _ _ h => h) rfl (by assumption) ?_
          try simp only [List.setIfInBounds_toArray, List.set_cons_zero, List.set_cons_succ]
          refine heldNo 33 44 rfl (by kernel_rfl) (by kernel_rfl) (by kernel_rfl) (fun _ _ _ h => h) rfl (by assumption) ?_
          try simp only [List.setIfInBounds_toArray, List.set_cons_zero, List.set_cons_succ]
          refine heldNo 34 45 rfl (by kernel_rfl) (by kernel_rfl) (by kernel_rfl) (fun _ _ _ h => h) rfl (by assumption) ?_
          try simp only [List.setIfInBounds_toArray, List.set_cons_zero, List.set_cons_succ]
          refine heldNo 35 46 rfl (by kernel_rfl) (by kernel_rfl) (by kernel_rfl) (fun _ _ _ h => h) rfl (by assumption) ?_
          try simp only [List.setIfInBounds_toArray, List.set_cons_zero, List.set_cons_succ]
          refine heldNo 36 47 rfl (by kernel_rfl) (by kernel_rfl) (by kernel_rfl) (fun _ _ _ h => h) rfl (by assumption) ?_
          try simp only [List.setIfInBounds_toArray, List.set_cons_zero, List.set_cons_succ]
          refine heldNo 37 48 rfl (by kernel_rfl) (by kernel_rfl) (by kernel_rfl) (fun _ _ _ h => h) rfl (by assumption) ?_
          try simp only [List.setIfInBounds_toArray, List.set_cons_zero, List.set_cons_succ]
          refine heldNo 38 49 rfl (by kernel_rfl) (by kernel_rfl) (by kernel_rfl) (fun _ _ _ h => h) rfl (by assumption) ?_
          try simp only [List.setIfInBounds_toArray, List.set_cons_zero, List.set_cons_succ]
          refine heldNo 39 50 rfl (by kernel_rfl) (by kernel_rfl) (by kernel_rfl) (fun _ _ _ h => h) rfl (by assumption) ?_
          try simp only [List.setIfInBounds_toArray, List.set_cons_zero, List.set_cons_succ]
          refine heldY 40 51 ?_ _ rfl rfl (by kernel_rfl) (by kernel_rfl) (by kernel_rfl) (fun _ _ _ h => h) rfl (by assumption) ?_ ?_
          rotate_left
          · (intro w hSw; (try dsimp only at hSw); go_simp; (try with_reducible rfl))
          try simp only [List.setIfInBounds_toArray, List.set_cons_zero, List.set_cons_succ]
          refine wpAnyH_done (by kernel_rfl) ?_ _
          have HW3 := Lib.hid (BE _ hHeld)
          clear hHeld
          go_wp2
          go_roundw
          case rel => exact ⟨k + 1, by omega, by go_num, by rw [← HZ.out], HW3⟩
          case measure => simp [intOf]; omega
        · have e1 : decide (z > y) = false := decide_eq_false h1
          by_cases h2 : z = y
          · cases q3
            · have HZ := Lib.hid (HN'.out (by rw [HOV.out, decide_eq_false h1]; simp))
              clear HOV HY HN'
              subst h2
              go_wp2
              have BE := fun (V : World) (h : V.cell? ⟨b, o + k * 3, none⟩ = some (.string X0) ∧ V.cell? ⟨b, o + k * 3 + 1, none⟩ = some (.int .i64 z) ∧ V.cell? ⟨b, o + m * 3, none⟩ = some (.string D0) ∧ V.cell? ⟨b, o + m * 3 + 1, none⟩ = some (.int .i64 z) ∧ Below w.heap.size w V) => AtF.be (w := w) (l := [(⟨b, o + k * 3, none⟩, .string X0), (⟨b, o + k * 3 + 1, none⟩, .int .i64 z), (⟨b, o + m * 3, none⟩, .string D0), (⟨b, o + m * 3 + 1, none⟩, .int .i64 z)]) h
              refine wp_region_held_drew (S := (fun V => V.cell? ⟨b, o + k * 3, none⟩ = some (.string X0) ∧ V.cell? ⟨b, o + k * 3 + 1, none⟩ = some (.int .i64 z) ∧ V.cell? ⟨b, o + m * 3, none⟩ = some (.string D0) ∧ V.cell? ⟨b, o + m * 3 + 1, none⟩ = some (.int .i64 z) ∧ Below w.heap.size w V)) (by kernel_rfl) ?_ (fun hHeld => ?_)
              · (try dsimp only); (first | assumption | exact hs | exact AtF.dr (w := w) (l := [(⟨b, o + k * 3, none⟩, .string X0), (⟨b, o + k * 3 + 1, none⟩, .int .i64 z), (⟨b, o + m * 3, none⟩, .string D0), (⟨b, o + m * 3 + 1, none⟩, .int .i64 z)]) hs | exact AtF.dr (w := w) (l := [(⟨b, o + k * 3, none⟩, .string X0), (⟨b, o + k * 3 + 1, none⟩, .int .i64 z), (⟨b, o + m * 3, none⟩, .string D0), (⟨b, o + m * 3 + 1, none⟩, .int .i64 z)]) (by assumption) | exact AtF.on (w := w) (l := [(⟨b, o + k * 3, none⟩, .string X0), (⟨b, o + k * 3 + 1, none⟩, .int .i64 z), (⟨b, o + m * 3, none⟩, .string D0), (⟨b, o + m * 3 + 1, none⟩, .int .i64 z)]) (by assumption) (by assumption) | exact AtF.al (w := w) (l := [(⟨b, o + k * 3, none⟩, .string X0), (⟨b, o + k * 3 + 1, none⟩, .int .i64 z), (⟨b, o + m * 3, none⟩, .string D0), (⟨b, o + m * 3 + 1, none⟩, .int .i64 z)]) (by assumption) _ | exact AtF.ald (w := w) (l := [(⟨b, o + k * 3, none⟩, .string X0), (⟨b, o + k * 3 + 1, none⟩, .int .i64 z), (⟨b, o + m * 3, none⟩, .string D0), (⟨b, o + m * 3 + 1, none⟩, .int .i64 z)]) (by assumption) _ | exact AtF.al (w := w) (l := [(⟨b, o + k * 3, none⟩, .string X0), (⟨b, o + k * 3 + 1, none⟩, .int .i64 z), (⟨b, o + m * 3, none⟩, .string D0), (⟨b, o + m * 3 + 1, none⟩, .int .i64 z)]) hs _ | exact AtF.ald (w := w) (l := [(⟨b, o + k * 3, none⟩, .string X0), (⟨b, o + k * 3 + 1, none⟩, .int .i64 z), (⟨b, o + m * 3, none⟩, .string D0), (⟨b, o + m * 3 + 1, none⟩, .int .i64 z)]) hs _)
              refine heldY 0 11 ?_ _ rfl rfl (by kernel_rfl) (by kernel_rfl) (by kernel_rfl) (fun _ _ _ h => h) rfl (by assumption) ?_ ?_
              rotate_left
              · (intro w hSw; (try dsimp only at hSw); go_simp; (try with_reducible rfl))
              try simp only [List.setIfInBounds_toArray, List.set_cons_zero, List.set_cons_succ]
              refine heldY 1 12 ?_ _ rfl rfl (by kernel_rfl) (by kernel_rfl) (by kernel_rfl) (fun _ _ _ h => h) rfl (by assumption) ?_ ?_
              rotate_left
              · (intro w hSw; (try dsimp only at hSw); go_simp; (try with_reducible rfl))
              try simp only [List.setIfInBounds_toArray, List.set_cons_zero, List.set_cons_succ]
              refine heldY 2 13 ?_ _ rfl rfl (by kernel_rfl) (by kernel_rfl) (by kernel_rfl) (fun _ _ _ h => h) rfl (by assumption) ?_ ?_
              rotate_left
              · (intro w hSw; (try dsimp only at hSw); go_simp; (try with_reducible rfl))
              try simp only [List.setIfInBounds_toArray, List.set_cons_zero, List.set_cons_succ]
              refine heldY 3 14 ?_ _ rfl rfl (by kernel_rfl) (by kernel_rfl) (by kernel_rfl) (fun _ _ _ h => h) rfl (by assumption) ?_ ?_
              rotate_left
              · (intro w hSw; (try dsimp only at hSw); go_simp; (try with_reducible rfl))
              try simp only [List.setIfInBounds_toArray, List.set_cons_zero, List.set_cons_succ]
              refine heldY 4 15 ?_ _ rfl rfl (by kernel_rfl) (by kernel_rfl) (by kernel_rfl) (fun _ _ _ h => h) rfl (by assumption) ?_ ?_
              rotate_left
              · (intro w hSw; (try dsimp only at hSw); go_simp; (try with_reducible rfl))
              try simp only [List.setIfInBounds_toArray, List.set_cons_zero, List.set_cons_succ]
              refine heldY 5 16 ?_ _ rfl rfl (by kernel_rfl) (by kernel_rfl) (by kernel_rfl) (fun _ _ _ h => h) rfl (by assumption) ?_ ?_
              rotate_left
              · (intro w hSw; (try dsimp only at hSw); go_simp; (try with_reducible rfl))
              try simp only [List.setIfInBounds_toArray, List.set_cons_zero, List.set_cons_succ]
              refine heldY 6 17 ?_ _ rfl rfl (by kernel_rfl) (by kernel_rfl) (by kernel_rfl) (fun _ _ _ h => h) rfl (by assumption) ?_ ?_
              rotate_left
              · (intro w hSw; (try dsimp only at hSw); go_simp; (try with_reducible rfl))
              try simp only [List.setIfInBounds_toArray, List.set_cons_zero, List.set_cons_succ]
              refine heldY 7 18 ?_ _ rfl rfl (by kernel_rfl) (by kernel_rfl) (by kernel_rfl) (fun _ _ _ h => h) rfl (by assumption) ?_ ?_
              rotate_left
              · (intro w hSw; (try dsimp only at hSw); go_simp; (try with_reducible rfl))
              try simp only [List.setIfInBounds_toArray, List.set_cons_zero, List.set_cons_succ]
              refine heldY 8 19 ?_ _ rfl rfl (by kernel_rfl) (by kernel_rfl) (by kernel_rfl) (fun _ _ _ h => h) rfl (by assumption) ?_ ?_
              rotate_left
              · (intro w hSw; (try dsimp only at hSw); go_simp; (try with_reducible rfl))
              try simp only [List.setIfInBounds_toArray, List.set_cons_zero, List.set_cons_succ]
              refine heldY 9 20 ?_ _ rfl rfl (by kernel_rfl) (by kernel_rfl) (by kernel_rfl) (fun _ _ _ h => h) rfl (by assumption) ?_ ?_
              rotate_left
              · (intro w hSw; (try dsimp only at hSw); go_simp; (try with_reducible rfl))
              try simp only [List.setIfInBounds_toArray, List.set_cons_zero, List.set_cons_succ]
              refine heldY 10 21 ?_ _ rfl rfl (by kernel_rfl) (by kernel_rfl) (by kernel_rfl) (fun _ _ _ h => h) rfl (by assumption) ?_ ?_
              rotate_left
              · (intro w hSw; (try dsimp only at hSw); go_simp; (try with_reducible rfl))
              try simp only [List.setIfInBounds_toArray, List.set_cons_zero, List.set_cons_succ]
              refine heldY 11 22 ?_ _ rfl rfl (by kernel_rfl) (by kernel_rfl) (by kernel_rfl) (fun _ _ _ h => h) rfl (by assumption) ?_ ?_
              rotate_left
              · (intro w hSw; (try dsimp only at hSw); go_simp; (try with_reducible rfl))
              try simp only [List.setIfInBounds_toArray, List.set_cons_zero, List.set_cons_succ]
              refine heldY 12 23 ?_ _ rfl rfl (by kernel_rfl) (by kernel_rfl) (by kernel_rfl) (fun _ _ _ h => h) rfl (by assumption) ?_ ?_
              rotate_left
              · (intro w hSw; (try dsimp only at hSw); go_simp; (try with_reducible rfl))
              try simp only [List.setIfInBounds_toArray, List.set_cons_zero, List.set_cons_succ]
              refine heldY 13 24 ?_ _ rfl rfl (by kernel_rfl) (by kernel_rfl) (by kernel_rfl) (fun _ _ _ h => h) rfl (by assumption) ?_ ?_
              rotate_left
              · (intro w hSw; (try dsimp only at hSw); go_simp; (try with_reducible rfl))
              try simp only [List.setIfInBounds_toArray, List.set_cons_zero, List.set_cons_succ]
              refine heldY 14 25 ?_ _ rfl rfl (by kernel_rfl) (by kernel_rfl) (by kernel_rfl) (fun _ _ _ h => h) rfl (by assumption) ?_ ?_
              rotate_left
              · (intro w hSw; (try dsimp only at hSw); go_simp; (try with_reducible rfl))
              try simp only [List.setIfInBounds_toArray, List.set_cons_zero, List.set_cons_succ]
              refine heldY 15 26 ?_ _ rfl rfl (by kernel_rfl) (by kernel_rfl) (by kernel_rfl) (fun _ _ _ h => h) rfl (by assumption) ?_ ?_
              rotate_left
              · (intro w hSw; (try dsimp only at hSw); go_simp; (try with_reducible rfl))
              try simp only [List.setIfInBounds_toArray, List.set_cons_zero, List.set_cons_succ]
              refine heldY 16 27 ?_ _ rfl rfl (by kernel_rfl) (by kernel_rfl) (by kernel_rfl) (fun _ _ _ h => h) rfl (by assumption) ?_ ?_
              rotate_left
              · (intro w hSw; (try dsimp only at hSw); go_simp; (try with_reducible rfl))
              try simp only [List.setIfInBounds_toArray, List.set_cons_zero, List.set_cons_succ]
              refine heldY 17 28 ?_ _ rfl rfl (by kernel_rfl) (by kernel_rfl) (by kernel_rfl) (fun _ _ _ h => h) rfl (by assumption) ?_ ?_
              rotate_left
              · (intro w hSw; (try dsimp only at hSw); go_simp; (try with_reducible rfl))
              try simp only [List.setIfInBounds_toArray, List.set_cons_zero, List.set_cons_succ]
              refine heldY 18 29 ?_ _ rfl rfl (by kernel_rfl) (by kernel_rfl) (by kernel_rfl) (fun _ _ _ h => h) rfl (by assumption) ?_ ?_
              rotate_left
              · (intro w hSw; (try dsimp only at hSw); go_simp; (try with_reducible rfl))
              try simp only [List.setIfInBounds_toArray, List.set_cons_zero, List.set_cons_succ]
              refine heldY 19 30 ?_ _ rfl rfl (by kernel_rfl) (by kernel_rfl) (by kernel_rfl) (fun _ _ _ h => h) rfl (by assumption) ?_ ?_
              rotate_left
              · (intro w hSw; (try dsimp only at hSw); go_simp; (try with_reducible rfl))
              try simp only [List.setIfInBounds_toArray, List.set_cons_zero, List.set_cons_succ]
              refine heldY 20 31 ?_ _ rfl rfl (by kernel_rfl) (by kernel_rfl) (by kernel_rfl) (fun _ _ _ h => h) rfl (by assumption) ?_ ?_
              rotate_left
              · (intro w hSw; (try dsimp only at hSw); go_simp; (try with_reducible rfl))
              try simp only [List.setIfInBounds_toArray, List.set_cons_zero, List.set_cons_succ]
              refine heldY 21 32 ?_ _ rfl rfl (by kernel_rfl) (by kernel_rfl) (by kernel_rfl) (fun _ _ _ h => h) rfl (by assumption) ?_ ?_
              rotate_left
              · (intro w hSw; (try dsimp only at hSw); go_simp; (try with_reducible rfl))
              try simp only [List.setIfInBounds_toArray, List.set_cons_zero, List.set_cons_succ]
              refine heldY 22 33 ?_ _ rfl rfl (by kernel_rfl) (by kernel_rfl) (by kernel_rfl) (fun _ _ _ h => h) rfl (by assumption) ?_ ?_
              rotate_left
              · (intro w hSw; (try dsimp only at hSw); go_simp; (try with_reducible rfl))
              try simp only [List.setIfInBounds_toArray, List.set_cons_zero, List.set_cons_succ]
              refine heldY 23 34 ?_ _ rfl rfl (by kernel_rfl) (by kernel_rfl) (by kernel_rfl) (fun _ _ _ h => h) rfl (by assumption) ?_ ?_
              rotate_left
              · (intro w hSw; (try dsimp only at hSw); go_simp; (try with_reducible rfl))
              try simp only [List.setIfInBounds_toArray, List.set_cons_zero, List.set_cons_succ]
              refine heldY 24 35 ?_ _ rfl rfl (by kernel_rfl) (by kernel_rfl) (by kernel_rfl) (fun _ _ _ h => h) rfl (by assumption) ?_ ?_
              rotate_left
              · (intro w hSw; (try dsimp only at hSw); go_simp; (try with_reducible rfl))
              try simp only [List.setIfInBounds_toArray, List.set_cons_zero, List.set_cons_succ]
              refine heldY 25 36 ?_ _ rfl rfl (by kernel_rfl) (by kernel_rfl) (by kernel_rfl) (fun _ _ _ h => h) rfl (by assumption) ?_ ?_
              rotate_left
              · (intro w hSw; (try dsimp only at hSw); go_simp; (try with_reducible rfl))
              try simp only [List.setIfInBounds_toArray, List.set_cons_zero, List.set_cons_succ]
              refine heldY 26 37 ?_ _ rfl rfl (by kernel_rfl) (by kernel_rfl) (by kernel_rfl) (fun _ _ _ h => h) rfl (by assumption) ?_ ?_
              rotate_left
              · (intro w hSw; (try dsimp only at hSw); go_simp; (try with_reducible rfl))
              try simp only [List.setIfInBounds_toArray, List.set_cons_zero, List.set_cons_succ]
              refine heldY 27 38 ?_ _ rfl rfl (by kernel_rfl) (by kernel_rfl) (by kernel_rfl) (fun _ _ _ h => h) rfl (by assumption) ?_ ?_
              rotate_left
              · (intro w hSw; (try dsimp only at hSw); go_simp; (try with_reducible rfl))
              try simp only [List.setIfInBounds_toArray, List.set_cons_zero, List.set_cons_succ]
              refine heldY 28 39 ?_ _ rfl rfl (by kernel_rfl) (by kernel_rfl) (by kernel_rfl) (fun _ _ _ h => h) rfl (by assumption) ?_ ?_
              rotate_left
              · (intro w hSw; (try dsimp only at hSw); go_simp; (try with_reducible rfl))
              try simp only [List.setIfInBounds_toArray, List.set_cons_zero, List.set_cons_succ]
              refine heldY 29 40 ?_ _ rfl rfl (by kernel_rfl) (by kernel_rfl) (by kernel_rfl) (fun _ _ _ h => h) rfl (by assumption) ?_ ?_
              rotate_left
              · (intro w hSw; (try dsimp only at hSw); go_simp; (try with_reducible rfl))
              try simp only [List.setIfInBounds_toArray, List.set_cons_zero, List.set_cons_succ]
              refine heldY 30 41 ?_ _ rfl rfl (by kernel_rfl) (by kernel_rfl) (by kernel_rfl) (fun _ _ _ h => h) rfl (by assumption) ?_ ?_
              rotate_left
              · (intro w hSw; (try dsimp only at hSw); go_simp; (try with_reducible rfl))
              try simp only [List.setIfInBounds_toArray, List.set_cons_zero, List.set_cons_succ]
              refine heldY 31 42 ?_ _ rfl rfl (by kernel_rfl) (by kernel_rfl) (by kernel_rfl) (fun _ _ _ h => h) rfl (by assumption) ?_ ?_
              rotate_left
              · (intro w hSw; (try dsimp only at hSw); go_simp; (try with_reducible rfl))
              try simp only [List.setIfInBounds_toArray, List.set_cons_zero, List.set_cons_succ]
              refine heldY 32 43 ?_ _ rfl rfl (by kernel_rfl) (by kernel_rfl) (by kernel_rfl) (fun _ _ _ h => h) rfl (by assumption) ?_ ?_
              rotate_left
              · (intro w hSw; (try dsimp only at hSw); go_simp; (try with_reducible rfl))
              try simp only [List.setIfInBounds_toArray, List.set_cons_zero, List.set_cons_succ]
              refine heldY 33 44 ?_ _ rfl rfl (by kernel_rfl) (by kernel_rfl) (by kernel_rfl) (fun _ _ _ h => h) rfl (by assumption) ?_ ?_
              rotate_left
              · (intro w hSw; (try dsimp only at hSw); go_simp; (try with_reducible rfl))
              try simp only [List.setIfInBounds_toArray, List.set_cons_zero, List.set_cons_succ]
              refine heldY 34 45 ?_ _ rfl rfl (by kernel_rfl) (by kernel_rfl) (by kernel_rfl) (fun _ _ _ h => h) rfl (by assumption) ?_ ?_
              rotate_left
              · (intro w hSw; (try dsimp only at hSw); go_simp; (try with_reducible rfl))
              try simp only [List.setIfInBounds_toArray, List.set_cons_zero, List.set_cons_succ]
              refine heldY 35 46 ?_ _ rfl rfl (by kernel_rfl) (by kernel_rfl) (by kernel_rfl) (fun _ _ _ h => h) rfl (by assumption) ?_ ?_
              rotate_left
              · (intro w hSw; (try dsimp only at hSw); go_simp; (try with_reducible rfl))
              try simp only [List.setIfInBounds_toArray, List.set_cons_zero, List.set_cons_succ]
              refine heldY 36 47 ?_ _ rfl rfl (by kernel_rfl) (by kernel_rfl) (by kernel_rfl) (fun _ _ _ h => h) rfl (by assumption) ?_ ?_
              rotate_left
              · (intro w hSw; (try dsimp only at hSw); go_simp; (try with_reducible rfl))
              try simp only [List.setIfInBounds_toArray, List.set_cons_zero, List.set_cons_succ]
              refine heldY 37 48 ?_ _ rfl rfl (by kernel_rfl) (by kernel_rfl) (by kernel_rfl) (fun _ _ _ h => h) rfl (by assumption) ?_ ?_
              rotate_left
              · (intro w hSw; (try dsimp only at hSw); go_simp; (try with_reducible rfl))
              try simp only [List.setIfInBounds_toArray, List.set_cons_zero, List.set_cons_succ]
              refine heldY 38 49 ?_ _ rfl rfl (by kernel_rfl) (by kernel_rfl) (by kernel_rfl) (fun _ _ _ h => h) rfl (by assumption) ?_ ?_
              rotate_left
              · (intro w hSw; (try dsimp only at hSw); go_simp; (try with_reducible rfl))
              try simp only [List.setIfInBounds_toArray, List.set_cons_zero, List.set_cons_succ]
              refine heldY 39 50 ?_ _ rfl rfl (by kernel_rfl) (by kernel_rfl) (by kernel_rfl) (fun _ _ _ h => h) rfl (by assumption) ?_ ?_
              rotate_left
              · (intro w hSw; (try dsimp only at hSw); go_simp; (try with_reducible rfl))
              try simp only [List.setIfInBounds_toArray, List.set_cons_zero, List.set_cons_succ]
              refine heldY 40 51 ?_ _ rfl rfl (by kernel_rfl) (by kernel_rfl) (by kernel_rfl) (fun _ _ _ h => h) rfl (by assumption) ?_ ?_
              rotate_left
              · (intro w hSw; (try dsimp only at hSw); go_simp; (try with_reducible rfl))
              try simp only [List.setIfInBounds_toArray, List.set_cons_zero, List.set_cons_succ]
              refine wpAnyH_done (by kernel_rfl) ?_ _
              have HW3 := Lib.hid (BE _ hHeld)
              clear hHeld
              go_wp2
              go_roundw
              case rel => exact ⟨k + 1, by omega, by go_num, by rw [← HZ.out], HW3⟩
              case measure => simp [intOf]; omega
            · have HZ := Lib.hid (HY.out (by rw [HOV.out, decide_eq_true h2]; simp))
              clear HOV HY HN'
              subst h2
              go_wp2
              have BE := fun (V : World) (h : V.cell? ⟨b, o + k * 3, none⟩ = some (.string X0) ∧ V.cell? ⟨b, o + k * 3 + 1, none⟩ = some (.int .i64 z) ∧ V.cell? ⟨b, o + m * 3, none⟩ = some (.string D0) ∧ V.cell? ⟨b, o + m * 3 + 1, none⟩ = some (.int .i64 z) ∧ Below w.heap.size w V) => AtF.be (w := w) (l := [(⟨b, o + k * 3, none⟩, .string X0), (⟨b, o + k * 3 + 1, none⟩, .int .i64 z), (⟨b, o + m * 3, none⟩, .string D0), (⟨b, o + m * 3 + 1, none⟩, .int .i64 z)]) h
              refine wp_region_held_drew (S := (fun V => V.cell? ⟨b, o + k * 3, none⟩ = some (.string X0) ∧ V.cell? ⟨b, o + k * 3 + 1, none⟩ = some (.int .i64 z) ∧ V.cell? ⟨b, o + m * 3, none⟩ = some (.string D0) ∧ V.cell? ⟨b, o + m * 3 + 1, none⟩ = some (.int .i64 z) ∧ Below w.heap.size w V)) (by kernel_rfl) ?_ (fun hHeld => ?_)
              · (try dsimp only); (first | assumption | exact hs | exact AtF.dr (w := w) (l := [(⟨b, o + k * 3, none⟩, .string X0), (⟨b, o + k * 3 + 1, none⟩, .int .i64 z), (⟨b, o + m * 3, none⟩, .string D0), (⟨b, o + m * 3 + 1, none⟩, .int .i64 z)]) hs | exact AtF.dr (w := w) (l := [(⟨b, o + k * 3, none⟩, .string X0), (⟨b, o + k * 3 + 1, none⟩, .int .i64 z), (⟨b, o + m * 3, none⟩, .string D0), (⟨b, o + m * 3 + 1, none⟩, .int .i64 z)]) (by assumption) | exact AtF.on (w := w) (l := [(⟨b, o + k * 3, none⟩, .string X0), (⟨b, o + k * 3 + 1, none⟩, .int .i64 z), (⟨b, o + m * 3, none⟩, .string D0), (⟨b, o + m * 3 + 1, none⟩, .int .i64 z)]) (by assumption) (by assumption) | exact AtF.al (w := w) (l := [(⟨b, o + k * 3, none⟩, .string X0), (⟨b, o + k * 3 + 1, none⟩, .int .i64 z), (⟨b, o + m * 3, none⟩, .string D0), (⟨b, o + m * 3 + 1, none⟩, .int .i64 z)]) (by assumption) _ | exact AtF.ald (w := w) (l := [(⟨b, o + k * 3, none⟩, .string X0), (⟨b, o + k * 3 + 1, none⟩, .int .i64 z), (⟨b, o + m * 3, none⟩, .string D0), (⟨b, o + m * 3 + 1, none⟩, .int .i64 z)]) (by assumption) _ | exact AtF.al (w := w) (l := [(⟨b, o + k * 3, none⟩, .string X0), (⟨b, o + k * 3 + 1, none⟩, .int .i64 z), (⟨b, o + m * 3, none⟩, .string D0), (⟨b, o + m * 3 + 1, none⟩, .int .i64 z)]) hs _ | exact AtF.ald (w := w) (l := [(⟨b, o + k * 3, none⟩, .string X0), (⟨b, o + k * 3 + 1, none⟩, .int .i64 z), (⟨b, o + m * 3, none⟩, .string D0), (⟨b, o + m * 3 + 1, none⟩, .int .i64 z)]) hs _)
              refine heldY 0 11 ?_ _ rfl rfl (by kernel_rfl) (by kernel_rfl) (by kernel_rfl) (fun _ _ _ h => h) rfl (by assumption) ?_ ?_
              rotate_left
              · (intro w hSw; (try dsimp only at hSw); go_simp; (try with_reducible rfl))
              try simp only [List.setIfInBounds_toArray, List.set_cons_zero, List.set_cons_succ]
              refine heldY 1 12 ?_ _ rfl rfl (by kernel_rfl) (by kernel_rfl) (by kernel_rfl) (fun _ _ _ h => h) rfl (by assumption) ?_ ?_
              rotate_left
              · (intro w hSw; (try dsimp only at hSw); go_simp; (try with_reducible rfl))
              try simp only [List.setIfInBounds_toArray, List.set_cons_zero, List.set_cons_succ]
              refine heldY 2 13 ?_ _ rfl rfl (by kernel_rfl) (by kernel_rfl) (by kernel_rfl) (fun _ _ _ h => h) rfl (by assumption) ?_ ?_
              rotate_left
              · (intro w hSw; (try dsimp only at hSw); go_simp; (try with_reducible rfl))
              try simp only [List.setIfInBounds_toArray, List.set_cons_zero, List.set_cons_succ]
              refine heldY 3 14 ?_ _ rfl rfl (by kernel_rfl) (by kernel_rfl) (by kernel_rfl) (fun _ _ _ h => h) rfl (by assumption) ?_ ?_
              rotate_left
              · (intro w hSw; (try dsimp only at hSw); go_simp; (try with_reducible rfl))
              try simp only [List.setIfInBounds_toArray, List.set_cons_zero, List.set_cons_succ]
              refine heldY 4 15 ?_ _ rfl rfl (by kernel_rfl) (by kernel_rfl) (by kernel_rfl) (fun _ _ _ h => h) rfl (by assumption) ?_ ?_
              rotate_left
              · (intro w hSw; (try dsimp only at hSw); go_simp; (try with_reducible rfl))
              try simp only [List.setIfInBounds_toArray, List.set_cons_zero, List.set_cons_succ]
              refine heldY 5 16 ?_ _ rfl rfl (by kernel_rfl) (by kernel_rfl) (by kernel_rfl) (fun _ _ _ h => h) rfl (by assumption) ?_ ?_
              rotate_left
              · (intro w hSw; (try dsimp only at hSw); go_simp; (try with_reducible rfl))
              try simp only [List.setIfInBounds_toArray, List.set_cons_zero, List.set_cons_succ]
              refine heldY 6 17 ?_ _ rfl rfl (by kernel_rfl) (by kernel_rfl) (by kernel_rfl) (fun _ _ _ h => h) rfl (by assumption) ?_ ?_
              rotate_left
              · (intro w hSw; (try dsimp only at hSw); go_simp; (try with_reducible rfl))
              try simp only [List.setIfInBounds_toArray, List.set_cons_zero, List.set_cons_succ]
              refine heldY 7 18 ?_ _ rfl rfl (by kernel_rfl) (by kernel_rfl) (by kernel_rfl) (fun _ _ _ h => h) rfl (by assumption) ?_ ?_
              rotate_left
              · (intro w hSw; (try dsimp only at hSw); go_simp; (try with_reducible rfl))
              try simp only [List.setIfInBounds_toArray, List.set_cons_zero, List.set_cons_succ]
              refine heldY 8 19 ?_ _ rfl rfl (by kernel_rfl) (by kernel_rfl) (by kernel_rfl) (fun _ _ _ h => h) rfl (by assumption) ?_ ?_
              rotate_left
              · (intro w hSw; (try dsimp only at hSw); go_simp; (try with_reducible rfl))
              try simp only [List.setIfInBounds_toArray, List.set_cons_zero, List.set_cons_succ]
              refine heldY 9 20 ?_ _ rfl rfl (by kernel_rfl) (by kernel_rfl) (by kernel_rfl) (fun _ _ _ h => h) rfl (by assumption) ?_ ?_
              rotate_left
              · (intro w hSw; (try dsimp only at hSw); go_simp; (try with_reducible rfl))
              try simp only [List.setIfInBounds_toArray, List.set_cons_zero, List.set_cons_succ]
              refine heldY 10 21 ?_ _ rfl rfl (by kernel_rfl) (by kernel_rfl) (by kernel_rfl) (fun _ _ _ h => h) rfl (by assumption) ?_ ?_
              rotate_left
              · (intro w hSw; (try dsimp only at hSw); go_simp; (try with_reducible rfl))
              try simp only [List.setIfInBounds_toArray, List.set_cons_zero, List.set_cons_succ]
              refine heldY 11 22 ?_ _ rfl rfl (by kernel_rfl) (by kernel_rfl) (by kernel_rfl) (fun _ _ _ h => h) rfl (by assumption) ?_ ?_
              rotate_left
              · (intro w hSw; (try dsimp only at hSw); go_simp; (try with_reducible rfl))
              try simp only [List.setIfInBounds_toArray, List.set_cons_zero, List.set_cons_succ]
              refine heldY 12 23 ?_ _ rfl rfl (by kernel_rfl) (by kernel_rfl) (by kernel_rfl) (fun _ _ _ h => h) rfl (by assumption) ?_ ?_
              rotate_left
              · (intro w hSw; (try dsimp only at hSw); go_simp; (try with_reducible rfl))
              try simp only [List.setIfInBounds_toArray, List.set_cons_zero, List.set_cons_succ]
              refine heldY 13 24 ?_ _ rfl rfl (by kernel_rfl) (by kernel_rfl) (by kernel_rfl) (fun _ _ _ h => h) rfl (by assumption) ?_ ?_
              rotate_left
              · (intro w hSw; (try dsimp only at hSw); go_simp; (try with_reducible rfl))
              try simp only [List.setIfInBounds_toArray, List.set_cons_zero, List.set_cons_succ]
              refine heldY 14 25 ?_ _ rfl rfl (by kernel_rfl) (by kernel_rfl) (by kernel_rfl) (fun _ _ _ h => h) rfl (by assumption) ?_ ?_
              rotate_left
              · (intro w hSw; (try dsimp only at hSw); go_simp; (try with_reducible rfl))
              try simp only [List.setIfInBounds_toArray, List.set_cons_zero, List.set_cons_succ]
              refine heldY 15 26 ?_ _ rfl rfl (by kernel_rfl) (by kernel_rfl) (by kernel_rfl) (fun _ _ _ h => h) rfl (by assumption) ?_ ?_
              rotate_left
              · (intro w hSw; (try dsimp only at hSw); go_simp; (try with_reducible rfl))
              try simp only [List.setIfInBounds_toArray, List.set_cons_zero, List.set_cons_succ]
              refine heldY 16 27 ?_ _ rfl rfl (by kernel_rfl) (by kernel_rfl) (by kernel_rfl) (fun _ _ _ h => h) rfl (by assumption) ?_ ?_
              rotate_left
              · (intro w hSw; (try dsimp only at hSw); go_simp; (try with_reducible rfl))
              try simp only [List.setIfInBounds_toArray, List.set_cons_zero, List.set_cons_succ]
              refine heldY 17 28 ?_ _ rfl rfl (by kernel_rfl) (by kernel_rfl) (by kernel_rfl) (fun _ _ _ h => h) rfl (by assumption) ?_ ?_
              rotate_left
              · (intro w hSw; (try dsimp only at hSw); go_simp; (try with_reducible rfl))
              try simp only [List.setIfInBounds_toArray, List.set_cons_zero, List.set_cons_succ]
              refine heldY 18 29 ?_ _ rfl rfl (by kernel_rfl) (by kernel_rfl) (by kernel_rfl) (fun _ _ _ h => h) rfl (by assumption) ?_ ?_
              rotate_left
              · (intro w hSw; (try dsimp only at hSw); go_simp; (try with_reducible rfl))
              try simp only [List.setIfInBounds_toArray, List.set_cons_zero, List.set_cons_succ]
              refine heldY 19 30 ?_ _ rfl rfl (by kernel_rfl) (by kernel_rfl) (by kernel_rfl) (fun _ _ _ h => h) rfl (by assumption) ?_ ?_
              rotate_left
              · (intro w hSw; (try dsimp only at hSw); go_simp; (try with_reducible rfl))
              try simp only [List.setIfInBounds_toArray, List.set_cons_zero, List.set_cons_succ]
              refine heldY 20 31 ?_ _ rfl rfl (by kernel_rfl) (by kernel_rfl) (by kernel_rfl) (fun _ _ _ h => h) rfl (by assumption) ?_ ?_
              rotate_left
              · (intro w hSw; (try dsimp only at hSw); go_simp; (try with_reducible rfl))
              try simp only [List.setIfInBounds_toArray, List.set_cons_zero, List.set_cons_succ]
              refine heldY 21 32 ?_ _ rfl rfl (by kernel_rfl) (by kernel_rfl) (by kernel_rfl) (fun _ _ _ h => h) rfl (by assumption) ?_ ?_
              rotate_left
              · (intro w hSw; (try dsimp only at hSw); go_simp; (try with_reducible rfl))
              try simp only [List.setIfInBounds_toArray, List.set_cons_zero, List.set_cons_succ]
              refine heldY 22 33 ?_ _ rfl rfl (by kernel_rfl) (by kernel_rfl) (by kernel_rfl) (fun _ _ _ h => h) rfl (by assumption) ?_ ?_
              rotate_left
              · (intro w hSw; (try dsimp only at hSw); go_simp; (try with_reducible rfl))
              try simp only [List.setIfInBounds_toArray, List.set_cons_zero, List.set_cons_succ]
              refine heldY 23 34 ?_ _ rfl rfl (by kernel_rfl) (by kernel_rfl) (by kernel_rfl) (fun _ _ _ h => h) rfl (by assumption) ?_ ?_
              rotate_left
              · (intro w hSw; (try dsimp only at hSw); go_simp; (try with_reducible rfl))
              try simp only [List.setIfInBounds_toArray, List.set_cons_zero, List.set_cons_succ]
              refine heldY 24 35 ?_ _ rfl rfl (by kernel_rfl) (by kernel_rfl) (by kernel_rfl) (fun _ _ _ h => h) rfl (by assumption) ?_ ?_
              rotate_left
              · (intro w hSw; (try dsimp only at hSw); go_simp; (try with_reducible rfl))
              try simp only [List.setIfInBounds_toArray, List.set_cons_zero, List.set_cons_succ]
              refine heldY 25 36 ?_ _ rfl rfl (by kernel_rfl) (by kernel_rfl) (by kernel_rfl) (fun _ _ _ h => h) rfl (by assumption) ?_ ?_
              rotate_left
              · (intro w hSw; (try dsimp only at hSw); go_simp; (try with_reducible rfl))
              try simp only [List.setIfInBounds_toArray, List.set_cons_zero, List.set_cons_succ]
              refine heldY 26 37 ?_ _ rfl rfl (by kernel_rfl) (by kernel_rfl) (by kernel_rfl) (fun _ _ _ h => h) rfl (by assumption) ?_ ?_
              rotate_left
              · (intro w hSw; (try dsimp only at hSw); go_simp; (try with_reducible rfl))
              try simp only [List.setIfInBounds_toArray, List.set_cons_zero, List.set_cons_succ]
              refine heldY 27 38 ?_ _ rfl rfl (by kernel_rfl) (by kernel_rfl) (by kernel_rfl) (fun _ _ _ h => h) rfl (by assumption) ?_ ?_
              rotate_left
              · (intro w hSw; (try dsimp only at hSw); go_simp; (try with_reducible rfl))
              try simp only [List.setIfInBounds_toArray, List.set_cons_zero, List.set_cons_succ]
              refine heldY 28 39 ?_ _ rfl rfl (by kernel_rfl) (by kernel_rfl) (by kernel_rfl) (fun _ _ _ h => h) rfl (by assumption) ?_ ?_
              rotate_left
              · (intro w hSw; (try dsimp only at hSw); go_simp; (try with_reducible rfl))
              try simp only [List.setIfInBounds_toArray, List.set_cons_zero, List.set_cons_succ]
              refine heldY 29 40 ?_ _ rfl rfl (by kernel_rfl) (by kernel_rfl) (by kernel_rfl) (fun _ _ _ h => h) rfl (by assumption) ?_ ?_
              rotate_left
              · (intro w hSw; (try dsimp only at hSw); go_simp; (try with_reducible rfl))
              try simp only [List.setIfInBounds_toArray, List.set_cons_zero, List.set_cons_succ]
              refine heldY 30 41 ?_ _ rfl rfl (by kernel_rfl) (by kernel_rfl) (by kernel_rfl) (fun _ _ _ h => h) rfl (by assumption) ?_ ?_
              rotate_left
              · (intro w hSw; (try dsimp only at hSw); go_simp; (try with_reducible rfl))
              try simp only [List.setIfInBounds_toArray, List.set_cons_zero, List.set_cons_succ]
              refine heldY 31 42 ?_ _ rfl rfl (by kernel_rfl) (by kernel_rfl) (by kernel_rfl) (fun _ _ _ h => h) rfl (by assumption) ?_ ?_
              rotate_left
              · (intro w hSw; (try dsimp only at hSw); go_simp; (try with_reducible rfl))
              try simp only [List.setIfInBounds_toArray, List.set_cons_zero, List.set_cons_succ]
              refine heldY 32 43 ?_ _ rfl rfl (by kernel_rfl) (by kernel_rfl) (by kernel_rfl) (fun _ _ _ h => h) rfl (by assumption) ?_ ?_
              rotate_left
              · (intro w hSw; (try dsimp only at hSw); go_simp; (try with_reducible rfl))
              try simp only [List.setIfInBounds_toArray, List.set_cons_zero, List.set_cons_succ]
              refine heldY 33 44 ?_ _ rfl rfl (by kernel_rfl) (by kernel_rfl) (by kernel_rfl) (fun _ _ _ h => h) rfl (by assumption) ?_ ?_
              rotate_left
              · (intro w hSw; (try dsimp only at hSw); go_simp; (try with_reducible rfl))
              try simp only [List.setIfInBounds_toArray, List.set_cons_zero, List.set_cons_succ]
              refine heldY 34 45 ?_ _ rfl rfl (by kernel_rfl) (by kernel_rfl) (by kernel_rfl) (fun _ _ _ h => h) rfl (by assumption) ?_ ?_
              rotate_left
              · (intro w hSw; (try dsimp only at hSw); go_simp; (try with_reducible rfl))
              try simp only [List.setIfInBounds_toArray, List.set_cons_zero, List.set_cons_succ]
              refine heldY 35 46 ?_ _ rfl rfl (by kernel_rfl) (by kernel_rfl) (by kernel_rfl) (fun _ _ _ h => h) rfl (by assumption) ?_ ?_
              rotate_left
              · (intro w hSw; (try dsimp only at hSw); go_simp; (try with_reducible rfl))
              try simp only [List.setIfInBounds_toArray, List.set_cons_zero, List.set_cons_succ]
              refine heldY 36 47 ?_ _ rfl rfl (by kernel_rfl) (by kernel_rfl) (by kernel_rfl) (fun _ _ _ h => h) rfl (by assumption) ?_ ?_
              rotate_left
              · (intro w hSw; (try dsimp only at hSw); go_simp; (try with_reducible rfl))
              try simp only [List.setIfInBounds_toArray, List.set_cons_zero, List.set_cons_succ]
              refine heldY 37 48 ?_ _ rfl rfl (by kernel_rfl) (by kernel_rfl) (by kernel_rfl) (fun _ _ _ h => h) rfl (by assumption) ?_ ?_
              rotate_left
              · (intro w hSw; (try dsimp only at hSw); go_simp; (try with_reducible rfl))
              try simp only [List.setIfInBounds_toArray, List.set_cons_zero, List.set_cons_succ]
              refine heldY 38 49 ?_ _ rfl rfl (by kernel_rfl) (by kernel_rfl) (by kernel_rfl) (fun _ _ _ h => h) rfl (by assumption) ?_ ?_
              rotate_left
              · (intro w hSw; (try dsimp only at hSw); go_simp; (try with_reducible rfl))
              try simp only [List.setIfInBounds_toArray, List.set_cons_zero, List.set_cons_succ]
              refine heldY 39 50 ?_ _ rfl rfl (by kernel_rfl) (by kernel_rfl) (by kernel_rfl) (fun _ _ _ h => h) rfl (by assumption) ?_ ?_
              rotate_left
              · (intro w hSw; (try dsimp only at hSw); go_simp; (try with_reducible rfl))
              try simp only [List.setIfInBounds_toArray, List.set_cons_zero, List.set_cons_succ]
              refine heldY 40 51 ?_ _ rfl rfl (by kernel_rfl) (by kernel_rfl) (by kernel_rfl) (fun _ _ _ h => h) rfl (by assumption) ?_ ?_
              rotate_left
              · (intro w hSw; (try dsimp only at hSw); go_simp; (try with_reducible rfl))
              try simp only [List.setIfInBounds_toArray, List.set_cons_zero, List.set_cons_succ]
              refine wpAnyH_done (by kernel_rfl) ?_ _
              have HW3 := Lib.hid (BE _ hHeld)
              clear hHeld
              go_wp2
              go_roundw
              case rel => exact ⟨k + 1, by omega, by go_num, by rw [← HZ.out], HW3⟩
              case measure => simp [intOf]; omega
          · have HZ := Lib.hid (HN'.out (by rw [HOV.out, decide_eq_false h1, decide_eq_false h2]; simp))
            have e2 : decide (z = y) = false := decide_eq_false h2
            have e3 : (z == y) = false := by simpa using h2
            clear HOV HY HN'
            go_wp2
            have BE := fun (V : World) (h : V.cell? ⟨b, o + k * 3, none⟩ = some (.string X0) ∧ V.cell? ⟨b, o + k * 3 + 1, none⟩ = some (.int .i64 z) ∧ V.cell? ⟨b, o + m * 3, none⟩ = some (.string D0) ∧ V.cell? ⟨b, o + m * 3 + 1, none⟩ = some (.int .i64 y) ∧ Below w.heap.size w V) => AtF.be (w := w) (l := [(⟨b, o + k * 3, none⟩, .string X0), (⟨b, o + k * 3 + 1, none⟩, .int .i64 z), (⟨b, o + m * 3, none⟩, .string D0), (⟨b, o + m * 3 + 1, none⟩, .int .i64 y)]) h
            refine wp_region_held_drew (S := (fun V => V.cell? ⟨b, o + k * 3, none⟩ = some (.string X0) ∧ V.cell? ⟨b, o + k * 3 + 1, none⟩ = some (.int .i64 z) ∧ V.cell? ⟨b, o + m * 3, none⟩ = some (.string D0) ∧ V.cell? ⟨b, o + m * 3 + 1, none⟩ = some (.int .i64 y) ∧ Below w.heap.size w V)) (by kernel_rfl) ?_ (fun hHeld => ?_)
            · (try dsimp only); (first | assumption | exact hs | exact AtF.dr (w := w) (l := [(⟨b, o + k * 3, none⟩, .string X0), (⟨b, o + k * 3 + 1, none⟩, .int .i64 z), (⟨b, o + m * 3, none⟩, .string D0), (⟨b, o + m * 3 + 1, none⟩, .int .i64 y)]) hs | exact AtF.dr (w := w) (l := [(⟨b, o + k * 3, none⟩, .string X0), (⟨b, o + k * 3 + 1, none⟩, .int .i64 z), (⟨b, o + m * 3, none⟩, .string D0), (⟨b, o + m * 3 + 1, none⟩, .int .i64 y)]) (by assumption) | exact AtF.on (w := w) (l := [(⟨b, o + k * 3, none⟩, .string X0), (⟨b, o + k * 3 + 1, none⟩, .int .i64 z), (⟨b, o + m * 3, none⟩, .string D0), (⟨b, o + m * 3 + 1, none⟩, .int .i64 y)]) (by assumption) (by assumption) | exact AtF.al (w := w) (l := [(⟨b, o + k * 3, none⟩, .string X0), (⟨b, o + k * 3 + 1, none⟩, .int .i64 z), (⟨b, o + m * 3, none⟩, .string D0), (⟨b, o + m * 3 + 1, none⟩, .int .i64 y)]) (by assumption) _ | exact AtF.ald (w := w) (l := [(⟨b, o + k * 3, none⟩, .string X0), (⟨b, o + k * 3 + 1, none⟩, .int .i64 z), (⟨b, o + m * 3, none⟩, .string D0), (⟨b, o + m * 3 + 1, none⟩, .int .i64 y)]) (by assumption) _ | exact AtF.al (w := w) (l := [(⟨b, o + k * 3, none⟩, .string X0), (⟨b, o + k * 3 + 1, none⟩, .int .i64 z), (⟨b, o + m * 3, none⟩, .string D0), (⟨b, o + m * 3 + 1, none⟩, .int .i64 y)]) hs _ | exact AtF.ald (w := w) (l := [(⟨b, o + k * 3, none⟩, .string X0), (⟨b, o + k * 3 + 1, none⟩, .int .i64 z), (⟨b, o + m * 3, none⟩, .string D0), (⟨b, o + m * 3 + 1, none⟩, .int .i64 y)]) hs _)
            refine heldY 0 11 ?_ _ rfl rfl (by kernel_rfl) (by kernel_rfl) (by kernel_rfl) (fun _ _ _ h => h) rfl (by assumption) ?_ ?_
            rotate_left
            · (intro w hSw; (try dsimp only at hSw); go_simp; (try with_reducible rfl))
            try simp only [List.setIfInBounds_toArray, List.set_cons_zero, List.set_cons_succ]
            refine heldY 1 12 ?_ _ rfl rfl (by kernel_rfl) (by kernel_rfl) (by kernel_rfl) (fun _ _ _ h => h) rfl (by assumption) ?_ ?_
            rotate_left
            · (intro w hSw; (try dsimp only at hSw); go_simp; (try with_reducible rfl))
            try simp only [List.setIfInBounds_toArray, List.set_cons_zero, List.set_cons_succ]
            refine heldY 2 13 ?_ _ rfl rfl (by kernel_rfl) (by kernel_rfl) (by kernel_rfl) (fun _ _ _ h => h) rfl (by assumption) ?_ ?_
            rotate_left
            · (intro w hSw; (try dsimp only at hSw); go_simp; (try with_reducible rfl))
            try simp only [List.setIfInBounds_toArray, List.set_cons_zero, List.set_cons_succ]
            refine heldY 3 14 ?_ _ rfl rfl (by kernel_rfl) (by kernel_rfl) (by kernel_rfl) (fun _ _ _ h => h) rfl (by assumption) ?_ ?_
            rotate_left
            · (intro w hSw; (try dsimp only at hSw); go_simp; (try with_reducible rfl))
            try simp only [List.setIfInBounds_toArray, List.set_cons_zero, List.set_cons_succ]
            refine heldY 4 15 ?_ _ rfl rfl (by kernel_rfl) (by kernel_rfl) (by kernel_rfl) (fun _ _ _ h => h) rfl (by assumption) ?_ ?_
            rotate_left
            · (intro w hSw; (try dsimp only at hSw); go_simp; (try with_reducible rfl))
            try simp only [List.setIfInBounds_toArray, List.set_cons_zero, List.set_cons_succ]
            refine heldY 5 16 ?_ _ rfl rfl (by kernel_rfl) (by kernel_rfl) (by kernel_rfl) (fun _ _ _ h => h) rfl (by assumption) ?_ ?_
            rotate_left
            · (intro w hSw; (try dsimp only at hSw); go_simp; (try with_reducible rfl))
            try simp only [List.setIfInBounds_toArray, List.set_cons_zero, List.set_cons_succ]
            refine heldY 6 17 ?_ _ rfl rfl (by kernel_rfl) (by kernel_rfl) (by kernel_rfl) (fun _ _ _ h => h) rfl (by assumption) ?_ ?_
            rotate_left
            · (intro w hSw; (try dsimp only at hSw); go_simp; (try with_reducible rfl))
            try simp only [List.setIfInBounds_toArray, List.set_cons_zero, List.set_cons_succ]
            refine heldY 7 18 ?_ _ rfl rfl (by kernel_rfl) (by kernel_rfl) (by kernel_rfl) (fun _ _ _ h => h) rfl (by assumption) ?_ ?_
            rotate_left
            · (intro w hSw; (try dsimp only at hSw); go_simp; (try with_reducible rfl))
            try simp only [List.setIfInBounds_toArray, List.set_cons_zero, List.set_cons_succ]
            refine heldY 8 19 ?_ _ rfl rfl (by kernel_rfl) (by kernel_rfl) (by kernel_rfl) (fun _ _ _ h => h) rfl (by assumption) ?_ ?_
            rotate_left
            · (intro w hSw; (try dsimp only at hSw); go_simp; (try with_reducible rfl))
            try simp only [List.setIfInBounds_toArray, List.set_cons_zero, List.set_cons_succ]
            refine heldY 9 20 ?_ _ rfl rfl (by kernel_rfl) (by kernel_rfl) (by kernel_rfl) (fun _ _ _ h => h) rfl (by assumption) ?_ ?_
            rotate_left
            · (intro w hSw; (try dsimp only at hSw); go_simp; (try with_reducible rfl))
            try simp only [List.setIfInBounds_toArray, List.set_cons_zero, List.set_cons_succ]
            refine heldY 10 21 ?_ _ rfl rfl (by kernel_rfl) (by kernel_rfl) (by kernel_rfl) (fun _ _ _ h => h) rfl (by assumption) ?_ ?_
            rotate_left
            · (intro w hSw; (try dsimp only at hSw); go_simp; (try with_reducible rfl))
            try simp only [List.setIfInBounds_toArray, List.set_cons_zero, List.set_cons_succ]
            refine heldY 11 22 ?_ _ rfl rfl (by kernel_rfl) (by kernel_rfl) (by kernel_rfl) (fun _ _ _ h => h) rfl (by assumption) ?_ ?_
            rotate_left
            · (intro w hSw; (try dsimp only at hSw); go_simp; (try with_reducible rfl))
            try simp only [List.setIfInBounds_toArray, List.set_cons_zero, List.set_cons_succ]
            refine heldY 12 23 ?_ _ rfl rfl (by kernel_rfl) (by kernel_rfl) (by kernel_rfl) (fun _ _ _ h => h) rfl (by assumption) ?_ ?_
            rotate_left
            · (intro w hSw; (try dsimp only at hSw); go_simp; (try with_reducible rfl))
            try simp only [List.setIfInBounds_toArray, List.set_cons_zero, List.set_cons_succ]
            refine heldY 13 24 ?_ _ rfl rfl (by kernel_rfl) (by kernel_rfl) (by kernel_rfl) (fun _ _ _ h => h) rfl (by assumption) ?_ ?_
            rotate_left
            · (intro w hSw; (try dsimp only at hSw); go_simp; (try with_reducible rfl))
            try simp only [List.setIfInBounds_toArray, List.set_cons_zero, List.set_cons_succ]
            refine heldY 14 25 ?_ _ rfl rfl (by kernel_rfl) (by kernel_rfl) (by kernel_rfl) (fun _ _ _ h => h) rfl (by assumption) ?_ ?_
            rotate_left
            · (intro w hSw; (try dsimp only at hSw); go_simp; (try with_reducible rfl))
            try simp only [List.setIfInBounds_toArray, List.set_cons_zero, List.set_cons_succ]
            refine heldY 15 26 ?_ _ rfl rfl (by kernel_rfl) (by kernel_rfl) (by kernel_rfl) (fun _ _ _ h => h) rfl (by assumption) ?_ ?_
            rotate_left
            · (intro w hSw; (try dsimp only at hSw); go_simp; (try with_reducible rfl))
            try simp only [List.setIfInBounds_toArray, List.set_cons_zero, List.set_cons_succ]
            refine heldY 16 27 ?_ _ rfl rfl (by kernel_rfl) (by kernel_rfl) (by kernel_rfl) (fun _ _ _ h => h) rfl (by assumption) ?_ ?_
            rotate_left
            · (intro w hSw; (try dsimp only at hSw); go_simp; (try with_reducible rfl))
            try simp only [List.setIfInBounds_toArray, List.set_cons_zero, List.set_cons_succ]
            refine heldY 17 28 ?_ _ rfl rfl (by kernel_rfl) (by kernel_rfl) (by kernel_rfl) (fun _ _ _ h => h) rfl (by assumption) ?_ ?_
            rotate_left
            · (intro w hSw; (try dsimp only at hSw); go_simp; (try with_reducible rfl))
            try simp only [List.setIfInBounds_toArray, List.set_cons_zero, List.set_cons_succ]
            refine heldY 18 29 ?_ _ rfl rfl (by kernel_rfl) (by kernel_rfl) (by kernel_rfl) (fun _ _ _ h => h) rfl (by assumption) ?_ ?_
            rotate_left
            · (intro w hSw; (try dsimp only at hSw); go_simp; (try with_reducible rfl))
            try simp only [List.setIfInBounds_toArray, List.set_cons_zero, List.set_cons_succ]
            refine heldY 19 30 ?_ _ rfl rfl (by kernel_rfl) (by kernel_rfl) (by kernel_rfl) (fun _ _ _ h => h) rfl (by assumption) ?_ ?_
            rotate_left
            · (intro w hSw; (try dsimp only at hSw); go_simp; (try with_reducible rfl))
            try simp only [List.setIfInBounds_toArray, List.set_cons_zero, List.set_cons_succ]
            refine heldY 20 31 ?_ _ rfl rfl (by kernel_rfl) (by kernel_rfl) (by kernel_rfl) (fun _ _ _ h => h) rfl (by assumption) ?_ ?_
            rotate_left
            · (intro w hSw; (try dsimp only at hSw); go_simp; (try with_reducible rfl))
            try simp only [List.setIfInBounds_toArray, List.set_cons_zero, List.set_cons_succ]
            refine heldY 21 32 ?_ _ rfl rfl (by kernel_rfl) (by kernel_rfl) (by kernel_rfl) (fun _ _ _ h => h) rfl (by assumption) ?_ ?_
            rotate_left
            · (intro w hSw; (try dsimp only at hSw); go_simp; (try with_reducible rfl))
            try simp only [List.setIfInBounds_toArray, List.set_cons_zero, List.set_cons_succ]
            refine heldY 22 33 ?_ _ rfl rfl (by kernel_rfl) (by kernel_rfl) (by kernel_rfl) (fun _ _ _ h => h) rfl (by assumption) ?_ ?_
            rotate_left
            · (intro w hSw; (try dsimp only at hSw); go_simp; (try with_reducible rfl))
            try simp only [List.setIfInBounds_toArray, List.set_cons_zero, List.set_cons_succ]
            refine heldY 23 34 ?_ _ rfl rfl (by kernel_rfl) (by kernel_rfl) (by kernel_rfl) (fun _ _ _ h => h) rfl (by assumption) ?_ ?_
            rotate_left
            · (intro w hSw; (try dsimp only at hSw); go_simp; (try with_reducible rfl))
            try simp only [List.setIfInBounds_toArray, List.set_cons_zero, List.set_cons_succ]
            refine heldY 24 35 ?_ _ rfl rfl (by kernel_rfl) (by kernel_rfl) (by kernel_rfl) (fun _ _ _ h => h) rfl (by assumption) ?_ ?_
            rotate_left
            · (intro w hSw; (try dsimp only at hSw); go_simp; (try with_reducible rfl))
            try simp only [List.setIfInBounds_toArray, List.set_cons_zero, List.set_cons_succ]
            refine heldY 25 36 ?_ _ rfl rfl (by kernel_rfl) (by kernel_rfl) (by kernel_rfl) (fun _ _ _ h => h) rfl (by assumption) ?_ ?_
            rotate_left
            · (intro w hSw; (try dsimp only at hSw); go_simp; (try with_reducible rfl))
            try simp only [List.setIfInBounds_toArray, List.set_cons_zero, List.set_cons_succ]
            refine heldY 26 37 ?_ _ rfl rfl (by kernel_rfl) (by kernel_rfl) (by kernel_rfl) (fun _ _ _ h => h) rfl (by assumption) ?_ ?_
            rotate_left
            · (intro w hSw; (try dsimp only at hSw); go_simp; (try with_reducible rfl))
            try simp only [List.setIfInBounds_toArray, List.set_cons_zero, List.set_cons_succ]
            refine heldY 27 38 ?_ _ rfl rfl (by kernel_rfl) (by kernel_rfl) (by kernel_rfl) (fun _ _ _ h => h) rfl (by assumption) ?_ ?_
            rotate_left
            · (intro w hSw; (try dsimp only at hSw); go_simp; (try with_reducible rfl))
            try simp only [List.setIfInBounds_toArray, List.set_cons_zero, List.set_cons_succ]
            refine heldNo 28 39 rfl (by kernel_rfl) (by kernel_rfl) (by kernel_rfl) (fun _ _ _ h => h) rfl (by assumption) ?_
            try simp only [List.setIfInBounds_toArray, List.set_cons_zero, List.set_cons_succ]
            refine heldNo 29 40 rfl (by kernel_rfl) (by kernel_rfl) (by kernel_rfl) (fun _ _ _ h => h) rfl (by assumption) ?_
            try simp only [List.setIfInBounds_toArray, List.set_cons_zero, List.set_cons_succ]
            refine heldNo 30 41 rfl (by kernel_rfl) (by kernel_rfl) (by kernel_rfl) (fun _ _ _ h => h) rfl (by assumption) ?_
            try simp only [List.setIfInBounds_toArray, List.set_cons_zero, List.set_cons_succ]
            refine heldNo 31 42 rfl (by kernel_rfl) (by kernel_rfl) (by kernel_rfl) (fun _ _ _ h => h) rfl (by assumption) ?_
            try simp only [List.setIfInBounds_toArray, List.set_cons_zero, List.set_cons_succ]
            refine heldNo 32 43 rfl (by kernel_rfl) (by kernel_rfl) (by kernel_rfl) (fun _ _ _ h => h) rfl (by assumption) ?_
            try simp only [List.setIfInBounds_toArray, List.set_cons_zero, List.set_cons_succ]
            refine heldNo 33 44 rfl (by kernel_rfl) (by kernel_rfl) (by kernel_rfl) (fun _ _ _ h => h) rfl (by assumption) ?_
            try simp only [List.setIfInBounds_toArray, List.set_cons_zero, List.set_cons_succ]
            refine heldNo 34 45 rfl (by kernel_rfl) (by kernel_rfl) (by kernel_rfl) (fun _ _ _ h => h) rfl (by assumption) ?_
            try simp only [List.setIfInBounds_toArray, List.set_cons_zero, List.set_cons_succ]
            refine heldNo 35 46 rfl (by kernel_rfl) (by kernel_rfl) (by kernel_rfl) (fun _ _ _ h => h) rfl (by assumption) ?_
            try simp only [List.setIfInBounds_toArray, List.set_cons_zero, List.set_cons_succ]
            refine heldNo 36 47 rfl (by kernel_rfl) (by kernel_rfl) (by kernel_rfl) (fun _ _ _ h => h) rfl (by assumption) ?_
            try simp only [List.setIfInBounds_toArray, List.set_cons_zero, List.set_cons_succ]
            refine heldNo 37 48 rfl (by kernel_rfl) (by kernel_rfl) (by kernel_rfl) (fun _ _ _ h => h) rfl (by assumption) ?_
            try simp only [List.setIfInBounds_toArray, List.set_cons_zero, List.set_cons_succ]
            refine heldNo 38 49 rfl (by kernel_rfl) (by kernel_rfl) (by kernel_rfl) (fun _ _ _ h => h) rfl (by assumption) ?_
            try simp only [List.setIfInBounds_toArray, List.set_cons_zero, List.set_cons_succ]
            refine heldY 39 50 ?_ _ rfl rfl (by kernel_rfl) (by kernel_rfl) (by kernel_rfl) (fun _ _ _ h => h) rfl (by assumption) ?_ ?_
            rotate_left
            · (intro w hSw; (try dsimp only at hSw); go_simp; (try with_reducible rfl))
            try simp only [List.setIfInBounds_toArray, List.set_cons_zero, List.set_cons_succ]
            refine heldY 40 51 ?_ _ rfl rfl (by kernel_rfl) (by kernel_rfl) (by kernel_rfl) (fun _ _ _ h => h) rfl (by assumption) ?_ ?_
            rotate_left
            · (intro w hSw; (try dsimp only at hSw); go_simp; (try with_reducible rfl))
            try simp only [List.setIfInBounds_toArray, List.set_cons_zero, List.set_cons_succ]
            refine wpAnyH_done (by kernel_rfl) ?_ _
            have HW3 := Lib.hid (BE _ hHeld)
            clear hHeld
            go_wp2
            go_roundw
            case rel => exact ⟨k + 1, by omega, by go_num, by rw [← HZ.out], HW3⟩
            case measure => simp [intOf]; omega
    · obtain rfl : k = n := by omega
      clear hlt
      go_wp2
      go_ret
      exact ⟨rfl, HB.out⟩
end Go.Proofs.YtnfhccnicojdcaaGreatDoor
