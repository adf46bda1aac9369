/-
  The program's keyed.Check and keyed.Find over alternatives: what each returns; nothing old turns.
-/
import Derived.Test.YtnfhccnicojdcaaGreatDoorZMath
import Derived.Test.YtnfhccnicojdcaaGreatDoorRowV
import Derived.IntWalk
import Derived.Deep.RegionHeld3
import Derived.RangeFuncBox
namespace Go.Proofs.YtnfhccnicojdcaaGreatDoor
open Go.RowKit
theorem keyA_any (X0 : ByteArray) (X1 : ByteArray) (z2 : Bool) (X3 : ByteArray) (v4 : Value) (v5 : Value) (w : World) : Calls Tryz.prog 41 #[.agg #[.string X0, .string X1, .bool z2, .string X3, v4, v5]] w fun e w' => e = .returned (.string X0) ∧ Below w.heap.size w w' := by
  obtain ⟨x0, x1, x2, x3, x4, x5⟩ := boxV6 w (.string X0) (.string X1) (.bool z2) (.string X3) v4 v5 26
  have B0 := Lib.hid ((Below.refl w.heap.size w).alloc (Nat.le_refl _) (.cells #[.string X0, .string X1, .bool z2, .string X3, v4, v5] 26))
  go_enter Tryz.func41, Tryz.ntmps41
  go_wp2
  go_ret
  exact ⟨rfl, B0.out⟩
abbrev keyFA : Value := .func (.func 41) #[] #[]
abbrev agZA (x : Av) : Value := .agg #[.string (⟨(x.nm).toArray⟩ : ByteArray), .string (⟨(x.lk).toArray⟩ : ByteArray), .bool (x.mn), .string (⟨(x.cr).toArray⟩ : ByteArray), x.sv, x.cv]
/-- What is asked of a predicate: at each of l's, in each later world. -/
def PredKA (g : Nat) (lb : Array Value) (l : List Av) (p : Av → Bool) (w : World) : Prop :=
  ∀ x ∈ l, ∀ W, Below w.heap.size w W → Calls Tryz.prog g (#[agZA x] ++ lb) W fun e w' => e = .returned (.bool (p x)) ∧ Below W.heap.size W w'
theorem formAs {w : World} {x : Av} (h : InA w x) : ∃ a n c, x.sv = .slice a n c := by obtain ⟨⟨a, c, b, o, e, _⟩, _⟩ := h; exact ⟨_, _, _, e⟩
theorem formAc {w : World} {x : Av} (h : InA w x) : ∃ a n c, x.cv = .slice a n c := by obtain ⟨_, ⟨⟨a, c, b, o, e, _⟩, _⟩⟩ := h; exact ⟨_, _, _, e⟩
set_option maxRecDepth 100000 in
set_option maxHeartbeats 8000000 in
theorem kcheckA_any (g : Nat) (lb : Array Value) (eg : ∀ args w, (callFunc g args).run Tryz.prog w = .ok (.enter g args) w) (rt : Av → Bool) (v : Value) (l : List Av) (hl : l.length ≤ 90000) (w : World) (h : HoldA w v l) (hra : PredKA g lb l rt w) :
    Calls Tryz.prog 40 #[v, keyFA, .func (.func g) #[] lb] w fun e w' => e = .returned (.int .i64 (kchkK rt (fun x => x.nm) l)) ∧ Below w.heap.size w w' := by
  obtain ⟨a, c, b, o, rfl, hc, ha, hcell⟩ := h.parts
  have HC := Lib.hid hcell
  have HIN := Lib.hid h.2
  have HRA := Lib.hid hra
  unfold keyFA
  obtain ⟨Z, HZ⟩ : ∃ Z, Hid (kchkK rt (fun x => x.nm) l = Z) := ⟨_, rfl⟩
  rw [HZ.out]
  obtain ⟨n, hN⟩ : ∃ n, l.length = n := ⟨_, rfl⟩
  rw [hN] at hc ha hl ⊢
  have HN := Lib.hid hN
  clear hcell hN h hra
  by_cases h64 : 64 < n
  · have HF : Hid ((22 : Int) = Z) := Lib.hid (by rw [← HZ.out, kchkK_long (by rw [HN.out]; exact h64)])
    go_enter Tryz.func40, Tryz.ntmps40
    go_wp2
    go_ret
    exact ⟨reti HF.out, Below.refl _ _⟩
  have HBAD : Hid (∀ (i : Nat) x, l[i]? = some x → ¬ stepK rt (fun x => x.nm) l i x → (1 : Int) = Z) := Lib.hid (fun i x hx g => by rw [← HZ.out, kchkK_no (by rw [HN.out]; exact h64) (fun q => g (q i x hx))])
  have HOK : Hid (StepsK rt (fun x => x.nm) l → (0 : Int) = Z) := Lib.hid (fun g => by rw [← HZ.out, kchkK_ok (by rw [HN.out]; exact h64) g])
  clear HZ
  go_enter Tryz.func40, Tryz.ntmps40
  go_wp2
  go_loopw [14] (fun i wr => ∃ k : Nat, k ≤ n ∧ i = .int .i64 k ∧ Hid (∀ (j : Nat) x, j < k → l[j]? = some x → stepK rt (fun x => x.nm) l j x) ∧ Hid (Below w.heap.size w wr)) (fun i _ => n - (intOf i).toNat)
  case atStart => exact ⟨0, by omega, rfl, Lib.hid (fun j y hj => by omega), Lib.hid (Below.refl _ _)⟩
  case round =>
    obtain ⟨k, hk, rfl, H, HB⟩ := hrel
    by_cases hlt : k < n
    · obtain ⟨rfl, hbw⟩ := ha (by omega)
      obtain ⟨x, hx⟩ : ∃ x, l[k]? = some x := ⟨_, List.getElem?_eq_getElem (by rw [HN.out]; exact hlt)⟩
      obtain ⟨c0, c1, c2, c3, c4, c5⟩ := HC.out k x hx
      rw [← HB.out.cell (p := ⟨b, o + k * 6, none⟩) hbw] at c0
      rw [← HB.out.cell (p := ⟨b, o + k * 6 + 1, none⟩) hbw] at c1
      rw [← HB.out.cell (p := ⟨b, o + k * 6 + 2, none⟩) hbw] at c2
      rw [← HB.out.cell (p := ⟨b, o + k * 6 + 3, none⟩) hbw] at c3
      rw [← HB.out.cell (p := ⟨b, o + k * 6 + 4, none⟩) hbw] at c4
      rw [← HB.out.cell (p := ⟨b, o + k * 6 + 5, none⟩) hbw] at c5
      have RA := HRA.out x (List.mem_of_getElem? hx)
      have HX := Lib.hid hx
      have hsz := HB.out.size
      have B0 := HB.out.alloc hsz (.cells #[.string (⟨(x.nm).toArray⟩ : ByteArray), .string (⟨(x.lk).toArray⟩ : ByteArray), .bool (x.mn), .string (⟨(x.cr).toArray⟩ : ByteArray), x.sv, x.cv] 26)
      obtain ⟨x0, x1, x2, x3, x4, x5⟩ := boxV6 wr (.string (⟨(x.nm).toArray⟩ : ByteArray)) (.string (⟨(x.lk).toArray⟩ : ByteArray)) (.bool (x.mn)) (.string (⟨(x.cr).toArray⟩ : ByteArray)) x.sv x.cv 26
      have hs := (And.intro x0 (And.intro x1 (And.intro x2 (And.intro x3 (And.intro x4 (And.intro x5 B0))))))
      unfold agZA at RA
      clear x0 x1 x2 x3 x4 x5 B0
      obtain ⟨a4, n4, m4, hf4⟩ := formAs (HIN.out x (List.mem_of_getElem? hx))
      rw [hf4] at RA hs c4
      clear hf4
      obtain ⟨a5, n5, m5, hf5⟩ := formAc (HIN.out x (List.mem_of_getElem? hx))
      rw [hf5] at RA hs c5
      clear hf5
      clear hx
      cases hq : rt x
      · have HF := Lib.hid (HBAD.out k x HX.out (fun g => by rw [g.1] at hq; cases hq))
        simp only [hq] at RA
        clear hq H HBAD HOK HC HX HRA HIN
        generalize (⟨(x.nm).toArray⟩ : ByteArray) = X0 at *
        generalize (⟨(x.lk).toArray⟩ : ByteArray) = X1 at *
        generalize x.mn = z2 at *
        generalize (⟨(x.cr).toArray⟩ : ByteArray) = X3 at *
        go_wp2
        generalize wr.alloc (.cells #[.string X0, .string X1, .bool z2, .string X3, .slice a4 n4 m4, .slice a5 n5 m5] 26) = W2 at *
        generalize hb0 : wr.heap.size = b0 at *
        obtain ⟨x0, x1, x2, x3, x4, x5, hB⟩ := hs
        have hs := (And.intro x0 (And.intro x1 (And.intro x2 (And.intro x3 (And.intro x4 (And.intro x5 hB))))))
        clear hb0
        have BE := fun (V : World) (h : V.cell? ⟨b0, 0, none⟩ = some (.string X0) ∧ V.cell? ⟨b0, 1, none⟩ = some (.string X1) ∧ V.cell? ⟨b0, 2, none⟩ = some (.bool z2) ∧ V.cell? ⟨b0, 3, none⟩ = some (.string X3) ∧ V.cell? ⟨b0, 4, none⟩ = some (.slice a4 n4 m4) ∧ V.cell? ⟨b0, 5, none⟩ = some (.slice a5 n5 m5) ∧ Below w.heap.size w V) => AtF.be (w := w) (l := [(⟨b0, 0, none⟩, .string X0), (⟨b0, 1, none⟩, .string X1), (⟨b0, 2, none⟩, .bool z2), (⟨b0, 3, none⟩, .string X3), (⟨b0, 4, none⟩, .slice a4 n4 m4), (⟨b0, 5, none⟩, .slice a5 n5 m5)]) h
        refine wp_region_held_drew (S := (fun V => V.cell? ⟨b0, 0, none⟩ = some (.string X0) ∧ V.cell? ⟨b0, 1, none⟩ = some (.string X1) ∧ V.cell? ⟨b0, 2, none⟩ = some (.bool z2) ∧ V.cell? ⟨b0, 3, none⟩ = some (.string X3) ∧ V.cell? ⟨b0, 4, none⟩ = some (.slice a4 n4 m4) ∧ V.cell? ⟨b0, 5, none⟩ = some (.slice a5 n5 m5) ∧ Below w.heap.size w V)) (by kernel_rfl) ?_ (fun hHeld => ?_)
        · (try dsimp only); (first | assumption | exact hs | exact AtF.dr (w := w) (l := [(⟨b0, 0, none⟩, .string X0), (⟨b0, 1, none⟩, .string X1), (⟨b0, 2, none⟩, .bool z2), (⟨b0, 3, none⟩, .string X3), (⟨b0, 4, none⟩, .slice a4 n4 m4), (⟨b0, 5, none⟩, .slice a5 n5 m5)]) hs | exact AtF.dr (w := w) (l := [(⟨b0, 0, none⟩, .string X0), (⟨b0, 1, none⟩, .string X1), (⟨b0, 2, none⟩, .bool z2), (⟨b0, 3, none⟩, .string X3), (⟨b0, 4, none⟩, .slice a4 n4 m4), (⟨b0, 5, none⟩, .slice a5 n5 m5)]) (by assumption) | exact AtF.on (w := w) (l := [(⟨b0, 0, none⟩, .string X0), (⟨b0, 1, none⟩, .string X1), (⟨b0, 2, none⟩, .bool z2), (⟨b0, 3, none⟩, .string X3), (⟨b0, 4, none⟩, .slice a4 n4 m4), (⟨b0, 5, none⟩, .slice a5 n5 m5)]) (by assumption) (by assumption) | exact AtF.al (w := w) (l := [(⟨b0, 0, none⟩, .string X0), (⟨b0, 1, none⟩, .string X1), (⟨b0, 2, none⟩, .bool z2), (⟨b0, 3, none⟩, .string X3), (⟨b0, 4, none⟩, .slice a4 n4 m4), (⟨b0, 5, none⟩, .slice a5 n5 m5)]) (by assumption) _ | exact AtF.ald (w := w) (l := [(⟨b0, 0, none⟩, .string X0), (⟨b0, 1, none⟩, .string X1), (⟨b0, 2, none⟩, .bool z2), (⟨b0, 3, none⟩, .string X3), (⟨b0, 4, none⟩, .slice a4 n4 m4), (⟨b0, 5, none⟩, .slice a5 n5 m5)]) (by assumption) _ | exact AtF.al (w := w) (l := [(⟨b0, 0, none⟩, .string X0), (⟨b0, 1, none⟩, .string X1), (⟨b0, 2, none⟩, .bool z2), (⟨b0, 3, none⟩, .string X3), (⟨b0, 4, none⟩, .slice a4 n4 m4), (⟨b0, 5, none⟩, .slice a5 n5 m5)]) hs _ | exact AtF.ald (w := w) (l := [(⟨b0, 0, none⟩, .string X0), (⟨b0, 1, none⟩, .string X1), (⟨b0, 2, none⟩, .bool z2), (⟨b0, 3, none⟩, .string X3), (⟨b0, 4, none⟩, .slice a4 n4 m4), (⟨b0, 5, none⟩, .slice a5 n5 m5)]) hs _)
        refine heldY 0 19 ?_ _ rfl rfl (by kernel_rfl) (by kernel_rfl) (by kernel_rfl) (fun _ _ _ h => h) rfl (by assumption) ?_ ?_
        rotate_left
        · (intro w hSw; (try dsimp only at hSw); go_simp; (try with_reducible rfl))
        try simp only [List.setIfInBounds_toArray, List.set_cons_zero, List.set_cons_succ]
        refine heldY 1 20 ?_ _ rfl rfl (by kernel_rfl) (by kernel_rfl) (by kernel_rfl) (fun _ _ _ h => h) rfl (by assumption) ?_ ?_
        rotate_left
        · (intro w hSw; (try dsimp only at hSw); go_simp; (try with_reducible rfl))
        try simp only [List.setIfInBounds_toArray, List.set_cons_zero, List.set_cons_succ]
        refine wpAnyH_ready (rs := [2]) (by kernel_rfl) (by simp) ?_
        refine AllReadyH.cons rfl (fun K hK => ?_) AllReadyH.nil
        go_simp
        (go_at_fn g; refine (RA _ (BE _ (by assumption))).mono ?_; rintro e w3 ⟨rfl, hb⟩)
        refine hK.out _ _ ?_ (fun hHeld => ?_)
        · (try dsimp only); (first | assumption | exact hs | exact AtF.dr (w := w) (l := [(⟨b0, 0, none⟩, .string X0), (⟨b0, 1, none⟩, .string X1), (⟨b0, 2, none⟩, .bool z2), (⟨b0, 3, none⟩, .string X3), (⟨b0, 4, none⟩, .slice a4 n4 m4), (⟨b0, 5, none⟩, .slice a5 n5 m5)]) hs | exact AtF.dr (w := w) (l := [(⟨b0, 0, none⟩, .string X0), (⟨b0, 1, none⟩, .string X1), (⟨b0, 2, none⟩, .bool z2), (⟨b0, 3, none⟩, .string X3), (⟨b0, 4, none⟩, .slice a4 n4 m4), (⟨b0, 5, none⟩, .slice a5 n5 m5)]) (by assumption) | exact AtF.on (w := w) (l := [(⟨b0, 0, none⟩, .string X0), (⟨b0, 1, none⟩, .string X1), (⟨b0, 2, none⟩, .bool z2), (⟨b0, 3, none⟩, .string X3), (⟨b0, 4, none⟩, .slice a4 n4 m4), (⟨b0, 5, none⟩, .slice a5 n5 m5)]) (by assumption) (by assumption) | exact AtF.al (w := w) (l := [(⟨b0, 0, none⟩, .string X0), (⟨b0, 1, none⟩, .string X1), (⟨b0, 2, none⟩, .bool z2), (⟨b0, 3, none⟩, .string X3), (⟨b0, 4, none⟩, .slice a4 n4 m4), (⟨b0, 5, none⟩, .slice a5 n5 m5)]) (by assumption) _ | exact AtF.ald (w := w) (l := [(⟨b0, 0, none⟩, .string X0), (⟨b0, 1, none⟩, .string X1), (⟨b0, 2, none⟩, .bool z2), (⟨b0, 3, none⟩, .string X3), (⟨b0, 4, none⟩, .slice a4 n4 m4), (⟨b0, 5, none⟩, .slice a5 n5 m5)]) (by assumption) _ | exact AtF.al (w := w) (l := [(⟨b0, 0, none⟩, .string X0), (⟨b0, 1, none⟩, .string X1), (⟨b0, 2, none⟩, .bool z2), (⟨b0, 3, none⟩, .string X3), (⟨b0, 4, none⟩, .slice a4 n4 m4), (⟨b0, 5, none⟩, .slice a5 n5 m5)]) hs _ | exact AtF.ald (w := w) (l := [(⟨b0, 0, none⟩, .string X0), (⟨b0, 1, none⟩, .string X1), (⟨b0, 2, none⟩, .bool z2), (⟨b0, 3, none⟩, .string X3), (⟨b0, 4, none⟩, .slice a4 n4 m4), (⟨b0, 5, none⟩, .slice a5 n5 m5)]) hs _)
        clear hK K
        try simp only [Act.put, List.setIfInBounds_toArray, List.set_cons_zero, List.set_cons_succ]
        refine heldY 3 22 ?_ _ rfl rfl (by kernel_rfl) (by kernel_rfl) (by kernel_rfl) (fun _ _ _ h => h) rfl (by assumption) ?_ ?_
        rotate_left
        · (intro w hSw; (try dsimp only at hSw); go_simp; (try with_reducible rfl))
        try simp only [List.setIfInBounds_toArray, List.set_cons_zero, List.set_cons_succ]
        refine heldY 4 23 ?_ _ rfl rfl (by kernel_rfl) (by kernel_rfl) (by kernel_rfl) (fun _ _ _ h => h) rfl (by assumption) ?_ ?_
        rotate_left
        · (intro w hSw; (try dsimp only at hSw); go_simp; (try with_reducible rfl))
        try simp only [List.setIfInBounds_toArray, List.set_cons_zero, List.set_cons_succ]
        refine heldNo 5 24 rfl (by kernel_rfl) (by kernel_rfl) (by kernel_rfl) (fun _ _ _ h => h) rfl (by assumption) ?_
        try simp only [List.setIfInBounds_toArray, List.set_cons_zero, List.set_cons_succ]
        refine heldNo 6 25 rfl (by kernel_rfl) (by kernel_rfl) (by kernel_rfl) (fun _ _ _ h => h) rfl (by assumption) ?_
        try simp only [List.setIfInBounds_toArray, List.set_cons_zero, List.set_cons_succ]
        refine heldNo 7 26 rfl (by kernel_rfl) (by kernel_rfl) (by kernel_rfl) (fun _ _ _ h => h) rfl (by assumption) ?_
        try simp only [List.setIfInBounds_toArray, List.set_cons_zero, List.set_cons_succ]
        refine heldNo 8 27 rfl (by kernel_rfl) (by kernel_rfl) (by kernel_rfl) (fun _ _ _ h => h) rfl (by assumption) ?_
        try simp only [List.setIfInBounds_toArray, List.set_cons_zero, List.set_cons_succ]
        refine heldNo 9 28 rfl (by kernel_rfl) (by kernel_rfl) (by kernel_rfl) (fun _ _ _ h => h) rfl (by assumption) ?_
        try simp only [List.setIfInBounds_toArray, List.set_cons_zero, List.set_cons_succ]
        refine heldNo 10 29 rfl (by kernel_rfl) (by kernel_rfl) (by kernel_rfl) (fun _ _ _ h => h) rfl (by assumption) ?_
        try simp only [List.setIfInBounds_toArray, List.set_cons_zero, List.set_cons_succ]
        refine heldNo 11 30 rfl (by kernel_rfl) (by kernel_rfl) (by kernel_rfl) (fun _ _ _ h => h) rfl (by assumption) ?_
        try simp only [List.setIfInBounds_toArray, List.set_cons_zero, List.set_cons_succ]
        refine heldNo 12 31 rfl (by kernel_rfl) (by kernel_rfl) (by kernel_rfl) (fun _ _ _ h => h) rfl (by assumption) ?_
        try simp only [List.setIfInBounds_toArray, List.set_cons_zero, List.set_cons_succ]
        refine heldNo 13 32 rfl (by kernel_rfl) (by kernel_rfl) (by kernel_rfl) (fun _ _ _ h => h) rfl (by assumption) ?_
        try simp only [List.setIfInBounds_toArray, List.set_cons_zero, List.set_cons_succ]
        refine heldNo 14 33 rfl (by kernel_rfl) (by kernel_rfl) (by kernel_rfl) (fun _ _ _ h => h) rfl (by assumption) ?_
        try simp only [List.setIfInBounds_toArray, List.set_cons_zero, List.set_cons_succ]
        refine heldNo 15 34 rfl (by kernel_rfl) (by kernel_rfl) (by kernel_rfl) (fun _ _ _ h => h) rfl (by assumption) ?_
        try simp only [List.setIfInBounds_toArray, List.set_cons_zero, List.set_cons_succ]
        refine heldNo 16 35 rfl (by kernel_rfl) (by kernel_rfl) (by kernel_rfl) (fun _ _ _ h => h) rfl (by assumption) ?_
        try simp only [List.setIfInBounds_toArray, List.set_cons_zero, List.set_cons_succ]
        refine heldNo 17 36 rfl (by kernel_rfl) (by kernel_rfl) (by kernel_rfl) (fun _ _ _ h => h) rfl (by assumption) ?_
        try simp only [List.setIfInBounds_toArray, List.set_cons_zero, List.set_cons_succ]
        refine heldNo 18 37 rfl (by kernel_rfl) (by kernel_rfl) (by kernel_rfl) (fun _ _ _ h => h) rfl (by assumption) ?_
        try simp only [List.setIfInBounds_toArray, List.set_cons_zero, List.set_cons_succ]
        refine heldNo 19 38 rfl (by kernel_rfl) (by kernel_rfl) (by kernel_rfl) (fun _ _ _ h => h) rfl (by assumption) ?_
        try simp only [List.setIfInBounds_toArray, List.set_cons_zero, List.set_cons_succ]
        refine heldY 20 39 ?_ _ rfl rfl (by kernel_rfl) (by kernel_rfl) (by kernel_rfl) (fun _ _ _ h => h) rfl (by assumption) ?_ ?_
        rotate_left
        · (intro w hSw; (try dsimp only at hSw); go_simp; (try with_reducible rfl))
        try simp only [List.setIfInBounds_toArray, List.set_cons_zero, List.set_cons_succ]
        refine wpAnyH_done (by kernel_rfl) ?_ _
        have HW3 := Lib.hid (BE _ hHeld)
        clear hHeld
        go_wp2
        go_ret
        exact ⟨reti HF.out, HW3.out⟩
      · simp only [hq] at RA
        by_cases hk0 : 0 < k
        · obtain ⟨y, hy⟩ : ∃ y, l[k - 1]? = some y := ⟨_, List.getElem?_eq_getElem (by rw [HN.out]; omega)⟩
          obtain ⟨e0, e1, e2, e3, e4, e5⟩ := HC.out (k - 1) y hy
          rw [← HB.out.cell (p := ⟨b, o + (k - 1) * 6, none⟩) hbw] at e0
          rw [← HB.out.cell (p := ⟨b, o + (k - 1) * 6 + 1, none⟩) hbw] at e1
          rw [← HB.out.cell (p := ⟨b, o + (k - 1) * 6 + 2, none⟩) hbw] at e2
          rw [← HB.out.cell (p := ⟨b, o + (k - 1) * 6 + 3, none⟩) hbw] at e3
          rw [← HB.out.cell (p := ⟨b, o + (k - 1) * 6 + 4, none⟩) hbw] at e4
          rw [← HB.out.cell (p := ⟨b, o + (k - 1) * 6 + 5, none⟩) hbw] at e5
          obtain ⟨a4', n4', m4', hf4'⟩ := formAs (HIN.out y (List.mem_of_getElem? hy))
          rw [hf4'] at e4
          clear hf4'
          obtain ⟨a5', n5', m5', hf5'⟩ := formAc (HIN.out y (List.mem_of_getElem? hy))
          rw [hf5'] at e5
          clear hf5'
          have hbwr : b < wr.heap.size := Nat.lt_of_lt_of_le hbw hsz
          have hB1 := (Below.refl wr.heap.size wr).alloc (Nat.le_refl _) (.cells #[.string (⟨(x.nm).toArray⟩ : ByteArray), .string (⟨(x.lk).toArray⟩ : ByteArray), .bool (x.mn), .string (⟨(x.cr).toArray⟩ : ByteArray), .slice a4 n4 m4, .slice a5 n5 m5] 26)
          have e0 := (hB1.cell (p := ⟨b, o + (k - 1) * 6, none⟩) hbwr).trans e0
          have e1 := (hB1.cell (p := ⟨b, o + (k - 1) * 6 + 1, none⟩) hbwr).trans e1
          have e2 := (hB1.cell (p := ⟨b, o + (k - 1) * 6 + 2, none⟩) hbwr).trans e2
          have e3 := (hB1.cell (p := ⟨b, o + (k - 1) * 6 + 3, none⟩) hbwr).trans e3
          have e4 := (hB1.cell (p := ⟨b, o + (k - 1) * 6 + 4, none⟩) hbwr).trans e4
          have e5 := (hB1.cell (p := ⟨b, o + (k - 1) * 6 + 5, none⟩) hbwr).trans e5
          have hls := lessT (⟨(y.nm).toArray⟩ : ByteArray) (⟨(x.nm).toArray⟩ : ByteArray)
          rw [bytesOf, bytesOf] at hls
          have HBADk : Hid (decide (y.nm < x.nm) = false → (1 : Int) = Z) := Lib.hid (fun g => HBAD.out k x HX.out (fun q => by have := q.2 y hk0 hy; simp only at this; rw [decide_eq_true this] at g; cases g))
          have HNEXT : Hid (decide (y.nm < x.nm) = true → ∀ (j : Nat) u, j < k + 1 → l[j]? = some u → stepK rt (fun x => x.nm) l j u) := Lib.hid (fun g j u hj hu => by
            by_cases ej : j = k
            · subst ej
              rw [HX.out] at hu; cases hu
              exact ⟨hq, fun u h1 h2 => by rw [hy] at h2; cases h2; exact of_decide_eq_true g⟩
            · exact H.out j u (by omega) hu)
          generalize decide (y.nm < x.nm) = q at *
          have hd : decide ((0 : Int) < (k : Int)) = true := decide_eq_true (by omega)
          have hk1 : (1 : Int) ≤ (k : Int) := by omega
          clear hq H HBAD HC HX hy hB1 HRA HIN
          generalize (⟨(x.nm).toArray⟩ : ByteArray) = X0 at *
          generalize (⟨(x.lk).toArray⟩ : ByteArray) = X1 at *
          generalize x.mn = z2 at *
          generalize (⟨(x.cr).toArray⟩ : ByteArray) = X3 at *
          generalize (⟨(y.nm).toArray⟩ : ByteArray) = X0' at *
          generalize (⟨(y.lk).toArray⟩ : ByteArray) = X1' at *
          generalize y.mn = z2' at *
          generalize (⟨(y.cr).toArray⟩ : ByteArray) = X3' at *
          go_wp2
          generalize wr.alloc (.cells #[.string X0, .string X1, .bool z2, .string X3, .slice a4 n4 m4, .slice a5 n5 m5] 26) = W2 at *
          generalize hb0 : wr.heap.size = b0 at *
          obtain ⟨x0, x1, x2, x3, x4, x5, hB⟩ := hs
          have hs := (And.intro x0 (And.intro x1 (And.intro x2 (And.intro x3 (And.intro x4 (And.intro x5 (And.intro e0 (And.intro e1 (And.intro e2 (And.intro e3 (And.intro e4 (And.intro e5 hB))))))))))))
          clear hb0
          have i0 : (0 : Int) ≤ (k : Int) - 1 := by omega
          have i1 : (k : Int) - 1 < (n : Int) := by omega
          have i2 : ((k : Int) - 1).toNat = k - 1 := by omega
          have i3 : IntKind.i64.wrap ((k : Int) - 1) = (k : Int) - 1 := IntWalk.i64_in _ (by omega)
          have KX := fun W => keyA_any X0 X1 z2 X3 (.slice a4 n4 m4) (.slice a5 n5 m5) W
          have KY := fun W => keyA_any X0' X1' z2' X3' (.slice a4' n4' m4') (.slice a5' n5' m5') W
          have BE := fun (V : World) (h : V.cell? ⟨b0, 0, none⟩ = some (.string X0) ∧ V.cell? ⟨b0, 1, none⟩ = some (.string X1) ∧ V.cell? ⟨b0, 2, none⟩ = some (.bool z2) ∧ V.cell? ⟨b0, 3, none⟩ = some (.string X3) ∧ V.cell? ⟨b0, 4, none⟩ = some (.slice a4 n4 m4) ∧ V.cell? ⟨b0, 5, none⟩ = some (.slice a5 n5 m5) ∧ V.cell? ⟨b, o + (k - 1) * 6, none⟩ = some (.string X0') ∧ V.cell? ⟨b, o + (k - 1) * 6 + 1, none⟩ = some (.string X1') ∧ V.cell? ⟨b, o + (k - 1) * 6 + 2, none⟩ = some (.bool z2') ∧ V.cell? ⟨b, o + (k - 1) * 6 + 3, none⟩ = some (.string X3') ∧ V.cell? ⟨b, o + (k - 1) * 6 + 4, none⟩ = some (.slice a4' n4' m4') ∧ V.cell? ⟨b, o + (k - 1) * 6 + 5, none⟩ = some (.slice a5' n5' m5') ∧ Below w.heap.size w V) => AtF.be (w := w) (l := [(⟨b0, 0, none⟩, .string X0), (⟨b0, 1, none⟩, .string X1), (⟨b0, 2, none⟩, .bool z2), (⟨b0, 3, none⟩, .string X3), (⟨b0, 4, none⟩, .slice a4 n4 m4), (⟨b0, 5, none⟩, .slice a5 n5 m5), (⟨b, o + (k - 1) * 6, none⟩, .string X0'), (⟨b, o + (k - 1) * 6 + 1, none⟩, .string X1'), (⟨b, o + (k - 1) * 6 + 2, none⟩, .bool z2'), (⟨b, o + (k - 1) * 6 + 3, none⟩, .string X3'), (⟨b, o + (k - 1) * 6 + 4, none⟩, .slice a4' n4' m4'), (⟨b, o + (k - 1) * 6 + 5, none⟩, .slice a5' n5' m5')]) h
          refine wp_region_held_drew (S := (fun V => V.cell? ⟨b0, 0, none⟩ = some (.string X0) ∧ V.cell? ⟨b0, 1, none⟩ = some (.string X1) ∧ V.cell? ⟨b0, 2, none⟩ = some (.bool z2) ∧ V.cell? ⟨b0, 3, none⟩ = some (.string X3) ∧ V.cell? ⟨b0, 4, none⟩ = some (.slice a4 n4 m4) ∧ V.cell? ⟨b0, 5, none⟩ = some (.slice a5 n5 m5) ∧ V.cell? ⟨b, o + (k - 1) * 6, none⟩ = some (.string X0') ∧ V.cell? ⟨b, o + (k - 1) * 6 + 1, none⟩ = some (.string X1') ∧ V.cell? ⟨b, o + (k - 1) * 6 + 2, none⟩ = some (.bool z2') ∧ V.cell? ⟨b, o + (k - 1) * 6 + 3, none⟩ = some (.string X3') ∧ V.cell? ⟨b, o + (k - 1) * 6 + 4, none⟩ = some (.slice a4' n4' m4') ∧ V.cell? ⟨b, o + (k - 1) * 6 + 5, none⟩ = some (.slice a5' n5' m5') ∧ Below w.heap.size w V)) (by kernel_rfl) ?_ (fun hHeld => ?_)
          · (try dsimp only); (first | assumption | exact hs | exact AtF.dr (w := w) (l := [(⟨b0, 0, none⟩, .string X0), (⟨b0, 1, none⟩, .string X1), (⟨b0, 2, none⟩, .bool z2), (⟨b0, 3, none⟩, .string X3), (⟨b0, 4, none⟩, .slice a4 n4 m4), (⟨b0, 5, none⟩, .slice a5 n5 m5), (⟨b, o + (k - 1) * 6, none⟩, .string X0'), (⟨b, o + (k - 1) * 6 + 1, none⟩, .string X1'), (⟨b, o + (k - 1) * 6 + 2, none⟩, .bool z2'), (⟨b, o + (k - 1) * 6 + 3, none⟩, .string X3'), (⟨b, o + (k - 1) * 6 + 4, none⟩, .slice a4' n4' m4'), (⟨b, o + (k - 1) * 6 + 5, none⟩, .slice a5' n5' m5')]) hs | exact AtF.dr (w := w) (l := [(⟨b0, 0, none⟩, .string X0), (⟨b0, 1, none⟩, .string X1), (⟨b0, 2, none⟩, .bool z2), (⟨b0, 3, none⟩, .string X3), (⟨b0, 4, none⟩, .slice a4 n4 m4), (⟨b0, 5, none⟩, .slice a5 n5 m5), (⟨b, o + (k - 1) * 6, none⟩, .string X0'), (⟨b, o + (k - 1) * 6 + 1, none⟩, .string X1'), (⟨b, o + (k - 1) * 6 + 2, none⟩, .bool z2'), (⟨b, o + (k - 1) * 6 + 3, none⟩, .string X3'), (⟨b, o + (k - 1) * 6 + 4, none⟩, .slice a4' n4' m4'), (⟨b, o + (k - 1) * 6 + 5, none⟩, .slice a5' n5' m5')]) (by assumption) | exact AtF.on (w := w) (l := [(⟨b0, 0, none⟩, .string X0), (⟨b0, 1, none⟩, .string X1), (⟨b0, 2, none⟩, .bool z2), (⟨b0, 3, none⟩, .string X3), (⟨b0, 4, none⟩, .slice a4 n4 m4), (⟨b0, 5, none⟩, .slice a5 n5 m5), (⟨b, o + (k - 1) * 6, none⟩, .string X0'), (⟨b, o + (k - 1) * 6 + 1, none⟩, .string X1'), (⟨b, o + (k - 1) * 6 + 2, none⟩, .bool z2'), (⟨b, o + (k - 1) * 6 + 3, none⟩, .string X3'), (⟨b, o + (k - 1) * 6 + 4, none⟩, .slice a4' n4' m4'), (⟨b, o + (k - 1) * 6 + 5, none⟩, .slice a5' n5' m5')]) (by assumption) (by assumption) | exact AtF.al (w := w) (l := [(⟨b0, 0, none⟩, .string X0), (⟨b0, 1, none⟩, .string X1), (⟨b0, 2, none⟩, .bool z2), (⟨b0, 3, none⟩, .string X3), (⟨b0, 4, none⟩, .slice a4 n4 m4), (⟨b0, 5, none⟩, .slice a5 n5 m5), (⟨b, o + (k - 1) * 6, none⟩, .string X0'), (⟨b, o + (k - 1) * 6 + 1, none⟩, .string X1'), (⟨b, o + (k - 1) * 6 + 2, none⟩, .bool z2'), (⟨b, o + (k - 1) * 6 + 3, none⟩, .string X3'), (⟨b, o + (k - 1) * 6 + 4, none⟩, .slice a4' n4' m4'), (⟨b, o + (k - 1) * 6 + 5, none⟩, .slice a5' n5' m5')]) (by assumption) _ | exact AtF.ald (w := w) (l := [(⟨b0, 0, none⟩, .string X0), (⟨b0, 1, none⟩, .string X1), (⟨b0, 2, none⟩, .bool z2), (⟨b0, 3, none⟩, .string X3), (⟨b0, 4, none⟩, .slice a4 n4 m4), (⟨b0, 5, none⟩, .slice a5 n5 m5), (⟨b, o + (k - 1) * 6, none⟩, .string X0'), (⟨b, o + (k - 1) * 6 + 1, none⟩, .string X1'), (⟨b, o + (k - 1) * 6 + 2, none⟩, .bool z2'), (⟨b, o + (k - 1) * 6 + 3, none⟩, .string X3'), (⟨b, o + (k - 1) * 6 + 4, none⟩, .slice a4' n4' m4'), (⟨b, o + (k - 1) * 6 + 5, none⟩, .slice a5' n5' m5')]) (by assumption) _ | exact AtF.al (w := w) (l := [(⟨b0, 0, none⟩, .string X0), (⟨b0, 1, none⟩, .string X1), (⟨b0, 2, none⟩, .bool z2), (⟨b0, 3, none⟩, .string X3), (⟨b0, 4, none⟩, .slice a4 n4 m4), (⟨b0, 5, none⟩, .slice a5 n5 m5), (⟨b, o + (k - 1) * 6, none⟩, .string X0'), (⟨b, o + (k - 1) * 6 + 1, none⟩, .string X1'), (⟨b, o + (k - 1) * 6 + 2, none⟩, .bool z2'), (⟨b, o + (k - 1) * 6 + 3, none⟩, .string X3'), (⟨b, o + (k - 1) * 6 + 4, none⟩, .slice a4' n4' m4'), (⟨b, o + (k - 1) * 6 + 5, none⟩, .slice a5' n5' m5')]) hs _ | exact AtF.ald (w := w) (l := [(⟨b0, 0, none⟩, .string X0), (⟨b0, 1, none⟩, .string X1), (⟨b0, 2, none⟩, .bool z2), (⟨b0, 3, none⟩, .string X3), (⟨b0, 4, none⟩, .slice a4 n4 m4), (⟨b0, 5, none⟩, .slice a5 n5 m5), (⟨b, o + (k - 1) * 6, none⟩, .string X0'), (⟨b, o + (k - 1) * 6 + 1, none⟩, .string X1'), (⟨b, o + (k - 1) * 6 + 2, none⟩, .bool z2'), (⟨b, o + (k - 1) * 6 + 3, none⟩, .string X3'), (⟨b, o + (k - 1) * 6 + 4, none⟩, .slice a4' n4' m4'), (⟨b, o + (k - 1) * 6 + 5, none⟩, .slice a5' n5' m5')]) hs _)
          refine heldY 0 19 ?_ _ rfl rfl (by kernel_rfl) (by kernel_rfl) (by kernel_rfl) (fun _ _ _ h => h) rfl (by assumption) ?_ ?_
          rotate_left
          · (intro w hSw; (try dsimp only at hSw); go_simp; (try with_reducible rfl))
          try simp only [List.setIfInBounds_toArray, List.set_cons_zero, List.set_cons_succ]
          refine heldY 1 20 ?_ _ rfl rfl (by kernel_rfl) (by kernel_rfl) (by kernel_rfl) (fun _ _ _ h => h) rfl (by assumption) ?_ ?_
          rotate_left
          · (intro w hSw; (try dsimp only at hSw); go_simp; (try with_reducible rfl))
          try simp only [List.setIfInBounds_toArray, List.set_cons_zero, List.set_cons_succ]
          refine wpAnyH_ready (rs := [2]) (by kernel_rfl) (by simp) ?_
          refine AllReadyH.cons rfl (fun K hK => ?_) AllReadyH.nil
          go_simp
          first | (go_at_fn g; refine (RA _ (BE _ (by assumption))).mono ?_; rintro e w3 ⟨rfl, hb⟩) | (go_at_call 41; first | ((with_reducible refine (KX _).mono ?_); rintro e w3 ⟨rfl, hb⟩) | ((with_reducible refine (KY _).mono ?_); rintro e w3 ⟨rfl, hb⟩))
          refine hK.out _ _ ?_ (fun hHeld => ?_)
          · (try dsimp only); (first | assumption | exact hs | exact AtF.dr (w := w) (l := [(⟨b0, 0, none⟩, .string X0), (⟨b0, 1, none⟩, .string X1), (⟨b0, 2, none⟩, .bool z2), (⟨b0, 3, none⟩, .string X3), (⟨b0, 4, none⟩, .slice a4 n4 m4), (⟨b0, 5, none⟩, .slice a5 n5 m5), (⟨b, o + (k - 1) * 6, none⟩, .string X0'), (⟨b, o + (k - 1) * 6 + 1, none⟩, .string X1'), (⟨b, o + (k - 1) * 6 + 2, none⟩, .bool z2'), (⟨b, o + (k - 1) * 6 + 3, none⟩, .string X3'), (⟨b, o + (k - 1) * 6 + 4, none⟩, .slice a4' n4' m4'), (⟨b, o + (k - 1) * 6 + 5, none⟩, .slice a5' n5' m5')]) hs | exact AtF.dr (w := w) (l := [(⟨b0, 0, none⟩, .string X0), (⟨b0, 1, none⟩, .string X1), (⟨b0, 2, none⟩, .bool z2), (⟨b0, 3, none⟩, .string X3), (⟨b0, 4, none⟩, .slice a4 n4 m4), (⟨b0, 5, none⟩, .slice a5 n5 m5), (⟨b, o + (k - 1) * 6, none⟩, .string X0'), (⟨b, o + (k - 1) * 6 + 1, none⟩, .string X1'), (⟨b, o + (k - 1) * 6 + 2, none⟩, .bool z2'), (⟨b, o + (k - 1) * 6 + 3, none⟩, .string X3'), (⟨b, o + (k - 1) * 6 + 4, none⟩, .slice a4' n4' m4'), (⟨b, o + (k - 1) * 6 + 5, none⟩, .slice a5' n5' m5')]) (by assumption) | exact AtF.on (w := w) (l := [(⟨b0, 0, none⟩, .string X0), (⟨b0, 1, none⟩, .string X1), (⟨b0, 2, none⟩, .bool z2), (⟨b0, 3, none⟩, .string X3), (⟨b0, 4, none⟩, .slice a4 n4 m4), (⟨b0, 5, none⟩, .slice a5 n5 m5), (⟨b, o + (k - 1) * 6, none⟩, .string X0'), (⟨b, o + (k - 1) * 6 + 1, none⟩, .string X1'), (⟨b, o + (k - 1) * 6 + 2, none⟩, .bool z2'), (⟨b, o + (k - 1) * 6 + 3, none⟩, .string X3'), (⟨b, o + (k - 1) * 6 + 4, none⟩, .slice a4' n4' m4'), (⟨b, o + (k - 1) * 6 + 5, none⟩, .slice a5' n5' m5')]) (by assumption) (by assumption) | exact AtF.al (w := w) (l := [(⟨b0, 0, none⟩, .string X0), (⟨b0, 1, none⟩, .string X1), (⟨b0, 2, none⟩, .bool z2), (⟨b0, 3, none⟩, .string X3), (⟨b0, 4, none⟩, .slice a4 n4 m4), (⟨b0, 5, none⟩, .slice a5 n5 m5), (⟨b, o + (k - 1) * 6, none⟩, .string X0'), (⟨b, o + (k - 1) * 6 + 1, none⟩, .string X1'), (⟨b, o + (k - 1) * 6 + 2, none⟩, .bool z2'), (⟨b, o + (k - 1) * 6 + 3, none⟩, .string X3'), (⟨b, o + (k - 1) * 6 + 4, none⟩, .slice a4' n4' m4'), (⟨b, o + (k - 1) * 6 + 5, none⟩, .slice a5' n5' m5')]) (by assumption) _ | exact AtF.ald (w := w) (l := [(⟨b0, 0, none⟩, .string X0), (⟨b0, 1, none⟩, .string X1), (⟨b0, 2, none⟩, .bool z2), (⟨b0, 3, none⟩, .string X3), (⟨b0, 4, none⟩, .slice a4 n4 m4), (⟨b0, 5, none⟩, .slice a5 n5 m5), (⟨b, o + (k - 1) * 6, none⟩, .string X0'), (⟨b, o + (k - 1) * 6 + 1, none⟩, .string X1'), (⟨b, o + (k - 1) * 6 + 2, none⟩, .bool z2'), (⟨b, o + (k - 1) * 6 + 3, none⟩, .string X3'), (⟨b, o + (k - 1) * 6 + 4, none⟩, .slice a4' n4' m4'), (⟨b, o + (k - 1) * 6 + 5, none⟩, .slice a5' n5' m5')]) (by assumption) _ | exact AtF.al (w := w) (l := [(⟨b0, 0, none⟩, .string X0), (⟨b0, 1, none⟩, .string X1), (⟨b0, 2, none⟩, .bool z2), (⟨b0, 3, none⟩, .string X3), (⟨b0, 4, none⟩, .slice a4 n4 m4), (⟨b0, 5, none⟩, .slice a5 n5 m5), (⟨b, o + (k - 1) * 6, none⟩, .string X0'), (⟨b, o + (k - 1) * 6 + 1, none⟩, .string X1'), (⟨b, o + (k - 1) * 6 + 2, none⟩, .bool z2'), (⟨b, o + (k - 1) * 6 + 3, none⟩, .string X3'), (⟨b, o + (k - 1) * 6 + 4, none⟩, .slice a4' n4' m4'), (⟨b, o + (k - 1) * 6 + 5, none⟩, .slice a5' n5' m5')]) hs _ | exact AtF.ald (w := w) (l := [(⟨b0, 0, none⟩, .string X0), (⟨b0, 1, none⟩, .string X1), (⟨b0, 2, none⟩, .bool z2), (⟨b0, 3, none⟩, .string X3), (⟨b0, 4, none⟩, .slice a4 n4 m4), (⟨b0, 5, none⟩, .slice a5 n5 m5), (⟨b, o + (k - 1) * 6, none⟩, .string X0'), (⟨b, o + (k - 1) * 6 + 1, none⟩, .string X1'), (⟨b, o + (k - 1) * 6 + 2, none⟩, .bool z2'), (⟨b, o + (k - 1) * 6 + 3, none⟩, .string X3'), (⟨b, o + (k - 1) * 6 + 4, none⟩, .slice a4' n4' m4'), (⟨b, o + (k - 1) * 6 + 5, none⟩, .slice a5' n5' m5')]) hs _)
          clear hK K
          try simp only [Act.put, List.setIfInBounds_toArray, List.set_cons_zero, List.set_cons_succ]
          refine heldY 3 22 ?_ _ rfl rfl (by kernel_rfl) (by kernel_rfl) (by kernel_rfl) (fun _ _ _ h => h) rfl (by assumption) ?_ ?_
          rotate_left
          · (intro w hSw; (try dsimp only at hSw); go_simp; (try with_reducible rfl))
          try simp only [List.setIfInBounds_toArray, List.set_cons_zero, List.set_cons_succ]
          refine heldY 4 23 ?_ _ rfl rfl (by kernel_rfl) (by kernel_rfl) (by kernel_rfl) (fun _ _ _ h => h) rfl (by assumption) ?_ ?_
          rotate_left
          · (intro w hSw; (try dsimp only at hSw); go_simp; (try with_reducible rfl))
          try simp only [List.setIfInBounds_toArray, List.set_cons_zero, List.set_cons_succ]
          refine heldY 5 24 ?_ _ rfl rfl (by kernel_rfl) (by kernel_rfl) (by kernel_rfl) (fun _ _ _ h => h) rfl (by assumption) ?_ ?_
          rotate_left
          · (intro w hSw; (try dsimp only at hSw); go_simp; (try with_reducible rfl))
          try simp only [List.setIfInBounds_toArray, List.set_cons_zero, List.set_cons_succ]
          refine heldY 6 25 ?_ _ rfl rfl (by kernel_rfl) (by kernel_rfl) (by kernel_rfl) (fun _ _ _ h => h) rfl (by assumption) ?_ ?_
          rotate_left
          · (intro w hSw; (try dsimp only at hSw); go_simp; (try with_reducible rfl))
          try simp only [List.setIfInBounds_toArray, List.set_cons_zero, List.set_cons_succ]
          refine heldY 7 26 ?_ _ rfl rfl (by kernel_rfl) (by kernel_rfl) (by kernel_rfl) (fun _ _ _ h => h) rfl (by assumption) ?_ ?_
          rotate_left
          · (intro w hSw; (try dsimp only at hSw); go_simp; (try with_reducible rfl))
          try simp only [List.setIfInBounds_toArray, List.set_cons_zero, List.set_cons_succ]
          refine heldY 8 27 ?_ _ rfl rfl (by kernel_rfl) (by kernel_rfl) (by kernel_rfl) (fun _ _ _ h => h) rfl (by assumption) ?_ ?_
          rotate_left
          · (intro w hSw; (try dsimp only at hSw); go_simp; (try with_reducible rfl))
          try simp only [List.setIfInBounds_toArray, List.set_cons_zero, List.set_cons_succ]
          refine heldY 9 28 ?_ _ rfl rfl (by kernel_rfl) (by kernel_rfl) (by kernel_rfl) (fun _ _ _ h => h) rfl (by assumption) ?_ ?_
          rotate_left
          · (intro w hSw; (try dsimp only at hSw); go_simp; (try with_reducible rfl))
          try simp only [List.setIfInBounds_toArray, List.set_cons_zero, List.set_cons_succ]
          refine heldY 10 29 ?_ _ rfl rfl (by kernel_rfl) (by kernel_rfl) (by kernel_rfl) (fun _ _ _ h => h) rfl (by assumption) ?_ ?_
          rotate_left
          · (intro w hSw; (try dsimp only at hSw); go_simp; (try with_reducible rfl))
          try simp only [List.setIfInBounds_toArray, List.set_cons_zero, List.set_cons_succ]
          refine heldY 11 30 ?_ _ rfl rfl (by kernel_rfl) (by kernel_rfl) (by kernel_rfl) (fun _ _ _ h => h) rfl (by assumption) ?_ ?_
          rotate_left
          · (intro w hSw; (try dsimp only at hSw); go_simp; (try with_reducible rfl))
          try simp only [List.setIfInBounds_toArray, List.set_cons_zero, List.set_cons_succ]
          refine heldY 12 31 ?_ _ rfl rfl (by kernel_rfl) (by kernel_rfl) (by kernel_rfl) (fun _ _ _ h => h) rfl (by assumption) ?_ ?_
          rotate_left
          · (intro w hSw; (try dsimp only at hSw); go_simp; (try with_reducible rfl))
          try simp only [List.setIfInBounds_toArray, List.set_cons_zero, List.set_cons_succ]
          refine heldY 13 32 ?_ _ rfl rfl (by kernel_rfl) (by kernel_rfl) (by kernel_rfl) (fun _ _ _ h => h) rfl (by assumption) ?_ ?_
          rotate_left
          · (intro w hSw; (try dsimp only at hSw); go_simp; (try with_reducible rfl))
          try simp only [List.setIfInBounds_toArray, List.set_cons_zero, List.set_cons_succ]
          refine heldY 15 34 ?_ _ rfl rfl (by kernel_rfl) (by kernel_rfl) (by kernel_rfl) (fun _ _ _ h => h) rfl (by assumption) ?_ ?_
          rotate_left
          · (intro w hSw; (try dsimp only at hSw); go_simp; (try with_reducible rfl))
          try simp only [List.setIfInBounds_toArray, List.set_cons_zero, List.set_cons_succ]
          refine heldY 16 35 ?_ _ rfl rfl (by kernel_rfl) (by kernel_rfl) (by kernel_rfl) (fun _ _ _ h => h) rfl (by assumption) ?_ ?_
          rotate_left
          · (intro w hSw; (try dsimp only at hSw); go_simp; (try with_reducible rfl))
          try simp only [List.setIfInBounds_toArray, List.set_cons_zero, List.set_cons_succ]
          refine wpAnyH_ready (rs := [14]) (by kernel_rfl) (by simp) ?_
          refine AllReadyH.cons rfl (fun K hK => ?_) AllReadyH.nil
          go_simp
          first | (go_at_fn g; refine (RA _ (BE _ (by assumption))).mono ?_; rintro e w3 ⟨rfl, hb⟩) | (go_at_call 41; first | ((with_reducible refine (KX _).mono ?_); rintro e w3 ⟨rfl, hb⟩) | ((with_reducible refine (KY _).mono ?_); rintro e w3 ⟨rfl, hb⟩))
          refine hK.out _ _ ?_ (fun hHeld => ?_)
          · (try dsimp only); (first | assumption | exact hs | exact AtF.dr (w := w) (l := [(⟨b0, 0, none⟩, .string X0), (⟨b0, 1, none⟩, .string X1), (⟨b0, 2, none⟩, .bool z2), (⟨b0, 3, none⟩, .string X3), (⟨b0, 4, none⟩, .slice a4 n4 m4), (⟨b0, 5, none⟩, .slice a5 n5 m5), (⟨b, o + (k - 1) * 6, none⟩, .string X0'), (⟨b, o + (k - 1) * 6 + 1, none⟩, .string X1'), (⟨b, o + (k - 1) * 6 + 2, none⟩, .bool z2'), (⟨b, o + (k - 1) * 6 + 3, none⟩, .string X3'), (⟨b, o + (k - 1) * 6 + 4, none⟩, .slice a4' n4' m4'), (⟨b, o + (k - 1) * 6 + 5, none⟩, .slice a5' n5' m5')]) hs | exact AtF.dr (w := w) (l := [(⟨b0, 0, none⟩, .string X0), (⟨b0, 1, none⟩, .string X1), (⟨b0, 2, none⟩, .bool z2), (⟨b0, 3, none⟩, .string X3), (⟨b0, 4, none⟩, .slice a4 n4 m4), (⟨b0, 5, none⟩, .slice a5 n5 m5), (⟨b, o + (k - 1) * 6, none⟩, .string X0'), (⟨b, o + (k - 1) * 6 + 1, none⟩, .string X1'), (⟨b, o + (k - 1) * 6 + 2, none⟩, .bool z2'), (⟨b, o + (k - 1) * 6 + 3, none⟩, .string X3'), (⟨b, o + (k - 1) * 6 + 4, none⟩, .slice a4' n4' m4'), (⟨b, o + (k - 1) * 6 + 5, none⟩, .slice a5' n5' m5')]) (by assumption) | exact AtF.on (w := w) (l := [(⟨b0, 0, none⟩, .string X0), (⟨b0, 1, none⟩, .string X1), (⟨b0, 2, none⟩, .bool z2), (⟨b0, 3, none⟩, .string X3), (⟨b0, 4, none⟩, .slice a4 n4 m4), (⟨b0, 5, none⟩, .slice a5 n5 m5), (⟨b, o + (k - 1) * 6, none⟩, .string X0'), (⟨b, o + (k - 1) * 6 + 1, none⟩, .string X1'), (⟨b, o + (k - 1) * 6 + 2, none⟩, .bool z2'), (⟨b, o + (k - 1) * 6 + 3, none⟩, .string X3'), (⟨b, o + (k - 1) * 6 + 4, none⟩, .slice a4' n4' m4'), (⟨b, o + (k - 1) * 6 + 5, none⟩, .slice a5' n5' m5')]) (by assumption) (by assumption) | exact AtF.al (w := w) (l := [(⟨b0, 0, none⟩, .string X0), (⟨b0, 1, none⟩, .string X1), (⟨b0, 2, none⟩, .bool z2), (⟨b0, 3, none⟩, .string X3), (⟨b0, 4, none⟩, .slice a4 n4 m4), (⟨b0, 5, none⟩, .slice a5 n5 m5), (⟨b, o + (k - 1) * 6, none⟩, .string X0'), (⟨b, o + (k - 1) * 6 + 1, none⟩, .string X1'), (⟨b, o + (k - 1) * 6 + 2, none⟩, .bool z2'), (⟨b, o + (k - 1) * 6 + 3, none⟩, .string X3'), (⟨b, o + (k - 1) * 6 + 4, none⟩, .slice a4' n4' m4'), (⟨b, o + (k - 1) * 6 + 5, none⟩, .slice a5' n5' m5')]) (by assumption) _ | exact AtF.ald (w := w) (l := [(⟨b0, 0, none⟩, .string X0), (⟨b0, 1, none⟩, .string X1), (⟨b0, 2, none⟩, .bool z2), (⟨b0, 3, none⟩, .string X3), (⟨b0, 4, none⟩, .slice a4 n4 m4), (⟨b0, 5, none⟩, .slice a5 n5 m5), (⟨b, o + (k - 1) * 6, none⟩, .string X0'), (⟨b, o + (k - 1) * 6 + 1, none⟩, .string X1'), (⟨b, o + (k - 1) * 6 + 2, none⟩, .bool z2'), (⟨b, o + (k - 1) * 6 + 3, none⟩, .string X3'), (⟨b, o + (k - 1) * 6 + 4, none⟩, .slice a4' n4' m4'), (⟨b, o + (k - 1) * 6 + 5, none⟩, .slice a5' n5' m5')]) (by assumption) _ | exact AtF.al (w := w) (l := [(⟨b0, 0, none⟩, .string X0), (⟨b0, 1, none⟩, .string X1), (⟨b0, 2, none⟩, .bool z2), (⟨b0, 3, none⟩, .string X3), (⟨b0, 4, none⟩, .slice a4 n4 m4), (⟨b0, 5, none⟩, .slice a5 n5 m5), (⟨b, o + (k - 1) * 6, none⟩, .string X0'), (⟨b, o + (k - 1) * 6 + 1, none⟩, .string X1'), (⟨b, o + (k - 1) * 6 + 2, none⟩, .bool z2'), (⟨b, o + (k - 1) * 6 + 3, none⟩, .string X3'), (⟨b, o + (k - 1) * 6 + 4, none⟩, .slice a4' n4' m4'), (⟨b, o + (k - 1) * 6 + 5, none⟩, .slice a5' n5' m5')]) hs _ | exact AtF.ald (w := w) (l := [(⟨b0, 0, none⟩, .string X0), (⟨b0, 1, none⟩, .string X1), (⟨b0, 2, none⟩, .bool z2), (⟨b0, 3, none⟩, .string X3), (⟨b0, 4, none⟩, .slice a4 n4 m4), (⟨b0, 5, none⟩, .slice a5 n5 m5), (⟨b, o + (k - 1) * 6, none⟩, .string X0'), (⟨b, o + (k - 1) * 6 + 1, none⟩, .string X1'), (⟨b, o + (k - 1) * 6 + 2, none⟩, .bool z2'), (⟨b, o + (k - 1) * 6 + 3, none⟩, .string X3'), (⟨b, o + (k - 1) * 6 + 4, none⟩, .slice a4' n4' m4'), (⟨b, o + (k - 1) * 6 + 5, none⟩, .slice a5' n5' m5')]) hs _)
          clear hK K
          try simp only [Act.put, List.setIfInBounds_toArray, List.set_cons_zero, List.set_cons_succ]
          refine wpAnyH_ready (rs := [17]) (by kernel_rfl) (by simp) ?_
          refine AllReadyH.cons rfl (fun K hK => ?_) AllReadyH.nil
          go_simp
          first | (go_at_fn g; refine (RA _ (BE _ (by assumption))).mono ?_; rintro e w3 ⟨rfl, hb⟩) | (go_at_call 41; first | ((with_reducible refine (KX _).mono ?_); rintro e w3 ⟨rfl, hb⟩) | ((with_reducible refine (KY _).mono ?_); rintro e w3 ⟨rfl, hb⟩))
          refine hK.out _ _ ?_ (fun hHeld => ?_)
          · (try dsimp only); (first | assumption | exact hs | exact AtF.dr (w := w) (l := [(⟨b0, 0, none⟩, .string X0), (⟨b0, 1, none⟩, .string X1), (⟨b0, 2, none⟩, .bool z2), (⟨b0, 3, none⟩, .string X3), (⟨b0, 4, none⟩, .slice a4 n4 m4), (⟨b0, 5, none⟩, .slice a5 n5 m5), (⟨b, o + (k - 1) * 6, none⟩, .string X0'), (⟨b, o + (k - 1) * 6 + 1, none⟩, .string X1'), (⟨b, o + (k - 1) * 6 + 2, none⟩, .bool z2'), (⟨b, o + (k - 1) * 6 + 3, none⟩, .string X3'), (⟨b, o + (k - 1) * 6 + 4, none⟩, .slice a4' n4' m4'), (⟨b, o + (k - 1) * 6 + 5, none⟩, .slice a5' n5' m5')]) hs | exact AtF.dr (w := w) (l := [(⟨b0, 0, none⟩, .string X0), (⟨b0, 1, none⟩, .string X1), (⟨b0, 2, none⟩, .bool z2), (⟨b0, 3, none⟩, .string X3), (⟨b0, 4, none⟩, .slice a4 n4 m4), (⟨b0, 5, none⟩, .slice a5 n5 m5), (⟨b, o + (k - 1) * 6, none⟩, .string X0'), (⟨b, o + (k - 1) * 6 + 1, none⟩, .string X1'), (⟨b, o + (k - 1) * 6 + 2, none⟩, .bool z2'), (⟨b, o + (k - 1) * 6 + 3, none⟩, .string X3'), (⟨b, o + (k - 1) * 6 + 4, none⟩, .slice a4' n4' m4'), (⟨b, o + (k - 1) * 6 + 5, none⟩, .slice a5' n5' m5')]) (by assumption) | exact AtF.on (w := w) (l := [(⟨b0, 0, none⟩, .string X0), (⟨b0, 1, none⟩, .string X1), (⟨b0, 2, none⟩, .bool z2), (⟨b0, 3, none⟩, .string X3), (⟨b0, 4, none⟩, .slice a4 n4 m4), (⟨b0, 5, none⟩, .slice a5 n5 m5), (⟨b, o + (k - 1) * 6, none⟩, .string X0'), (⟨b, o + (k - 1) * 6 + 1, none⟩, .string X1'), (⟨b, o + (k - 1) * 6 + 2, none⟩, .bool z2'), (⟨b, o + (k - 1) * 6 + 3, none⟩, .string X3'), (⟨b, o + (k - 1) * 6 + 4, none⟩, .slice a4' n4' m4'), (⟨b, o + (k - 1) * 6 + 5, none⟩, .slice a5' n5' m5')]) (by assumption) (by assumption) | exact AtF.al (w := w) (l := [(⟨b0, 0, none⟩, .string X0), (⟨b0, 1, none⟩, .string X1), (⟨b0, 2, none⟩, .bool z2), (⟨b0, 3, none⟩, .string X3), (⟨b0, 4, none⟩, .slice a4 n4 m4), (⟨b0, 5, none⟩, .slice a5 n5 m5), (⟨b, o + (k - 1) * 6, none⟩, .string X0'), (⟨b, o + (k - 1) * 6 + 1, none⟩, .string X1'), (⟨b, o + (k - 1) * 6 + 2, none⟩, .bool z2'), (⟨b, o + (k - 1) * 6 + 3, none⟩, .string X3'), (⟨b, o + (k - 1) * 6 + 4, none⟩, .slice a4' n4' m4'), (⟨b, o + (k - 1) * 6 + 5, none⟩, .slice a5' n5' m5')]) (by assumption) _ | exact AtF.ald (w := w) (l := [(⟨b0, 0, none⟩, .string X0), (⟨b0, 1, none⟩, .string X1), (⟨b0, 2, none⟩, .bool z2), (⟨b0, 3, none⟩, .string X3), (⟨b0, 4, none⟩, .slice a4 n4 m4), (⟨b0, 5, none⟩, .slice a5 n5 m5), (⟨b, o + (k - 1) * 6, none⟩, .string X0'), (⟨b, o + (k - 1) * 6 + 1, none⟩, .string X1'), (⟨b, o + (k - 1) * 6 + 2, none⟩, .bool z2'), (⟨b, o + (k - 1) * 6 + 3, none⟩, .string X3'), (⟨b, o + (k - 1) * 6 + 4, none⟩, .slice a4' n4' m4'), (⟨b, o + (k - 1) * 6 + 5, none⟩, .slice a5' n5' m5')]) (by assumption) _ | exact AtF.al (w := w) (l := [(⟨b0, 0, none⟩, .string X0), (⟨b0, 1, none⟩, .string X1), (⟨b0, 2, none⟩, .bool z2), (⟨b0, 3, none⟩, .string X3), (⟨b0, 4, none⟩, .slice a4 n4 m4), (⟨b0, 5, none⟩, .slice a5 n5 m5), (⟨b, o + (k - 1) * 6, none⟩, .string X0'), (⟨b, o + (k - 1) * 6 + 1, none⟩, .string X1'), (⟨b, o + (k - 1) * 6 + 2, none⟩, .bool z2'), (⟨b, o + (k - 1) * 6 + 3, none⟩, .string X3'), (⟨b, o + (k - 1) * 6 + 4, none⟩, .slice a4' n4' m4'), (⟨b, o + (k - 1) * 6 + 5, none⟩, .slice a5' n5' m5')]) hs _ | exact AtF.ald (w := w) (l := [(⟨b0, 0, none⟩, .string X0), (⟨b0, 1, none⟩, .string X1), (⟨b0, 2, none⟩, .bool z2), (⟨b0, 3, none⟩, .string X3), (⟨b0, 4, none⟩, .slice a4 n4 m4), (⟨b0, 5, none⟩, .slice a5 n5 m5), (⟨b, o + (k - 1) * 6, none⟩, .string X0'), (⟨b, o + (k - 1) * 6 + 1, none⟩, .string X1'), (⟨b, o + (k - 1) * 6 + 2, none⟩, .bool z2'), (⟨b, o + (k - 1) * 6 + 3, none⟩, .string X3'), (⟨b, o + (k - 1) * 6 + 4, none⟩, .slice a4' n4' m4'), (⟨b, o + (k - 1) * 6 + 5, none⟩, .slice a5' n5' m5')]) hs _)
          clear hK K
          try simp only [Act.put, List.setIfInBounds_toArray, List.set_cons_zero, List.set_cons_succ]
          refine heldY 18 37 ?_ _ rfl rfl (by kernel_rfl) (by kernel_rfl) (by kernel_rfl) (fun _ _ _ h => h) rfl (by assumption) ?_ ?_
          rotate_left
          · (intro w hSw; (try dsimp only at hSw); go_simp; (try with_reducible rfl))
          try simp only [List.setIfInBounds_toArray, List.set_cons_zero, List.set_cons_succ]
          refine heldY 19 38 ?_ _ rfl rfl (by kernel_rfl) (by kernel_rfl) (by kernel_rfl) (fun _ _ _ h => h) rfl (by assumption) ?_ ?_
          rotate_left
          · (intro w hSw; (try dsimp only at hSw); go_simp; (try with_reducible rfl))
          try simp only [List.setIfInBounds_toArray, List.set_cons_zero, List.set_cons_succ]
          refine heldY 20 39 ?_ _ rfl rfl (by kernel_rfl) (by kernel_rfl) (by kernel_rfl) (fun _ _ _ h => h) rfl (by assumption) ?_ ?_
          rotate_left
          · (intro w hSw; (try dsimp only at hSw); go_simp; (try with_reducible rfl))
          try simp only [List.setIfInBounds_toArray, List.set_cons_zero, List.set_cons_succ]
          refine wpAnyH_done (by kernel_rfl) ?_ _
          have HW3 := Lib.hid (BE _ hHeld)
          clear hHeld i2 i3
          cases q
          · have HF := Lib.hid (HBADk.out rfl)
            clear HBADk HNEXT
            go_wp2
            go_ret
            exact ⟨reti HF.out, HW3.out⟩
          · have HK := Lib.hid (HNEXT.out rfl)
            clear HBADk HNEXT
            go_wp2
            go_roundw
            case rel => exact ⟨k + 1, by omega, by go_num, HK, HW3⟩
            case measure => simp [intOf]; omega
        · have HK : Hid (∀ (j : Nat) u, j < k + 1 → l[j]? = some u → stepK rt (fun x => x.nm) l j u) := Lib.hid (fun j u hj hu => by
            obtain rfl : j = k := by omega
            rw [HX.out] at hu; cases hu
            exact ⟨hq, fun _ h1 => absurd h1 hk0⟩)
          have hd : decide ((0 : Int) < (k : Int)) = false := decide_eq_false (by omega)
          clear hq H HBAD HOK HC HX HRA HIN
          generalize (⟨(x.nm).toArray⟩ : ByteArray) = X0 at *
          generalize (⟨(x.lk).toArray⟩ : ByteArray) = X1 at *
          generalize x.mn = z2 at *
          generalize (⟨(x.cr).toArray⟩ : ByteArray) = X3 at *
          go_wp2
          generalize wr.alloc (.cells #[.string X0, .string X1, .bool z2, .string X3, .slice a4 n4 m4, .slice a5 n5 m5] 26) = W2 at *
          generalize hb0 : wr.heap.size = b0 at *
          obtain ⟨x0, x1, x2, x3, x4, x5, hB⟩ := hs
          have hs := (And.intro x0 (And.intro x1 (And.intro x2 (And.intro x3 (And.intro x4 (And.intro x5 hB))))))
          clear hb0
          have BE := fun (V : World) (h : V.cell? ⟨b0, 0, none⟩ = some (.string X0) ∧ V.cell? ⟨b0, 1, none⟩ = some (.string X1) ∧ V.cell? ⟨b0, 2, none⟩ = some (.bool z2) ∧ V.cell? ⟨b0, 3, none⟩ = some (.string X3) ∧ V.cell? ⟨b0, 4, none⟩ = some (.slice a4 n4 m4) ∧ V.cell? ⟨b0, 5, none⟩ = some (.slice a5 n5 m5) ∧ Below w.heap.size w V) => AtF.be (w := w) (l := [(⟨b0, 0, none⟩, .string X0), (⟨b0, 1, none⟩, .string X1), (⟨b0, 2, none⟩, .bool z2), (⟨b0, 3, none⟩, .string X3), (⟨b0, 4, none⟩, .slice a4 n4 m4), (⟨b0, 5, none⟩, .slice a5 n5 m5)]) h
          refine wp_region_held_drew (S := (fun V => V.cell? ⟨b0, 0, none⟩ = some (.string X0) ∧ V.cell? ⟨b0, 1, none⟩ = some (.string X1) ∧ V.cell? ⟨b0, 2, none⟩ = some (.bool z2) ∧ V.cell? ⟨b0, 3, none⟩ = some (.string X3) ∧ V.cell? ⟨b0, 4, none⟩ = some (.slice a4 n4 m4) ∧ V.cell? ⟨b0, 5, none⟩ = some (.slice a5 n5 m5) ∧ Below w.heap.size w V)) (by kernel_rfl) ?_ (fun hHeld => ?_)
          · (try dsimp only); (first | assumption | exact hs | exact AtF.dr (w := w) (l := [(⟨b0, 0, none⟩, .string X0), (⟨b0, 1, none⟩, .string X1), (⟨b0, 2, none⟩, .bool z2), (⟨b0, 3, none⟩, .string X3), (⟨b0, 4, none⟩, .slice a4 n4 m4), (⟨b0, 5, none⟩, .slice a5 n5 m5)]) hs | exact AtF.dr (w := w) (l := [(⟨b0, 0, none⟩, .string X0), (⟨b0, 1, none⟩, .string X1), (⟨b0, 2, none⟩, .bool z2), (⟨b0, 3, none⟩, .string X3), (⟨b0, 4, none⟩, .slice a4 n4 m4), (⟨b0, 5, none⟩, .slice a5 n5 m5)]) (by assumption) | exact AtF.on (w := w) (l := [(⟨b0, 0, none⟩, .string X0), (⟨b0, 1, none⟩, .string X1), (⟨b0, 2, none⟩, .bool z2), (⟨b0, 3, none⟩, .string X3), (⟨b0, 4, none⟩, .slice a4 n4 m4), (⟨b0, 5, none⟩, .slice a5 n5 m5)]) (by assumption) (by assumption) | exact AtF.al (w := w) (l := [(⟨b0, 0, none⟩, .string X0), (⟨b0, 1, none⟩, .string X1), (⟨b0, 2, none⟩, .bool z2), (⟨b0, 3, none⟩, .string X3), (⟨b0, 4, none⟩, .slice a4 n4 m4), (⟨b0, 5, none⟩, .slice a5 n5 m5)]) (by assumption) _ | exact AtF.ald (w := w) (l := [(⟨b0, 0, none⟩, .string X0), (⟨b0, 1, none⟩, .string X1), (⟨b0, 2, none⟩, .bool z2), (⟨b0, 3, none⟩, .string X3), (⟨b0, 4, none⟩, .slice a4 n4 m4), (⟨b0, 5, none⟩, .slice a5 n5 m5)]) (by assumption) _ | exact AtF.al (w := w) (l := [(⟨b0, 0, none⟩, .string X0), (⟨b0, 1, none⟩, .string X1), (⟨b0, 2, none⟩, .bool z2), (⟨b0, 3, none⟩, .string X3), (⟨b0, 4, none⟩, .slice a4 n4 m4), (⟨b0, 5, none⟩, .slice a5 n5 m5)]) hs _ | exact AtF.ald (w := w) (l := [(⟨b0, 0, none⟩, .string X0), (⟨b0, 1, none⟩, .string X1), (⟨b0, 2, none⟩, .bool z2), (⟨b0, 3, none⟩, .string X3), (⟨b0, 4, none⟩, .slice a4 n4 m4), (⟨b0, 5, none⟩, .slice a5 n5 m5)]) hs _)
          refine heldY 0 19 ?_ _ rfl rfl (by kernel_rfl) (by kernel_rfl) (by kernel_rfl) (fun _ _ _ h => h) rfl (by assumption) ?_ ?_
          rotate_left
          · (intro w hSw; (try dsimp only at hSw); go_simp; (try with_reducible rfl))
          try simp only [List.setIfInBounds_toArray, List.set_cons_zero, List.set_cons_succ]
          refine heldY 1 20 ?_ _ rfl rfl (by kernel_rfl) (by kernel_rfl) (by kernel_rfl) (fun _ _ _ h => h) rfl (by assumption) ?_ ?_
          rotate_left
          · (intro w hSw; (try dsimp only at hSw); go_simp; (try with_reducible rfl))
          try simp only [List.setIfInBounds_toArray, List.set_cons_zero, List.set_cons_succ]
          refine wpAnyH_ready (rs := [2]) (by kernel_rfl) (by simp) ?_
          refine AllReadyH.cons rfl (fun K hK => ?_) AllReadyH.nil
          go_simp
          (go_at_fn g; refine (RA _ (BE _ (by assumption))).mono ?_; rintro e w3 ⟨rfl, hb⟩)
          refine hK.out _ _ ?_ (fun hHeld => ?_)
          · (try dsimp only); (first | assumption | exact hs | exact AtF.dr (w := w) (l := [(⟨b0, 0, none⟩, .string X0), (⟨b0, 1, none⟩, .string X1), (⟨b0, 2, none⟩, .bool z2), (⟨b0, 3, none⟩, .string X3), (⟨b0, 4, none⟩, .slice a4 n4 m4), (⟨b0, 5, none⟩, .slice a5 n5 m5)]) hs | exact AtF.dr (w := w) (l := [(⟨b0, 0, none⟩, .string X0), (⟨b0, 1, none⟩, .string X1), (⟨b0, 2, none⟩, .bool z2), (⟨b0, 3, none⟩, .string X3), (⟨b0, 4, none⟩, .slice a4 n4 m4), (⟨b0, 5, none⟩, .slice a5 n5 m5)]) (by assumption) | exact AtF.on (w := w) (l := [(⟨b0, 0, none⟩, .string X0), (⟨b0, 1, none⟩, .string X1), (⟨b0, 2, none⟩, .bool z2), (⟨b0, 3, none⟩, .string X3), (⟨b0, 4, none⟩, .slice a4 n4 m4), (⟨b0, 5, none⟩, .slice a5 n5 m5)]) (by assumption) (by assumption) | exact AtF.al (w := w) (l := [(⟨b0, 0, none⟩, .string X0), (⟨b0, 1, none⟩, .string X1), (⟨b0, 2, none⟩, .bool z2), (⟨b0, 3, none⟩, .string X3), (⟨b0, 4, none⟩, .slice a4 n4 m4), (⟨b0, 5, none⟩, .slice a5 n5 m5)]) (by assumption) _ | exact AtF.ald (w := w) (l := [(⟨b0, 0, none⟩, .string X0), (⟨b0, 1, none⟩, .string X1), (⟨b0, 2, none⟩, .bool z2), (⟨b0, 3, none⟩, .string X3), (⟨b0, 4, none⟩, .slice a4 n4 m4), (⟨b0, 5, none⟩, .slice a5 n5 m5)]) (by assumption) _ | exact AtF.al (w := w) (l := [(⟨b0, 0, none⟩, .string X0), (⟨b0, 1, none⟩, .string X1), (⟨b0, 2, none⟩, .bool z2), (⟨b0, 3, none⟩, .string X3), (⟨b0, 4, none⟩, .slice a4 n4 m4), (⟨b0, 5, none⟩, .slice a5 n5 m5)]) hs _ | exact AtF.ald (w := w) (l := [(⟨b0, 0, none⟩, .string X0), (⟨b0, 1, none⟩, .string X1), (⟨b0, 2, none⟩, .bool z2), (⟨b0, 3, none⟩, .string X3), (⟨b0, 4, none⟩, .slice a4 n4 m4), (⟨b0, 5, none⟩, .slice a5 n5 m5)]) hs _)
          clear hK K
          try simp only [Act.put, List.setIfInBounds_toArray, List.set_cons_zero, List.set_cons_succ]
          refine heldY 3 22 ?_ _ rfl rfl (by kernel_rfl) (by kernel_rfl) (by kernel_rfl) (fun _ _ _ h => h) rfl (by assumption) ?_ ?_
          rotate_left
          · (intro w hSw; (try dsimp only at hSw); go_simp; (try with_reducible rfl))
          try simp only [List.setIfInBounds_toArray, List.set_cons_zero, List.set_cons_succ]
          refine heldY 4 23 ?_ _ rfl rfl (by kernel_rfl) (by kernel_rfl) (by kernel_rfl) (fun _ _ _ h => h) rfl (by assumption) ?_ ?_
          rotate_left
          · (intro w hSw; (try dsimp only at hSw); go_simp; (try with_reducible rfl))
          try simp only [List.setIfInBounds_toArray, List.set_cons_zero, List.set_cons_succ]
          refine heldY 5 24 ?_ _ rfl rfl (by kernel_rfl) (by kernel_rfl) (by kernel_rfl) (fun _ _ _ h => h) rfl (by assumption) ?_ ?_
          rotate_left
          · (intro w hSw; (try dsimp only at hSw); go_simp; (try with_reducible rfl))
          try simp only [List.setIfInBounds_toArray, List.set_cons_zero, List.set_cons_succ]
          refine heldY 6 25 ?_ _ rfl rfl (by kernel_rfl) (by kernel_rfl) (by kernel_rfl) (fun _ _ _ h => h) rfl (by assumption) ?_ ?_
          rotate_left
          · (intro w hSw; (try dsimp only at hSw); go_simp; (try with_reducible rfl))
          try simp only [List.setIfInBounds_toArray, List.set_cons_zero, List.set_cons_succ]
          refine heldY 7 26 ?_ _ rfl rfl (by kernel_rfl) (by kernel_rfl) (by kernel_rfl) (fun _ _ _ h => h) rfl (by assumption) ?_ ?_
          rotate_left
          · (intro w hSw; (try dsimp only at hSw); go_simp; (try with_reducible rfl))
          try simp only [List.setIfInBounds_toArray, List.set_cons_zero, List.set_cons_succ]
          refine heldNo 8 27 rfl (by kernel_rfl) (by kernel_rfl) (by kernel_rfl) (fun _ _ _ h => h) rfl (by assumption) ?_
          try simp only [List.setIfInBounds_toArray, List.set_cons_zero, List.set_cons_succ]
          refine heldNo 9 28 rfl (by kernel_rfl) (by kernel_rfl) (by kernel_rfl) (fun _ _ _ h => h) rfl (by assumption) ?_
          try simp only [List.setIfInBounds_toArray, List.set_cons_zero, List.set_cons_succ]
          refine heldNo 10 29 rfl (by kernel_rfl) (by kernel_rfl) (by kernel_rfl) (fun _ _ _ h => h) rfl (by assumption) ?_
          try simp only [List.setIfInBounds_toArray, List.set_cons_zero, List.set_cons_succ]
          refine heldNo 11 30 rfl (by kernel_rfl) (by kernel_rfl) (by kernel_rfl) (fun _ _ _ h => h) rfl (by assumption) ?_
          try simp only [List.setIfInBounds_toArray, List.set_cons_zero, List.set_cons_succ]
          refine heldNo 12 31 rfl (by kernel_rfl) (by kernel_rfl) (by kernel_rfl) (fun _ _ _ h => h) rfl (by assumption) ?_
          try simp only [List.setIfInBounds_toArray, List.set_cons_zero, List.set_cons_succ]
          refine heldNo 13 32 rfl (by kernel_rfl) (by kernel_rfl) (by kernel_rfl) (fun _ _ _ h => h) rfl (by assumption) ?_
          try simp only [List.setIfInBounds_toArray, List.set_cons_zero, List.set_cons_succ]
          refine heldNo 14 33 rfl (by kernel_rfl) (by kernel_rfl) (by kernel_rfl) (fun _ _ _ h => h) rfl (by assumption) ?_
          try simp only [List.setIfInBounds_toArray, List.set_cons_zero, List.set_cons_succ]
          refine heldNo 15 34 rfl (by kernel_rfl) (by kernel_rfl) (by kernel_rfl) (fun _ _ _ h => h) rfl (by assumption) ?_
          try simp only [List.setIfInBounds_toArray, List.set_cons_zero, List.set_cons_succ]
          refine heldNo 16 35 rfl (by kernel_rfl) (by kernel_rfl) (by kernel_rfl) (fun _ _ _ h => h) rfl (by assumption) ?_
          try simp only [List.setIfInBounds_toArray, List.set_cons_zero, List.set_cons_succ]
          refine heldNo 17 36 rfl (by kernel_rfl) (by kernel_rfl) (by kernel_rfl) (fun _ _ _ h => h) rfl (by assumption) ?_
          try simp only [List.setIfInBounds_toArray, List.set_cons_zero, List.set_cons_succ]
          refine heldNo 18 37 rfl (by kernel_rfl) (by kernel_rfl) (by kernel_rfl) (fun _ _ _ h => h) rfl (by assumption) ?_
          try simp only [List.setIfInBounds_toArray, List.set_cons_zero, List.set_cons_succ]
          refine heldY 19 38 ?_ _ rfl rfl (by kernel_rfl) (by kernel_rfl) (by kernel_rfl) (fun _ _ _ h => h) rfl (by assumption) ?_ ?_
          rotate_left
          · (intro w hSw; (try dsimp only at hSw); go_simp; (try with_reducible rfl))
          try simp only [List.setIfInBounds_toArray, List.set_cons_zero, List.set_cons_succ]
          refine heldY 20 39 ?_ _ rfl rfl (by kernel_rfl) (by kernel_rfl) (by kernel_rfl) (fun _ _ _ h => h) rfl (by assumption) ?_ ?_
          rotate_left
          · (intro w hSw; (try dsimp only at hSw); go_simp; (try with_reducible rfl))
          try simp only [List.setIfInBounds_toArray, List.set_cons_zero, List.set_cons_succ]
          refine wpAnyH_done (by kernel_rfl) ?_ _
          have HW3 := Lib.hid (BE _ hHeld)
          clear hHeld
          go_wp2
          go_roundw
          case rel => exact ⟨k + 1, by omega, by go_num, HK, HW3⟩
          case measure => simp [intOf]; omega
    · obtain rfl : k = n := by omega
      have HF := Lib.hid (HOK.out (fun i x hx => H.out i x (by have := (List.getElem?_eq_some_iff.1 hx).1; rw [HN.out] at this; exact this) hx))
      clear hlt H HBAD HOK
      go_wp2
      go_ret
      exact ⟨reti HF.out, HB.out⟩
set_option maxRecDepth 100000 in
set_option maxHeartbeats 8000000 in
theorem idxA_any (g : Nat) (lb : Array Value) (eg : ∀ args w, (callFunc g args).run Tryz.prog w = .ok (.enter g args) w) (p : Av → Bool) (v : Value) (l : List Av) (hl : l.length ≤ 90000) (w : World) (h : HoldA w v l) (hp : PredKA g lb l p w) :
    Calls Tryz.prog 75 #[v, .func (.func g) #[] lb] w fun e w' => e = .returned (.int .i64 (idxK l p)) ∧ Below w.heap.size w w' := by
  obtain ⟨a, c, b, o, rfl, hc, ha, hcell⟩ := h.parts
  have HC := Lib.hid hcell
  have HIN := Lib.hid h.2
  obtain ⟨Z, HZ⟩ : ∃ Z, Hid (idxK l p = Z) := ⟨_, rfl⟩
  rw [HZ.out]
  have HP := Lib.hid hp
  obtain ⟨n, hN⟩ : ∃ n, l.length = n := ⟨_, rfl⟩
  rw [hN] at hc ha hl ⊢
  have HN := Lib.hid hN
  clear hcell hp hN h
  go_enter Tryz.func75, Tryz.ntmps75
  go_wp2
  go_loopw [8] (fun i wr => ∃ k : Nat, k ≤ n ∧ i = .int .i64 k ∧ Hid (∀ (j : Nat) y, j < k → l[j]? = some y → p y = false) ∧ Hid (Below w.heap.size w wr)) (fun i _ => n - (intOf i).toNat)
  case atStart => exact ⟨0, by omega, rfl, Lib.hid (fun j y hj => by omega), Lib.hid (Below.refl _ _)⟩
  case round =>
    obtain ⟨k, hk, rfl, H, HB⟩ := hrel
    by_cases hlt : k < n
    · obtain ⟨rfl, hbw⟩ := ha (by omega)
      obtain ⟨x, hx⟩ : ∃ x, l[k]? = some x := ⟨_, List.getElem?_eq_getElem (by rw [HN.out]; exact hlt)⟩
      obtain ⟨c0, c1, c2, c3, c4, c5⟩ := HC.out k x hx
      rw [← HB.out.cell (p := ⟨b, o + k * 6, none⟩) hbw] at c0
      rw [← HB.out.cell (p := ⟨b, o + k * 6 + 1, none⟩) hbw] at c1
      rw [← HB.out.cell (p := ⟨b, o + k * 6 + 2, none⟩) hbw] at c2
      rw [← HB.out.cell (p := ⟨b, o + k * 6 + 3, none⟩) hbw] at c3
      rw [← HB.out.cell (p := ⟨b, o + k * 6 + 4, none⟩) hbw] at c4
      rw [← HB.out.cell (p := ⟨b, o + k * 6 + 5, none⟩) hbw] at c5
      have hcall := HP.out x (List.mem_of_getElem? hx) wr HB.out
      unfold agZA at hcall
      obtain ⟨a4, n4, m4, hf4⟩ := formAs (HIN.out x (List.mem_of_getElem? hx))
      rw [hf4] at hcall c4
      clear hf4
      obtain ⟨a5, n5, m5, hf5⟩ := formAc (HIN.out x (List.mem_of_getElem? hx))
      rw [hf5] at hcall c5
      clear hf5
      have HX := Lib.hid hx
      clear hx
      cases hq : p x
      · rw [hq] at hcall
        have HK : Hid (∀ (j : Nat) y, j < k + 1 → l[j]? = some y → p y = false) := Lib.hid (fun j y hj hy => by
          by_cases e : j = k
          · subst e
            rw [HX.out] at hy; cases hy; exact hq
          · exact H.out j y (by omega) hy)
        clear hq H
        go_wp2_with (go_at_fn g; refine hcall.mono ?_; rintro e w1 ⟨rfl, hb1⟩; have HB1 := Lib.hid (HB.out.trans (hb1.mono HB.out.size)); clear hb1)
        go_roundw
        case rel => exact ⟨k + 1, by omega, by go_num, HK, HB1⟩
        case measure => simp [intOf]; omega
      · rw [hq] at hcall
        have HF : Hid ((k : Int) = Z) := Lib.hid (by rw [← HZ.out, idxK_hit HX.out hq H.out])
        clear hq H
        go_wp2_with (go_at_fn g; refine hcall.mono ?_; rintro e w1 ⟨rfl, hb1⟩; have HB1 := Lib.hid (HB.out.trans (hb1.mono HB.out.size)); clear hb1)
        go_ret
        exact ⟨reti HF.out, HB1.out⟩
    · obtain rfl : k = n := by omega
      have HF : Hid ((-1 : Int) = Z) := Lib.hid (by rw [← HZ.out, idxK_miss (fun j y hy => H.out j y (by have := (List.getElem?_eq_some_iff.1 hy).1; rw [HN.out] at this; exact this) hy)])
      clear hlt H
      go_wp2
      go_ret
      exact ⟨reti HF.out, HB.out⟩
set_option maxRecDepth 100000 in
set_option maxHeartbeats 8000000 in
theorem findpA_any (B1 B2 : Nat) (k : ByteArray) (x : Av) (hu4 : ∃ a n c, x.sv = .slice a n c) (hu5 : ∃ a n c, x.cv = .slice a n c) (W : World) (h1 : W.cell? ⟨B1, 0, none⟩ = some keyFA) (h2 : W.cell? ⟨B2, 0, none⟩ = some (.string k)) :
    Calls Tryz.prog 78 #[agZA x, .pointer (some ⟨B1, 0, none⟩), .pointer (some ⟨B2, 0, none⟩)] W fun e w' => e = .returned (.bool (decide (x.nm = k.data.toList))) ∧ Below W.heap.size W w' := by
  have hq := eqT (⟨(x.nm).toArray⟩ : ByteArray) k
  rw [bytesOf] at hq
  unfold agZA
  unfold keyFA at h1
  generalize decide (x.nm = k.data.toList) = q at *
  obtain ⟨a4, n4, m4, hu4⟩ := hu4
  rw [hu4]
  clear hu4
  obtain ⟨a5, n5, m5, hu5⟩ := hu5
  rw [hu5]
  clear hu5
  generalize (⟨(x.nm).toArray⟩ : ByteArray) = X0 at *
  generalize (⟨(x.lk).toArray⟩ : ByteArray) = X1 at *
  generalize x.mn = z2 at *
  generalize (⟨(x.cr).toArray⟩ : ByteArray) = X3 at *
  have PA := fun w => keyA_any X0 X1 z2 X3 (.slice a4 n4 m4) (.slice a5 n5 m5) w
  have l1 := World.block_lt_of_cell? W _ h1
  have l2 := World.block_lt_of_cell? W _ h2
  have B0 := (Below.refl W.heap.size W).alloc (Nat.le_refl _) (.cells #[.string X0, .string X1, .bool z2, .string X3, .slice a4 n4 m4, .slice a5 n5 m5] 26)
  obtain ⟨x0, x1, x2, x3, x4, x5⟩ := boxV6 W (.string X0) (.string X1) (.bool z2) (.string X3) (.slice a4 n4 m4) (.slice a5 n5 m5) 26
  have k1 := (B0.cell l1).trans h1
  have k2 := (B0.cell l2).trans h2
  clear h1 h2 l1 l2
  obtain ⟨U, hU⟩ : ∃ U : World, U = W := ⟨_, rfl⟩
  have HU := Lib.hid hU
  have BU : Below U.heap.size U (W.alloc (.cells #[.string X0, .string X1, .bool z2, .string X3, .slice a4 n4 m4, .slice a5 n5 m5] 26)) := by rw [hU]; exact B0
  clear B0 hU
  go_enter Tryz.func78, Tryz.ntmps78
  go_wp2
  generalize W.alloc (.cells #[.string X0, .string X1, .bool z2, .string X3, .slice a4 n4 m4, .slice a5 n5 m5] 26) = W2 at *
  generalize hb0 : W.heap.size = b0 at *
  have hs := (And.intro x0 (And.intro x1 (And.intro x2 (And.intro x3 (And.intro x4 (And.intro x5 (And.intro k1 (And.intro k2 BU))))))))
  clear hb0
  have BE := fun (V : World) (h : V.cell? ⟨b0, 0, none⟩ = some (.string X0) ∧ V.cell? ⟨b0, 1, none⟩ = some (.string X1) ∧ V.cell? ⟨b0, 2, none⟩ = some (.bool z2) ∧ V.cell? ⟨b0, 3, none⟩ = some (.string X3) ∧ V.cell? ⟨b0, 4, none⟩ = some (.slice a4 n4 m4) ∧ V.cell? ⟨b0, 5, none⟩ = some (.slice a5 n5 m5) ∧ V.cell? ⟨B1, 0, none⟩ = some (.func (.func 41) #[] #[]) ∧ V.cell? ⟨B2, 0, none⟩ = some (.string k) ∧ Below U.heap.size U V) => AtF.be (w := U) (l := [(⟨b0, 0, none⟩, .string X0), (⟨b0, 1, none⟩, .string X1), (⟨b0, 2, none⟩, .bool z2), (⟨b0, 3, none⟩, .string X3), (⟨b0, 4, none⟩, .slice a4 n4 m4), (⟨b0, 5, none⟩, .slice a5 n5 m5), (⟨B1, 0, none⟩, .func (.func 41) #[] #[]), (⟨B2, 0, none⟩, .string k)]) h
  go_region_held3 (fun V => V.cell? ⟨b0, 0, none⟩ = some (.string X0) ∧ V.cell? ⟨b0, 1, none⟩ = some (.string X1) ∧ V.cell? ⟨b0, 2, none⟩ = some (.bool z2) ∧ V.cell? ⟨b0, 3, none⟩ = some (.string X3) ∧ V.cell? ⟨b0, 4, none⟩ = some (.slice a4 n4 m4) ∧ V.cell? ⟨b0, 5, none⟩ = some (.slice a5 n5 m5) ∧ V.cell? ⟨B1, 0, none⟩ = some (.func (.func 41) #[] #[]) ∧ V.cell? ⟨B2, 0, none⟩ = some (.string k) ∧ Below U.heap.size U V)
    (first | assumption | exact hs | exact AtF.dr (w := U) (l := [(⟨b0, 0, none⟩, .string X0), (⟨b0, 1, none⟩, .string X1), (⟨b0, 2, none⟩, .bool z2), (⟨b0, 3, none⟩, .string X3), (⟨b0, 4, none⟩, .slice a4 n4 m4), (⟨b0, 5, none⟩, .slice a5 n5 m5), (⟨B1, 0, none⟩, .func (.func 41) #[] #[]), (⟨B2, 0, none⟩, .string k)]) hs | exact AtF.dr (w := U) (l := [(⟨b0, 0, none⟩, .string X0), (⟨b0, 1, none⟩, .string X1), (⟨b0, 2, none⟩, .bool z2), (⟨b0, 3, none⟩, .string X3), (⟨b0, 4, none⟩, .slice a4 n4 m4), (⟨b0, 5, none⟩, .slice a5 n5 m5), (⟨B1, 0, none⟩, .func (.func 41) #[] #[]), (⟨B2, 0, none⟩, .string k)]) (by assumption) | exact AtF.on (w := U) (l := [(⟨b0, 0, none⟩, .string X0), (⟨b0, 1, none⟩, .string X1), (⟨b0, 2, none⟩, .bool z2), (⟨b0, 3, none⟩, .string X3), (⟨b0, 4, none⟩, .slice a4 n4 m4), (⟨b0, 5, none⟩, .slice a5 n5 m5), (⟨B1, 0, none⟩, .func (.func 41) #[] #[]), (⟨B2, 0, none⟩, .string k)]) (by assumption) (by assumption) | exact AtF.al (w := U) (l := [(⟨b0, 0, none⟩, .string X0), (⟨b0, 1, none⟩, .string X1), (⟨b0, 2, none⟩, .bool z2), (⟨b0, 3, none⟩, .string X3), (⟨b0, 4, none⟩, .slice a4 n4 m4), (⟨b0, 5, none⟩, .slice a5 n5 m5), (⟨B1, 0, none⟩, .func (.func 41) #[] #[]), (⟨B2, 0, none⟩, .string k)]) (by assumption) _ | exact AtF.ald (w := U) (l := [(⟨b0, 0, none⟩, .string X0), (⟨b0, 1, none⟩, .string X1), (⟨b0, 2, none⟩, .bool z2), (⟨b0, 3, none⟩, .string X3), (⟨b0, 4, none⟩, .slice a4 n4 m4), (⟨b0, 5, none⟩, .slice a5 n5 m5), (⟨B1, 0, none⟩, .func (.func 41) #[] #[]), (⟨B2, 0, none⟩, .string k)]) (by assumption) _ | exact AtF.al (w := U) (l := [(⟨b0, 0, none⟩, .string X0), (⟨b0, 1, none⟩, .string X1), (⟨b0, 2, none⟩, .bool z2), (⟨b0, 3, none⟩, .string X3), (⟨b0, 4, none⟩, .slice a4 n4 m4), (⟨b0, 5, none⟩, .slice a5 n5 m5), (⟨B1, 0, none⟩, .func (.func 41) #[] #[]), (⟨B2, 0, none⟩, .string k)]) hs _ | exact AtF.ald (w := U) (l := [(⟨b0, 0, none⟩, .string X0), (⟨b0, 1, none⟩, .string X1), (⟨b0, 2, none⟩, .bool z2), (⟨b0, 3, none⟩, .string X3), (⟨b0, 4, none⟩, .slice a4 n4 m4), (⟨b0, 5, none⟩, .slice a5 n5 m5), (⟨B1, 0, none⟩, .func (.func 41) #[] #[]), (⟨B2, 0, none⟩, .string k)]) hs _)
    (((go_at_call 41; refine (PA _).mono ?_; rintro e w3 ⟨rfl, hb⟩)))
  all_goals
    rename_i hHeld
    have HW3 := Lib.hid (BE _ hHeld)
    clear hHeld
    go_wp2
    go_ret
    exact ⟨rfl, by rw [HU.out] at HW3; exact HW3.out⟩
set_option maxRecDepth 100000 in
set_option maxHeartbeats 8000000 in
theorem kfindA_any (v : Value) (l : List Av) (hl : l.length ≤ 90000) (k : ByteArray) (w : World) (h : HoldA w v l) :
    Calls Tryz.prog 48 #[v, keyFA, .string k] w fun e w' => e = .returned (.int .i64 (idxK l (fun x => decide (x.nm = k.data.toList)))) ∧ Below w.heap.size w w' := by
  have B2 := ((Below.refl w.heap.size w).alloc (Nat.le_refl _) (.cells #[keyFA] 67)).alloc (by simp) (.cells #[.string k] 9)
  have q1 := (Boxed.new w 67 keyFA).alloc (.cells #[.string k] 9)
  have q2 := Boxed.new (w.alloc (.cells #[keyFA] 67)) 9 (.string k)
  rw [World.size_alloc] at q2
  have I := idxA_any 78 #[.pointer (some ⟨w.heap.size, 0, none⟩), .pointer (some ⟨w.heap.size + 1, 0, none⟩)] (enters_of Tryz.func78 (by kernel_rfl) rfl) (fun x => decide (x.nm = k.data.toList)) v l hl _ (HoldA.on h B2)
    (fun x hx W hb => findpA_any _ _ k x (formAs (h.2 x hx)) (formAc (h.2 x hx)) W ((hb.cell q1.lt).trans q1.cell) ((hb.cell q2.lt).trans q2.cell))
  have HB2 := Lib.hid B2
  clear B2 q1 q2
  unfold keyFA at I ⊢
  generalize idxK l (fun x => decide (x.nm = k.data.toList)) = z at *
  go_enter Tryz.func48, Tryz.ntmps48
  go_wp2_with (go_at_call 75; refine I.mono ?_; rintro e w1 ⟨rfl, hb⟩; have HB := Lib.hid (HB2.out.trans (hb.mono HB2.out.size)); clear hb)
  go_ret
  exact ⟨rfl, HB.out⟩
end Go.Proofs.YtnfhccnicojdcaaGreatDoor
