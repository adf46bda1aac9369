/-
  The program's keyed.Check and keyed.Find over records: what each returns; nothing old turns.
-/
import Derived.Test.YtpkdnohaefkfgaaGreatDoorGUKeyT
import Derived.Test.YtpkdnohaefkfgaaGreatDoorGUTrig
import Derived.Test.YtpkdnohaefkfgaaGreatDoorGZHold
import Derived.IntWalk
import Derived.Deep.RegionHeld3
import Derived.RangeFuncBox
namespace Go.Proofs.YtpkdnohaefkfgaaGreatDoor
open Go.RowKit
theorem keyU_any (X0 : ByteArray) (X1 : ByteArray) (z2 : Int) (v3 : Value) (v4 : Value) (v5 : Value) (v6 : Value) (v7 : Value) (v8 : Value) (w : World) : Calls Tryz.prog 16 #[.agg #[.string X0, .string X1, .int .i64 z2, v3, v4, v5, v6, v7, v8]] w fun e w' => e = .returned (.string X0) ∧ Below w.heap.size w w' := by
  obtain ⟨x0, x1, x2, x3, x4, x5, x6, x7, x8⟩ := boxV9 w (.string X0) (.string X1) (.int .i64 z2) v3 v4 v5 v6 v7 v8 37
  have B0 := Lib.hid ((Below.refl w.heap.size w).alloc (Nat.le_refl _) (.cells #[.string X0, .string X1, .int .i64 z2, v3, v4, v5, v6, v7, v8] 37))
  go_enter Tryz.func16, Tryz.ntmps16
  go_wp2
  go_ret
  exact ⟨rfl, B0.out⟩
abbrev keyFU : Value := .func (.func 16) #[] #[]
abbrev agZU (x : Uv) : Value := .agg #[.string (⟨(x.nm).toArray⟩ : ByteArray), .string (⟨(x.vr).toArray⟩ : ByteArray), .int .i64 (x.st), x.dv, x.cv, x.rv, x.fv, x.pv, x.av]
/-- What is asked of a predicate: at each of l's, in each later world. -/
def PredKU (g : Nat) (lb : Array Value) (l : List Uv) (p : Uv → Bool) (w : World) : Prop :=
  ∀ x ∈ l, ∀ W, Below w.heap.size w W → Calls Tryz.prog g (#[agZU x] ++ lb) W fun e w' => e = .returned (.bool (p x)) ∧ Below W.heap.size W w'
theorem formU3 {w : World} {x : Uv} (h : InU w x) : ∃ a n c, x.dv = .slice a n c := by obtain ⟨⟨a, c, b, o, e, _⟩, _⟩ := h.dp; exact ⟨_, _, _, e⟩
theorem formU4 {w : World} {x : Uv} (h : InU w x) : ∃ a n c, x.cv = .slice a n c := by obtain ⟨a, c, b, o, e, _⟩ := h.cn; exact ⟨_, _, _, e⟩
theorem formU5 {w : World} {x : Uv} (h : InU w x) : ∃ a n c, x.rv = .slice a n c := by obtain ⟨a, c, b, o, e, _⟩ := h.rp; exact ⟨_, _, _, e⟩
theorem formU6 {w : World} {x : Uv} (h : InU w x) : ∃ a n c, x.fv = .slice a n c := by obtain ⟨a, c, b, o, e, _⟩ := h.cf; exact ⟨_, _, _, e⟩
theorem formU7 {w : World} {x : Uv} (h : InU w x) : ∃ a n c, x.pv = .slice a n c := by obtain ⟨a, c, b, o, e, _⟩ := h.pd; exact ⟨_, _, _, e⟩
theorem formU8 {w : World} {x : Uv} (h : InU w x) : ∃ a n c, x.av = .slice a n c := by obtain ⟨a, c, b, o, e, _⟩ := h.aw; exact ⟨_, _, _, e⟩
set_option maxRecDepth 100000 in
set_option maxHeartbeats 8000000 in
theorem kcheckU_any (g : Nat) (lb : Array Value) (eg : ∀ args w, (callFunc g args).run Tryz.prog w = .ok (.enter g args) w) (rt : Uv → Bool) (v : Value) (l : List Uv) (hl : l.length ≤ 90000) (w : World) (h : HoldU w v l) (hra : PredKU g lb l rt w) :
    Calls Tryz.prog 15 #[v, keyFU, .func (.func g) #[] lb] w fun e w' => e = .returned (.int .i64 (kchkK rt (fun x => x.nm) l)) ∧ Below w.heap.size w w' := by
  obtain ⟨a, c, b, o, rfl, hc, ha, hcell⟩ := h.parts
  have HC := Lib.hid hcell
  have HIN := Lib.hid h.2
  have HRA := Lib.hid hra
  unfold keyFU
  obtain ⟨Z, HZ⟩ : ∃ Z, Hid (kchkK rt (fun x => x.nm) l = Z) := ⟨_, rfl⟩
  rw [HZ.out]
  obtain ⟨n, hN⟩ : ∃ n, l.length = n := ⟨_, rfl⟩
  rw [hN] at hc ha hl ⊢
  have HN := Lib.hid hN
  clear hcell hN h hra
  by_cases h64 : 64 < n
  · have HF : Hid ((22 : Int) = Z) := Lib.hid (by rw [← HZ.out, kchkK_long (by rw [HN.out]; exact h64)])
    go_enter Tryz.func15, Tryz.ntmps15
    go_wp2
    go_ret
    exact ⟨reti HF.out, Below.refl _ _⟩
  have HBAD : Hid (∀ (i : Nat) x, l[i]? = some x → ¬ stepK rt (fun x => x.nm) l i x → (1 : Int) = Z) := Lib.hid (fun i x hx g => by rw [← HZ.out, kchkK_no (by rw [HN.out]; exact h64) (fun q => g (q i x hx))])
  have HOK : Hid (StepsK rt (fun x => x.nm) l → (0 : Int) = Z) := Lib.hid (fun g => by rw [← HZ.out, kchkK_ok (by rw [HN.out]; exact h64) g])
  clear HZ
  go_enter Tryz.func15, Tryz.ntmps15
  go_wp2
  go_loopw [14] (fun i wr => ∃ k : Nat, k ≤ n ∧ i = .int .i64 k ∧ Hid (∀ (j : Nat) x, j < k → l[j]? = some x → stepK rt (fun x => x.nm) l j x) ∧ Hid (Below w.heap.size w wr)) (fun i _ => n - (intOf i).toNat)
  case atStart => exact ⟨0, by omega, rfl, Lib.hid (fun j y hj => by omega), Lib.hid (Below.refl _ _)⟩
  case round =>
    obtain ⟨k, hk, rfl, H, HB⟩ := hrel
    by_cases hlt : k < n
    · obtain ⟨rfl, hbw⟩ := ha (by omega)
      obtain ⟨x, hx⟩ : ∃ x, l[k]? = some x := ⟨_, List.getElem?_eq_getElem (by rw [HN.out]; exact hlt)⟩
      obtain ⟨c0, c1, c2, c3, c4, c5, c6, c7, c8⟩ := HC.out k x hx
      rw [← HB.out.cell (p := ⟨b, o + k * 9, none⟩) hbw] at c0
      rw [← HB.out.cell (p := ⟨b, o + k * 9 + 1, none⟩) hbw] at c1
      rw [← HB.out.cell (p := ⟨b, o + k * 9 + 2, none⟩) hbw] at c2
      rw [← HB.out.cell (p := ⟨b, o + k * 9 + 3, none⟩) hbw] at c3
      rw [← HB.out.cell (p := ⟨b, o + k * 9 + 4, none⟩) hbw] at c4
      rw [← HB.out.cell (p := ⟨b, o + k * 9 + 5, none⟩) hbw] at c5
      rw [← HB.out.cell (p := ⟨b, o + k * 9 + 6, none⟩) hbw] at c6
      rw [← HB.out.cell (p := ⟨b, o + k * 9 + 7, none⟩) hbw] at c7
      rw [← HB.out.cell (p := ⟨b, o + k * 9 + 8, none⟩) hbw] at c8
      have RA := HRA.out x (List.mem_of_getElem? hx)
      have HX := Lib.hid hx
      have hsz := HB.out.size
      have B0 := HB.out.alloc hsz (.cells #[.string (⟨(x.nm).toArray⟩ : ByteArray), .string (⟨(x.vr).toArray⟩ : ByteArray), .int .i64 (x.st), x.dv, x.cv, x.rv, x.fv, x.pv, x.av] 37)
      obtain ⟨x0, x1, x2, x3, x4, x5, x6, x7, x8⟩ := boxV9 wr (.string (⟨(x.nm).toArray⟩ : ByteArray)) (.string (⟨(x.vr).toArray⟩ : ByteArray)) (.int .i64 (x.st)) x.dv x.cv x.rv x.fv x.pv x.av 37
      have hs := (And.intro x0 (And.intro x1 (And.intro x2 (And.intro x3 (And.intro x4 (And.intro x5 (And.intro x6 (And.intro x7 (And.intro x8 B0)))))))))
      unfold agZU at RA
      clear x0 x1 x2 x3 x4 x5 x6 x7 x8 B0
      obtain ⟨a3, n3, m3, hf3⟩ := formU3 (HIN.out x (List.mem_of_getElem? hx))
      rw [hf3] at RA hs c3
      clear hf3
      obtain ⟨a4, n4, m4, hf4⟩ := formU4 (HIN.out x (List.mem_of_getElem? hx))
      rw [hf4] at RA hs c4
      clear hf4
      obtain ⟨a5, n5, m5, hf5⟩ := formU5 (HIN.out x (List.mem_of_getElem? hx))
      rw [hf5] at RA hs c5
      clear hf5
      obtain ⟨a6, n6, m6, hf6⟩ := formU6 (HIN.out x (List.mem_of_getElem? hx))
      rw [hf6] at RA hs c6
      clear hf6
      obtain ⟨a7, n7, m7, hf7⟩ := formU7 (HIN.out x (List.mem_of_getElem? hx))
      rw [hf7] at RA hs c7
      clear hf7
      obtain ⟨a8, n8, m8, hf8⟩ := formU8 (HIN.out x (List.mem_of_getElem? hx))
      rw [hf8] at RA hs c8
      clear hf8
      clear hx
      cases hq : rt x
      · have HF := Lib.hid (HBAD.out k x HX.out (fun g => by rw [g.1] at hq; cases hq))
        simp only [hq] at RA
        clear hq H HBAD HOK HC HX HRA HIN
        generalize (⟨(x.nm).toArray⟩ : ByteArray) = X0 at *
        generalize (⟨(x.vr).toArray⟩ : ByteArray) = X1 at *
        generalize x.st = z2 at *
        go_wp2
        generalize wr.alloc (.cells #[.string X0, .string X1, .int .i64 z2, .slice a3 n3 m3, .slice a4 n4 m4, .slice a5 n5 m5, .slice a6 n6 m6, .slice a7 n7 m7, .slice a8 n8 m8] 37) = W2 at *
        generalize hb0 : wr.heap.size = b0 at *
        obtain ⟨x0, x1, x2, x3, x4, x5, x6, x7, x8, hB⟩ := hs
        have hs := (And.intro x0 (And.intro x1 (And.intro x2 (And.intro x3 (And.intro x4 (And.intro x5 (And.intro x6 (And.intro x7 (And.intro x8 hB)))))))))
        clear hb0
        have BE := fun (V : World) (h : V.cell? ⟨b0, 0, none⟩ = some (.string X0) ∧ V.cell? ⟨b0, 1, none⟩ = some (.string X1) ∧ V.cell? ⟨b0, 2, none⟩ = some (.int .i64 z2) ∧ V.cell? ⟨b0, 3, none⟩ = some (.slice a3 n3 m3) ∧ V.cell? ⟨b0, 4, none⟩ = some (.slice a4 n4 m4) ∧ V.cell? ⟨b0, 5, none⟩ = some (.slice a5 n5 m5) ∧ V.cell? ⟨b0, 6, none⟩ = some (.slice a6 n6 m6) ∧ V.cell? ⟨b0, 7, none⟩ = some (.slice a7 n7 m7) ∧ V.cell? ⟨b0, 8, none⟩ = some (.slice a8 n8 m8) ∧ Below w.heap.size w V) => AtF.be (w := w) (l := [(⟨b0, 0, none⟩, .string X0), (⟨b0, 1, none⟩, .string X1), (⟨b0, 2, none⟩, .int .i64 z2), (⟨b0, 3, none⟩, .slice a3 n3 m3), (⟨b0, 4, none⟩, .slice a4 n4 m4), (⟨b0, 5, none⟩, .slice a5 n5 m5), (⟨b0, 6, none⟩, .slice a6 n6 m6), (⟨b0, 7, none⟩, .slice a7 n7 m7), (⟨b0, 8, none⟩, .slice a8 n8 m8)]) h
        refine wp_region_held_drew (S := (fun V => V.cell? ⟨b0, 0, none⟩ = some (.string X0) ∧ V.cell? ⟨b0, 1, none⟩ = some (.string X1) ∧ V.cell? ⟨b0, 2, none⟩ = some (.int .i64 z2) ∧ V.cell? ⟨b0, 3, none⟩ = some (.slice a3 n3 m3) ∧ V.cell? ⟨b0, 4, none⟩ = some (.slice a4 n4 m4) ∧ V.cell? ⟨b0, 5, none⟩ = some (.slice a5 n5 m5) ∧ V.cell? ⟨b0, 6, none⟩ = some (.slice a6 n6 m6) ∧ V.cell? ⟨b0, 7, none⟩ = some (.slice a7 n7 m7) ∧ V.cell? ⟨b0, 8, none⟩ = some (.slice a8 n8 m8) ∧ Below w.heap.size w V)) (by kernel_rfl) ?_ (fun hHeld => ?_)
        · (try dsimp only); (first | assumption | exact hs | exact AtF.dr (w := w) (l := [(⟨b0, 0, none⟩, .string X0), (⟨b0, 1, none⟩, .string X1), (⟨b0, 2, none⟩, .int .i64 z2), (⟨b0, 3, none⟩, .slice a3 n3 m3), (⟨b0, 4, none⟩, .slice a4 n4 m4), (⟨b0, 5, none⟩, .slice a5 n5 m5), (⟨b0, 6, none⟩, .slice a6 n6 m6), (⟨b0, 7, none⟩, .slice a7 n7 m7), (⟨b0, 8, none⟩, .slice a8 n8 m8)]) hs | exact AtF.dr (w := w) (l := [(⟨b0, 0, none⟩, .string X0), (⟨b0, 1, none⟩, .string X1), (⟨b0, 2, none⟩, .int .i64 z2), (⟨b0, 3, none⟩, .slice a3 n3 m3), (⟨b0, 4, none⟩, .slice a4 n4 m4), (⟨b0, 5, none⟩, .slice a5 n5 m5), (⟨b0, 6, none⟩, .slice a6 n6 m6), (⟨b0, 7, none⟩, .slice a7 n7 m7), (⟨b0, 8, none⟩, .slice a8 n8 m8)]) (by assumption) | exact AtF.on (w := w) (l := [(⟨b0, 0, none⟩, .string X0), (⟨b0, 1, none⟩, .string X1), (⟨b0, 2, none⟩, .int .i64 z2), (⟨b0, 3, none⟩, .slice a3 n3 m3), (⟨b0, 4, none⟩, .slice a4 n4 m4), (⟨b0, 5, none⟩, .slice a5 n5 m5), (⟨b0, 6, none⟩, .slice a6 n6 m6), (⟨b0, 7, none⟩, .slice a7 n7 m7), (⟨b0, 8, none⟩, .slice a8 n8 m8)]) (by assumption) (by assumption) | exact AtF.al (w := w) (l := [(⟨b0, 0, none⟩, .string X0), (⟨b0, 1, none⟩, .string X1), (⟨b0, 2, none⟩, .int .i64 z2), (⟨b0, 3, none⟩, .slice a3 n3 m3), (⟨b0, 4, none⟩, .slice a4 n4 m4), (⟨b0, 5, none⟩, .slice a5 n5 m5), (⟨b0, 6, none⟩, .slice a6 n6 m6), (⟨b0, 7, none⟩, .slice a7 n7 m7), (⟨b0, 8, none⟩, .slice a8 n8 m8)]) (by assumption) _ | exact AtF.ald (w := w) (l := [(⟨b0, 0, none⟩, .string X0), (⟨b0, 1, none⟩, .string X1), (⟨b0, 2, none⟩, .int .i64 z2), (⟨b0, 3, none⟩, .slice a3 n3 m3), (⟨b0, 4, none⟩, .slice a4 n4 m4), (⟨b0, 5, none⟩, .slice a5 n5 m5), (⟨b0, 6, none⟩, .slice a6 n6 m6), (⟨b0, 7, none⟩, .slice a7 n7 m7), (⟨b0, 8, none⟩, .slice a8 n8 m8)]) (by assumption) _ | exact AtF.al (w := w) (l := [(⟨b0, 0, none⟩, .string X0), (⟨b0, 1, none⟩, .string X1), (⟨b0, 2, none⟩, .int .i64 z2), (⟨b0, 3, none⟩, .slice a3 n3 m3), (⟨b0, 4, none⟩, .slice a4 n4 m4), (⟨b0, 5, none⟩, .slice a5 n5 m5), (⟨b0, 6, none⟩, .slice a6 n6 m6), (⟨b0, 7, none⟩, .slice a7 n7 m7), (⟨b0, 8, none⟩, .slice a8 n8 m8)]) hs _ | exact AtF.ald (w := w) (l := [(⟨b0, 0, none⟩, .string X0), (⟨b0, 1, none⟩, .string X1), (⟨b0, 2, none⟩, .int .i64 z2), (⟨b0, 3, none⟩, .slice a3 n3 m3), (⟨b0, 4, none⟩, .slice a4 n4 m4), (⟨b0, 5, none⟩, .slice a5 n5 m5), (⟨b0, 6, none⟩, .slice a6 n6 m6), (⟨b0, 7, none⟩, .slice a7 n7 m7), (⟨b0, 8, none⟩, .slice a8 n8 m8)]) hs _)
        refine heldY 0 19 ?_ _ rfl rfl (by kernel_rfl) (by kernel_rfl) (by kernel_rfl) (fun _ _ _ h => h) rfl (by assumption) ?_ ?_
        rotate_left
        · (intro w hSw; (try dsimp only at hSw); go_simp; (try with_reducible rfl))
        try simp only [List.setIfInBounds_toArray, List.set_cons_zero, List.set_cons_succ]
        refine heldY 1 20 ?_ _ rfl rfl (by kernel_rfl) (by kernel_rfl) (by kernel_rfl) (fun _ _ _ h => h) rfl (by assumption) ?_ ?_
        rotate_left
        · (intro w hSw; (try dsimp only at hSw); go_simp; (try with_reducible rfl))
        try simp only [List.setIfInBounds_toArray, List.set_cons_zero, List.set_cons_succ]
        refine wpAnyH_ready (rs := [2]) (by kernel_rfl) (by simp) ?_
        refine AllReadyH.cons rfl (fun K hK => ?_) AllReadyH.nil
        go_simp
        (go_at_fn g; refine (RA _ (BE _ (by assumption))).mono ?_; rintro e w3 ⟨rfl, hb⟩)
        refine hK.out _ _ ?_ (fun hHeld => ?_)
        · (try dsimp only); (first | assumption | exact hs | exact AtF.dr (w := w) (l := [(⟨b0, 0, none⟩, .string X0), (⟨b0, 1, none⟩, .string X1), (⟨b0, 2, none⟩, .int .i64 z2), (⟨b0, 3, none⟩, .slice a3 n3 m3), (⟨b0, 4, none⟩, .slice a4 n4 m4), (⟨b0, 5, none⟩, .slice a5 n5 m5), (⟨b0, 6, none⟩, .slice a6 n6 m6), (⟨b0, 7, none⟩, .slice a7 n7 m7), (⟨b0, 8, none⟩, .slice a8 n8 m8)]) hs | exact AtF.dr (w := w) (l := [(⟨b0, 0, none⟩, .string X0), (⟨b0, 1, none⟩, .string X1), (⟨b0, 2, none⟩, .int .i64 z2), (⟨b0, 3, none⟩, .slice a3 n3 m3), (⟨b0, 4, none⟩, .slice a4 n4 m4), (⟨b0, 5, none⟩, .slice a5 n5 m5), (⟨b0, 6, none⟩, .slice a6 n6 m6), (⟨b0, 7, none⟩, .slice a7 n7 m7), (⟨b0, 8, none⟩, .slice a8 n8 m8)]) (by assumption) | exact AtF.on (w := w) (l := [(⟨b0, 0, none⟩, .string X0), (⟨b0, 1, none⟩, .string X1), (⟨b0, 2, none⟩, .int .i64 z2), (⟨b0, 3, none⟩, .slice a3 n3 m3), (⟨b0, 4, none⟩, .slice a4 n4 m4), (⟨b0, 5, none⟩, .slice a5 n5 m5), (⟨b0, 6, none⟩, .slice a6 n6 m6), (⟨b0, 7, none⟩, .slice a7 n7 m7), (⟨b0, 8, none⟩, .slice a8 n8 m8)]) (by assumption) (by assumption) | exact AtF.al (w := w) (l := [(⟨b0, 0, none⟩, .string X0), (⟨b0, 1, none⟩, .string X1), (⟨b0, 2, none⟩, .int .i64 z2), (⟨b0, 3, none⟩, .slice a3 n3 m3), (⟨b0, 4, none⟩, .slice a4 n4 m4), (⟨b0, 5, none⟩, .slice a5 n5 m5), (⟨b0, 6, none⟩, .slice a6 n6 m6), (⟨b0, 7, none⟩, .slice a7 n7 m7), (⟨b0, 8, none⟩, .slice a8 n8 m8)]) (by assumption) _ | exact AtF.ald (w := w) (l := [(⟨b0, 0, none⟩, .string X0), (⟨b0, 1, none⟩, .string X1), (⟨b0, 2, none⟩, .int .i64 z2), (⟨b0, 3, none⟩, .slice a3 n3 m3), (⟨b0, 4, none⟩, .slice a4 n4 m4), (⟨b0, 5, none⟩, .slice a5 n5 m5), (⟨b0, 6, none⟩, .slice a6 n6 m6), (⟨b0, 7, none⟩, .slice a7 n7 m7), (⟨b0, 8, none⟩, .slice a8 n8 m8)]) (by assumption) _ | exact AtF.al (w := w) (l := [(⟨b0, 0, none⟩, .string X0), (⟨b0, 1, none⟩, .string X1), (⟨b0, 2, none⟩, .int .i64 z2), (⟨b0, 3, none⟩, .slice a3 n3 m3), (⟨b0, 4, none⟩, .slice a4 n4 m4), (⟨b0, 5, none⟩, .slice a5 n5 m5), (⟨b0, 6, none⟩, .slice a6 n6 m6), (⟨b0, 7, none⟩, .slice a7 n7 m7), (⟨b0, 8, none⟩, .slice a8 n8 m8)]) hs _ | exact AtF.ald (w := w) (l := [(⟨b0, 0, none⟩, .string X0), (⟨b0, 1, none⟩, .string X1), (⟨b0, 2, none⟩, .int .i64 z2), (⟨b0, 3, none⟩, .slice a3 n3 m3), (⟨b0, 4, none⟩, .slice a4 n4 m4), (⟨b0, 5, none⟩, .slice a5 n5 m5), (⟨b0, 6, none⟩, .slice a6 n6 m6), (⟨b0, 7, none⟩, .slice a7 n7 m7), (⟨b0, 8, none⟩, .slice a8 n8 m8)]) hs _)
        clear hK K
        try simp only [Act.put, List.setIfInBounds_toArray, List.set_cons_zero, List.set_cons_succ]
        refine heldY 3 22 ?_ _ rfl rfl (by kernel_rfl) (by kernel_rfl) (by kernel_rfl) (fun _ _ _ h => h) rfl (by assumption) ?_ ?_
        rotate_left
        · (intro w hSw; (try dsimp only at hSw); go_simp; (try with_reducible rfl))
        try simp only [List.setIfInBounds_toArray, List.set_cons_zero, List.set_cons_succ]
        refine heldY 4 23 ?_ _ rfl rfl (by kernel_rfl) (by kernel_rfl) (by kernel_rfl) (fun _ _ _ h => h) rfl (by assumption) ?_ ?_
        rotate_left
        · (intro w hSw; (try dsimp only at hSw); go_simp; (try with_reducible rfl))
        try simp only [List.setIfInBounds_toArray, List.set_cons_zero, List.set_cons_succ]
        refine heldNo 5 24 rfl (by kernel_rfl) (by kernel_rfl) (by kernel_rfl) (fun _ _ _ h => h) rfl (by assumption) ?_
        try simp only [List.setIfInBounds_toArray, List.set_cons_zero, List.set_cons_succ]
        refine heldNo 6 25 rfl (by kernel_rfl) (by kernel_rfl) (by kernel_rfl) (fun _ _ _ h => h) rfl (by assumption) ?_
        try simp only [List.setIfInBounds_toArray, List.set_cons_zero, List.set_cons_succ]
        refine heldNo 7 26 rfl (by kernel_rfl) (by kernel_rfl) (by kernel_rfl) (fun _ _ _ h => h) rfl (by assumption) ?_
        try simp only [List.setIfInBounds_toArray, List.set_cons_zero, List.set_cons_succ]
        refine heldNo 8 27 rfl (by kernel_rfl) (by kernel_rfl) (by kernel_rfl) (fun _ _ _ h => h) rfl (by assumption) ?_
        try simp only [List.setIfInBounds_toArray, List.set_cons_zero, List.set_cons_succ]
        refine heldNo 9 28 rfl (by kernel_rfl) (by kernel_rfl) (by kernel_rfl) (fun _ _ _ h => h) rfl (by assumption) ?_
        try simp only [List.setIfInBounds_toArray, List.set_cons_zero, List.set_cons_succ]
        refine heldNo 10 29 rfl (by kernel_rfl) (by kernel_rfl) (by kernel_rfl) (fun _ _ _ h => h) rfl (by assumption) ?_
        try simp only [List.setIfInBounds_toArray, List.set_cons_zero, List.set_cons_succ]
        refine heldNo 11 30 rfl (by kernel_rfl) (by kernel_rfl) (by kernel_rfl) (fun _ _ _ h => h) rfl (by assumption) ?_
        try simp only [List.setIfInBounds_toArray, List.set_cons_zero, List.set_cons_succ]
        refine heldNo 12 31 rfl (by kernel_rfl) (by kernel_rfl) (by kernel_rfl) (fun _ _ _ h => h) rfl (by assumption) ?_
        try simp only [List.setIfInBounds_toArray, List.set_cons_zero, List.set_cons_succ]
        refine heldNo 13 32 rfl (by kernel_rfl) (by kernel_rfl) (by kernel_rfl) (fun _ _ _ h => h) rfl (by assumption) ?_
        try simp only [List.setIfInBounds_toArray, List.set_cons_zero, List.set_cons_succ]
        refine heldNo 14 33 rfl (by kernel_rfl) (by kernel_rfl) (by kernel_rfl) (fun _ _ _ h => h) rfl (by assumption) ?_
        try simp only [List.setIfInBounds_toArray, List.set_cons_zero, List.set_cons_succ]
        refine heldNo 15 34 rfl (by kernel_rfl) (by kernel_rfl) (by kernel_rfl) (fun _ _ _ h => h) rfl (by assumption) ?_
        try simp only [List.setIfInBounds_toArray, List.set_cons_zero, List.set_cons_succ]
        refine heldNo 16 35 rfl (by kernel_rfl) (by kernel_rfl) (by kernel_rfl) (fun _ _ _ h => h) rfl (by assumption) ?_
        try simp only [List.setIfInBounds_toArray, List.set_cons_zero, List.set_cons_succ]
        refine heldNo 17 36 rfl (by kernel_rfl) (by kernel_rfl) (by kernel_rfl) (fun _ _ _ h => h) rfl (by assumption) ?_
        try simp only [List.setIfInBounds_toArray, List.set_cons_zero, List.set_cons_succ]
        refine heldNo 18 37 rfl (by kernel_rfl) (by kernel_rfl) (by kernel_rfl) (fun _ _ _ h => h) rfl (by assumption) ?_
        try simp only [List.setIfInBounds_toArray, List.set_cons_zero, List.set_cons_succ]
        refine heldNo 19 38 rfl (by kernel_rfl) (by kernel_rfl) (by kernel_rfl) (fun _ _ _ h => h) rfl (by assumption) ?_
        try simp only [List.setIfInBounds_toArray, List.set_cons_zero, List.set_cons_succ]
        refine heldY 20 39 ?_ _ rfl rfl (by kernel_rfl) (by kernel_rfl) (by kernel_rfl) (fun _ _ _ h => h) rfl (by assumption) ?_ ?_
        rotate_left
        · (intro w hSw; (try dsimp only at hSw); go_simp; (try with_reducible rfl))
        try simp only [List.setIfInBounds_toArray, List.set_cons_zero, List.set_cons_succ]
        refine wpAnyH_done (by kernel_rfl) ?_ _
        have HW3 := Lib.hid (BE _ hHeld)
        clear hHeld
        go_wp2
        go_ret
        exact ⟨reti HF.out, HW3.out⟩
      · simp only [hq] at RA
        by_cases hk0 : 0 < k
        · obtain ⟨y, hy⟩ : ∃ y, l[k - 1]? = some y := ⟨_, List.getElem?_eq_getElem (by rw [HN.out]; omega)⟩
          obtain ⟨e0, e1, e2, e3, e4, e5, e6, e7, e8⟩ := HC.out (k - 1) y hy
          rw [← HB.out.cell (p := ⟨b, o + (k - 1) * 9, none⟩) hbw] at e0
          rw [← HB.out.cell (p := ⟨b, o + (k - 1) * 9 + 1, none⟩) hbw] at e1
          rw [← HB.out.cell (p := ⟨b, o + (k - 1) * 9 + 2, none⟩) hbw] at e2
          rw [← HB.out.cell (p := ⟨b, o + (k - 1) * 9 + 3, none⟩) hbw] at e3
          rw [← HB.out.cell (p := ⟨b, o + (k - 1) * 9 + 4, none⟩) hbw] at e4
          rw [← HB.out.cell (p := ⟨b, o + (k - 1) * 9 + 5, none⟩) hbw] at e5
          rw [← HB.out.cell (p := ⟨b, o + (k - 1) * 9 + 6, none⟩) hbw] at e6
          rw [← HB.out.cell (p := ⟨b, o + (k - 1) * 9 + 7, none⟩) hbw] at e7
          rw [← HB.out.cell (p := ⟨b, o + (k - 1) * 9 + 8, none⟩) hbw] at e8
          obtain ⟨a3', n3', m3', hf3'⟩ := formU3 (HIN.out y (List.mem_of_getElem? hy))
          rw [hf3'] at e3
          clear hf3'
          obtain ⟨a4', n4', m4', hf4'⟩ := formU4 (HIN.out y (List.mem_of_getElem? hy))
          rw [hf4'] at e4
          clear hf4'
          obtain ⟨a5', n5', m5', hf5'⟩ := formU5 (HIN.out y (List.mem_of_getElem? hy))
          rw [hf5'] at e5
          clear hf5'
          obtain ⟨a6', n6', m6', hf6'⟩ := formU6 (HIN.out y (List.mem_of_getElem? hy))
          rw [hf6'] at e6
          clear hf6'
          obtain ⟨a7', n7', m7', hf7'⟩ := formU7 (HIN.out y (List.mem_of_getElem? hy))
          rw [hf7'] at e7
          clear hf7'
          obtain ⟨a8', n8', m8', hf8'⟩ := formU8 (HIN.out y (List.mem_of_getElem? hy))
          rw [hf8'] at e8
          clear hf8'
          have hbwr : b < wr.heap.size := Nat.lt_of_lt_of_le hbw hsz
          have hB1 := (Below.refl wr.heap.size wr).alloc (Nat.le_refl _) (.cells #[.string (⟨(x.nm).toArray⟩ : ByteArray), .string (⟨(x.vr).toArray⟩ : ByteArray), .int .i64 (x.st), .slice a3 n3 m3, .slice a4 n4 m4, .slice a5 n5 m5, .slice a6 n6 m6, .slice a7 n7 m7, .slice a8 n8 m8] 37)
          have e0 := (hB1.cell (p := ⟨b, o + (k - 1) * 9, none⟩) hbwr).trans e0
          have e1 := (hB1.cell (p := ⟨b, o + (k - 1) * 9 + 1, none⟩) hbwr).trans e1
          have e2 := (hB1.cell (p := ⟨b, o + (k - 1) * 9 + 2, none⟩) hbwr).trans e2
          have e3 := (hB1.cell (p := ⟨b, o + (k - 1) * 9 + 3, none⟩) hbwr).trans e3
          have e4 := (hB1.cell (p := ⟨b, o + (k - 1) * 9 + 4, none⟩) hbwr).trans e4
          have e5 := (hB1.cell (p := ⟨b, o + (k - 1) * 9 + 5, none⟩) hbwr).trans e5
          have e6 := (hB1.cell (p := ⟨b, o + (k - 1) * 9 + 6, none⟩) hbwr).trans e6
          have e7 := (hB1.cell (p := ⟨b, o + (k - 1) * 9 + 7, none⟩) hbwr).trans e7
          have e8 := (hB1.cell (p := ⟨b, o + (k - 1) * 9 + 8, none⟩) hbwr).trans e8
          have hls := lessT (⟨(y.nm).toArray⟩ : ByteArray) (⟨(x.nm).toArray⟩ : ByteArray)
          rw [bytesOf, bytesOf] at hls
          have HBADk : Hid (decide (y.nm < x.nm) = false → (1 : Int) = Z) := Lib.hid (fun g => HBAD.out k x HX.out (fun q => by have := q.2 y hk0 hy; simp only at this; rw [decide_eq_true this] at g; cases g))
          have HNEXT : Hid (decide (y.nm < x.nm) = true → ∀ (j : Nat) u, j < k + 1 → l[j]? = some u → stepK rt (fun x => x.nm) l j u) := Lib.hid (fun g j u hj hu => by
            by_cases ej : j = k
            · subst ej
              rw [HX.out] at hu; cases hu
              exact ⟨hq, fun u h1 h2 => by rw [hy] at h2; cases h2; exact of_decide_eq_true g⟩
            · exact H.out j u (by omega) hu)
          generalize decide (y.nm < x.nm) = q at *
          have hd : decide ((0 : Int) < (k : Int)) = true := decide_eq_true (by omega)
          have hk1 : (1 : Int) ≤ (k : Int) := by omega
          clear hq H HBAD HC HX hy hB1 HRA HIN
          generalize (⟨(x.nm).toArray⟩ : ByteArray) = X0 at *
          generalize (⟨(x.vr).toArray⟩ : ByteArray) = X1 at *
          generalize x.st = z2 at *
          generalize (⟨(y.nm).toArray⟩ : ByteArray) = X0' at *
          generalize (⟨(y.vr).toArray⟩ : ByteArray) = X1' at *
          generalize y.st = z2' at *
          go_wp2
          generalize wr.alloc (.cells #[.string X0, .string X1, .int .i64 z2, .slice a3 n3 m3, .slice a4 n4 m4, .slice a5 n5 m5, .slice a6 n6 m6, .slice a7 n7 m7, .slice a8 n8 m8] 37) = W2 at *
          generalize hb0 : wr.heap.size = b0 at *
          obtain ⟨x0, x1, x2, x3, x4, x5, x6, x7, x8, hB⟩ := hs
          have hs := (And.intro x0 (And.intro x1 (And.intro x2 (And.intro x3 (And.intro x4 (And.intro x5 (And.intro x6 (And.intro x7 (And.intro x8 (And.intro e0 (And.intro e1 (And.intro e2 (And.intro e3 (And.intro e4 (And.intro e5 (And.intro e6 (And.intro e7 (And.intro e8 hB))))))))))))))))))
          clear hb0
          have i0 : (0 : Int) ≤ (k : Int) - 1 := by omega
          have i1 : (k : Int) - 1 < (n : Int) := by omega
          have i2 : ((k : Int) - 1).toNat = k - 1 := by omega
          have i3 : IntKind.i64.wrap ((k : Int) - 1) = (k : Int) - 1 := IntWalk.i64_in _ (by omega)
          have KX := fun W => keyU_any X0 X1 z2 (.slice a3 n3 m3) (.slice a4 n4 m4) (.slice a5 n5 m5) (.slice a6 n6 m6) (.slice a7 n7 m7) (.slice a8 n8 m8) W
          have KY := fun W => keyU_any X0' X1' z2' (.slice a3' n3' m3') (.slice a4' n4' m4') (.slice a5' n5' m5') (.slice a6' n6' m6') (.slice a7' n7' m7') (.slice a8' n8' m8') W
          have BE := fun (V : World) (h : V.cell? ⟨b0, 0, none⟩ = some (.string X0) ∧ V.cell? ⟨b0, 1, none⟩ = some (.string X1) ∧ V.cell? ⟨b0, 2, none⟩ = some (.int .i64 z2) ∧ V.cell? ⟨b0, 3, none⟩ = some (.slice a3 n3 m3) ∧ V.cell? ⟨b0, 4, none⟩ = some (.slice a4 n4 m4) ∧ V.cell? ⟨b0, 5, none⟩ = some (.slice a5 n5 m5) ∧ V.cell? ⟨b0, 6, none⟩ = some (.slice a6 n6 m6) ∧ V.cell? ⟨b0, 7, none⟩ = some (.slice a7 n7 m7) ∧ V.cell? ⟨b0, 8, none⟩ = some (.slice a8 n8 m8) ∧ V.cell? ⟨b, o + (k - 1) * 9, none⟩ = some (.string X0') ∧ V.cell? ⟨b, o + (k - 1) * 9 + 1, none⟩ = some (.string X1') ∧ V.cell? ⟨b, o + (k - 1) * 9 + 2, none⟩ = some (.int .i64 z2') ∧ V.cell? ⟨b, o + (k - 1) * 9 + 3, none⟩ = some (.slice a3' n3' m3') ∧ V.cell? ⟨b, o + (k - 1) * 9 + 4, none⟩ = some (.slice a4' n4' m4') ∧ V.cell? ⟨b, o + (k - 1) * 9 + 5, none⟩ = some (.slice a5' n5' m5') ∧ V.cell? ⟨b, o + (k - 1) * 9 + 6, none⟩ = some (.slice a6' n6' m6') ∧ V.cell? ⟨b, o + (k - 1) * 9 + 7, none⟩ = some (.slice a7' n7' m7') ∧ V.cell? ⟨b, o + (k - 1) * 9 + 8, none⟩ = some (.slice a8' n8' m8') ∧ Below w.heap.size w V) => AtF.be (w := w) (l := [(⟨b0, 0, none⟩, .string X0), (⟨b0, 1, none⟩, .string X1), (⟨b0, 2, none⟩, .int .i64 z2), (⟨b0, 3, none⟩, .slice a3 n3 m3), (⟨b0, 4, none⟩, .slice a4 n4 m4), (⟨b0, 5, none⟩, .slice a5 n5 m5), (⟨b0, 6, none⟩, .slice a6 n6 m6), (⟨b0, 7, none⟩, .slice a7 n7 m7), (⟨b0, 8, none⟩, .slice a8 n8 m8), (⟨b, o + (k - 1) * 9, none⟩, .string X0'), (⟨b, o + (k - 1) * 9 + 1, none⟩, .string X1'), (⟨b, o + (k - 1) * 9 + 2, none⟩, .int .i64 z2'), (⟨b, o + (k - 1) * 9 + 3, none⟩, .slice a3' n3' m3'), (⟨b, o + (k - 1) * 9 + 4, none⟩, .slice a4' n4' m4'), (⟨b, o + (k - 1) * 9 + 5, none⟩, .slice a5' n5' m5'), (⟨b, o + (k - 1) * 9 + 6, none⟩, .slice a6' n6' m6'), (⟨b, o + (k - 1) * 9 + 7, none⟩, .slice a7' n7' m7'), (⟨b, o + (k - 1) * 9 + 8, none⟩, .slice a8' n8' m8')]) h
          refine wp_region_held_drew (S := (fun V => V.cell? ⟨b0, 0, none⟩ = some (.string X0) ∧ V.cell? ⟨b0, 1, none⟩ = some (.string X1) ∧ V.cell? ⟨b0, 2, none⟩ = some (.int .i64 z2) ∧ V.cell? ⟨b0, 3, none⟩ = some (.slice a3 n3 m3) ∧ V.cell? ⟨b0, 4, none⟩ = some (.slice a4 n4 m4) ∧ V.cell? ⟨b0, 5, none⟩ = some (.slice a5 n5 m5) ∧ V.cell? ⟨b0, 6, none⟩ = some (.slice a6 n6 m6) ∧ V.cell? ⟨b0, 7, none⟩ = some (.slice a7 n7 m7) ∧ V.cell? ⟨b0, 8, none⟩ = some (.slice a8 n8 m8) ∧ V.cell? ⟨b, o + (k - 1) * 9, none⟩ = some (.string X0') ∧ V.cell? ⟨b, o + (k - 1) * 9 + 1, none⟩ = some (.string X1') ∧ V.cell? ⟨b, o + (k - 1) * 9 + 2, none⟩ = some (.int .i64 z2') ∧ V.cell? ⟨b, o + (k - 1) * 9 + 3, none⟩ = some (.slice a3' n3' m3') ∧ V.cell? ⟨b, o + (k - 1) * 9 + 4, none⟩ = some (.slice a4' n4' m4') ∧ V.cell? ⟨b, o + (k - 1) * 9 + 5, none⟩ = some (.slice a5' n5' m5') ∧ V.cell? ⟨b, o + (k - 1) * 9 + 6, none⟩ = some (.slice a6' n6' m6') ∧ V.cell? ⟨b, o + (k - 1) * 9 + 7, none⟩ = some (.slice a7' n7' m7') ∧ V.cell? ⟨b, o + (k - 1) * 9 + 8, none⟩ = some (.slice a8' n8' m8') ∧ Below w.heap.size w V)) (by kernel_rfl) ?_ (fun hHeld => ?_)
          · (try dsimp only); (first | assumption | exact hs | exact AtF.dr (w := w) (l := [(⟨b0, 0, none⟩, .string X0), (⟨b0, 1, none⟩, .string X1), (⟨b0, 2, none⟩, .int .i64 z2), (⟨b0, 3, none⟩, .slice a3 n3 m3), (⟨b0, 4, none⟩, .slice a4 n4 m4), (⟨b0, 5, none⟩, .slice a5 n5 m5), (⟨b0, 6, none⟩, .slice a6 n6 m6), (⟨b0, 7, none⟩, .slice a7 n7 m7), (⟨b0, 8, none⟩, .slice a8 n8 m8), (⟨b, o + (k - 1) * 9, none⟩, .string X0'), (⟨b, o + (k - 1) * 9 + 1, none⟩, .string X1'), (⟨b, o + (k - 1) * 9 + 2, none⟩, .int .i64 z2'), (⟨b, o + (k - 1) * 9 + 3, none⟩, .slice a3' n3' m3'), (⟨b, o + (k - 1) * 9 + 4, none⟩, .slice a4' n4' m4'), (⟨b, o + (k - 1) * 9 + 5, none⟩, .slice a5' n5' m5'), (⟨b, o + (k - 1) * 9 + 6, none⟩, .slice a6' n6' m6'), (⟨b, o + (k - 1) * 9 + 7, none⟩, .slice a7' n7' m7'), (⟨b, o + (k - 1) * 9 + 8, none⟩, .slice a8' n8' m8')]) hs | exact AtF.dr (w := w) (l := [(⟨b0, 0, none⟩, .string X0), (⟨b0, 1, none⟩, .string X1), (⟨b0, 2, none⟩, .int .i64 z2), (⟨b0, 3, none⟩, .slice a3 n3 m3), (⟨b0, 4, none⟩, .slice a4 n4 m4), (⟨b0, 5, none⟩, .slice a5 n5 m5), (⟨b0, 6, none⟩, .slice a6 n6 m6), (⟨b0, 7, none⟩, .slice a7 n7 m7), (⟨b0, 8, none⟩, .slice a8 n8 m8), (⟨b, o + (k - 1) * 9, none⟩, .string X0'), (⟨b, o + (k - 1) * 9 + 1, none⟩, .string X1'), (⟨b, o + (k - 1) * 9 + 2, none⟩, .int .i64 z2'), (⟨b, o + (k - 1) * 9 + 3, none⟩, .slice a3' n3' m3'), (⟨b, o + (k - 1) * 9 + 4, none⟩, .slice a4' n4' m4'), (⟨b, o + (k - 1) * 9 + 5, none⟩, .slice a5' n5' m5'), (⟨b, o + (k - 1) * 9 + 6, none⟩, .slice a6' n6' m6'), (⟨b, o + (k - 1) * 9 + 7, none⟩, .slice a7' n7' m7'), (⟨b, o + (k - 1) * 9 + 8, none⟩, .slice a8' n8' m8')]) (by assumption) | exact AtF.on (w := w) (l := [(⟨b0, 0, none⟩, .string X0), (⟨b0, 1, none⟩, .string X1), (⟨b0, 2, none⟩, .int .i64 z2), (⟨b0, 3, none⟩, .slice a3 n3 m3), (⟨b0, 4, none⟩, .slice a4 n4 m4), (⟨b0, 5, none⟩, .slice a5 n5 m5), (⟨b0, 6, none⟩, .slice a6 n6 m6), (⟨b0, 7, none⟩, .slice a7 n7 m7), (⟨b0, 8, none⟩, .slice a8 n8 m8), (⟨b, o + (k - 1) * 9, none⟩, .string X0'), (⟨b, o + (k - 1) * 9 + 1, none⟩, .string X1'), (⟨b, o + (k - 1) * 9 + 2, none⟩, .int .i64 z2'), (⟨b, o + (k - 1) * 9 + 3, none⟩, .slice a3' n3' m3'), (⟨b, o + (k - 1) * 9 + 4, none⟩, .slice a4' n4' m4'), (⟨b, o + (k - 1) * 9 + 5, none⟩, .slice a5' n5' m5'), (⟨b, o + (k - 1) * 9 + 6, none⟩, .slice a6' n6' m6'), (⟨b, o + (k - 1) * 9 + 7, none⟩, .slice a7' n7' m7'), (⟨b, o + (k - 1) * 9 + 8, none⟩, .slice a8' n8' m8')]) (by assumption) (by assumption) | exact AtF.al (w := w) (l := [(⟨b0, 0, none⟩, .string X0), (⟨b0, 1, none⟩, .string X1), (⟨b0, 2, none⟩, .int .i64 z2), (⟨b0, 3, none⟩, .slice a3 n3 m3), (⟨b0, 4, none⟩, .slice a4 n4 m4), (⟨b0, 5, none⟩, .slice a5 n5 m5), (⟨b0, 6, none⟩, .slice a6 n6 m6), (⟨b0, 7, none⟩, .slice a7 n7 m7), (⟨b0, 8, none⟩, .slice a8 n8 m8), (⟨b, o + (k - 1) * 9, none⟩, .string X0'), (⟨b, o + (k - 1) * 9 + 1, none⟩, .string X1'), (⟨b, o + (k - 1) * 9 + 2, none⟩, .int .i64 z2'), (⟨b, o + (k - 1) * 9 + 3, none⟩, .slice a3' n3' m3'), (⟨b, o + (k - 1) * 9 + 4, none⟩, .slice a4' n4' m4'), (⟨b, o + (k - 1) * 9 + 5, none⟩, .slice a5' n5' m5'), (⟨b, o + (k - 1) * 9 + 6, none⟩, .slice a6' n6' m6'), (⟨b, o + (k - 1) * 9 + 7, none⟩, .slice a7' n7' m7'), (⟨b, o + (k - 1) * 9 + 8, none⟩, .slice a8' n8' m8')]) (by assumption) _ | exact AtF.ald (w := w) (l := [(⟨b0, 0, none⟩, .string X0), (⟨b0, 1, none⟩, .string X1), (⟨b0, 2, none⟩, .int .i64 z2), (⟨b0, 3, none⟩, .slice a3 n3 m3), (⟨b0, 4, none⟩, .slice a4 n4 m4), (⟨b0, 5, none⟩, .slice a5 n5 m5), (⟨b0, 6, none⟩, .slice a6 n6 m6), (⟨b0, 7, none⟩, .slice a7 n7 m7), (⟨b0, 8, none⟩, .slice a8 n8 m8), (⟨b, o + (k - 1) * 9, none⟩, .string X0'), (⟨b, o + (k - 1) * 9 + 1, none⟩, .string X1'), (⟨b, o + (k - 1) * 9 + 2, none⟩, .int .i64 z2'), (⟨b, o + (k - 1) * 9 + 3, none⟩, .slice a3' n3' m3'), (⟨b, o + (k - 1) * 9 + 4, none⟩, .slice a4' n4' m4'), (⟨b, o + (k - 1) * 9 + 5, none⟩, .slice a5' n5' m5'), (⟨b, o + (k - 1) * 9 + 6, none⟩, .slice a6' n6' m6'), (⟨b, o + (k - 1) * 9 + 7, none⟩, .slice a7' n7' m7'), (⟨b, o + (k - 1) * 9 + 8, none⟩, .slice a8' n8' m8')]) (by assumption) _ | exact AtF.al (w := w) (l := [(⟨b0, 0, none⟩, .string X0), (⟨b0, 1, none⟩, .string X1), (⟨b0, 2, none⟩, .int .i64 z2), (⟨b0, 3, none⟩, .slice a3 n3 m3), (⟨b0, 4, none⟩, .slice a4 n4 m4), (⟨b0, 5, none⟩, .slice a5 n5 m5), (⟨b0, 6, none⟩, .slice a6 n6 m6), (⟨b0, 7, none⟩, .slice a7 n7 m7), (⟨b0, 8, none⟩, .slice a8 n8 m8), (⟨b, o + (k - 1) * 9, none⟩, .string X0'), (⟨b, o + (k - 1) * 9 + 1, none⟩, .string X1'), (⟨b, o + (k - 1) * 9 + 2, none⟩, .int .i64 z2'), (⟨b, o + (k - 1) * 9 + 3, none⟩, .slice a3' n3' m3'), (⟨b, o + (k - 1) * 9 + 4, none⟩, .slice a4' n4' m4'), (⟨b, o + (k - 1) * 9 + 5, none⟩, .slice a5' n5' m5'), (⟨b, o + (k - 1) * 9 + 6, none⟩, .slice a6' n6' m6'), (⟨b, o + (k - 1) * 9 + 7, none⟩, .slice a7' n7' m7'), (⟨b, o + (k - 1) * 9 + 8, none⟩, .slice a8' n8' m8')]) hs _ | exact AtF.ald (w := w) (l := [(⟨b0, 0, none⟩, .string X0), (⟨b0, 1, none⟩, .string X1), (⟨b0, 2, none⟩, .int .i64 z2), (⟨b0, 3, none⟩, .slice a3 n3 m3), (⟨b0, 4, none⟩, .slice a4 n4 m4), (⟨b0, 5, none⟩, .slice a5 n5 m5), (⟨b0, 6, none⟩, .slice a6 n6 m6), (⟨b0, 7, none⟩, .slice a7 n7 m7), (⟨b0, 8, none⟩, .slice a8 n8 m8), (⟨b, o + (k - 1) * 9, none⟩, .string X0'), (⟨b, o + (k - 1) * 9 + 1, none⟩, .string X1'), (⟨b, o + (k - 1) * 9 + 2, none⟩, .int .i64 z2'), (⟨b, o + (k - 1) * 9 + 3, none⟩, .slice a3' n3' m3'), (⟨b, o + (k - 1) * 9 + 4, none⟩, .slice a4' n4' m4'), (⟨b, o + (k - 1) * 9 + 5, none⟩, .slice a5' n5' m5'), (⟨b, o + (k - 1) * 9 + 6, none⟩, .slice a6' n6' m6'), (⟨b, o + (k - 1) * 9 + 7, none⟩, .slice a7' n7' m7'), (⟨b, o + (k - 1) * 9 + 8, none⟩, .slice a8' n8' m8')]) hs _)
          refine heldY 0 19 ?_ _ rfl rfl (by kernel_rfl) (by kernel_rfl) (by kernel_rfl) (fun _ _ _ h => h) rfl (by assumption) ?_ ?_
          rotate_left
          · (intro w hSw; (try dsimp only at hSw); go_simp; (try with_reducible rfl))
          try simp only [List.setIfInBounds_toArray, List.set_cons_zero, List.set_cons_succ]
          refine heldY 1 20 ?_ _ rfl rfl (by kernel_rfl) (by kernel_rfl) (by kernel_rfl) (fun _ _ _ h => h) rfl (by assumption) ?_ ?_
          rotate_left
          · (intro w hSw; (try dsimp only at hSw); go_simp; (try with_reducible rfl))
          try simp only [List.setIfInBounds_toArray, List.set_cons_zero, List.set_cons_succ]
          refine wpAnyH_ready (rs := [2]) (by kernel_rfl) (by simp) ?_
          refine AllReadyH.cons rfl (fun K hK => ?_) AllReadyH.nil
          go_simp
          first | (go_at_fn g; refine (RA _ (BE _ (by assumption))).mono ?_; rintro e w3 ⟨rfl, hb⟩) | (go_at_call 16; first | ((with_reducible refine (KX _).mono ?_); rintro e w3 ⟨rfl, hb⟩) | ((with_reducible refine (KY _).mono ?_); rintro e w3 ⟨rfl, hb⟩))
          refine hK.out _ _ ?_ (fun hHeld => ?_)
          · (try dsimp only); (first | assumption | exact hs | exact AtF.dr (w := w) (l := [(⟨b0, 0, none⟩, .string X0), (⟨b0, 1, none⟩, .string X1), (⟨b0, 2, none⟩, .int .i64 z2), (⟨b0, 3, none⟩, .slice a3 n3 m3), (⟨b0, 4, none⟩, .slice a4 n4 m4), (⟨b0, 5, none⟩, .slice a5 n5 m5), (⟨b0, 6, none⟩, .slice a6 n6 m6), (⟨b0, 7, none⟩, .slice a7 n7 m7), (⟨b0, 8, none⟩, .slice a8 n8 m8), (⟨b, o + (k - 1) * 9, none⟩, .string X0'), (⟨b, o + (k - 1) * 9 + 1, none⟩, .string X1'), (⟨b, o + (k - 1) * 9 + 2, none⟩, .int .i64 z2'), (⟨b, o + (k - 1) * 9 + 3, none⟩, .slice a3' n3' m3'), (⟨b, o + (k - 1) * 9 + 4, none⟩, .slice a4' n4' m4'), (⟨b, o + (k - 1) * 9 + 5, none⟩, .slice a5' n5' m5'), (⟨b, o + (k - 1) * 9 + 6, none⟩, .slice a6' n6' m6'), (⟨b, o + (k - 1) * 9 + 7, none⟩, .slice a7' n7' m7'), (⟨b, o + (k - 1) * 9 + 8, none⟩, .slice a8' n8' m8')]) hs | exact AtF.dr (w := w) (l := [(⟨b0, 0, none⟩, .string X0), (⟨b0, 1, none⟩, .string X1), (⟨b0, 2, none⟩, .int .i64 z2), (⟨b0, 3, none⟩, .slice a3 n3 m3), (⟨b0, 4, none⟩, .slice a4 n4 m4), (⟨b0, 5, none⟩, .slice a5 n5 m5), (⟨b0, 6, none⟩, .slice a6 n6 m6), (⟨b0, 7, none⟩, .slice a7 n7 m7), (⟨b0, 8, none⟩, .slice a8 n8 m8), (⟨b, o + (k - 1) * 9, none⟩, .string X0'), (⟨b, o + (k - 1) * 9 + 1, none⟩, .string X1'), (⟨b, o + (k - 1) * 9 + 2, none⟩, .int .i64 z2'), (⟨b, o + (k - 1) * 9 + 3, none⟩, .slice a3' n3' m3'), (⟨b, o + (k - 1) * 9 + 4, none⟩, .slice a4' n4' m4'), (⟨b, o + (k - 1) * 9 + 5, none⟩, .slice a5' n5' m5'), (⟨b, o + (k - 1) * 9 + 6, none⟩, .slice a6' n6' m6'), (⟨b, o + (k - 1) * 9 + 7, none⟩, .slice a7' n7' m7'), (⟨b, o + (k - 1) * 9 + 8, none⟩, .slice a8' n8' m8')]) (by assumption) | exact AtF.on (w := w) (l := [(⟨b0, 0, none⟩, .string X0), (⟨b0, 1, none⟩, .string X1), (⟨b0, 2, none⟩, .int .i64 z2), (⟨b0, 3, none⟩, .slice a3 n3 m3), (⟨b0, 4, none⟩, .slice a4 n4 m4), (⟨b0, 5, none⟩, .slice a5 n5 m5), (⟨b0, 6, none⟩, .slice a6 n6 m6), (⟨b0, 7, none⟩, .slice a7 n7 m7), (⟨b0, 8, none⟩, .slice a8 n8 m8), (⟨b, o + (k - 1) * 9, none⟩, .string X0'), (⟨b, o + (k - 1) * 9 + 1, none⟩, .string X1'), (⟨b, o + (k - 1) * 9 + 2, none⟩, .int .i64 z2'), (⟨b, o + (k - 1) * 9 + 3, none⟩, .slice a3' n3' m3'), (⟨b, o + (k - 1) * 9 + 4, none⟩, .slice a4' n4' m4'), (⟨b, o + (k - 1) * 9 + 5, none⟩, .slice a5' n5' m5'), (⟨b, o + (k - 1) * 9 + 6, none⟩, .slice a6' n6' m6'), (⟨b, o + (k - 1) * 9 + 7, none⟩, .slice a7' n7' m7'), (⟨b, o + (k - 1) * 9 + 8, none⟩, .slice a8' n8' m8')]) (by assumption) (by assumption) | exact AtF.al (w := w) (l := [(⟨b0, 0, none⟩, .string X0), (⟨b0, 1, none⟩, .string X1), (⟨b0, 2, none⟩, .int .i64 z2), (⟨b0, 3, none⟩, .slice a3 n3 m3), (⟨b0, 4, none⟩, .slice a4 n4 m4), (⟨b0, 5, none⟩, .slice a5 n5 m5), (⟨b0, 6, none⟩, .slice a6 n6 m6), (⟨b0, 7, none⟩, .slice a7 n7 m7), (⟨b0, 8, none⟩, .slice a8 n8 m8), (⟨b, o + (k - 1) * 9, none⟩, .string X0'), (⟨b, o + (k - 1) * 9 + 1, none⟩, .string X1'), (⟨b, o + (k - 1) * 9 + 2, none⟩, .int .i64 z2'), (⟨b, o + (k - 1) * 9 + 3, none⟩, .slice a3' n3' m3'), (⟨b, o + (k - 1) * 9 + 4, none⟩, .slice a4' n4' m4'), (⟨b, o + (k - 1) * 9 + 5, none⟩, .slice a5' n5' m5'), (⟨b, o + (k - 1) * 9 + 6, none⟩, .slice a6' n6' m6'), (⟨b, o + (k - 1) * 9 + 7, none⟩, .slice a7' n7' m7'), (⟨b, o + (k - 1) * 9 + 8, none⟩, .slice a8' n8' m8')]) (by assumption) _ | exact AtF.ald (w := w) (l := [(⟨b0, 0, none⟩, .string X0), (⟨b0, 1, none⟩, .string X1), (⟨b0, 2, none⟩, .int .i64 z2), (⟨b0, 3, none⟩, .slice a3 n3 m3), (⟨b0, 4, none⟩, .slice a4 n4 m4), (⟨b0, 5, none⟩, .slice a5 n5 m5), (⟨b0, 6, none⟩, .slice a6 n6 m6), (⟨b0, 7, none⟩, .slice a7 n7 m7), (⟨b0, 8, none⟩, .slice a8 n8 m8), (⟨b, o + (k - 1) * 9, none⟩, .string X0'), (⟨b, o + (k - 1) * 9 + 1, none⟩, .string X1'), (⟨b, o + (k - 1) * 9 + 2, none⟩, .int .i64 z2'), (⟨b, o + (k - 1) * 9 + 3, none⟩, .slice a3' n3' m3'), (⟨b, o + (k - 1) * 9 + 4, none⟩, .slice a4' n4' m4'), (⟨b, o + (k - 1) * 9 + 5, none⟩, .slice a5' n5' m5'), (⟨b, o + (k - 1) * 9 + 6, none⟩, .slice a6' n6' m6'), (⟨b, o + (k - 1) * 9 + 7, none⟩, .slice a7' n7' m7'), (⟨b, o + (k - 1) * 9 + 8, none⟩, .slice a8' n8' m8')]) (by assumption) _ | exact AtF.al (w := w) (l := [(⟨b0, 0, none⟩, .string X0), (⟨b0, 1, none⟩, .string X1), (⟨b0, 2, none⟩, .int .i64 z2), (⟨b0, 3, none⟩, .slice a3 n3 m3), (⟨b0, 4, none⟩, .slice a4 n4 m4), (⟨b0, 5, none⟩, .slice a5 n5 m5), (⟨b0, 6, none⟩, .slice a6 n6 m6), (⟨b0, 7, none⟩, .slice a7 n7 m7), (⟨b0, 8, none⟩, .slice a8 n8 m8), (⟨b, o + (k - 1) * 9, none⟩, .string X0'), (⟨b, o + (k - 1) * 9 + 1, none⟩, .string X1'), (⟨b, o + (k - 1) * 9 + 2, none⟩, .int .i64 z2'), (⟨b, o + (k - 1) * 9 + 3, none⟩, .slice a3' n3' m3'), (⟨b, o + (k - 1) * 9 + 4, none⟩, .slice a4' n4' m4'), (⟨b, o + (k - 1) * 9 + 5, none⟩, .slice a5' n5' m5'), (⟨b, o + (k - 1) * 9 + 6, none⟩, .slice a6' n6' m6'), (⟨b, o + (k - 1) * 9 + 7, none⟩, .slice a7' n7' m7'), (⟨b, o + (k - 1) * 9 + 8, none⟩, .slice a8' n8' m8')]) hs _ | exact AtF.ald (w := w) (l := [(⟨b0, 0, none⟩, .string X0), (⟨b0, 1, none⟩, .string X1), (⟨b0, 2, none⟩, .int .i64 z2), (⟨b0, 3, none⟩, .slice a3 n3 m3), (⟨b0, 4, none⟩, .slice a4 n4 m4), (⟨b0, 5, none⟩, .slice a5 n5 m5), (⟨b0, 6, none⟩, .slice a6 n6 m6), (⟨b0, 7, none⟩, .slice a7 n7 m7), (⟨b0, 8, none⟩, .slice a8 n8 m8), (⟨b, o + (k - 1) * 9, none⟩, .string X0'), (⟨b, o + (k - 1) * 9 + 1, none⟩, .string X1'), (⟨b, o + (k - 1) * 9 + 2, none⟩, .int .i64 z2'), (⟨b, o + (k - 1) * 9 + 3, none⟩, .slice a3' n3' m3'), (⟨b, o + (k - 1) * 9 + 4, none⟩, .slice a4' n4' m4'), (⟨b, o + (k - 1) * 9 + 5, none⟩, .slice a5' n5' m5'), (⟨b, o + (k - 1) * 9 + 6, none⟩, .slice a6' n6' m6'), (⟨b, o + (k - 1) * 9 + 7, none⟩, .slice a7' n7' m7'), (⟨b, o + (k - 1) * 9 + 8, none⟩, .slice a8' n8' m8')]) hs _)
          clear hK K
          try simp only [Act.put, List.setIfInBounds_toArray, List.set_cons_zero, List.set_cons_succ]
          refine heldY 3 22 ?_ _ rfl rfl (by kernel_rfl) (by kernel_rfl) (by kernel_rfl) (fun _ _ _ h => h) rfl (by assumption) ?_ ?_
          rotate_left
          · (intro w hSw; (try dsimp only at hSw); go_simp; (try with_reducible rfl))
          try simp only [List.setIfInBounds_toArray, List.set_cons_zero, List.set_cons_succ]
          refine heldY 4 23 ?_ _ rfl rfl (by kernel_rfl) (by kernel_rfl) (by kernel_rfl) (fun _ _ _ h => h) rfl (by assumption) ?_ ?_
          rotate_left
          · (intro w hSw; (try dsimp only at hSw); go_simp; (try with_reducible rfl))
          try simp only [List.setIfInBounds_toArray, List.set_cons_zero, List.set_cons_succ]
          refine heldY 5 24 ?_ _ rfl rfl (by kernel_rfl) (by kernel_rfl) (by kernel_rfl) (fun _ _ _ h => h) rfl (by assumption) ?_ ?_
          rotate_left
          · (intro w hSw; (try dsimp only at hSw); go_simp; (try with_reducible rfl))
          try simp only [List.setIfInBounds_toArray, List.set_cons_zero, List.set_cons_succ]
          refine heldY 6 25 ?_ _ rfl rfl (by kernel_rfl) (by kernel_rfl) (by kernel_rfl) (fun _ _ _ h => h) rfl (by assumption) ?_ ?_
          rotate_left
          · (intro w hSw; (try dsimp only at hSw); go_simp; (try with_reducible rfl))
          try simp only [List.setIfInBounds_toArray, List.set_cons_zero, List.set_cons_succ]
          refine heldY 7 26 ?_ _ rfl rfl (by kernel_rfl) (by kernel_rfl) (by kernel_rfl) (fun _ _ _ h => h) rfl (by assumption) ?_ ?_
          rotate_left
          · (intro w hSw; (try dsimp only at hSw); go_simp; (try with_reducible rfl))
          try simp only [List.setIfInBounds_toArray, List.set_cons_zero, List.set_cons_succ]
          refine heldY 8 27 ?_ _ rfl rfl (by kernel_rfl) (by kernel_rfl) (by kernel_rfl) (fun _ _ _ h => h) rfl (by assumption) ?_ ?_
          rotate_left
          · (intro w hSw; (try dsimp only at hSw); go_simp; (try with_reducible rfl))
          try simp only [List.setIfInBounds_toArray, List.set_cons_zero, List.set_cons_succ]
          refine heldY 9 28 ?_ _ rfl rfl (by kernel_rfl) (by kernel_rfl) (by kernel_rfl) (fun _ _ _ h => h) rfl (by assumption) ?_ ?_
          rotate_left
          · (intro w hSw; (try dsimp only at hSw); go_simp; (try with_reducible rfl))
          try simp only [List.setIfInBounds_toArray, List.set_cons_zero, List.set_cons_succ]
          refine heldY 10 29 ?_ _ rfl rfl (by kernel_rfl) (by kernel_rfl) (by kernel_rfl) (fun _ _ _ h => h) rfl (by assumption) ?_ ?_
          rotate_left
          · (intro w hSw; (try dsimp only at hSw); go_simp; (try with_reducible rfl))
          try simp only [List.setIfInBounds_toArray, List.set_cons_zero, List.set_cons_succ]
          refine heldY 11 30 ?_ _ rfl rfl (by kernel_rfl) (by kernel_rfl) (by kernel_rfl) (fun _ _ _ h => h) rfl (by assumption) ?_ ?_
          rotate_left
          · (intro w hSw; (try dsimp only at hSw); go_simp; (try with_reducible rfl))
          try simp only [List.setIfInBounds_toArray, List.set_cons_zero, List.set_cons_succ]
          refine heldY 12 31 ?_ _ rfl rfl (by kernel_rfl) (by kernel_rfl) (by kernel_rfl) (fun _ _ _ h => h) rfl (by assumption) ?_ ?_
          rotate_left
          · (intro w hSw; (try dsimp only at hSw); go_simp; (try with_reducible rfl))
          try simp only [List.setIfInBounds_toArray, List.set_cons_zero, List.set_cons_succ]
          refine heldY 13 32 ?_ _ rfl rfl (by kernel_rfl) (by kernel_rfl) (by kernel_rfl) (fun _ _ _ h => h) rfl (by assumption) ?_ ?_
          rotate_left
          · (intro w hSw; (try dsimp only at hSw); go_simp; (try with_reducible rfl))
          try simp only [List.setIfInBounds_toArray, List.set_cons_zero, List.set_cons_succ]
          refine heldY 15 34 ?_ _ rfl rfl (by kernel_rfl) (by kernel_rfl) (by kernel_rfl) (fun _ _ _ h => h) rfl (by assumption) ?_ ?_
          rotate_left
          · (intro w hSw; (try dsimp only at hSw); go_simp; (try with_reducible rfl))
          try simp only [List.setIfInBounds_toArray, List.set_cons_zero, List.set_cons_succ]
          refine heldY 16 35 ?_ _ rfl rfl (by kernel_rfl) (by kernel_rfl) (by kernel_rfl) (fun _ _ _ h => h) rfl (by assumption) ?_ ?_
          rotate_left
          · (intro w hSw; (try dsimp only at hSw); go_simp; (try with_reducible rfl))
          try simp only [List.setIfInBounds_toArray, List.set_cons_zero, List.set_cons_succ]
          refine wpAnyH_ready (rs := [14]) (by kernel_rfl) (by simp) ?_
          refine AllReadyH.cons rfl (fun K hK => ?_) AllReadyH.nil
          go_simp
          first | (go_at_fn g; refine (RA _ (BE _ (by assumption))).mono ?_; rintro e w3 ⟨rfl, hb⟩) | (go_at_call 16; first | ((with_reducible refine (KX _).mono ?_); rintro e w3 ⟨rfl, hb⟩) | ((with_reducible refine (KY _).mono ?_); rintro e w3 ⟨rfl, hb⟩))
          refine hK.out _ _ ?_ (fun hHeld => ?_)
          · (try dsimp only); (first | assumption | exact hs | exact AtF.dr (w := w) (l := [(⟨b0, 0, none⟩, .string X0), (⟨b0, 1, none⟩, .string X1), (⟨b0, 2, none⟩, .int .i64 z2), (⟨b0, 3, none⟩, .slice a3 n3 m3), (⟨b0, 4, none⟩, .slice a4 n4 m4), (⟨b0, 5, none⟩, .slice a5 n5 m5), (⟨b0, 6, none⟩, .slice a6 n6 m6), (⟨b0, 7, none⟩, .slice a7 n7 m7), (⟨b0, 8, none⟩, .slice a8 n8 m8), (⟨b, o + (k - 1) * 9, none⟩, .string X0'), (⟨b, o + (k - 1) * 9 + 1, none⟩, .string X1'), (⟨b, o + (k - 1) * 9 + 2, none⟩, .int .i64 z2'), (⟨b, o + (k - 1) * 9 + 3, none⟩, .slice a3' n3' m3'), (⟨b, o + (k - 1) * 9 + 4, none⟩, .slice a4' n4' m4'), (⟨b, o + (k - 1) * 9 + 5, none⟩, .slice a5' n5' m5'), (⟨b, o + (k - 1) * 9 + 6, none⟩, .slice a6' n6' m6'), (⟨b, o + (k - 1) * 9 + 7, none⟩, .slice a7' n7' m7'), (⟨b, o + (k - 1) * 9 + 8, none⟩, .slice a8' n8' m8')]) hs | exact AtF.dr (w := w) (l := [(⟨b0, 0, none⟩, .string X0), (⟨b0, 1, none⟩, .string X1), (⟨b0, 2, none⟩, .int .i64 z2), (⟨b0, 3, none⟩, .slice a3 n3 m3), (⟨b0, 4, none⟩, .slice a4 n4 m4), (⟨b0, 5, none⟩, .slice a5 n5 m5), (⟨b0, 6, none⟩, .slice a6 n6 m6), (⟨b0, 7, none⟩, .slice a7 n7 m7), (⟨b0, 8, none⟩, .slice a8 n8 m8), (⟨b, o + (k - 1) * 9, none⟩, .string X0'), (⟨b, o + (k - 1) * 9 + 1, none⟩, .string X1'), (⟨b, o + (k - 1) * 9 + 2, none⟩, .int .i64 z2'), (⟨b, o + (k - 1) * 9 + 3, none⟩, .slice a3' n3' m3'), (⟨b, o + (k - 1) * 9 + 4, none⟩, .slice a4' n4' m4'), (⟨b, o + (k - 1) * 9 + 5, none⟩, .slice a5' n5' m5'), (⟨b, o + (k - 1) * 9 + 6, none⟩, .slice a6' n6' m6'), (⟨b, o + (k - 1) * 9 + 7, none⟩, .slice a7' n7' m7'), (⟨b, o + (k - 1) * 9 + 8, none⟩, .slice a8' n8' m8')]) (by assumption) | exact AtF.on (w := w) (l := [(⟨b0, 0, none⟩, .string X0), (⟨b0, 1, none⟩, .string X1), (⟨b0, 2, none⟩, .int .i64 z2), (⟨b0, 3, none⟩, .slice a3 n3 m3), (⟨b0, 4, none⟩, .slice a4 n4 m4), (⟨b0, 5, none⟩, .slice a5 n5 m5), (⟨b0, 6, none⟩, .slice a6 n6 m6), (⟨b0, 7, none⟩, .slice a7 n7 m7), (⟨b0, 8, none⟩, .slice a8 n8 m8), (⟨b, o + (k - 1) * 9, none⟩, .string X0'), (⟨b, o + (k - 1) * 9 + 1, none⟩, .string X1'), (⟨b, o + (k - 1) * 9 + 2, none⟩, .int .i64 z2'), (⟨b, o + (k - 1) * 9 + 3, none⟩, .slice a3' n3' m3'), (⟨b, o + (k - 1) * 9 + 4, none⟩, .slice a4' n4' m4'), (⟨b, o + (k - 1) * 9 + 5, none⟩, .slice a5' n5' m5'), (⟨b, o + (k - 1) * 9 + 6, none⟩, .slice a6' n6' m6'), (⟨b, o + (k - 1) * 9 + 7, none⟩, .slice a7' n7' m7'), (⟨b, o + (k - 1) * 9 + 8, none⟩, .slice a8' n8' m8')]) (by assumption) (by assumption) | exact AtF.al (w := w) (l := [(⟨b0, 0, none⟩, .string X0), (⟨b0, 1, none⟩, .string X1), (⟨b0, 2, none⟩, .int .i64 z2), (⟨b0, 3, none⟩, .slice a3 n3 m3), (⟨b0, 4, none⟩, .slice a4 n4 m4), (⟨b0, 5, none⟩, .slice a5 n5 m5), (⟨b0, 6, none⟩, .slice a6 n6 m6), (⟨b0, 7, none⟩, .slice a7 n7 m7), (⟨b0, 8, none⟩, .slice a8 n8 m8), (⟨b, o + (k - 1) * 9, none⟩, .string X0'), (⟨b, o + (k - 1) * 9 + 1, none⟩, .string X1'), (⟨b, o + (k - 1) * 9 + 2, none⟩, .int .i64 z2'), (⟨b, o + (k - 1) * 9 + 3, none⟩, .slice a3' n3' m3'), (⟨b, o + (k - 1) * 9 + 4, none⟩, .slice a4' n4' m4'), (⟨b, o + (k - 1) * 9 + 5, none⟩, .slice a5' n5' m5'), (⟨b, o + (k - 1) * 9 + 6, none⟩, .slice a6' n6' m6'), (⟨b, o + (k - 1) * 9 + 7, none⟩, .slice a7' n7' m7'), (⟨b, o + (k - 1) * 9 + 8, none⟩, .slice a8' n8' m8')]) (by assumption) _ | exact AtF.ald (w := w) (l := [(⟨b0, 0, none⟩, .string X0), (⟨b0, 1, none⟩, .string X1), (⟨b0, 2, none⟩, .int .i64 z2), (⟨b0, 3, none⟩, .slice a3 n3 m3), (⟨b0, 4, none⟩, .slice a4 n4 m4), (⟨b0, 5, none⟩, .slice a5 n5 m5), (⟨b0, 6, none⟩, .slice a6 n6 m6), (⟨b0, 7, none⟩, .slice a7 n7 m7), (⟨b0, 8, none⟩, .slice a8 n8 m8), (⟨b, o + (k - 1) * 9, none⟩, .string X0'), (⟨b, o + (k - 1) * 9 + 1, none⟩, .string X1'), (⟨b, o + (k - 1) * 9 + 2, none⟩, .int .i64 z2'), (⟨b, o + (k - 1) * 9 + 3, none⟩, .slice a3' n3' m3'), (⟨b, o + (k - 1) * 9 + 4, none⟩, .slice a4' n4' m4'), (⟨b, o + (k - 1) * 9 + 5, none⟩, .slice a5' n5' m5'), (⟨b, o + (k - 1) * 9 + 6, none⟩, .slice a6' n6' m6'), (⟨b, o + (k - 1) * 9 + 7, none⟩, .slice a7' n7' m7'), (⟨b, o + (k - 1) * 9 + 8, none⟩, .slice a8' n8' m8')]) (by assumption) _ | exact AtF.al (w := w) (l := [(⟨b0, 0, none⟩, .string X0), (⟨b0, 1, none⟩, .string X1), (⟨b0, 2, none⟩, .int .i64 z2), (⟨b0, 3, none⟩, .slice a3 n3 m3), (⟨b0, 4, none⟩, .slice a4 n4 m4), (⟨b0, 5, none⟩, .slice a5 n5 m5), (⟨b0, 6, none⟩, .slice a6 n6 m6), (⟨b0, 7, none⟩, .slice a7 n7 m7), (⟨b0, 8, none⟩, .slice a8 n8 m8), (⟨b, o + (k - 1) * 9, none⟩, .string X0'), (⟨b, o + (k - 1) * 9 + 1, none⟩, .string X1'), (⟨b, o + (k - 1) * 9 + 2, none⟩, .int .i64 z2'), (⟨b, o + (k - 1) * 9 + 3, none⟩, .slice a3' n3' m3'), (⟨b, o + (k - 1) * 9 + 4, none⟩, .slice a4' n4' m4'), (⟨b, o + (k - 1) * 9 + 5, none⟩, .slice a5' n5' m5'), (⟨b, o + (k - 1) * 9 + 6, none⟩, .slice a6' n6' m6'), (⟨b, o + (k - 1) * 9 + 7, none⟩, .slice a7' n7' m7'), (⟨b, o + (k - 1) * 9 + 8, none⟩, .slice a8' n8' m8')]) hs _ | exact AtF.ald (w := w) (l := [(⟨b0, 0, none⟩, .string X0), (⟨b0, 1, none⟩, .string X1), (⟨b0, 2, none⟩, .int .i64 z2), (⟨b0, 3, none⟩, .slice a3 n3 m3), (⟨b0, 4, none⟩, .slice a4 n4 m4), (⟨b0, 5, none⟩, .slice a5 n5 m5), (⟨b0, 6, none⟩, .slice a6 n6 m6), (⟨b0, 7, none⟩, .slice a7 n7 m7), (⟨b0, 8, none⟩, .slice a8 n8 m8), (⟨b, o + (k - 1) * 9, none⟩, .string X0'), (⟨b, o + (k - 1) * 9 + 1, none⟩, .string X1'), (⟨b, o + (k - 1) * 9 + 2, none⟩, .int .i64 z2'), (⟨b, o + (k - 1) * 9 + 3, none⟩, .slice a3' n3' m3'), (⟨b, o + (k - 1) * 9 + 4, none⟩, .slice a4' n4' m4'), (⟨b, o + (k - 1) * 9 + 5, none⟩, .slice a5' n5' m5'), (⟨b, o + (k - 1) * 9 + 6, none⟩, .slice a6' n6' m6'), (⟨b, o + (k - 1) * 9 + 7, none⟩, .slice a7' n7' m7'), (⟨b, o + (k - 1) * 9 + 8, none⟩, .slice a8' n8' m8')]) hs _)
          clear hK K
          try simp only [Act.put, List.setIfInBounds_toArray, List.set_cons_zero, List.set_cons_succ]
          refine wpAnyH_ready (rs := [17]) (by kernel_rfl) (by simp) ?_
          refine AllReadyH.cons rfl (fun K hK => ?_) AllReadyH.nil
          go_simp
          first | (go_at_fn g; refine (RA _ (BE _ (by assumption))).mono ?_; rintro e w3 ⟨rfl, hb⟩) | (go_at_call 16; first | ((with_reducible refine (KX _).mono ?_); rintro e w3 ⟨rfl, hb⟩) | ((with_reducible refine (KY _).mono ?_); rintro e w3 ⟨rfl, hb⟩))
          refine hK.out _ _ ?_ (fun hHeld => ?_)
          · (try dsimp only); (first | assumption | exact hs | exact AtF.dr (w := w) (l := [(⟨b0, 0, none⟩, .string X0), (⟨b0, 1, none⟩, .string X1), (⟨b0, 2, none⟩, .int .i64 z2), (⟨b0, 3, none⟩, .slice a3 n3 m3), (⟨b0, 4, none⟩, .slice a4 n4 m4), (⟨b0, 5, none⟩, .slice a5 n5 m5), (⟨b0, 6, none⟩, .slice a6 n6 m6), (⟨b0, 7, none⟩, .slice a7 n7 m7), (⟨b0, 8, none⟩, .slice a8 n8 m8), (⟨b, o + (k - 1) * 9, none⟩, .string X0'), (⟨b, o + (k - 1) * 9 + 1, none⟩, .string X1'), (⟨b, o + (k - 1) * 9 + 2, none⟩, .int .i64 z2'), (⟨b, o + (k - 1) * 9 + 3, none⟩, .slice a3' n3' m3'), (⟨b, o + (k - 1) * 9 + 4, none⟩, .slice a4' n4' m4'), (⟨b, o + (k - 1) * 9 + 5, none⟩, .slice a5' n5' m5'), (⟨b, o + (k - 1) * 9 + 6, none⟩, .slice a6' n6' m6'), (⟨b, o + (k - 1) * 9 + 7, none⟩, .slice a7' n7' m7'), (⟨b, o + (k - 1) * 9 + 8, none⟩, .slice a8' n8' m8')]) hs | exact AtF.dr (w := w) (l := [(⟨b0, 0, none⟩, .string X0), (⟨b0, 1, none⟩, .string X1), (⟨b0, 2, none⟩, .int .i64 z2), (⟨b0, 3, none⟩, .slice a3 n3 m3), (⟨b0, 4, none⟩, .slice a4 n4 m4), (⟨b0, 5, none⟩, .slice a5 n5 m5), (⟨b0, 6, none⟩, .slice a6 n6 m6), (⟨b0, 7, none⟩, .slice a7 n7 m7), (⟨b0, 8, none⟩, .slice a8 n8 m8), (⟨b, o + (k - 1) * 9, none⟩, .string X0'), (⟨b, o + (k - 1) * 9 + 1, none⟩, .string X1'), (⟨b, o + (k - 1) * 9 + 2, none⟩, .int .i64 z2'), (⟨b, o + (k - 1) * 9 + 3, none⟩, .slice a3' n3' m3'), (⟨b, o + (k - 1) * 9 + 4, none⟩, .slice a4' n4' m4'), (⟨b, o + (k - 1) * 9 + 5, none⟩, .slice a5' n5' m5'), (⟨b, o + (k - 1) * 9 + 6, none⟩, .slice a6' n6' m6'), (⟨b, o + (k - 1) * 9 + 7, none⟩, .slice a7' n7' m7'), (⟨b, o + (k - 1) * 9 + 8, none⟩, .slice a8' n8' m8')]) (by assumption) | exact AtF.on (w := w) (l := [(⟨b0, 0, none⟩, .string X0), (⟨b0, 1, none⟩, .string X1), (⟨b0, 2, none⟩, .int .i64 z2), (⟨b0, 3, none⟩, .slice a3 n3 m3), (⟨b0, 4, none⟩, .slice a4 n4 m4), (⟨b0, 5, none⟩, .slice a5 n5 m5), (⟨b0, 6, none⟩, .slice a6 n6 m6), (⟨b0, 7, none⟩, .slice a7 n7 m7), (⟨b0, 8, none⟩, .slice a8 n8 m8), (⟨b, o + (k - 1) * 9, none⟩, .string X0'), (⟨b, o + (k - 1) * 9 + 1, none⟩, .string X1'), (⟨b, o + (k - 1) * 9 + 2, none⟩, .int .i64 z2'), (⟨b, o + (k - 1) * 9 + 3, none⟩, .slice a3' n3' m3'), (⟨b, o + (k - 1) * 9 + 4, none⟩, .slice a4' n4' m4'), (⟨b, o + (k - 1) * 9 + 5, none⟩, .slice a5' n5' m5'), (⟨b, o + (k - 1) * 9 + 6, none⟩, .slice a6' n6' m6'), (⟨b, o + (k - 1) * 9 + 7, none⟩, .slice a7' n7' m7'), (⟨b, o + (k - 1) * 9 + 8, none⟩, .slice a8' n8' m8')]) (by assumption) (by assumption) | exact AtF.al (w := w) (l := [(⟨b0, 0, none⟩, .string X0), (⟨b0, 1, none⟩, .string X1), (⟨b0, 2, none⟩, .int .i64 z2), (⟨b0, 3, none⟩, .slice a3 n3 m3), (⟨b0, 4, none⟩, .slice a4 n4 m4), (⟨b0, 5, none⟩, .slice a5 n5 m5), (⟨b0, 6, none⟩, .slice a6 n6 m6), (⟨b0, 7, none⟩, .slice a7 n7 m7), (⟨b0, 8, none⟩, .slice a8 n8 m8), (⟨b, o + (k - 1) * 9, none⟩, .string X0'), (⟨b, o + (k - 1) * 9 + 1, none⟩, .string X1'), (⟨b, o + (k - 1) * 9 + 2, none⟩, .int .i64 z2'), (⟨b, o + (k - 1) * 9 + 3, none⟩, .slice a3' n3' m3'), (⟨b, o + (k - 1) * 9 + 4, none⟩, .slice a4' n4' m4'), (⟨b, o + (k - 1) * 9 + 5, none⟩, .slice a5' n5' m5'), (⟨b, o + (k - 1) * 9 + 6, none⟩, .slice a6' n6' m6'), (⟨b, o + (k - 1) * 9 + 7, none⟩, .slice a7' n7' m7'), (⟨b, o + (k - 1) * 9 + 8, none⟩, .slice a8' n8' m8')]) (by assumption) _ | exact AtF.ald (w := w) (l := [(⟨b0, 0, none⟩, .string X0), (⟨b0, 1, none⟩, .string X1), (⟨b0, 2, none⟩, .int .i64 z2), (⟨b0, 3, none⟩, .slice a3 n3 m3), (⟨b0, 4, none⟩, .slice a4 n4 m4), (⟨b0, 5, none⟩, .slice a5 n5 m5), (⟨b0, 6, none⟩, .slice a6 n6 m6), (⟨b0, 7, none⟩, .slice a7 n7 m7), (⟨b0, 8, none⟩, .slice a8 n8 m8), (⟨b, o + (k - 1) * 9, none⟩, .string X0'), (⟨b, o + (k - 1) * 9 + 1, none⟩, .string X1'), (⟨b, o + (k - 1) * 9 + 2, none⟩, .int .i64 z2'), (⟨b, o + (k - 1) * 9 + 3, none⟩, .slice a3' n3' m3'), (⟨b, o + (k - 1) * 9 + 4, none⟩, .slice a4' n4' m4'), (⟨b, o + (k - 1) * 9 + 5, none⟩, .slice a5' n5' m5'), (⟨b, o + (k - 1) * 9 + 6, none⟩, .slice a6' n6' m6'), (⟨b, o + (k - 1) * 9 + 7, none⟩, .slice a7' n7' m7'), (⟨b, o + (k - 1) * 9 + 8, none⟩, .slice a8' n8' m8')]) (by assumption) _ | exact AtF.al (w := w) (l := [(⟨b0, 0, none⟩, .string X0), (⟨b0, 1, none⟩, .string X1), (⟨b0, 2, none⟩, .int .i64 z2), (⟨b0, 3, none⟩, .slice a3 n3 m3), (⟨b0, 4, none⟩, .slice a4 n4 m4), (⟨b0, 5, none⟩, .slice a5 n5 m5), (⟨b0, 6, none⟩, .slice a6 n6 m6), (⟨b0, 7, none⟩, .slice a7 n7 m7), (⟨b0, 8, none⟩, .slice a8 n8 m8), (⟨b, o + (k - 1) * 9, none⟩, .string X0'), (⟨b, o + (k - 1) * 9 + 1, none⟩, .string X1'), (⟨b, o + (k - 1) * 9 + 2, none⟩, .int .i64 z2'), (⟨b, o + (k - 1) * 9 + 3, none⟩, .slice a3' n3' m3'), (⟨b, o + (k - 1) * 9 + 4, none⟩, .slice a4' n4' m4'), (⟨b, o + (k - 1) * 9 + 5, none⟩, .slice a5' n5' m5'), (⟨b, o + (k - 1) * 9 + 6, none⟩, .slice a6' n6' m6'), (⟨b, o + (k - 1) * 9 + 7, none⟩, .slice a7' n7' m7'), (⟨b, o + (k - 1) * 9 + 8, none⟩, .slice a8' n8' m8')]) hs _ | exact AtF.ald (w := w) (l := [(⟨b0, 0, none⟩, .string X0), (⟨b0, 1, none⟩, .string X1), (⟨b0, 2, none⟩, .int .i64 z2), (⟨b0, 3, none⟩, .slice a3 n3 m3), (⟨b0, 4, none⟩, .slice a4 n4 m4), (⟨b0, 5, none⟩, .slice a5 n5 m5), (⟨b0, 6, none⟩, .slice a6 n6 m6), (⟨b0, 7, none⟩, .slice a7 n7 m7), (⟨b0, 8, none⟩, .slice a8 n8 m8), (⟨b, o + (k - 1) * 9, none⟩, .string X0'), (⟨b, o + (k - 1) * 9 + 1, none⟩, .string X1'), (⟨b, o + (k - 1) * 9 + 2, none⟩, .int .i64 z2'), (⟨b, o + (k - 1) * 9 + 3, none⟩, .slice a3' n3' m3'), (⟨b, o + (k - 1) * 9 + 4, none⟩, .slice a4' n4' m4'), (⟨b, o + (k - 1) * 9 + 5, none⟩, .slice a5' n5' m5'), (⟨b, o + (k - 1) * 9 + 6, none⟩, .slice a6' n6' m6'), (⟨b, o + (k - 1) * 9 + 7, none⟩, .slice a7' n7' m7'), (⟨b, o + (k - 1) * 9 + 8, none⟩, .slice a8' n8' m8')]) hs _)
          clear hK K
          try simp only [Act.put, List.setIfInBounds_toArray, List.set_cons_zero, List.set_cons_succ]
          refine heldY 18 37 ?_ _ rfl rfl (by kernel_rfl) (by kernel_rfl) (by kernel_rfl) (fun _ _ _ h => h) rfl (by assumption) ?_ ?_
          rotate_left
          · (intro w hSw; (try dsimp only at hSw); go_simp; (try with_reducible rfl))
          try simp only [List.setIfInBounds_toArray, List.set_cons_zero, List.set_cons_succ]
          refine heldY 19 38 ?_ _ rfl rfl (by kernel_rfl) (by kernel_rfl) (by kernel_rfl) (fun _ _ _ h => h) rfl (by assumption) ?_ ?_
          rotate_left
          · (intro w hSw; (try dsimp only at hSw); go_simp; (try with_reducible rfl))
          try simp only [List.setIfInBounds_toArray, List.set_cons_zero, List.set_cons_succ]
          refine heldY 20 39 ?_ _ rfl rfl (by kernel_rfl) (by kernel_rfl) (by kernel_rfl) (fun _ _ _ h => h) rfl (by assumption) ?_ ?_
          rotate_left
          · (intro w hSw; (try dsimp only at hSw); go_simp; (try with_reducible rfl))
          try simp only [List.setIfInBounds_toArray, List.set_cons_zero, List.set_cons_succ]
          refine wpAnyH_done (by kernel_rfl) ?_ _
          have HW3 := Lib.hid (BE _ hHeld)
          clear hHeld i2 i3
          cases q
          · have HF := Lib.hid (HBADk.out rfl)
            clear HBADk HNEXT
            go_wp2
            go_ret
            exact ⟨reti HF.out, HW3.out⟩
          · have HK := Lib.hid (HNEXT.out rfl)
            clear HBADk HNEXT
            go_wp2
            go_roundw
            case rel => exact ⟨k + 1, by omega, by go_num, HK, HW3⟩
            case measure => simp [intOf]; omega
        · have HK : Hid (∀ (j : Nat) u, j < k + 1 → l[j]? = some u → stepK rt (fun x => x.nm) l j u) := Lib.hid (fun j u hj hu => by
            obtain rfl : j = k := by omega
            rw [HX.out] at hu; cases hu
            exact ⟨hq, fun _ h1 => absurd h1 hk0⟩)
          have hd : decide ((0 : Int) < (k : Int)) = false := decide_eq_false (by omega)
          clear hq H HBAD HOK HC HX HRA HIN
          generalize (⟨(x.nm).toArray⟩ : ByteArray) = X0 at *
          generalize (⟨(x.vr).toArray⟩ : ByteArray) = X1 at *
          generalize x.st = z2 at *
          go_wp2
          generalize wr.alloc (.cells #[.string X0, .string X1, .int .i64 z2, .slice a3 n3 m3, .slice a4 n4 m4, .slice a5 n5 m5, .slice a6 n6 m6, .slice a7 n7 m7, .slice a8 n8 m8] 37) = W2 at *
          generalize hb0 : wr.heap.size = b0 at *
          obtain ⟨x0, x1, x2, x3, x4, x5, x6, x7, x8, hB⟩ := hs
          have hs := (And.intro x0 (And.intro x1 (And.intro x2 (And.intro x3 (And.intro x4 (And.intro x5 (And.intro x6 (And.intro x7 (And.intro x8 hB)))))))))
          clear hb0
          have BE := fun (V : World) (h : V.cell? ⟨b0, 0, none⟩ = some (.string X0) ∧ V.cell? ⟨b0, 1, none⟩ = some (.string X1) ∧ V.cell? ⟨b0, 2, none⟩ = some (.int .i64 z2) ∧ V.cell? ⟨b0, 3, none⟩ = some (.slice a3 n3 m3) ∧ V.cell? ⟨b0, 4, none⟩ = some (.slice a4 n4 m4) ∧ V.cell? ⟨b0, 5, none⟩ = some (.slice a5 n5 m5) ∧ V.cell? ⟨b0, 6, none⟩ = some (.slice a6 n6 m6) ∧ V.cell? ⟨b0, 7, none⟩ = some (.slice a7 n7 m7) ∧ V.cell? ⟨b0, 8, none⟩ = some (.slice a8 n8 m8) ∧ Below w.heap.size w V) => AtF.be (w := w) (l := [(⟨b0, 0, none⟩, .string X0), (⟨b0, 1, none⟩, .string X1), (⟨b0, 2, none⟩, .int .i64 z2), (⟨b0, 3, none⟩, .slice a3 n3 m3), (⟨b0, 4, none⟩, .slice a4 n4 m4), (⟨b0, 5, none⟩, .slice a5 n5 m5), (⟨b0, 6, none⟩, .slice a6 n6 m6), (⟨b0, 7, none⟩, .slice a7 n7 m7), (⟨b0, 8, none⟩, .slice a8 n8 m8)]) h
          refine wp_region_held_drew (S := (fun V => V.cell? ⟨b0, 0, none⟩ = some (.string X0) ∧ V.cell? ⟨b0, 1, none⟩ = some (.string X1) ∧ V.cell? ⟨b0, 2, none⟩ = some (.int .i64 z2) ∧ V.cell? ⟨b0, 3, none⟩ = some (.slice a3 n3 m3) ∧ V.cell? ⟨b0, 4, none⟩ = some (.slice a4 n4 m4) ∧ V.cell? ⟨b0, 5, none⟩ = some (.slice a5 n5 m5) ∧ V.cell? ⟨b0, 6, none⟩ = some (.slice a6 n6 m6) ∧ V.cell? ⟨b0, 7, none⟩ = some (.slice a7 n7 m7) ∧ V.cell? ⟨b0, 8, none⟩ = some (.slice a8 n8 m8) ∧ Below w.heap.size w V)) (by kernel_rfl) ?_ (fun hHeld => ?_)
          · (try dsimp only); (first | assumption | exact hs | exact AtF.dr (w := w) (l := [(⟨b0, 0, none⟩, .string X0), (⟨b0, 1, none⟩, .string X1), (⟨b0, 2, none⟩, .int .i64 z2), (⟨b0, 3, none⟩, .slice a3 n3 m3), (⟨b0, 4, none⟩, .slice a4 n4 m4), (⟨b0, 5, none⟩, .slice a5 n5 m5), (⟨b0, 6, none⟩, .slice a6 n6 m6), (⟨b0, 7, none⟩, .slice a7 n7 m7), (⟨b0, 8, none⟩, .slice a8 n8 m8)]) hs | exact AtF.dr (w := w) (l := [(⟨b0, 0, none⟩, .string X0), (⟨b0, 1, none⟩, .string X1), (⟨b0, 2, none⟩, .int .i64 z2), (⟨b0, 3, none⟩, .slice a3 n3 m3), (⟨b0, 4, none⟩, .slice a4 n4 m4), (⟨b0, 5, none⟩, .slice a5 n5 m5), (⟨b0, 6, none⟩, .slice a6 n6 m6), (⟨b0, 7, none⟩, .slice a7 n7 m7), (⟨b0, 8, none⟩, .slice a8 n8 m8)]) (by assumption) | exact AtF.on (w := w) (l := [(⟨b0, 0, none⟩, .string X0), (⟨b0, 1, none⟩, .string X1), (⟨b0, 2, none⟩, .int .i64 z2), (⟨b0, 3, none⟩, .slice a3 n3 m3), (⟨b0, 4, none⟩, .slice a4 n4 m4), (⟨b0, 5, none⟩, .slice a5 n5 m5), (⟨b0, 6, none⟩, .slice a6 n6 m6), (⟨b0, 7, none⟩, .slice a7 n7 m7), (⟨b0, 8, none⟩, .slice a8 n8 m8)]) (by assumption) (by assumption) | exact AtF.al (w := w) (l := [(⟨b0, 0, none⟩, .string X0), (⟨b0, 1, none⟩, .string X1), (⟨b0, 2, none⟩, .int .i64 z2), (⟨b0, 3, none⟩, .slice a3 n3 m3), (⟨b0, 4, none⟩, .slice a4 n4 m4), (⟨b0, 5, none⟩, .slice a5 n5 m5), (⟨b0, 6, none⟩, .slice a6 n6 m6), (⟨b0, 7, none⟩, .slice a7 n7 m7), (⟨b0, 8, none⟩, .slice a8 n8 m8)]) (by assumption) _ | exact AtF.ald (w := w) (l := [(⟨b0, 0, none⟩, .string X0), (⟨b0, 1, none⟩, .string X1), (⟨b0, 2, none⟩, .int .i64 z2), (⟨b0, 3, none⟩, .slice a3 n3 m3), (⟨b0, 4, none⟩, .slice a4 n4 m4), (⟨b0, 5, none⟩, .slice a5 n5 m5), (⟨b0, 6, none⟩, .slice a6 n6 m6), (⟨b0, 7, none⟩, .slice a7 n7 m7), (⟨b0, 8, none⟩, .slice a8 n8 m8)]) (by assumption) _ | exact AtF.al (w := w) (l := [(⟨b0, 0, none⟩, .string X0), (⟨b0, 1, none⟩, .string X1), (⟨b0, 2, none⟩, .int .i64 z2), (⟨b0, 3, none⟩, .slice a3 n3 m3), (⟨b0, 4, none⟩, .slice a4 n4 m4), (⟨b0, 5, none⟩, .slice a5 n5 m5), (⟨b0, 6, none⟩, .slice a6 n6 m6), (⟨b0, 7, none⟩, .slice a7 n7 m7), (⟨b0, 8, none⟩, .slice a8 n8 m8)]) hs _ | exact AtF.ald (w := w) (l := [(⟨b0, 0, none⟩, .string X0), (⟨b0, 1, none⟩, .string X1), (⟨b0, 2, none⟩, .int .i64 z2), (⟨b0, 3, none⟩, .slice a3 n3 m3), (⟨b0, 4, none⟩, .slice a4 n4 m4), (⟨b0, 5, none⟩, .slice a5 n5 m5), (⟨b0, 6, none⟩, .slice a6 n6 m6), (⟨b0, 7, none⟩, .slice a7 n7 m7), (⟨b0, 8, none⟩, .slice a8 n8 m8)]) hs _)
          refine heldY 0 19 ?_ _ rfl rfl (by kernel_rfl) (by kernel_rfl) (by kernel_rfl) (fun _ _ _ h => h) rfl (by assumption) ?_ ?_
          rotate_left
          · (intro w hSw; (try dsimp only at hSw); go_simp; (try with_reducible rfl))
          try simp only [List.setIfInBounds_toArray, List.set_cons_zero, List.set_cons_succ]
          refine heldY 1 20 ?_ _ rfl rfl (by kernel_rfl) (by kernel_rfl) (by kernel_rfl) (fun _ _ _ h => h) rfl (by assumption) ?_ ?_
          rotate_left
          · (intro w hSw; (try dsimp only at hSw); go_simp; (try with_reducible rfl))
          try simp only [List.setIfInBounds_toArray, List.set_cons_zero, List.set_cons_succ]
          refine wpAnyH_ready (rs := [2]) (by kernel_rfl) (by simp) ?_
          refine AllReadyH.cons rfl (fun K hK => ?_) AllReadyH.nil
          go_simp
          (go_at_fn g; refine (RA _ (BE _ (by assumption))).mono ?_; rintro e w3 ⟨rfl, hb⟩)
          refine hK.out _ _ ?_ (fun hHeld => ?_)
          · (try dsimp only); (first | assumption | exact hs | exact AtF.dr (w := w) (l := [(⟨b0, 0, none⟩, .string X0), (⟨b0, 1, none⟩, .string X1), (⟨b0, 2, none⟩, .int .i64 z2), (⟨b0, 3, none⟩, .slice a3 n3 m3), (⟨b0, 4, none⟩, .slice a4 n4 m4), (⟨b0, 5, none⟩, .slice a5 n5 m5), (⟨b0, 6, none⟩, .slice a6 n6 m6), (⟨b0, 7, none⟩, .slice a7 n7 m7), (⟨b0, 8, none⟩, .slice a8 n8 m8)]) hs | exact AtF.dr (w := w) (l := [(⟨b0, 0, none⟩, .string X0), (⟨b0, 1, none⟩, .string X1), (⟨b0, 2, none⟩, .int .i64 z2), (⟨b0, 3, none⟩, .slice a3 n3 m3), (⟨b0, 4, none⟩, .slice a4 n4 m4), (⟨b0, 5, none⟩, .slice a5 n5 m5), (⟨b0, 6, none⟩, .slice a6 n6 m6), (⟨b0, 7, none⟩, .slice a7 n7 m7), (⟨b0, 8, none⟩, .slice a8 n8 m8)]) (by assumption) | exact AtF.on (w := w) (l := [(⟨b0, 0, none⟩, .string X0), (⟨b0, 1, none⟩, .string X1), (⟨b0, 2, none⟩, .int .i64 z2), (⟨b0, 3, none⟩, .slice a3 n3 m3), (⟨b0, 4, none⟩, .slice a4 n4 m4), (⟨b0, 5, none⟩, .slice a5 n5 m5), (⟨b0, 6, none⟩, .slice a6 n6 m6), (⟨b0, 7, none⟩, .slice a7 n7 m7), (⟨b0, 8, none⟩, .slice a8 n8 m8)]) (by assumption) (by assumption) | exact AtF.al (w := w) (l := [(⟨b0, 0, none⟩, .string X0), (⟨b0, 1, none⟩, .string X1), (⟨b0, 2, none⟩, .int .i64 z2), (⟨b0, 3, none⟩, .slice a3 n3 m3), (⟨b0, 4, none⟩, .slice a4 n4 m4), (⟨b0, 5, none⟩, .slice a5 n5 m5), (⟨b0, 6, none⟩, .slice a6 n6 m6), (⟨b0, 7, none⟩, .slice a7 n7 m7), (⟨b0, 8, none⟩, .slice a8 n8 m8)]) (by assumption) _ | exact AtF.ald (w := w) (l := [(⟨b0, 0, none⟩, .string X0), (⟨b0, 1, none⟩, .string X1), (⟨b0, 2, none⟩, .int .i64 z2), (⟨b0, 3, none⟩, .slice a3 n3 m3), (⟨b0, 4, none⟩, .slice a4 n4 m4), (⟨b0, 5, none⟩, .slice a5 n5 m5), (⟨b0, 6, none⟩, .slice a6 n6 m6), (⟨b0, 7, none⟩, .slice a7 n7 m7), (⟨b0, 8, none⟩, .slice a8 n8 m8)]) (by assumption) _ | exact AtF.al (w := w) (l := [(⟨b0, 0, none⟩, .string X0), (⟨b0, 1, none⟩, .string X1), (⟨b0, 2, none⟩, .int .i64 z2), (⟨b0, 3, none⟩, .slice a3 n3 m3), (⟨b0, 4, none⟩, .slice a4 n4 m4), (⟨b0, 5, none⟩, .slice a5 n5 m5), (⟨b0, 6, none⟩, .slice a6 n6 m6), (⟨b0, 7, none⟩, .slice a7 n7 m7), (⟨b0, 8, none⟩, .slice a8 n8 m8)]) hs _ | exact AtF.ald (w := w) (l := [(⟨b0, 0, none⟩, .string X0), (⟨b0, 1, none⟩, .string X1), (⟨b0, 2, none⟩, .int .i64 z2), (⟨b0, 3, none⟩, .slice a3 n3 m3), (⟨b0, 4, none⟩, .slice a4 n4 m4), (⟨b0, 5, none⟩, .slice a5 n5 m5), (⟨b0, 6, none⟩, .slice a6 n6 m6), (⟨b0, 7, none⟩, .slice a7 n7 m7), (⟨b0, 8, none⟩, .slice a8 n8 m8)]) hs _)
          clear hK K
          try simp only [Act.put, List.setIfInBounds_toArray, List.set_cons_zero, List.set_cons_succ]
          refine heldY 3 22 ?_ _ rfl rfl (by kernel_rfl) (by kernel_rfl) (by kernel_rfl) (fun _ _ _ h => h) rfl (by assumption) ?_ ?_
          rotate_left
          · (intro w hSw; (try dsimp only at hSw); go_simp; (try with_reducible rfl))
          try simp only [List.setIfInBounds_toArray, List.set_cons_zero, List.set_cons_succ]
          refine heldY 4 23 ?_ _ rfl rfl (by kernel_rfl) (by kernel_rfl) (by kernel_rfl) (fun _ _ _ h => h) rfl (by assumption) ?_ ?_
          rotate_left
          · (intro w hSw; (try dsimp only at hSw); go_simp; (try with_reducible rfl))
          try simp only [List.setIfInBounds_toArray, List.set_cons_zero, List.set_cons_succ]
          refine heldY 5 24 ?_ _ rfl rfl (by kernel_rfl) (by kernel_rfl) (by kernel_rfl) (fun _ _ _ h => h) rfl (by assumption) ?_ ?_
          rotate_left
          · (intro w hSw; (try dsimp only at hSw); go_simp; (try with_reducible rfl))
          try simp only [List.setIfInBounds_toArray, List.set_cons_zero, List.set_cons_succ]
          refine heldY 6 25 ?_ _ rfl rfl (by kernel_rfl) (by kernel_rfl) (by kernel_rfl) (fun _ _ _ h => h) rfl (by assumption) ?_ ?_
          rotate_left
          · (intro w hSw; (try dsimp only at hSw); go_simp; (try with_reducible rfl))
          try simp only [List.setIfInBounds_toArray, List.set_cons_zero, List.set_cons_succ]
          refine heldY 7 26 ?_ _ rfl rfl (by kernel_rfl) (by kernel_rfl) (by kernel_rfl) (fun _ _ _ h => h) rfl (by assumption) ?_ ?_
          rotate_left
          · (intro w hSw; (try dsimp only at hSw); go_simp; (try with_reducible rfl))
          try simp only [List.setIfInBounds_toArray, List.set_cons_zero, List.set_cons_succ]
          refine heldNo 8 27 rfl (by kernel_rfl) (by kernel_rfl) (by kernel_rfl) (fun _ _ _ h => h) rfl (by assumption) ?_
          try simp only [List.setIfInBounds_toArray, List.set_cons_zero, List.set_cons_succ]
          refine heldNo 9 28 rfl (by kernel_rfl) (by kernel_rfl) (by kernel_rfl) (fun _ _ _ h => h) rfl (by assumption) ?_
          try simp only [List.setIfInBounds_toArray, List.set_cons_zero, List.set_cons_succ]
          refine heldNo 10 29 rfl (by kernel_rfl) (by kernel_rfl) (by kernel_rfl) (fun _ _ _ h => h) rfl (by assumption) ?_
          try simp only [List.setIfInBounds_toArray, List.set_cons_zero, List.set_cons_succ]
          refine heldNo 11 30 rfl (by kernel_rfl) (by kernel_rfl) (by kernel_rfl) (fun _ _ _ h => h) rfl (by assumption) ?_
          try simp only [List.setIfInBounds_toArray, List.set_cons_zero, List.set_cons_succ]
          refine heldNo 12 31 rfl (by kernel_rfl) (by kernel_rfl) (by kernel_rfl) (fun _ _ _ h => h) rfl (by assumption) ?_
          try simp only [List.setIfInBounds_toArray, List.set_cons_zero, List.set_cons_succ]
          refine heldNo 13 32 rfl (by kernel_rfl) (by kernel_rfl) (by kernel_rfl) (fun _ _ _ h => h) rfl (by assumption) ?_
          try simp only [List.setIfInBounds_toArray, List.set_cons_zero, List.set_cons_succ]
          refine heldNo 14 33 rfl (by kernel_rfl) (by kernel_rfl) (by kernel_rfl) (fun _ _ _ h => h) rfl (by assumption) ?_
          try simp only [List.setIfInBounds_toArray, List.set_cons_zero, List.set_cons_succ]
          refine heldNo 15 34 rfl (by kernel_rfl) (by kernel_rfl) (by kernel_rfl) (fun _ _ _ h => h) rfl (by assumption) ?_
          try simp only [List.setIfInBounds_toArray, List.set_cons_zero, List.set_cons_succ]
          refine heldNo 16 35 rfl (by kernel_rfl) (by kernel_rfl) (by kernel_rfl) (fun _ _ _ h => h) rfl (by assumption) ?_
          try simp only [List.setIfInBounds_toArray, List.set_cons_zero, List.set_cons_succ]
          refine heldNo 17 36 rfl (by kernel_rfl) (by kernel_rfl) (by kernel_rfl) (fun _ _ _ h => h) rfl (by assumption) ?_
          try simp only [List.setIfInBounds_toArray, List.set_cons_zero, List.set_cons_succ]
          refine heldNo 18 37 rfl (by kernel_rfl) (by kernel_rfl) (by kernel_rfl) (fun _ _ _ h => h) rfl (by assumption) ?_
          try simp only [List.setIfInBounds_toArray, List.set_cons_zero, List.set_cons_succ]
          refine heldY 19 38 ?_ _ rfl rfl (by kernel_rfl) (by kernel_rfl) (by kernel_rfl) (fun _ _ _ h => h) rfl (by assumption) ?_ ?_
          rotate_left
          · (intro w hSw; (try dsimp only at hSw); go_simp; (try with_reducible rfl))
          try simp only [List.setIfInBounds_toArray, List.set_cons_zero, List.set_cons_succ]
          refine heldY 20 39 ?_ _ rfl rfl (by kernel_rfl) (by kernel_rfl) (by kernel_rfl) (fun _ _ _ h => h) rfl (by assumption) ?_ ?_
          rotate_left
          · (intro w hSw; (try dsimp only at hSw); go_simp; (try with_reducible rfl))
          try simp only [List.setIfInBounds_toArray, List.set_cons_zero, List.set_cons_succ]
          refine wpAnyH_done (by kernel_rfl) ?_ _
          have HW3 := Lib.hid (BE _ hHeld)
          clear hHeld
          go_wp2
          go_roundw
          case rel => exact ⟨k + 1, by omega, by go_num, HK, HW3⟩
          case measure => simp [intOf]; omega
    · obtain rfl : k = n := by omega
      have HF := Lib.hid (HOK.out (fun i x hx => H.out i x (by have := (List.getElem?_eq_some_iff.1 hx).1; rw [HN.out] at this; exact this) hx))
      clear hlt H HBAD HOK
      go_wp2
      go_ret
      exact ⟨reti HF.out, HB.out⟩
end Go.Proofs.YtpkdnohaefkfgaaGreatDoor
