/-
  The reference's Same of two lists that hold the same alternatives: what it returns; nothing old turns. The walk of AltsPuts: for every list of alternatives, every alternative and every text it returns true; nothing old turns. Condition: LaidZ.
-/
import Derived.Test.YtnfhccnicojdcaaGreatDoorZAwake
import Derived.Test.YtnfhccnicojdcaaGreatDoorZAM
import Derived.Test.YtnfhccnicojdcaaGreatDoorZFew
import Derived.Test.YtnfhccnicojdcaaGreatDoorZRefSm
namespace Go.Proofs.YtnfhccnicojdcaaGreatDoor
open Go.RowKit
theorem Alike.refl (a : Av) : Alike a a := ⟨rfl, rfl, rfl, rfl, rfl, rfl⟩
def NotHuge (a : Av) : Prop := a.sl.length ≤ 90000 ∧ a.ch.length ≤ 90000 ∧ ∀ c ∈ a.ch, c.1.2.2.length ≤ 90000
set_option maxRecDepth 100000 in
set_option maxHeartbeats 8000000 in
theorem sameA_ref (u v : Value) (l : List Av) (hl : l.length ≤ 90000) (h9 : ∀ a ∈ l, NotHuge a) (w : World) (h1 : HoldA w u l) (h2 : HoldA w v l) :
    Calls Tryz.prog 20 #[u, v] w fun e w' => e = .returned (.bool true) ∧ Below w.heap.size w w' := by
  have HRS := Lib.hid (fun x (hx : x ∈ l) W (hb : Below w.heap.size w W) => sameOne_ref x x (h9 x hx) (Alike.refl x) W ((h1.2 x hx).on hb) ((h1.2 x hx).on hb))
  have HIN := Lib.hid h1.2
  obtain ⟨a, c, b, o, rfl, hc, ha, hcell⟩ := h1.parts
  obtain ⟨a', c', b', o', rfl, hc', ha', hcell'⟩ := h2.parts
  have HC := Lib.hid hcell
  have HD := Lib.hid hcell'
  obtain ⟨n, hN⟩ : ∃ n, l.length = n := ⟨_, rfl⟩
  rw [hN] at hc ha hc' ha' hl ⊢
  have HN := Lib.hid hN
  clear hcell hcell' hN h1 h2 h9
  go_enter Tryz.func20, Tryz.ntmps20
  go_wp2
  go_loopw [5] (fun i wr => ∃ k : Nat, k ≤ n ∧ i = .int .i64 k ∧ Hid (Below w.heap.size w wr)) (fun i _ => n - (intOf i).toNat)
  case atStart => exact ⟨0, by omega, rfl, Lib.hid (Below.refl _ _)⟩
  case round =>
    obtain ⟨k, hk, rfl, HB⟩ := hrel
    by_cases hlt : k < n
    · obtain ⟨rfl, hbw⟩ := ha (by omega)
      obtain ⟨rfl, hbw'⟩ := ha' (by omega)
      obtain ⟨x, hx⟩ : ∃ x, l[k]? = some x := ⟨_, List.getElem?_eq_getElem (by rw [HN.out]; exact hlt)⟩
      have RS := HRS.out x (List.mem_of_getElem? hx)
      obtain ⟨a4, n4, m4, hf4⟩ := formAs (HIN.out x (List.mem_of_getElem? hx))
      obtain ⟨a5, n5, m5, hf5⟩ := formAc (HIN.out x (List.mem_of_getElem? hx))
      obtain ⟨c0, c1, c2, c3, c4, c5⟩ := HC.out k x hx
      obtain ⟨d0, d1, d2, d3, d4, d5⟩ := HD.out k x hx
      rw [← HB.out.cell (p := ⟨b, o + k * 6, none⟩) hbw] at c0
      rw [← HB.out.cell (p := ⟨b', o' + k * 6, none⟩) hbw'] at d0
      rw [← HB.out.cell (p := ⟨b, o + k * 6 + 1, none⟩) hbw] at c1
      rw [← HB.out.cell (p := ⟨b', o' + k * 6 + 1, none⟩) hbw'] at d1
      rw [← HB.out.cell (p := ⟨b, o + k * 6 + 2, none⟩) hbw] at c2
      rw [← HB.out.cell (p := ⟨b', o' + k * 6 + 2, none⟩) hbw'] at d2
      rw [← HB.out.cell (p := ⟨b, o + k * 6 + 3, none⟩) hbw] at c3
      rw [← HB.out.cell (p := ⟨b', o' + k * 6 + 3, none⟩) hbw'] at d3
      rw [← HB.out.cell (p := ⟨b, o + k * 6 + 4, none⟩) hbw] at c4
      rw [← HB.out.cell (p := ⟨b', o' + k * 6 + 4, none⟩) hbw'] at d4
      rw [← HB.out.cell (p := ⟨b, o + k * 6 + 5, none⟩) hbw] at c5
      rw [← HB.out.cell (p := ⟨b', o' + k * 6 + 5, none⟩) hbw'] at d5
      unfold agZA at RS
      rw [hf4] at c4 d4
      rw [hf5] at c5 d5
      simp only [hf4, hf5] at RS
      clear hf4 hf5 hx
      generalize (⟨x.nm.toArray⟩ : ByteArray) = X0 at *
      generalize (⟨x.lk.toArray⟩ : ByteArray) = X1 at *
      generalize (⟨x.cr.toArray⟩ : ByteArray) = X3 at *
      generalize x.mn = z2 at *
      have hs := And.intro c0 (And.intro c1 (And.intro c2 (And.intro c3 (And.intro c4 (And.intro c5 (And.intro d0 (And.intro d1 (And.intro d2 (And.intro d3 (And.intro d4 (And.intro d5 (HB.out))))))))))))
      have j0 : (0 : Int) ≤ (k : Int) := by omega
      have j1 : (k : Int) < (n : Int) := by omega
      clear c0 c1 c2 c3 c4 c5 d0 d1 d2 d3 d4 d5 HRS HIN HC HD
      go_wp2
      have BE := fun (V : World) (h : V.cell? ⟨b, o + k * 6, none⟩ = some (.string X0) ∧ V.cell? ⟨b, o + k * 6 + 1, none⟩ = some (.string X1) ∧ V.cell? ⟨b, o + k * 6 + 2, none⟩ = some (.bool z2) ∧ V.cell? ⟨b, o + k * 6 + 3, none⟩ = some (.string X3) ∧ V.cell? ⟨b, o + k * 6 + 4, none⟩ = some (.slice a4 n4 m4) ∧ V.cell? ⟨b, o + k * 6 + 5, none⟩ = some (.slice a5 n5 m5) ∧ V.cell? ⟨b', o' + k * 6, none⟩ = some (.string X0) ∧ V.cell? ⟨b', o' + k * 6 + 1, none⟩ = some (.string X1) ∧ V.cell? ⟨b', o' + k * 6 + 2, none⟩ = some (.bool z2) ∧ V.cell? ⟨b', o' + k * 6 + 3, none⟩ = some (.string X3) ∧ V.cell? ⟨b', o' + k * 6 + 4, none⟩ = some (.slice a4 n4 m4) ∧ V.cell? ⟨b', o' + k * 6 + 5, none⟩ = some (.slice a5 n5 m5) ∧ Below w.heap.size w V) => AtF.be (w := w) (l := [(⟨b, o + k * 6, none⟩, .string X0), (⟨b, o + k * 6 + 1, none⟩, .string X1), (⟨b, o + k * 6 + 2, none⟩, .bool z2), (⟨b, o + k * 6 + 3, none⟩, .string X3), (⟨b, o + k * 6 + 4, none⟩, .slice a4 n4 m4), (⟨b, o + k * 6 + 5, none⟩, .slice a5 n5 m5), (⟨b', o' + k * 6, none⟩, .string X0), (⟨b', o' + k * 6 + 1, none⟩, .string X1), (⟨b', o' + k * 6 + 2, none⟩, .bool z2), (⟨b', o' + k * 6 + 3, none⟩, .string X3), (⟨b', o' + k * 6 + 4, none⟩, .slice a4 n4 m4), (⟨b', o' + k * 6 + 5, none⟩, .slice a5 n5 m5)]) h
      refine wp_region_held_drew (S := (fun V => V.cell? ⟨b, o + k * 6, none⟩ = some (.string X0) ∧ V.cell? ⟨b, o + k * 6 + 1, none⟩ = some (.string X1) ∧ V.cell? ⟨b, o + k * 6 + 2, none⟩ = some (.bool z2) ∧ V.cell? ⟨b, o + k * 6 + 3, none⟩ = some (.string X3) ∧ V.cell? ⟨b, o + k * 6 + 4, none⟩ = some (.slice a4 n4 m4) ∧ V.cell? ⟨b, o + k * 6 + 5, none⟩ = some (.slice a5 n5 m5) ∧ V.cell? ⟨b', o' + k * 6, none⟩ = some (.string X0) ∧ V.cell? ⟨b', o' + k * 6 + 1, none⟩ = some (.string X1) ∧ V.cell? ⟨b', o' + k * 6 + 2, none⟩ = some (.bool z2) ∧ V.cell? ⟨b', o' + k * 6 + 3, none⟩ = some (.string X3) ∧ V.cell? ⟨b', o' + k * 6 + 4, none⟩ = some (.slice a4 n4 m4) ∧ V.cell? ⟨b', o' + k * 6 + 5, none⟩ = some (.slice a5 n5 m5) ∧ Below w.heap.size w V)) (by kernel_rfl) ?_ (fun hHeld => ?_)
      · (try dsimp only); (first | assumption | exact hs | exact AtF.dr (w := w) (l := [(⟨b, o + k * 6, none⟩, .string X0), (⟨b, o + k * 6 + 1, none⟩, .string X1), (⟨b, o + k * 6 + 2, none⟩, .bool z2), (⟨b, o + k * 6 + 3, none⟩, .string X3), (⟨b, o + k * 6 + 4, none⟩, .slice a4 n4 m4), (⟨b, o + k * 6 + 5, none⟩, .slice a5 n5 m5), (⟨b', o' + k * 6, none⟩, .string X0), (⟨b', o' + k * 6 + 1, none⟩, .string X1), (⟨b', o' + k * 6 + 2, none⟩, .bool z2), (⟨b', o' + k * 6 + 3, none⟩, .string X3), (⟨b', o' + k * 6 + 4, none⟩, .slice a4 n4 m4), (⟨b', o' + k * 6 + 5, none⟩, .slice a5 n5 m5)]) hs | exact AtF.dr (w := w) (l := [(⟨b, o + k * 6, none⟩, .string X0), (⟨b, o + k * 6 + 1, none⟩, .string X1), (⟨b, o + k * 6 + 2, none⟩, .bool z2), (⟨b, o + k * 6 + 3, none⟩, .string X3), (⟨b, o + k * 6 + 4, none⟩, .slice a4 n4 m4), (⟨b, o + k * 6 + 5, none⟩, .slice a5 n5 m5), (⟨b', o' + k * 6, none⟩, .string X0), (⟨b', o' + k * 6 + 1, none⟩, .string X1), (⟨b', o' + k * 6 + 2, none⟩, .bool z2), (⟨b', o' + k * 6 + 3, none⟩, .string X3), (⟨b', o' + k * 6 + 4, none⟩, .slice a4 n4 m4), (⟨b', o' + k * 6 + 5, none⟩, .slice a5 n5 m5)]) (by assumption) | exact AtF.on (w := w) (l := [(⟨b, o + k * 6, none⟩, .string X0), (⟨b, o + k * 6 + 1, none⟩, .string X1), (⟨b, o + k * 6 + 2, none⟩, .bool z2), (⟨b, o + k * 6 + 3, none⟩, .string X3), (⟨b, o + k * 6 + 4, none⟩, .slice a4 n4 m4), (⟨b, o + k * 6 + 5, none⟩, .slice a5 n5 m5), (⟨b', o' + k * 6, none⟩, .string X0), (⟨b', o' + k * 6 + 1, none⟩, .string X1), (⟨b', o' + k * 6 + 2, none⟩, .bool z2), (⟨b', o' + k * 6 + 3, none⟩, .string X3), (⟨b', o' + k * 6 + 4, none⟩, .slice a4 n4 m4), (⟨b', o' + k * 6 + 5, none⟩, .slice a5 n5 m5)]) (by assumption) (by assumption) | exact AtF.al (w := w) (l := [(⟨b, o + k * 6, none⟩, .string X0), (⟨b, o + k * 6 + 1, none⟩, .string X1), (⟨b, o + k * 6 + 2, none⟩, .bool z2), (⟨b, o + k * 6 + 3, none⟩, .string X3), (⟨b, o + k * 6 + 4, none⟩, .slice a4 n4 m4), (⟨b, o + k * 6 + 5, none⟩, .slice a5 n5 m5), (⟨b', o' + k * 6, none⟩, .string X0), (⟨b', o' + k * 6 + 1, none⟩, .string X1), (⟨b', o' + k * 6 + 2, none⟩, .bool z2), (⟨b', o' + k * 6 + 3, none⟩, .string X3), (⟨b', o' + k * 6 + 4, none⟩, .slice a4 n4 m4), (⟨b', o' + k * 6 + 5, none⟩, .slice a5 n5 m5)]) (by assumption) _ | exact AtF.ald (w := w) (l := [(⟨b, o + k * 6, none⟩, .string X0), (⟨b, o + k * 6 + 1, none⟩, .string X1), (⟨b, o + k * 6 + 2, none⟩, .bool z2), (⟨b, o + k * 6 + 3, none⟩, .string X3), (⟨b, o + k * 6 + 4, none⟩, .slice a4 n4 m4), (⟨b, o + k * 6 + 5, none⟩, .slice a5 n5 m5), (⟨b', o' + k * 6, none⟩, .string X0), (⟨b', o' + k * 6 + 1, none⟩, .string X1), (⟨b', o' + k * 6 + 2, none⟩, .bool z2), (⟨b', o' + k * 6 + 3, none⟩, .string X3), (⟨b', o' + k * 6 + 4, none⟩, .slice a4 n4 m4), (⟨b', o' + k * 6 + 5, none⟩, .slice a5 n5 m5)]) (by assumption) _ | exact AtF.al (w := w) (l := [(⟨b, o + k * 6, none⟩, .string X0), (⟨b, o + k * 6 + 1, none⟩, .string X1), (⟨b, o + k * 6 + 2, none⟩, .bool z2), (⟨b, o + k * 6 + 3, none⟩, .string X3), (⟨b, o + k * 6 + 4, none⟩, .slice a4 n4 m4), (⟨b, o + k * 6 + 5, none⟩, .slice a5 n5 m5), (⟨b', o' + k * 6, none⟩, .string X0), (⟨b', o' + k * 6 + 1, none⟩, .string X1), (⟨b', o' + k * 6 + 2, none⟩, .bool z2), (⟨b', o' + k * 6 + 3, none⟩, .string X3), (⟨b', o' + k * 6 + 4, none⟩, .slice a4 n4 m4), (⟨b', o' + k * 6 + 5, none⟩, .slice a5 n5 m5)]) hs _ | exact AtF.ald (w := w) (l := [(⟨b, o + k * 6, none⟩, .string X0), (⟨b, o + k * 6 + 1, none⟩, .string X1), (⟨b, o + k * 6 + 2, none⟩, .bool z2), (⟨b, o + k * 6 + 3, none⟩, .string X3), (⟨b, o + k * 6 + 4, none⟩, .slice a4 n4 m4), (⟨b, o + k * 6 + 5, none⟩, .slice a5 n5 m5), (⟨b', o' + k * 6, none⟩, .string X0), (⟨b', o' + k * 6 + 1, none⟩, .string X1), (⟨b', o' + k * 6 + 2, none⟩, .bool z2), (⟨b', o' + k * 6 + 3, none⟩, .string X3), (⟨b', o' + k * 6 + 4, none⟩, .slice a4 n4 m4), (⟨b', o' + k * 6 + 5, none⟩, .slice a5 n5 m5)]) hs _)
      refine heldY 0 17 ?_ _ rfl rfl (by kernel_rfl) (by kernel_rfl) (by kernel_rfl) (fun _ _ _ h => h) rfl (by assumption) ?_ ?_
      rotate_left
      · (intro w hSw; (try dsimp only at hSw); go_simp; (try with_reducible rfl))
      try simp only [List.setIfInBounds_toArray, List.set_cons_zero, List.set_cons_succ]
      refine heldY 1 18 ?_ _ rfl rfl (by kernel_rfl) (by kernel_rfl) (by kernel_rfl) (fun _ _ _ h => h) rfl (by assumption) ?_ ?_
      rotate_left
      · (intro w hSw; (try dsimp only at hSw); go_simp; (try with_reducible rfl))
      try simp only [List.setIfInBounds_toArray, List.set_cons_zero, List.set_cons_succ]
      refine heldY 2 19 ?_ _ rfl rfl (by kernel_rfl) (by kernel_rfl) (by kernel_rfl) (fun _ _ _ h => h) rfl (by assumption) ?_ ?_
      rotate_left
      · (intro w hSw; (try dsimp only at hSw); go_simp; (try with_reducible rfl))
      try simp only [List.setIfInBounds_toArray, List.set_cons_zero, List.set_cons_succ]
      refine heldY 3 20 ?_ _ rfl rfl (by kernel_rfl) (by kernel_rfl) (by kernel_rfl) (fun _ _ _ h => h) rfl (by assumption) ?_ ?_
      rotate_left
      · (intro w hSw; (try dsimp only at hSw); go_simp; (try with_reducible rfl))
      try simp only [List.setIfInBounds_toArray, List.set_cons_zero, List.set_cons_succ]
      refine heldY 4 21 ?_ _ rfl rfl (by kernel_rfl) (by kernel_rfl) (by kernel_rfl) (fun _ _ _ h => h) rfl (by assumption) ?_ ?_
      rotate_left
      · (intro w hSw; (try dsimp only at hSw); go_simp; (try with_reducible rfl))
      try simp only [List.setIfInBounds_toArray, List.set_cons_zero, List.set_cons_succ]
      refine heldY 5 22 ?_ _ rfl rfl (by kernel_rfl) (by kernel_rfl) (by kernel_rfl) (fun _ _ _ h => h) rfl (by assumption) ?_ ?_
      rotate_left
      · (intro w hSw; (try dsimp only at hSw); go_simp; (try with_reducible rfl))
      try simp only [List.setIfInBounds_toArray, List.set_cons_zero, List.set_cons_succ]
      refine heldY 6 23 ?_ _ rfl rfl (by kernel_rfl) (by kernel_rfl) (by kernel_rfl) (fun _ _ _ h => h) rfl (by assumption) ?_ ?_
      rotate_left
      · (intro w hSw; (try dsimp only at hSw); go_simp; (try with_reducible rfl))
      try simp only [List.setIfInBounds_toArray, List.set_cons_zero, List.set_cons_succ]
      refine heldY 7 24 ?_ _ rfl rfl (by kernel_rfl) (by kernel_rfl) (by kernel_rfl) (fun _ _ _ h => h) rfl (by assumption) ?_ ?_
      rotate_left
      · (intro w hSw; (try dsimp only at hSw); go_simp; (try with_reducible rfl))
      try simp only [List.setIfInBounds_toArray, List.set_cons_zero, List.set_cons_succ]
      refine wpAnyH_ready (rs := [8]) (by kernel_rfl) (by simp) ?_
      refine AllReadyH.cons rfl (fun K hK => ?_) AllReadyH.nil
      go_simp
      (go_at_call 34; (with_reducible refine (RS _ (BE _ (by assumption))).mono ?_); rintro e w3 ⟨rfl, hb⟩)
      refine hK.out _ _ ?_ (fun hHeld => ?_)
      · (try dsimp only); (first | assumption | exact hs | exact AtF.dr (w := w) (l := [(⟨b, o + k * 6, none⟩, .string X0), (⟨b, o + k * 6 + 1, none⟩, .string X1), (⟨b, o + k * 6 + 2, none⟩, .bool z2), (⟨b, o + k * 6 + 3, none⟩, .string X3), (⟨b, o + k * 6 + 4, none⟩, .slice a4 n4 m4), (⟨b, o + k * 6 + 5, none⟩, .slice a5 n5 m5), (⟨b', o' + k * 6, none⟩, .string X0), (⟨b', o' + k * 6 + 1, none⟩, .string X1), (⟨b', o' + k * 6 + 2, none⟩, .bool z2), (⟨b', o' + k * 6 + 3, none⟩, .string X3), (⟨b', o' + k * 6 + 4, none⟩, .slice a4 n4 m4), (⟨b', o' + k * 6 + 5, none⟩, .slice a5 n5 m5)]) hs | exact AtF.dr (w := w) (l := [(⟨b, o + k * 6, none⟩, .string X0), (⟨b, o + k * 6 + 1, none⟩, .string X1), (⟨b, o + k * 6 + 2, none⟩, .bool z2), (⟨b, o + k * 6 + 3, none⟩, .string X3), (⟨b, o + k * 6 + 4, none⟩, .slice a4 n4 m4), (⟨b, o + k * 6 + 5, none⟩, .slice a5 n5 m5), (⟨b', o' + k * 6, none⟩, .string X0), (⟨b', o' + k * 6 + 1, none⟩, .string X1), (⟨b', o' + k * 6 + 2, none⟩, .bool z2), (⟨b', o' + k * 6 + 3, none⟩, .string X3), (⟨b', o' + k * 6 + 4, none⟩, .slice a4 n4 m4), (⟨b', o' + k * 6 + 5, none⟩, .slice a5 n5 m5)]) (by assumption) | exact AtF.on (w := w) (l := [(⟨b, o + k * 6, none⟩, .string X0), (⟨b, o + k * 6 + 1, none⟩, .string X1), (⟨b, o + k * 6 + 2, none⟩, .bool z2), (⟨b, o + k * 6 + 3, none⟩, .string X3), (⟨b, o + k * 6 + 4, none⟩, .slice a4 n4 m4), (⟨b, o + k * 6 + 5, none⟩, .slice a5 n5 m5), (⟨b', o' + k * 6, none⟩, .string X0), (⟨b', o' + k * 6 + 1, none⟩, .string X1), (⟨b', o' + k * 6 + 2, none⟩, .bool z2), (⟨b', o' + k * 6 + 3, none⟩, .string X3), (⟨b', o' + k * 6 + 4, none⟩, .slice a4 n4 m4), (⟨b', o' + k * 6 + 5, none⟩, .slice a5 n5 m5)]) (by assumption) (by assumption) | exact AtF.al (w := w) (l := [(⟨b, o + k * 6, none⟩, .string X0), (⟨b, o + k * 6 + 1, none⟩, .string X1), (⟨b, o + k * 6 + 2, none⟩, .bool z2), (⟨b, o + k * 6 + 3, none⟩, .string X3), (⟨b, o + k * 6 + 4, none⟩, .slice a4 n4 m4), (⟨b, o + k * 6 + 5, none⟩, .slice a5 n5 m5), (⟨b', o' + k * 6, none⟩, .string X0), (⟨b', o' + k * 6 + 1, none⟩, .string X1), (⟨b', o' + k * 6 + 2, none⟩, .bool z2), (⟨b', o' + k * 6 + 3, none⟩, .string X3), (⟨b', o' + k * 6 + 4, none⟩, .slice a4 n4 m4), (⟨b', o' + k * 6 + 5, none⟩, .slice a5 n5 m5)]) (by assumption) _ | exact AtF.ald (w := w) (l := [(⟨b, o + k * 6, none⟩, .string X0), (⟨b, o + k * 6 + 1, none⟩, .string X1), (⟨b, o + k * 6 + 2, none⟩, .bool z2), (⟨b, o + k * 6 + 3, none⟩, .string X3), (⟨b, o + k * 6 + 4, none⟩, .slice a4 n4 m4), (⟨b, o + k * 6 + 5, none⟩, .slice a5 n5 m5), (⟨b', o' + k * 6, none⟩, .string X0), (⟨b', o' + k * 6 + 1, none⟩, .string X1), (⟨b', o' + k * 6 + 2, none⟩, .bool z2), (⟨b', o' + k * 6 + 3, none⟩, .string X3), (⟨b', o' + k * 6 + 4, none⟩, .slice a4 n4 m4), (⟨b', o' + k * 6 + 5, none⟩, .slice a5 n5 m5)]) (by assumption) _ | exact AtF.al (w := w) (l := [(⟨b, o + k * 6, none⟩, .string X0), (⟨b, o + k * 6 + 1, none⟩, .string X1), (⟨b, o + k * 6 + 2, none⟩, .bool z2), (⟨b, o + k * 6 + 3, none⟩, .string X3), (⟨b, o + k * 6 + 4, none⟩, .slice a4 n4 m4), (⟨b, o + k * 6 + 5, none⟩, .slice a5 n5 m5), (⟨b', o' + k * 6, none⟩, .string X0), (⟨b', o' + k * 6 + 1, none⟩, .string X1), (⟨b', o' + k * 6 + 2, none⟩, .bool z2), (⟨b', o' + k * 6 + 3, none⟩, .string X3), (⟨b', o' + k * 6 + 4, none⟩, .slice a4 n4 m4), (⟨b', o' + k * 6 + 5, none⟩, .slice a5 n5 m5)]) hs _ | exact AtF.ald (w := w) (l := [(⟨b, o + k * 6, none⟩, .string X0), (⟨b, o + k * 6 + 1, none⟩, .string X1), (⟨b, o + k * 6 + 2, none⟩, .bool z2), (⟨b, o + k * 6 + 3, none⟩, .string X3), (⟨b, o + k * 6 + 4, none⟩, .slice a4 n4 m4), (⟨b, o + k * 6 + 5, none⟩, .slice a5 n5 m5), (⟨b', o' + k * 6, none⟩, .string X0), (⟨b', o' + k * 6 + 1, none⟩, .string X1), (⟨b', o' + k * 6 + 2, none⟩, .bool z2), (⟨b', o' + k * 6 + 3, none⟩, .string X3), (⟨b', o' + k * 6 + 4, none⟩, .slice a4 n4 m4), (⟨b', o' + k * 6 + 5, none⟩, .slice a5 n5 m5)]) hs _)
      clear hK K
      try simp only [Act.put, List.setIfInBounds_toArray, List.set_cons_zero, List.set_cons_succ]
      refine heldY 9 26 ?_ _ rfl rfl (by kernel_rfl) (by kernel_rfl) (by kernel_rfl) (fun _ _ _ h => h) rfl (by assumption) ?_ ?_
      rotate_left
      · (intro w hSw; (try dsimp only at hSw); go_simp; (try with_reducible rfl))
      try simp only [List.setIfInBounds_toArray, List.set_cons_zero, List.set_cons_succ]
      refine wpAnyH_done (by kernel_rfl) ?_ _
      have HW3 := Lib.hid (BE _ hHeld)
      clear hHeld
      go_wp2
      go_roundw
      case rel => exact ⟨k + 1, by omega, by go_num, HW3⟩
      case measure => simp [intOf]; omega
    · obtain rfl : k = n := by omega
      clear hlt
      go_wp2
      go_ret
      exact ⟨rfl, HB.out⟩
end Go.Proofs.YtnfhccnicojdcaaGreatDoor
namespace Go.Proofs.YtnfhccnicojdcaaGreatDoor.altsPutsw
open Go.RowKit
theorem holdA_one (W : World) (x : Av) (h : InA W x) : HoldA (W.alloc (.cells #[.string (⟨x.nm.toArray⟩ : ByteArray), .string (⟨x.lk.toArray⟩ : ByteArray), .bool x.mn, .string (⟨x.cr.toArray⟩ : ByteArray), x.sv, x.cv] 26)) (.slice (some ⟨W.heap.size, 0, none⟩) 1 1) [x] := by
  obtain ⟨x0, x1, x2, x3, x4, x5⟩ := boxV6 W (.string (⟨x.nm.toArray⟩ : ByteArray)) (.string (⟨x.lk.toArray⟩ : ByteArray)) (.bool x.mn) (.string (⟨x.cr.toArray⟩ : ByteArray)) x.sv x.cv 26
  refine ⟨⟨some ⟨W.heap.size, 0, none⟩, 1, W.heap.size, 0, rfl, Nat.le_refl _, fun _ => ⟨rfl, by simp⟩, fun j r hj i y hi hy => ?_⟩, fun y hy => ?_⟩
  · match j, hj with
    | 0, hj =>
      simp at hj; subst hj
      match i, hi, hy with
      | 0, _, hy => cases hy; exact x0
      | 1, _, hy => cases hy; exact x1
      | 2, _, hy => cases hy; exact x2
      | 3, _, hy => cases hy; exact x3
      | 4, _, hy => cases hy; exact x4
      | 5, _, hy => cases hy; exact x5
    | j + 1, hj => simp at hj
  · simp at hy; subst hy
    exact h.on ((Below.refl _ _).alloc (Nat.le_refl _) _)
theorem huge_few {x : Av} (h : FewOne x) : NotHuge x := ⟨by have := h.sl; omega, by have := h.ch; omega, fun c hc => by have := (h.cs c hc).2.1; omega⟩
set_option maxRecDepth 100000 in
set_option maxHeartbeats 16000000 in
theorem walk (v : Value) (l : List Av) (hl : l.length ≤ maxLen) (hf : ∀ y ∈ l, FitA y) (x : Av) (hx : FitA x) (p : ByteArray) (hp : p.size ≤ maxLen) (w : World) (hL : LaidZ w) (h : HoldA w v l) (hi : InA w x) :
    Calls Tryz.prog 5 #[v, agZA x, .string p] w fun e w' => e = .returned (.bool true) ∧ Below w.heap.size w w' := by
  have B1 := (Below.refl w.heap.size w).alloc (Nat.le_refl _) (.cells #[.string (⟨x.nm.toArray⟩ : ByteArray), .string (⟨x.lk.toArray⟩ : ByteArray), .bool x.mn, .string (⟨x.cr.toArray⟩ : ByteArray), x.sv, x.cv] 26)
  have HX1 := heap_alloc_new w (.cells #[.string (⟨x.nm.toArray⟩ : ByteArray), .string (⟨x.lk.toArray⟩ : ByteArray), .bool x.mn, .string (⟨x.cr.toArray⟩ : ByteArray), x.sv, x.cv] 26)
  have FW := fun W (hb : Below w.heap.size w W) => fewA_any v l hl hf W (h.on hb)
  have FX := fun W (hb : Below w.heap.size w W) => fewA_any (.slice (some ⟨W.heap.size, 0, none⟩) 1 1) [x] (by simp [maxLen]) (fun y hy => by simp at hy; subst hy; exact hx) _ (holdA_one W x (hi.on hb))
  have AW := fun W (hb : Below w.heap.size w W) => awake11 W (hL.on hb)
  have P1 := fun (g : l.length ≤ 70) W (hb : Below w.heap.size w W) => putA_any v l (by omega) x W (h.on hb) (hi.on hb)
  have P2 := fun (g : l.length ≤ 70) W (hb : Below w.heap.size w W) => putA_ref v l (by omega) x W (h.on hb) (hi.on hb)
  have D1 := fun (g : l.length ≤ 70) W (hb : Below w.heap.size w W) => dropA_any v l (by omega) p W (h.on hb)
  have D2 := fun (g : l.length ≤ 70) W (hb : Below w.heap.size w W) => dropA_ref v l (by omega) p W (h.on hb)
  have F1 := fun (g : l.length ≤ 70) W (hb : Below w.heap.size w W) => findA_any v l (by omega) p W (h.on hb)
  have F2 := fun (g : l.length ≤ 70) W (hb : Below w.heap.size w W) => findA_ref v l (by omega) p W (h.on hb)
  have C1 := fun (g : x.ch.length ≤ 70) W (hb : Below w.heap.size w W) => choiceZ_any x (by omega) p W (hi.on hb)
  have C2 := fun (g : x.ch.length ≤ 70) W (hb : Below w.heap.size w W) => choiceZ_ref x (by omega) p W (hi.on hb)
  have S1 := fun (g : FewA l) (g2 : FewOne x) u1 u2 W h1 h2 => sameA_ref u1 u2 (putA l x) (by have := putA_len l x; have := g.1; omega) (fun a ha => (putA_mem ha).elim (fun q => huge_few (g.2 a q)) (fun q => by rw [q]; exact huge_few g2)) W h1 h2
  have S2 := fun (g : FewA l) u1 u2 W h1 h2 => sameA_ref u1 u2 (dropA l p.data.toList) (by have := dropA_len l p.data.toList; have := g.1; omega) (fun a ha => huge_few (g.2 a (dropA_mem ha))) W h1 h2
  have F3 := fun (g : l.length ≤ 70) u W h1 => findA_any u (putA l x) (by have := putA_len l x; omega) (⟨x.nm.toArray⟩ : ByteArray) W h1
  have F4 := fun (g : l.length ≤ 70) u W h1 => findA_any u (dropA l p.data.toList) (by have := dropA_len l p.data.toList; omega) p W h1
  have hpf := put_find l x
  rw [drop_find] at F4
  rw [bytesOf] at F3
  have HG1 : Hid (FewA l → l.length ≤ 70) := Lib.hid (fun g => g.1)
  have HG2 : Hid (FewA [x] → FewOne x) := Lib.hid (fun g => g.2 x (by simp))
  have HG3 : Hid (FewOne x → x.ch.length ≤ 70) := Lib.hid (fun g => g.ch)
  obtain ⟨a4, n4, m4, hf4⟩ := formAs hi
  obtain ⟨a5, n5, m5, hf5⟩ := formAc hi
  obtain ⟨va, vc, hv⟩ : ∃ a c, v = .slice a l.length c := by obtain ⟨a, c, b, o, e, _⟩ := h.parts; exact ⟨a, c, e⟩
  unfold FewAP at FW FX
  unfold agZA at P1 P2 C1 C2 ⊢
  simp only [hf4, hf5] at P1 P2 C1 C2 FX B1 HX1
  rw [hf4, hf5]
  subst hv
  obtain ⟨X0, hX0⟩ : ∃ q : ByteArray, (⟨x.nm.toArray⟩ : ByteArray) = q := ⟨_, rfl⟩
  obtain ⟨X1, hX1⟩ : ∃ q : ByteArray, (⟨x.lk.toArray⟩ : ByteArray) = q := ⟨_, rfl⟩
  obtain ⟨X3, hX3⟩ : ∃ q : ByteArray, (⟨x.cr.toArray⟩ : ByteArray) = q := ⟨_, rfl⟩
  simp only [hX0, hX1, hX3] at P1 P2 C1 C2 FX B1 HX1 F3
  rw [hX0, hX1, hX3]
  have HB1 := Lib.hid B1
  have HX1 := Lib.hid HX1
  unfold maxLen at hp
  obtain ⟨n, hN⟩ : ∃ n, l.length = n := ⟨_, rfl⟩
  obtain ⟨PL, hPL⟩ : ∃ q, putA l x = q := ⟨_, rfl⟩
  obtain ⟨DL, hDL⟩ : ∃ q, dropA l p.data.toList = q := ⟨_, rfl⟩
  obtain ⟨mn, hmn⟩ : ∃ q, x.mn = q := ⟨_, rfl⟩
  obtain ⟨zz, hzz⟩ : ∃ q, idxA l p.data.toList = q := ⟨_, rfl⟩
  obtain ⟨zc, hzc⟩ : ∃ q, idxC x.ch p.data.toList = q := ⟨_, rfl⟩
  obtain ⟨zp, hzp⟩ : ∃ q, idxA (putA l x) x.nm = q := ⟨_, rfl⟩
  rw [hzp] at hpf
  rw [hzp] at F3
  simp only [hzz] at F1 F2
  simp only [hzc] at C1 C2
  simp only [hmn] at P1 P2 C1 C2 FX
  rw [hmn] at HB1 HX1 ⊢
  rw [hPL] at F3 S1
  simp only [hPL] at P1 P2
  rw [hDL] at F4 S2
  simp only [hDL] at D1 D2
  rw [hN] at HG1 FW P1 P2 D1 D2 F1 F2 F3 F4 ⊢
  clear B1 hL h hi hl hf hx hf4 hf5 hX0 hX1 hX3 hN hPL hDL hmn hzz hzc hzp
  go_enter Tryz.func5, Tryz.ntmps5
  go_wp2_with (go_at_call 9; (with_reducible refine (FW _ HB1.out).mono ?_); rintro e w2 ⟨fb, rfl, hfb, hb⟩; have HF2 := Lib.hid hfb; have HB2 := Lib.hid (HB1.out.trans (hb.mono HB1.out.size)); have hx := (hb.block w.heap.size (lt_heap HX1.out)).trans HX1.out; have HX2 := Lib.hid hx; clear hx hb hfb; refine Hid.out ?_)
  clear FW HB1 HX1
  refine Lib.hid ?_
  cases fb
  · go_wp2_with (go_at_call 10; (with_reducible refine (AW _ HB2.out).mono ?_); rintro e w4 ⟨rfl, hb⟩; have HB4 := Lib.hid (HB2.out.trans (hb.mono HB2.out.size)); clear hb)
    go_ret
    exact ⟨rfl, HB4.out⟩
  have FL := Lib.hid (HF2.out rfl)
  have g7 := Lib.hid (HG1.out FL.out)
  have P1 := P1 g7.out
  have P2 := P2 g7.out
  have D1 := D1 g7.out
  have D2 := D2 g7.out
  have F1 := F1 g7.out
  have F2 := F2 g7.out
  have F3 := F3 g7.out
  have F4 := F4 g7.out
  have S1 := S1 FL.out
  have S2 := S2 FL.out
  clear HF2 FL HG1 g7
  have x0 := cell_heap (i := 0) HX2.out rfl
  have x1 := cell_heap (i := 1) HX2.out rfl
  have x2 := cell_heap (i := 2) HX2.out rfl
  have x3 := cell_heap (i := 3) HX2.out rfl
  have x4 := cell_heap (i := 4) HX2.out rfl
  have x5 := cell_heap (i := 5) HX2.out rfl
  have hlt := lt_heap HX2.out
  have hB3 := (Below.refl w2.heap.size w2).alloc (Nat.le_refl _) (.cells #[.string X0, .string X1, .bool mn, .string X3, .slice a4 n4 m4, .slice a5 n5 m5] 26)
  have HB3 := Lib.hid (HB2.out.trans (hB3.mono HB2.out.size))
  have HX3 := Lib.hid ((hB3.block w.heap.size (lt_heap HX2.out)).trans HX2.out)
  clear hB3
  go_wp2_with (go_at_call 9; (with_reducible refine (FX _ HB2.out).mono ?_); rintro e w3 ⟨fb, rfl, hfb, hb⟩; have HF4 := Lib.hid hfb; have HB4 := Lib.hid (HB3.out.trans (hb.mono HB3.out.size)); have hx := (hb.block w.heap.size (lt_heap HX3.out)).trans HX3.out; have HX4 := Lib.hid hx; clear hx hb hfb; refine Hid.out ?_)
  clear FX HB3 HB2 HX3 HX2 x0 x1 x2 x3 x4 x5
  refine Lib.hid ?_
  cases fb
  · go_wp2_with (go_at_call 10; (with_reducible refine (AW _ HB4.out).mono ?_); rintro e w4 ⟨rfl, hb⟩; have HB5 := Lib.hid (HB4.out.trans (hb.mono HB4.out.size)); clear hb)
    go_ret
    exact ⟨rfl, HB5.out⟩
  have FO := Lib.hid (HG2.out (HF4.out rfl))
  have C1 := C1 (HG3.out FO.out)
  have C2 := C2 (HG3.out FO.out)
  have S1 := S1 FO.out
  clear HF4 HG2 HG3 FO
  by_cases hp3 : 300 < p.size
  · go_wp2_with (go_at_call 10; (with_reducible refine (AW _ HB4.out).mono ?_); rintro e w4 ⟨rfl, hb⟩; have HB5 := Lib.hid (HB4.out.trans (hb.mono HB4.out.size)); clear hb)
    go_ret
    exact ⟨rfl, HB5.out⟩
  have x0 := cell_heap (i := 0) HX4.out rfl
  have x1 := cell_heap (i := 1) HX4.out rfl
  have x2 := cell_heap (i := 2) HX4.out rfl
  have x3 := cell_heap (i := 3) HX4.out rfl
  have x4 := cell_heap (i := 4) HX4.out rfl
  have x5 := cell_heap (i := 5) HX4.out rfl
  go_wp2_with (first
    | (go_at_call 18; (with_reducible refine (P1 _ HB4.out).mono ?_); rintro e w5 ⟨v5, rfl, h5, hb⟩; have HP5 := Lib.hid h5; have HB5 := Lib.hid (HB4.out.trans (hb.mono HB4.out.size)); have HX5 := Lib.hid ((hb.block w.heap.size (lt_heap HX4.out)).trans HX4.out); clear h5 hb P1)
    | (go_at_call 19; (with_reducible refine (D1 _ HB5.out).mono ?_); rintro e w6 ⟨v6, rfl, h6, hb⟩; have HD6 := Lib.hid h6; have HP6 := Lib.hid (HoldA.on HP5.out hb); have HB6 := Lib.hid (HB5.out.trans (hb.mono HB5.out.size)); have HX6 := Lib.hid ((hb.block w.heap.size (lt_heap HX5.out)).trans HX5.out); clear h6 hb D1))
  have hsz6 := HB6.out.size
  clear x0 x1 x2 x3 x4 x5
  have x0 := cell_heap (i := 0) HX6.out rfl
  have x1 := cell_heap (i := 1) HX6.out rfl
  have x2 := cell_heap (i := 2) HX6.out rfl
  have x3 := cell_heap (i := 3) HX6.out rfl
  have x4 := cell_heap (i := 4) HX6.out rfl
  have x5 := cell_heap (i := 5) HX6.out rfl
  have hs := And.intro x0 (And.intro x1 (And.intro x2 (And.intro x3 (And.intro x4 (And.intro x5 (Below.refl w6.heap.size w6))))))
  have hB := Below.refl w6.heap.size w6
  clear x0 x1 x2 x3 x4 x5 HB4 HX4 HP5 HB5 HX5 hlt
  obtain ⟨pa, pn, pc, hv5⟩ : ∃ a n c, v5 = .slice a n c := by obtain ⟨a, c, b, o, e, _⟩ := HP6.out.parts; exact ⟨_, _, _, e⟩
  obtain ⟨da, dn, dc, hv6⟩ : ∃ a n c, v6 = .slice a n c := by obtain ⟨a, c, b, o, e, _⟩ := HD6.out.parts; exact ⟨_, _, _, e⟩
  subst hv5 hv6
  have BE := fun (V : World) (h : V.cell? ⟨w.heap.size, 0, none⟩ = some (.string X0) ∧ V.cell? ⟨w.heap.size, 1, none⟩ = some (.string X1) ∧ V.cell? ⟨w.heap.size, 2, none⟩ = some (.bool mn) ∧ V.cell? ⟨w.heap.size, 3, none⟩ = some (.string X3) ∧ V.cell? ⟨w.heap.size, 4, none⟩ = some (.slice a4 n4 m4) ∧ V.cell? ⟨w.heap.size, 5, none⟩ = some (.slice a5 n5 m5) ∧ Below w6.heap.size w6 V) => AtF.be (w := w6) (l := [(⟨w.heap.size, 0, none⟩, .string X0), (⟨w.heap.size, 1, none⟩, .string X1), (⟨w.heap.size, 2, none⟩, .bool mn), (⟨w.heap.size, 3, none⟩, .string X3), (⟨w.heap.size, 4, none⟩, .slice a4 n4 m4), (⟨w.heap.size, 5, none⟩, .slice a5 n5 m5)]) h
  go_region_held3 (fun V => V.cell? ⟨w.heap.size, 0, none⟩ = some (.string X0) ∧ V.cell? ⟨w.heap.size, 1, none⟩ = some (.string X1) ∧ V.cell? ⟨w.heap.size, 2, none⟩ = some (.bool mn) ∧ V.cell? ⟨w.heap.size, 3, none⟩ = some (.string X3) ∧ V.cell? ⟨w.heap.size, 4, none⟩ = some (.slice a4 n4 m4) ∧ V.cell? ⟨w.heap.size, 5, none⟩ = some (.slice a5 n5 m5) ∧ Below w6.heap.size w6 V)
    (first | assumption | exact hs | exact AtF.dr (w := w6) (l := [(⟨w.heap.size, 0, none⟩, .string X0), (⟨w.heap.size, 1, none⟩, .string X1), (⟨w.heap.size, 2, none⟩, .bool mn), (⟨w.heap.size, 3, none⟩, .string X3), (⟨w.heap.size, 4, none⟩, .slice a4 n4 m4), (⟨w.heap.size, 5, none⟩, .slice a5 n5 m5)]) hs | exact AtF.dr (w := w6) (l := [(⟨w.heap.size, 0, none⟩, .string X0), (⟨w.heap.size, 1, none⟩, .string X1), (⟨w.heap.size, 2, none⟩, .bool mn), (⟨w.heap.size, 3, none⟩, .string X3), (⟨w.heap.size, 4, none⟩, .slice a4 n4 m4), (⟨w.heap.size, 5, none⟩, .slice a5 n5 m5)]) (by assumption) | exact AtF.on (w := w6) (l := [(⟨w.heap.size, 0, none⟩, .string X0), (⟨w.heap.size, 1, none⟩, .string X1), (⟨w.heap.size, 2, none⟩, .bool mn), (⟨w.heap.size, 3, none⟩, .string X3), (⟨w.heap.size, 4, none⟩, .slice a4 n4 m4), (⟨w.heap.size, 5, none⟩, .slice a5 n5 m5)]) (by assumption) (by assumption) | exact AtF.al (w := w6) (l := [(⟨w.heap.size, 0, none⟩, .string X0), (⟨w.heap.size, 1, none⟩, .string X1), (⟨w.heap.size, 2, none⟩, .bool mn), (⟨w.heap.size, 3, none⟩, .string X3), (⟨w.heap.size, 4, none⟩, .slice a4 n4 m4), (⟨w.heap.size, 5, none⟩, .slice a5 n5 m5)]) (by assumption) _ | exact AtF.ald (w := w6) (l := [(⟨w.heap.size, 0, none⟩, .string X0), (⟨w.heap.size, 1, none⟩, .string X1), (⟨w.heap.size, 2, none⟩, .bool mn), (⟨w.heap.size, 3, none⟩, .string X3), (⟨w.heap.size, 4, none⟩, .slice a4 n4 m4), (⟨w.heap.size, 5, none⟩, .slice a5 n5 m5)]) (by assumption) _ | exact AtF.al (w := w6) (l := [(⟨w.heap.size, 0, none⟩, .string X0), (⟨w.heap.size, 1, none⟩, .string X1), (⟨w.heap.size, 2, none⟩, .bool mn), (⟨w.heap.size, 3, none⟩, .string X3), (⟨w.heap.size, 4, none⟩, .slice a4 n4 m4), (⟨w.heap.size, 5, none⟩, .slice a5 n5 m5)]) hs _ | exact AtF.ald (w := w6) (l := [(⟨w.heap.size, 0, none⟩, .string X0), (⟨w.heap.size, 1, none⟩, .string X1), (⟨w.heap.size, 2, none⟩, .bool mn), (⟨w.heap.size, 3, none⟩, .string X3), (⟨w.heap.size, 4, none⟩, .slice a4 n4 m4), (⟨w.heap.size, 5, none⟩, .slice a5 n5 m5)]) hs _)
    (((first | (go_at_call 21; (with_reducible refine (P2 _ (HB6.out.trans ((BE _ (by assumption)).mono hsz6))).mono ?_); rintro e w7 ⟨v7, rfl, h7, hb⟩; have HQ7 := Lib.hid h7) | (go_at_call 22; (with_reducible refine (D2 _ (HB6.out.trans ((BE _ (by assumption)).mono hsz6))).mono ?_); rintro e w8 ⟨v8, rfl, h8, hb⟩; have HQ8 := Lib.hid h8) | (go_at_call 20; (with_reducible refine (S1 _ _ _ (HoldA.on HP6.out (BE _ (by assumption))) HQ7.out).mono ?_); rintro e w9 ⟨rfl, hb⟩) | (go_at_call 20; (with_reducible refine (S2 _ _ _ (HoldA.on HD6.out (BE _ (by assumption))) HQ8.out).mono ?_); rintro e wa ⟨rfl, hb⟩) | (go_at_call 23; (with_reducible refine (F1 _ (HB6.out.trans ((BE _ (by assumption)).mono hsz6))).mono ?_); rintro e wb ⟨rfl, hb⟩) | (go_at_call 24; (with_reducible refine (F2 _ (HB6.out.trans ((BE _ (by assumption)).mono hsz6))).mono ?_); rintro e wc ⟨rfl, rfl⟩; have hb := Below.refl wb.heap.size wb) | (go_at_call 25; (with_reducible refine (C1 _ (HB6.out.trans ((BE _ (by assumption)).mono hsz6))).mono ?_); rintro e wd ⟨rfl, hb⟩) | (go_at_call 26; (with_reducible refine (C2 _ (HB6.out.trans ((BE _ (by assumption)).mono hsz6))).mono ?_); rintro e we ⟨rfl, hb⟩))))
  all_goals
    rename_i hHeld
    have hBB := BE _ hHeld
    have HB9 := Lib.hid (HB6.out.trans (hBB.mono hsz6))
    have HP9 := Lib.hid (HoldA.on HP6.out hBB)
    have HD9 := Lib.hid (HoldA.on HD6.out hBB)
    obtain ⟨x0, -⟩ := hHeld
    clear hBB hs BE P2 D2 F1 F2 C1 C2 S1 S2 hB
    go_wp2_with (first
      | (go_at_call 23; (with_reducible refine (F3 _ _ HP9.out).mono ?_); rintro e wf ⟨rfl, hb⟩; have HBf := Lib.hid (HB9.out.trans (hb.mono HB9.out.size)); have HDf := Lib.hid (HoldA.on HD9.out hb); clear hb)
      | (go_at_call 23; (with_reducible refine (F4 _ _ HDf.out).mono ?_); rintro e wg ⟨rfl, hb⟩; have HBg := Lib.hid (HBf.out.trans (hb.mono HBf.out.size)); clear hb)
      | (go_at_call 10; (with_reducible refine (AW _ HBg.out).mono ?_); rintro e wh ⟨rfl, hb⟩; have HBh := Lib.hid (HBg.out.trans (hb.mono HBg.out.size)); clear hb))
    go_ret
    exact ⟨rfl, HBh.out⟩
end Go.Proofs.YtnfhccnicojdcaaGreatDoor.altsPutsw
