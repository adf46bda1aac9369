/-
  The walk of OversMetas: for every list, path and meta it returns true; nothing old turns. Condition: LaidO.
-/
import Derived.Test.YtmjfbpiodamamaaGreatDoorOAwake
import Derived.Test.YtmjfbpiodamamaaGreatDoorOFew
import Derived.Test.YtmjfbpiodamamaaGreatDoorOOpen
namespace Go.Proofs.YtmjfbpiodamamaaGreatDoor.oversMetasw
open Go.RowKit
theorem eq_mt (a b c : Int) (W : World) : (binOp .eql 39 (.agg #[.int .i64 a, .int .i64 b, .int .i64 c]) (.agg #[.int .i64 a, .int .i64 b, .int .i64 c])).run Tryz.prog W = .ok (.bool true) W := by
  have hS : Tryz.prog.underlying 39 = some (.struct (Tryz.prog.fieldsOf 39)) := by kernel_rfl
  have hp : Tryz.prog.stoodInHeld 39 = false := by kernel_rfl
  rw [run_eql_struct, show (10000 : Nat) = 9999 + 1 from rfl, run_equalIn_agg W 9999 39 _ _ hS hp]
  simp only [Program.fieldsOf, Tryz.underlying39]
  go_simp
set_option maxRecDepth 100000 in
set_option maxHeartbeats 8000000 in
theorem walk (v : Value) (l : List Ov) (bl : l.length ≤ maxLen) (bs : ∀ x ∈ l, FitO x) (p : ByteArray) (bp : p.size ≤ 9223372036854775807) (d : Mt) (w : World) (h : HoldO w v l) (hL : LaidO w) :
    Calls Tryz.prog 6 #[v, .string p, aggM d] w fun e' w' => e' = .returned (.bool true) ∧ Below w.heap.size w w' := by
  have AW := fun W (hb : Below w.heap.size w W) => awake10 W (hL.on hb).p (hL.on hb).e
  obtain ⟨m, u, g⟩ := d
  have B0 := (Below.refl w.heap.size w).alloc (Nat.le_refl _) (oM m u g)
  have FE := fewO_any v l (w.alloc (oM m u g)) bl (fun x hx => (bs x hx).1) (HoldV.on h B0)
  unfold FewPostO at FE
  have HB0 := Lib.hid B0
  have HH := Lib.hid h
  have hL0 := Lib.hid hL
  have HX0 := Lib.hid (Box3.new w (.int .i64 m) (.int .i64 u) (.int .i64 g) 39)
  obtain ⟨r0, r1, r2, -⟩ := HX0.out
  obtain ⟨a, c, b, o, rfl, -, -, -⟩ := h.parts
  unfold aggM
  dsimp only
  clear h hL bl bs B0
  have EQ := fun a b c W => eq_mt a b c W
  by_cases hf : FewO l
  case neg =>
    rw [fewO_no hf] at FE
    clear hf
    generalize l.length = n at *
    go_enter Tryz.func6, Tryz.ntmps6
    go_wp2_with (first
          | (go_at_call 7; refine FE.mono ?_; rintro e w1 ⟨rfl, rfl⟩)
          | (go_at_call 8; refine (AW _ HB0.out).mono ?_; rintro e w2 ⟨rfl, hb⟩; have HB9 := Lib.hid (HB0.out.trans (hb.mono HB0.out.size)); clear hb))
    go_ret
    exact ⟨rfl, HB9.out⟩
  rw [fewO_yes hf] at FE
  have hln := hf.1
  by_cases hp3 : 300 < p.size
  · clear hf
    generalize l.length = n at *
    go_enter Tryz.func6, Tryz.ntmps6
    go_wp2_with (first
          | (go_at_call 7; refine FE.mono ?_; rintro e w1 ⟨rfl, rfl⟩)
          | (go_at_call 8; refine (AW _ HB0.out).mono ?_; rintro e w2 ⟨rfl, hb⟩; have HB9 := Lib.hid (HB0.out.trans (hb.mono HB0.out.size)); clear hb))
    go_ret
    exact ⟨rfl, HB9.out⟩
  obtain ⟨⟨m', u', g'⟩, hm⟩ : ∃ d', metaO l p.data.toList (m, u, g) = d' := ⟨_, rfl⟩
  have M1 := fun W (hb : Below w.heap.size w W) => metaO_any _ l (by omega) p (m, u, g) W (HoldV.on HH.out hb)
  have M2 := fun W (hb : Below w.heap.size w W) => metaO_ref _ l (by omega) p (m, u, g) W (HoldV.on HH.out hb)
  unfold MetaP at M1 M2
  rw [hm] at M1 M2
  unfold aggM at M1 M2
  dsimp only at M1 M2
  clear hf hm
  have hs := And.intro r0 (And.intro r1 (And.intro r2 (Below.refl (w.alloc (oM m u g)).heap.size (w.alloc (oM m u g)))))
  generalize l.length = n at *
  go_enter Tryz.func6, Tryz.ntmps6
  go_wp2_with (go_at_call 7; refine FE.mono ?_; rintro e w1 ⟨rfl, rfl⟩)
  generalize hW1 : w.alloc (oM m u g) = W1 at *
  obtain ⟨x0, x1, x2, hB⟩ := hs
  have hs := And.intro x0 (And.intro x1 (And.intro x2 hB))
  clear r0 r1 r2
  have BE := fun (V : World) (h : V.cell? ⟨w.heap.size, 0, none⟩ = some (.int .i64 m) ∧ V.cell? ⟨w.heap.size, 1, none⟩ = some (.int .i64 u) ∧ V.cell? ⟨w.heap.size, 2, none⟩ = some (.int .i64 g) ∧ Below W1.heap.size W1 V) => AtF.be (w := W1) (l := [(⟨w.heap.size, 0, none⟩, .int .i64 m), (⟨w.heap.size, 1, none⟩, .int .i64 u), (⟨w.heap.size, 2, none⟩, .int .i64 g)]) h
  refine wp_region_held_drew (S := (fun V => V.cell? ⟨w.heap.size, 0, none⟩ = some (.int .i64 m) ∧ V.cell? ⟨w.heap.size, 1, none⟩ = some (.int .i64 u) ∧ V.cell? ⟨w.heap.size, 2, none⟩ = some (.int .i64 g) ∧ Below W1.heap.size W1 V)) (by kernel_rfl) ?_ (fun hHeld => ?_)
  · (try dsimp only); (first | assumption | exact hs | exact AtF.dr (w := W1) (l := [(⟨w.heap.size, 0, none⟩, .int .i64 m), (⟨w.heap.size, 1, none⟩, .int .i64 u), (⟨w.heap.size, 2, none⟩, .int .i64 g)]) hs | exact AtF.dr (w := W1) (l := [(⟨w.heap.size, 0, none⟩, .int .i64 m), (⟨w.heap.size, 1, none⟩, .int .i64 u), (⟨w.heap.size, 2, none⟩, .int .i64 g)]) (by assumption) | exact AtF.on (w := W1) (l := [(⟨w.heap.size, 0, none⟩, .int .i64 m), (⟨w.heap.size, 1, none⟩, .int .i64 u), (⟨w.heap.size, 2, none⟩, .int .i64 g)]) (by assumption) (by assumption) | exact AtF.al (w := W1) (l := [(⟨w.heap.size, 0, none⟩, .int .i64 m), (⟨w.heap.size, 1, none⟩, .int .i64 u), (⟨w.heap.size, 2, none⟩, .int .i64 g)]) (by assumption) _ | exact AtF.ald (w := W1) (l := [(⟨w.heap.size, 0, none⟩, .int .i64 m), (⟨w.heap.size, 1, none⟩, .int .i64 u), (⟨w.heap.size, 2, none⟩, .int .i64 g)]) (by assumption) _ | exact AtF.al (w := W1) (l := [(⟨w.heap.size, 0, none⟩, .int .i64 m), (⟨w.heap.size, 1, none⟩, .int .i64 u), (⟨w.heap.size, 2, none⟩, .int .i64 g)]) hs _ | exact AtF.ald (w := W1) (l := [(⟨w.heap.size, 0, none⟩, .int .i64 m), (⟨w.heap.size, 1, none⟩, .int .i64 u), (⟨w.heap.size, 2, none⟩, .int .i64 g)]) hs _)
  refine heldY 0 16 ?_ _ rfl rfl (by kernel_rfl) (by kernel_rfl) (by kernel_rfl) (fun _ _ _ h => h) rfl (by assumption) ?_ ?_
  rotate_left
  · (intro w hSw; (try dsimp only at hSw); go_simp; (try with_reducible rfl))
  simp only [List.setIfInBounds_toArray, List.set_cons_zero, List.set_cons_succ]
  refine heldY 1 17 ?_ _ rfl rfl (by kernel_rfl) (by kernel_rfl) (by kernel_rfl) (fun _ _ _ h => h) rfl (by assumption) ?_ ?_
  rotate_left
  · (intro w hSw; (try dsimp only at hSw); go_simp; (try with_reducible rfl))
  simp only [List.setIfInBounds_toArray, List.set_cons_zero, List.set_cons_succ]
  refine heldY 2 18 ?_ _ rfl rfl (by kernel_rfl) (by kernel_rfl) (by kernel_rfl) (fun _ _ _ h => h) rfl (by assumption) ?_ ?_
  rotate_left
  · (intro w hSw; (try dsimp only at hSw); go_simp; (try with_reducible rfl))
  simp only [List.setIfInBounds_toArray, List.set_cons_zero, List.set_cons_succ]
  refine heldY 4 20 ?_ _ rfl rfl (by kernel_rfl) (by kernel_rfl) (by kernel_rfl) (fun _ _ _ h => h) rfl (by assumption) ?_ ?_
  rotate_left
  · (intro w hSw; (try dsimp only at hSw); go_simp; (try with_reducible rfl))
  simp only [List.setIfInBounds_toArray, List.set_cons_zero, List.set_cons_succ]
  refine heldY 5 21 ?_ _ rfl rfl (by kernel_rfl) (by kernel_rfl) (by kernel_rfl) (fun _ _ _ h => h) rfl (by assumption) ?_ ?_
  rotate_left
  · (intro w hSw; (try dsimp only at hSw); go_simp; (try with_reducible rfl))
  simp only [List.setIfInBounds_toArray, List.set_cons_zero, List.set_cons_succ]
  refine heldY 6 22 ?_ _ rfl rfl (by kernel_rfl) (by kernel_rfl) (by kernel_rfl) (fun _ _ _ h => h) rfl (by assumption) ?_ ?_
  rotate_left
  · (intro w hSw; (try dsimp only at hSw); go_simp; (try with_reducible rfl))
  simp only [List.setIfInBounds_toArray, List.set_cons_zero, List.set_cons_succ]
  refine wpAnyH_ready (rs := [3]) (by kernel_rfl) (by simp) ?_
  refine AllReadyH.cons rfl (fun K hK => ?_) AllReadyH.nil
  go_simp
  first | (go_at_call 24; (with_reducible refine (M1 _ (HB0.out.trans ((BE _ (by assumption)).mono HB0.out.size))).mono ?_); rintro e w3 ⟨rfl, hb⟩) | (go_at_call 25; (with_reducible refine (M2 _ (HB0.out.trans ((BE _ (by assumption)).mono HB0.out.size))).mono ?_); rintro e w3 ⟨rfl, hb⟩) | (go_at_call 8; (with_reducible refine (AW _ (HB0.out.trans ((BE _ (by assumption)).mono HB0.out.size))).mono ?_); rintro e w3 ⟨rfl, hb⟩)
  refine hK.out _ _ ?_ (fun hHeld => ?_)
  · (try dsimp only); (first | assumption | exact hs | exact AtF.dr (w := W1) (l := [(⟨w.heap.size, 0, none⟩, .int .i64 m), (⟨w.heap.size, 1, none⟩, .int .i64 u), (⟨w.heap.size, 2, none⟩, .int .i64 g)]) hs | exact AtF.dr (w := W1) (l := [(⟨w.heap.size, 0, none⟩, .int .i64 m), (⟨w.heap.size, 1, none⟩, .int .i64 u), (⟨w.heap.size, 2, none⟩, .int .i64 g)]) (by assumption) | exact AtF.on (w := W1) (l := [(⟨w.heap.size, 0, none⟩, .int .i64 m), (⟨w.heap.size, 1, none⟩, .int .i64 u), (⟨w.heap.size, 2, none⟩, .int .i64 g)]) (by assumption) (by assumption) | exact AtF.al (w := W1) (l := [(⟨w.heap.size, 0, none⟩, .int .i64 m), (⟨w.heap.size, 1, none⟩, .int .i64 u), (⟨w.heap.size, 2, none⟩, .int .i64 g)]) (by assumption) _ | exact AtF.ald (w := W1) (l := [(⟨w.heap.size, 0, none⟩, .int .i64 m), (⟨w.heap.size, 1, none⟩, .int .i64 u), (⟨w.heap.size, 2, none⟩, .int .i64 g)]) (by assumption) _ | exact AtF.al (w := W1) (l := [(⟨w.heap.size, 0, none⟩, .int .i64 m), (⟨w.heap.size, 1, none⟩, .int .i64 u), (⟨w.heap.size, 2, none⟩, .int .i64 g)]) hs _ | exact AtF.ald (w := W1) (l := [(⟨w.heap.size, 0, none⟩, .int .i64 m), (⟨w.heap.size, 1, none⟩, .int .i64 u), (⟨w.heap.size, 2, none⟩, .int .i64 g)]) hs _)
  clear hK K
  try simp only [Act.put, List.setIfInBounds_toArray, List.set_cons_zero, List.set_cons_succ]
  refine wpAnyH_ready (rs := [7]) (by kernel_rfl) (by simp) ?_
  refine AllReadyH.cons rfl (fun K hK => ?_) AllReadyH.nil
  go_simp
  first | (go_at_call 24; (with_reducible refine (M1 _ (HB0.out.trans ((BE _ (by assumption)).mono HB0.out.size))).mono ?_); rintro e w3 ⟨rfl, hb⟩) | (go_at_call 25; (with_reducible refine (M2 _ (HB0.out.trans ((BE _ (by assumption)).mono HB0.out.size))).mono ?_); rintro e w3 ⟨rfl, hb⟩) | (go_at_call 8; (with_reducible refine (AW _ (HB0.out.trans ((BE _ (by assumption)).mono HB0.out.size))).mono ?_); rintro e w3 ⟨rfl, hb⟩)
  refine hK.out _ _ ?_ (fun hHeld => ?_)
  · (try dsimp only); (first | assumption | exact hs | exact AtF.dr (w := W1) (l := [(⟨w.heap.size, 0, none⟩, .int .i64 m), (⟨w.heap.size, 1, none⟩, .int .i64 u), (⟨w.heap.size, 2, none⟩, .int .i64 g)]) hs | exact AtF.dr (w := W1) (l := [(⟨w.heap.size, 0, none⟩, .int .i64 m), (⟨w.heap.size, 1, none⟩, .int .i64 u), (⟨w.heap.size, 2, none⟩, .int .i64 g)]) (by assumption) | exact AtF.on (w := W1) (l := [(⟨w.heap.size, 0, none⟩, .int .i64 m), (⟨w.heap.size, 1, none⟩, .int .i64 u), (⟨w.heap.size, 2, none⟩, .int .i64 g)]) (by assumption) (by assumption) | exact AtF.al (w := W1) (l := [(⟨w.heap.size, 0, none⟩, .int .i64 m), (⟨w.heap.size, 1, none⟩, .int .i64 u), (⟨w.heap.size, 2, none⟩, .int .i64 g)]) (by assumption) _ | exact AtF.ald (w := W1) (l := [(⟨w.heap.size, 0, none⟩, .int .i64 m), (⟨w.heap.size, 1, none⟩, .int .i64 u), (⟨w.heap.size, 2, none⟩, .int .i64 g)]) (by assumption) _ | exact AtF.al (w := W1) (l := [(⟨w.heap.size, 0, none⟩, .int .i64 m), (⟨w.heap.size, 1, none⟩, .int .i64 u), (⟨w.heap.size, 2, none⟩, .int .i64 g)]) hs _ | exact AtF.ald (w := W1) (l := [(⟨w.heap.size, 0, none⟩, .int .i64 m), (⟨w.heap.size, 1, none⟩, .int .i64 u), (⟨w.heap.size, 2, none⟩, .int .i64 g)]) hs _)
  clear hK K
  try simp only [Act.put, List.setIfInBounds_toArray, List.set_cons_zero, List.set_cons_succ]
  refine heldY 8 24 ?_ _ rfl rfl (by kernel_rfl) (by kernel_rfl) (by kernel_rfl) (fun _ _ _ h => h) rfl (by assumption) ?_ ?_
  rotate_left
  · (intro w hSw; (try dsimp only at hSw); go_simp; (try with_reducible rfl))
  simp only [List.setIfInBounds_toArray, List.set_cons_zero, List.set_cons_succ]
  refine heldY 9 25 ?_ _ rfl rfl (by kernel_rfl) (by kernel_rfl) (by kernel_rfl) (fun _ _ _ h => h) rfl (by assumption) ?_ ?_
  rotate_left
  · (intro w hSw; (try dsimp only at hSw); go_simp; (try with_reducible rfl))
  simp only [List.setIfInBounds_toArray, List.set_cons_zero, List.set_cons_succ]
  refine wpAnyH_ready (rs := [10]) (by kernel_rfl) (by simp) ?_
  refine AllReadyH.cons rfl (fun K hK => ?_) AllReadyH.nil
  go_simp
  first | (go_at_call 24; (with_reducible refine (M1 _ (HB0.out.trans ((BE _ (by assumption)).mono HB0.out.size))).mono ?_); rintro e w3 ⟨rfl, hb⟩) | (go_at_call 25; (with_reducible refine (M2 _ (HB0.out.trans ((BE _ (by assumption)).mono HB0.out.size))).mono ?_); rintro e w3 ⟨rfl, hb⟩) | (go_at_call 8; (with_reducible refine (AW _ (HB0.out.trans ((BE _ (by assumption)).mono HB0.out.size))).mono ?_); rintro e w3 ⟨rfl, hb⟩)
  refine hK.out _ _ ?_ (fun hHeld => ?_)
  · (try dsimp only); (first | assumption | exact hs | exact AtF.dr (w := W1) (l := [(⟨w.heap.size, 0, none⟩, .int .i64 m), (⟨w.heap.size, 1, none⟩, .int .i64 u), (⟨w.heap.size, 2, none⟩, .int .i64 g)]) hs | exact AtF.dr (w := W1) (l := [(⟨w.heap.size, 0, none⟩, .int .i64 m), (⟨w.heap.size, 1, none⟩, .int .i64 u), (⟨w.heap.size, 2, none⟩, .int .i64 g)]) (by assumption) | exact AtF.on (w := W1) (l := [(⟨w.heap.size, 0, none⟩, .int .i64 m), (⟨w.heap.size, 1, none⟩, .int .i64 u), (⟨w.heap.size, 2, none⟩, .int .i64 g)]) (by assumption) (by assumption) | exact AtF.al (w := W1) (l := [(⟨w.heap.size, 0, none⟩, .int .i64 m), (⟨w.heap.size, 1, none⟩, .int .i64 u), (⟨w.heap.size, 2, none⟩, .int .i64 g)]) (by assumption) _ | exact AtF.ald (w := W1) (l := [(⟨w.heap.size, 0, none⟩, .int .i64 m), (⟨w.heap.size, 1, none⟩, .int .i64 u), (⟨w.heap.size, 2, none⟩, .int .i64 g)]) (by assumption) _ | exact AtF.al (w := W1) (l := [(⟨w.heap.size, 0, none⟩, .int .i64 m), (⟨w.heap.size, 1, none⟩, .int .i64 u), (⟨w.heap.size, 2, none⟩, .int .i64 g)]) hs _ | exact AtF.ald (w := W1) (l := [(⟨w.heap.size, 0, none⟩, .int .i64 m), (⟨w.heap.size, 1, none⟩, .int .i64 u), (⟨w.heap.size, 2, none⟩, .int .i64 g)]) hs _)
  clear hK K
  try simp only [Act.put, List.setIfInBounds_toArray, List.set_cons_zero, List.set_cons_succ]
  refine heldY 11 27 ?_ _ rfl rfl (by kernel_rfl) (by kernel_rfl) (by kernel_rfl) (fun _ _ _ h => h) rfl (by assumption) ?_ ?_
  rotate_left
  · (intro w hSw; (try dsimp only at hSw); go_simp; (try with_reducible rfl))
  simp only [List.setIfInBounds_toArray, List.set_cons_zero, List.set_cons_succ]
  refine heldY 12 6 ?_ _ rfl rfl (by kernel_rfl) (by kernel_rfl) (by kernel_rfl) (fun _ _ _ h => h) rfl (by assumption) ?_ ?_
  rotate_left
  · (intro w hSw; (try dsimp only at hSw); go_simp; (try with_reducible rfl))
  simp only [List.setIfInBounds_toArray, List.set_cons_zero, List.set_cons_succ]
  refine wpAnyH_done (by kernel_rfl) ?_ _
  have HB9 := Lib.hid (HB0.out.trans ((BE _ hHeld).mono HB0.out.size))
  clear hHeld
  go_wp2
  go_ret
  exact ⟨rfl, HB9.out⟩
end Go.Proofs.YtmjfbpiodamamaaGreatDoor.oversMetasw
