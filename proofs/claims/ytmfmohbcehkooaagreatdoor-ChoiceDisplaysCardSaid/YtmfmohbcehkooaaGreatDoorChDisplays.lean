/-
  The walk of ChoiceDisplays: for every alternative it returns true; nothing old turns. Condition: LaidZ. ChoiceDisplays: for every argument the law returns true and leaves its arguments as they were. Condition: the listed package-level variables start as the program's text lays them (the card ties them).
-/
import Derived.Test.YtmfmohbcehkooaaGreatDoorZRefDisp
import Derived.Test.YtmfmohbcehkooaaGreatDoorZFew
import Derived.Test.YtmfmohbcehkooaaGreatDoorYFew
import Derived.Test.YtmfmohbcehkooaaGreatDoorZOpen2
namespace Go.Proofs.YtmfmohbcehkooaaGreatDoor.choiceDisplaysw
open Go.RowKit
theorem holdA_one (W : World) (x : Av) (h : InA W x) : HoldA (W.alloc (.cells #[.string (⟨x.nm.toArray⟩ : ByteArray), .string (⟨x.lk.toArray⟩ : ByteArray), .bool x.mn, .string (⟨x.cr.toArray⟩ : ByteArray), x.sv, x.cv] 25)) (.slice (some ⟨W.heap.size, 0, none⟩) 1 1) [x] := by
  obtain ⟨x0, x1, x2, x3, x4, x5⟩ := boxV6 W (.string (⟨x.nm.toArray⟩ : ByteArray)) (.string (⟨x.lk.toArray⟩ : ByteArray)) (.bool x.mn) (.string (⟨x.cr.toArray⟩ : ByteArray)) x.sv x.cv 25
  refine ⟨⟨some ⟨W.heap.size, 0, none⟩, 1, W.heap.size, 0, rfl, Nat.le_refl _, fun _ => ⟨rfl, by simp⟩, fun j r hj i y hi hy => ?_⟩, fun y hy => ?_⟩
  · match j, hj with
    | 0, hj =>
      simp at hj; subst hj
      match i, hi, hy with
      | 0, _, hy => cases hy; exact x0
      | 1, _, hy => cases hy; exact x1
      | 2, _, hy => cases hy; exact x2
      | 3, _, hy => cases hy; exact x3
      | 4, _, hy => cases hy; exact x4
      | 5, _, hy => cases hy; exact x5
    | j + 1, hj => simp at hj
  · simp at hy; subst hy
    exact h.on ((Below.refl _ _).alloc (Nat.le_refl _) _)
set_option maxRecDepth 100000 in
set_option maxHeartbeats 16000000 in
theorem walk (x : Av) (hfit : FitA x) (w : World) (hL : LaidZ w) (h : InA w x) : Calls Tryz.prog 3 #[agZA x] w fun e w' => e = .returned (.bool true) ∧ Below w.heap.size w w' := by
  have B1 := (Below.refl w.heap.size w).alloc (Nat.le_refl _) (.cells #[.string (⟨x.nm.toArray⟩ : ByteArray), .string (⟨x.lk.toArray⟩ : ByteArray), .bool x.mn, .string (⟨x.cr.toArray⟩ : ByteArray), x.sv, x.cv] 25)
  have B2 := B1.alloc B1.size (.cells #[.string (⟨x.nm.toArray⟩ : ByteArray), .string (⟨x.lk.toArray⟩ : ByteArray), .bool x.mn, .string (⟨x.cr.toArray⟩ : ByteArray), x.sv, x.cv] 25)
  obtain ⟨x0, x1, x2, x3, x4, x5⟩ := boxV6 w (.string (⟨x.nm.toArray⟩ : ByteArray)) (.string (⟨x.lk.toArray⟩ : ByteArray)) (.bool x.mn) (.string (⟨x.cr.toArray⟩ : ByteArray)) x.sv x.cv 25
  have FW := fewA_any _ [x] (by simp [maxLen]) (fun y hy => by simp at hy; subst hy; exact hfit) _ (holdA_one _ x (h.on B1))
  rw [World.size_alloc] at FW
  unfold FewAP at FW
  have AW := fun W (hb : Below w.heap.size w W) => awake30 W (hL.p.on hb)
  have DA := fun (hf : FewOne x) W (hb : Below w.heap.size w W) => disp_any x hf W (hL.on hb) (h.on hb)
  have DR := fun (hf : FewOne x) W (hb : Below w.heap.size w W) => disp_ref x hf W (h.on hb)
  obtain ⟨sa, sc, ca, cc, hsh⟩ := h.sh
  have e1 := eqT (bsT (displayZ x)) (bsT (displayZ x))
  rw [decide_eq_true rfl] at e1
  generalize bsT (displayZ x) = S at *
  have HFO : Hid (FewA [x] → FewOne x) := Lib.hid (fun g => g.2 x (by simp))
  unfold agZA at DA DR ⊢
  rw [hsh.s, hsh.c] at B1 B2 x0 x1 x2 x3 x4 x5 FW DA DR ⊢
  generalize (⟨x.nm.toArray⟩ : ByteArray) = X0 at *
  generalize (⟨x.lk.toArray⟩ : ByteArray) = X1 at *
  generalize (⟨x.cr.toArray⟩ : ByteArray) = X3 at *
  generalize x.mn = mn at *
  generalize x.sl.length = sn at *
  generalize x.ch.length = cn at *
  have HB2 := Lib.hid B2
  have l0 := World.block_lt_of_cell? _ _ x0
  have HY : Hid (∀ i, i < 6 → True) := Lib.hid (fun _ _ => trivial)
  have hB12 := (Below.refl (w.alloc (.cells #[.string X0, .string X1, .bool mn, .string X3, .slice sa sn sc, .slice ca cn cc] 25)).heap.size (w.alloc (.cells #[.string X0, .string X1, .bool mn, .string X3, .slice sa sn sc, .slice ca cn cc] 25))).alloc (Nat.le_refl _) (.cells #[.string X0, .string X1, .bool mn, .string X3, .slice sa sn sc, .slice ca cn cc] 25)
  have y0 := (hB12.cell (p := ⟨w.heap.size, 0, none⟩) l0).trans x0
  have y1 := (hB12.cell (p := ⟨w.heap.size, 1, none⟩) l0).trans x1
  have y2 := (hB12.cell (p := ⟨w.heap.size, 2, none⟩) l0).trans x2
  have y3 := (hB12.cell (p := ⟨w.heap.size, 3, none⟩) l0).trans x3
  have y4 := (hB12.cell (p := ⟨w.heap.size, 4, none⟩) l0).trans x4
  have y5 := (hB12.cell (p := ⟨w.heap.size, 5, none⟩) l0).trans x5
  have l2 := World.block_lt_of_cell? _ _ y0
  have HS := Lib.hid (And.intro y0 (And.intro y1 (And.intro y2 (And.intro y3 (And.intro y4 y5)))))
  clear hsh hfit h hL B1 B2 x0 x1 x2 x3 x4 x5 hB12 l0 y0 y1 y2 y3 y4 y5 HY
  go_enter Tryz.func3, Tryz.ntmps3
  go_wp2_with (go_at_call 7; (with_reducible refine FW.mono ?_); rintro e w3 ⟨fb, rfl, hfb, hb⟩; have HF3 := Lib.hid hfb; have HBX := Lib.hid hb; have HB3 := Lib.hid (HB2.out.trans (hb.mono HB2.out.size)); clear hb hfb; refine Hid.out ?_)
  obtain ⟨y0, y1, y2, y3, y4, y5⟩ := HS.out
  have z0 := (HBX.out.cell (p := ⟨w.heap.size, 0, none⟩) l2).trans y0
  have z1 := (HBX.out.cell (p := ⟨w.heap.size, 1, none⟩) l2).trans y1
  have z2 := (HBX.out.cell (p := ⟨w.heap.size, 2, none⟩) l2).trans y2
  have z3 := (HBX.out.cell (p := ⟨w.heap.size, 3, none⟩) l2).trans y3
  have z4 := (HBX.out.cell (p := ⟨w.heap.size, 4, none⟩) l2).trans y4
  have z5 := (HBX.out.cell (p := ⟨w.heap.size, 5, none⟩) l2).trans y5
  clear y0 y1 y2 y3 y4 y5 HS HBX l2 FW HB2
  refine Lib.hid ?_
  cases fb
  · go_wp2_with (go_at_call 8; (with_reducible refine (AW _ HB3.out).mono ?_); rintro e w4 ⟨rfl, hb⟩; have HB4 := Lib.hid (HB3.out.trans (hb.mono HB3.out.size)); clear hb)
    go_ret
    exact ⟨rfl, HB4.out⟩
  · have DA1 := DA (HFO.out (HF3.out rfl))
    have DR1 := DR (HFO.out (HF3.out rfl))
    clear DA DR HFO HF3
    have hs := And.intro z0 (And.intro z1 (And.intro z2 (And.intro z3 (And.intro z4 (And.intro z5 HB3.out)))))
    clear z0 z1 z2 z3 z4 z5
    go_wp2
    have BE := fun (V : World) (h : V.cell? ⟨w.heap.size, 0, none⟩ = some (.string X0) ∧ V.cell? ⟨w.heap.size, 1, none⟩ = some (.string X1) ∧ V.cell? ⟨w.heap.size, 2, none⟩ = some (.bool mn) ∧ V.cell? ⟨w.heap.size, 3, none⟩ = some (.string X3) ∧ V.cell? ⟨w.heap.size, 4, none⟩ = some (.slice sa sn sc) ∧ V.cell? ⟨w.heap.size, 5, none⟩ = some (.slice ca cn cc) ∧ Below w.heap.size w V) => AtF.be (w := w) (l := [(⟨w.heap.size, 0, none⟩, .string X0), (⟨w.heap.size, 1, none⟩, .string X1), (⟨w.heap.size, 2, none⟩, .bool mn), (⟨w.heap.size, 3, none⟩, .string X3), (⟨w.heap.size, 4, none⟩, .slice sa sn sc), (⟨w.heap.size, 5, none⟩, .slice ca cn cc)]) h
    refine wp_region_held_drew (S := (fun V => V.cell? ⟨w.heap.size, 0, none⟩ = some (.string X0) ∧ V.cell? ⟨w.heap.size, 1, none⟩ = some (.string X1) ∧ V.cell? ⟨w.heap.size, 2, none⟩ = some (.bool mn) ∧ V.cell? ⟨w.heap.size, 3, none⟩ = some (.string X3) ∧ V.cell? ⟨w.heap.size, 4, none⟩ = some (.slice sa sn sc) ∧ V.cell? ⟨w.heap.size, 5, none⟩ = some (.slice ca cn cc) ∧ Below w.heap.size w V)) (by kernel_rfl) ?_ (fun hHeld => ?_)
    · (try dsimp only); (first | assumption | exact hs | exact AtF.dr (w := w) (l := [(⟨w.heap.size, 0, none⟩, .string X0), (⟨w.heap.size, 1, none⟩, .string X1), (⟨w.heap.size, 2, none⟩, .bool mn), (⟨w.heap.size, 3, none⟩, .string X3), (⟨w.heap.size, 4, none⟩, .slice sa sn sc), (⟨w.heap.size, 5, none⟩, .slice ca cn cc)]) hs | exact AtF.dr (w := w) (l := [(⟨w.heap.size, 0, none⟩, .string X0), (⟨w.heap.size, 1, none⟩, .string X1), (⟨w.heap.size, 2, none⟩, .bool mn), (⟨w.heap.size, 3, none⟩, .string X3), (⟨w.heap.size, 4, none⟩, .slice sa sn sc), (⟨w.heap.size, 5, none⟩, .slice ca cn cc)]) (by assumption) | exact AtF.on (w := w) (l := [(⟨w.heap.size, 0, none⟩, .string X0), (⟨w.heap.size, 1, none⟩, .string X1), (⟨w.heap.size, 2, none⟩, .bool mn), (⟨w.heap.size, 3, none⟩, .string X3), (⟨w.heap.size, 4, none⟩, .slice sa sn sc), (⟨w.heap.size, 5, none⟩, .slice ca cn cc)]) (by assumption) (by assumption) | exact AtF.al (w := w) (l := [(⟨w.heap.size, 0, none⟩, .string X0), (⟨w.heap.size, 1, none⟩, .string X1), (⟨w.heap.size, 2, none⟩, .bool mn), (⟨w.heap.size, 3, none⟩, .string X3), (⟨w.heap.size, 4, none⟩, .slice sa sn sc), (⟨w.heap.size, 5, none⟩, .slice ca cn cc)]) (by assumption) _ | exact AtF.ald (w := w) (l := [(⟨w.heap.size, 0, none⟩, .string X0), (⟨w.heap.size, 1, none⟩, .string X1), (⟨w.heap.size, 2, none⟩, .bool mn), (⟨w.heap.size, 3, none⟩, .string X3), (⟨w.heap.size, 4, none⟩, .slice sa sn sc), (⟨w.heap.size, 5, none⟩, .slice ca cn cc)]) (by assumption) _ | exact AtF.al (w := w) (l := [(⟨w.heap.size, 0, none⟩, .string X0), (⟨w.heap.size, 1, none⟩, .string X1), (⟨w.heap.size, 2, none⟩, .bool mn), (⟨w.heap.size, 3, none⟩, .string X3), (⟨w.heap.size, 4, none⟩, .slice sa sn sc), (⟨w.heap.size, 5, none⟩, .slice ca cn cc)]) hs _ | exact AtF.ald (w := w) (l := [(⟨w.heap.size, 0, none⟩, .string X0), (⟨w.heap.size, 1, none⟩, .string X1), (⟨w.heap.size, 2, none⟩, .bool mn), (⟨w.heap.size, 3, none⟩, .string X3), (⟨w.heap.size, 4, none⟩, .slice sa sn sc), (⟨w.heap.size, 5, none⟩, .slice ca cn cc)]) hs _)
    refine heldY 0 8 ?_ _ rfl rfl (by kernel_rfl) (by kernel_rfl) (by kernel_rfl) (fun _ _ _ h => h) rfl (by assumption) ?_ ?_
    rotate_left
    · (intro w hSw; (try dsimp only at hSw); go_simp; (try with_reducible rfl))
    simp only [List.setIfInBounds_toArray, List.set_cons_zero, List.set_cons_succ]
    refine heldY 2 10 ?_ _ rfl rfl (by kernel_rfl) (by kernel_rfl) (by kernel_rfl) (fun _ _ _ h => h) rfl (by assumption) ?_ ?_
    rotate_left
    · (intro w hSw; (try dsimp only at hSw); go_simp; (try with_reducible rfl))
    simp only [List.setIfInBounds_toArray, List.set_cons_zero, List.set_cons_succ]
    refine wpAnyH_ready (rs := [1]) (by kernel_rfl) (by simp) ?_
    refine AllReadyH.cons rfl (fun K hK => ?_) AllReadyH.nil
    go_simp
    first | (go_at_call 9; (with_reducible refine (DA1 _ (BE _ (by assumption))).mono ?_); rintro e w5 ⟨rfl, hb⟩) | (go_at_call 10; (with_reducible refine (DR1 _ (BE _ (by assumption))).mono ?_); rintro e w6 ⟨rfl, hb⟩) | (go_at_call 8; (with_reducible refine (AW _ (BE _ (by assumption))).mono ?_); rintro e w7 ⟨rfl, hb⟩)
    refine hK.out _ _ ?_ (fun hHeld => ?_)
    · (try dsimp only); (first | assumption | exact hs | exact AtF.dr (w := w) (l := [(⟨w.heap.size, 0, none⟩, .string X0), (⟨w.heap.size, 1, none⟩, .string X1), (⟨w.heap.size, 2, none⟩, .bool mn), (⟨w.heap.size, 3, none⟩, .string X3), (⟨w.heap.size, 4, none⟩, .slice sa sn sc), (⟨w.heap.size, 5, none⟩, .slice ca cn cc)]) hs | exact AtF.dr (w := w) (l := [(⟨w.heap.size, 0, none⟩, .string X0), (⟨w.heap.size, 1, none⟩, .string X1), (⟨w.heap.size, 2, none⟩, .bool mn), (⟨w.heap.size, 3, none⟩, .string X3), (⟨w.heap.size, 4, none⟩, .slice sa sn sc), (⟨w.heap.size, 5, none⟩, .slice ca cn cc)]) (by assumption) | exact AtF.on (w := w) (l := [(⟨w.heap.size, 0, none⟩, .string X0), (⟨w.heap.size, 1, none⟩, .string X1), (⟨w.heap.size, 2, none⟩, .bool mn), (⟨w.heap.size, 3, none⟩, .string X3), (⟨w.heap.size, 4, none⟩, .slice sa sn sc), (⟨w.heap.size, 5, none⟩, .slice ca cn cc)]) (by assumption) (by assumption) | exact AtF.al (w := w) (l := [(⟨w.heap.size, 0, none⟩, .string X0), (⟨w.heap.size, 1, none⟩, .string X1), (⟨w.heap.size, 2, none⟩, .bool mn), (⟨w.heap.size, 3, none⟩, .string X3), (⟨w.heap.size, 4, none⟩, .slice sa sn sc), (⟨w.heap.size, 5, none⟩, .slice ca cn cc)]) (by assumption) _ | exact AtF.ald (w := w) (l := [(⟨w.heap.size, 0, none⟩, .string X0), (⟨w.heap.size, 1, none⟩, .string X1), (⟨w.heap.size, 2, none⟩, .bool mn), (⟨w.heap.size, 3, none⟩, .string X3), (⟨w.heap.size, 4, none⟩, .slice sa sn sc), (⟨w.heap.size, 5, none⟩, .slice ca cn cc)]) (by assumption) _ | exact AtF.al (w := w) (l := [(⟨w.heap.size, 0, none⟩, .string X0), (⟨w.heap.size, 1, none⟩, .string X1), (⟨w.heap.size, 2, none⟩, .bool mn), (⟨w.heap.size, 3, none⟩, .string X3), (⟨w.heap.size, 4, none⟩, .slice sa sn sc), (⟨w.heap.size, 5, none⟩, .slice ca cn cc)]) hs _ | exact AtF.ald (w := w) (l := [(⟨w.heap.size, 0, none⟩, .string X0), (⟨w.heap.size, 1, none⟩, .string X1), (⟨w.heap.size, 2, none⟩, .bool mn), (⟨w.heap.size, 3, none⟩, .string X3), (⟨w.heap.size, 4, none⟩, .slice sa sn sc), (⟨w.heap.size, 5, none⟩, .slice ca cn cc)]) hs _)
    clear hK K
    try simp only [Act.put, List.setIfInBounds_toArray, List.set_cons_zero, List.set_cons_succ]
    refine wpAnyH_ready (rs := [3]) (by kernel_rfl) (by simp) ?_
    refine AllReadyH.cons rfl (fun K hK => ?_) AllReadyH.nil
    go_simp
    first | (go_at_call 9; (with_reducible refine (DA1 _ (BE _ (by assumption))).mono ?_); rintro e w5 ⟨rfl, hb⟩) | (go_at_call 10; (with_reducible refine (DR1 _ (BE _ (by assumption))).mono ?_); rintro e w6 ⟨rfl, hb⟩) | (go_at_call 8; (with_reducible refine (AW _ (BE _ (by assumption))).mono ?_); rintro e w7 ⟨rfl, hb⟩)
    refine hK.out _ _ ?_ (fun hHeld => ?_)
    · (try dsimp only); (first | assumption | exact hs | exact AtF.dr (w := w) (l := [(⟨w.heap.size, 0, none⟩, .string X0), (⟨w.heap.size, 1, none⟩, .string X1), (⟨w.heap.size, 2, none⟩, .bool mn), (⟨w.heap.size, 3, none⟩, .string X3), (⟨w.heap.size, 4, none⟩, .slice sa sn sc), (⟨w.heap.size, 5, none⟩, .slice ca cn cc)]) hs | exact AtF.dr (w := w) (l := [(⟨w.heap.size, 0, none⟩, .string X0), (⟨w.heap.size, 1, none⟩, .string X1), (⟨w.heap.size, 2, none⟩, .bool mn), (⟨w.heap.size, 3, none⟩, .string X3), (⟨w.heap.size, 4, none⟩, .slice sa sn sc), (⟨w.heap.size, 5, none⟩, .slice ca cn cc)]) (by assumption) | exact AtF.on (w := w) (l := [(⟨w.heap.size, 0, none⟩, .string X0), (⟨w.heap.size, 1, none⟩, .string X1), (⟨w.heap.size, 2, none⟩, .bool mn), (⟨w.heap.size, 3, none⟩, .string X3), (⟨w.heap.size, 4, none⟩, .slice sa sn sc), (⟨w.heap.size, 5, none⟩, .slice ca cn cc)]) (by assumption) (by assumption) | exact AtF.al (w := w) (l := [(⟨w.heap.size, 0, none⟩, .string X0), (⟨w.heap.size, 1, none⟩, .string X1), (⟨w.heap.size, 2, none⟩, .bool mn), (⟨w.heap.size, 3, none⟩, .string X3), (⟨w.heap.size, 4, none⟩, .slice sa sn sc), (⟨w.heap.size, 5, none⟩, .slice ca cn cc)]) (by assumption) _ | exact AtF.ald (w := w) (l := [(⟨w.heap.size, 0, none⟩, .string X0), (⟨w.heap.size, 1, none⟩, .string X1), (⟨w.heap.size, 2, none⟩, .bool mn), (⟨w.heap.size, 3, none⟩, .string X3), (⟨w.heap.size, 4, none⟩, .slice sa sn sc), (⟨w.heap.size, 5, none⟩, .slice ca cn cc)]) (by assumption) _ | exact AtF.al (w := w) (l := [(⟨w.heap.size, 0, none⟩, .string X0), (⟨w.heap.size, 1, none⟩, .string X1), (⟨w.heap.size, 2, none⟩, .bool mn), (⟨w.heap.size, 3, none⟩, .string X3), (⟨w.heap.size, 4, none⟩, .slice sa sn sc), (⟨w.heap.size, 5, none⟩, .slice ca cn cc)]) hs _ | exact AtF.ald (w := w) (l := [(⟨w.heap.size, 0, none⟩, .string X0), (⟨w.heap.size, 1, none⟩, .string X1), (⟨w.heap.size, 2, none⟩, .bool mn), (⟨w.heap.size, 3, none⟩, .string X3), (⟨w.heap.size, 4, none⟩, .slice sa sn sc), (⟨w.heap.size, 5, none⟩, .slice ca cn cc)]) hs _)
    clear hK K
    try simp only [Act.put, List.setIfInBounds_toArray, List.set_cons_zero, List.set_cons_succ]
    refine heldY 4 12 ?_ _ rfl rfl (by kernel_rfl) (by kernel_rfl) (by kernel_rfl) (fun _ _ _ h => h) rfl (by assumption) ?_ ?_
    rotate_left
    · (intro w hSw; (try dsimp only at hSw); go_simp; (try with_reducible rfl))
    simp only [List.setIfInBounds_toArray, List.set_cons_zero, List.set_cons_succ]
    refine heldY 5 13 ?_ _ rfl rfl (by kernel_rfl) (by kernel_rfl) (by kernel_rfl) (fun _ _ _ h => h) rfl (by assumption) ?_ ?_
    rotate_left
    · (intro w hSw; (try dsimp only at hSw); go_simp; (try with_reducible rfl))
    simp only [List.setIfInBounds_toArray, List.set_cons_zero, List.set_cons_succ]
    refine wpAnyH_ready (rs := [6]) (by kernel_rfl) (by simp) ?_
    refine AllReadyH.cons rfl (fun K hK => ?_) AllReadyH.nil
    go_simp
    first | (go_at_call 9; (with_reducible refine (DA1 _ (BE _ (by assumption))).mono ?_); rintro e w5 ⟨rfl, hb⟩) | (go_at_call 10; (with_reducible refine (DR1 _ (BE _ (by assumption))).mono ?_); rintro e w6 ⟨rfl, hb⟩) | (go_at_call 8; (with_reducible refine (AW _ (BE _ (by assumption))).mono ?_); rintro e w7 ⟨rfl, hb⟩)
    refine hK.out _ _ ?_ (fun hHeld => ?_)
    · (try dsimp only); (first | assumption | exact hs | exact AtF.dr (w := w) (l := [(⟨w.heap.size, 0, none⟩, .string X0), (⟨w.heap.size, 1, none⟩, .string X1), (⟨w.heap.size, 2, none⟩, .bool mn), (⟨w.heap.size, 3, none⟩, .string X3), (⟨w.heap.size, 4, none⟩, .slice sa sn sc), (⟨w.heap.size, 5, none⟩, .slice ca cn cc)]) hs | exact AtF.dr (w := w) (l := [(⟨w.heap.size, 0, none⟩, .string X0), (⟨w.heap.size, 1, none⟩, .string X1), (⟨w.heap.size, 2, none⟩, .bool mn), (⟨w.heap.size, 3, none⟩, .string X3), (⟨w.heap.size, 4, none⟩, .slice sa sn sc), (⟨w.heap.size, 5, none⟩, .slice ca cn cc)]) (by assumption) | exact AtF.on (w := w) (l := [(⟨w.heap.size, 0, none⟩, .string X0), (⟨w.heap.size, 1, none⟩, .string X1), (⟨w.heap.size, 2, none⟩, .bool mn), (⟨w.heap.size, 3, none⟩, .string X3), (⟨w.heap.size, 4, none⟩, .slice sa sn sc), (⟨w.heap.size, 5, none⟩, .slice ca cn cc)]) (by assumption) (by assumption) | exact AtF.al (w := w) (l := [(⟨w.heap.size, 0, none⟩, .string X0), (⟨w.heap.size, 1, none⟩, .string X1), (⟨w.heap.size, 2, none⟩, .bool mn), (⟨w.heap.size, 3, none⟩, .string X3), (⟨w.heap.size, 4, none⟩, .slice sa sn sc), (⟨w.heap.size, 5, none⟩, .slice ca cn cc)]) (by assumption) _ | exact AtF.ald (w := w) (l := [(⟨w.heap.size, 0, none⟩, .string X0), (⟨w.heap.size, 1, none⟩, .string X1), (⟨w.heap.size, 2, none⟩, .bool mn), (⟨w.heap.size, 3, none⟩, .string X3), (⟨w.heap.size, 4, none⟩, .slice sa sn sc), (⟨w.heap.size, 5, none⟩, .slice ca cn cc)]) (by assumption) _ | exact AtF.al (w := w) (l := [(⟨w.heap.size, 0, none⟩, .string X0), (⟨w.heap.size, 1, none⟩, .string X1), (⟨w.heap.size, 2, none⟩, .bool mn), (⟨w.heap.size, 3, none⟩, .string X3), (⟨w.heap.size, 4, none⟩, .slice sa sn sc), (⟨w.heap.size, 5, none⟩, .slice ca cn cc)]) hs _ | exact AtF.ald (w := w) (l := [(⟨w.heap.size, 0, none⟩, .string X0), (⟨w.heap.size, 1, none⟩, .string X1), (⟨w.heap.size, 2, none⟩, .bool mn), (⟨w.heap.size, 3, none⟩, .string X3), (⟨w.heap.size, 4, none⟩, .slice sa sn sc), (⟨w.heap.size, 5, none⟩, .slice ca cn cc)]) hs _)
    clear hK K
    try simp only [Act.put, List.setIfInBounds_toArray, List.set_cons_zero, List.set_cons_succ]
    refine heldY 7 15 ?_ _ rfl rfl (by kernel_rfl) (by kernel_rfl) (by kernel_rfl) (fun _ _ _ h => h) rfl (by assumption) ?_ ?_
    rotate_left
    · (intro w hSw; (try dsimp only at hSw); go_simp; (try with_reducible rfl))
    simp only [List.setIfInBounds_toArray, List.set_cons_zero, List.set_cons_succ]
    refine heldY 8 2 ?_ _ rfl rfl (by kernel_rfl) (by kernel_rfl) (by kernel_rfl) (fun _ _ _ h => h) rfl (by assumption) ?_ ?_
    rotate_left
    · (intro w hSw; (try dsimp only at hSw); go_simp; (try with_reducible rfl))
    simp only [List.setIfInBounds_toArray, List.set_cons_zero, List.set_cons_succ]
    refine wpAnyH_done (by kernel_rfl) ?_ _
    have HB9 := Lib.hid (BE _ hHeld)
    clear hHeld
    go_wp2
    go_ret
    exact ⟨rfl, HB9.out⟩
end Go.Proofs.YtmfmohbcehkooaaGreatDoor.choiceDisplaysw
namespace Go.Proofs.YtmfmohbcehkooaaGreatDoor.choiceDisplays
open Go.ChangeShapes Go.WideShapes Go.ChangeAt Go.RowKit
set_option maxRecDepth 100000 in
theorem contract (H : Type) (enc : TypeId × Value → H) (W : World) (base : Nat) (args : Array Value) (ds gs : List (DataW H)) (before : List MemPlace)
    (hval : ∀ (j : Nat) t v, Tryz.f3.params[j]? = some t → args[j]? = some v → Value.okWide Tryz.prog W .any base t v)
    (hW : DataW.Whole enc Tryz.prog Tryz.f3.params.toList Rows.choiceDisplaysSpec.vars false W args.toList ds gs before) (hL : W.ShapedOpen Tryz.prog) (hl : laidMetH Tryz.prog Rows.choiceDisplaysRow.laid W) :
    Calls Tryz.prog 3 args W fun e W' => ∃ v, e = .returned v ∧ Rows.choiceDisplaysSpec.post enc Tryz.prog Tryz.f3 false true false false W args v W' := by
  have hW' := hW
  obtain ⟨p, q, hA0, hV, rfl, hfz, hnd⟩ := hW
  have hA : DataW.TrodAll enc Tryz.prog W 0 (fun _ => true) true Tryz.f3.params.toList args.toList ds p := hA0
  rw [Tryz.params3] at hA hval
  obtain ⟨v0, vs0, d0, ds0, p0, q0, hargs, rfl, rfl, h0, r0⟩ := trodAll_cons hA
  obtain ⟨rfl, rfl, rfl⟩ := trodAll_nil r0
  obtain rfl : args = #[v0] := by cases args; simp_all
  obtain ⟨x0, rfl, hf, hin⟩ := open_Kalt (hval 0 25 v0 rfl rfl) h0
  refine (choiceDisplaysw.walk x0 hf W (laidZ_of hL hl) hin).mono fun e W' ⟨he, hb⟩ => ?_
  subst he
  exact ⟨_, rfl, law_post outB (by kernel_rfl) (by kernel_rfl) Tryz.underlying4 rfl hW' ⟨rfl, rfl, rfl⟩ hb⟩
set_option maxRecDepth 100000 in
theorem lifted (os : Os) (started : os.Started) (H : Type) (enc : TypeId × Value → H) :
    ReturnsInHanded {} Tryz.checked os 3 .any (fun w args => (Rows.choiceDisplaysSpec.pre enc Tryz.prog Tryz.f3 [] false w args ∧ laidMetH Tryz.prog Rows.choiceDisplaysRow.laid w) ∧ sizedMet enc Tryz.prog Tryz.f3 (OpenSpec.ofChange Rows.choiceDisplaysSpec) false w args)
      (Rows.choiceDisplaysSpec.post enc Tryz.prog Tryz.f3 false true false false) := by
  refine lift_both (laid := Rows.choiceDisplaysRow.laid) started (by kernel_rfl) Tryz.func3 (by kernel_rfl)
    (ChangeSpec.witness_shaped (enc := enc) (C := Tryz.checked) (os := os) (X := fun w _ => laidMetH Tryz.prog Rows.choiceDisplaysRow.laid w) false (World.laidAll Tryz.prog os Rows.choiceDisplaysRow.laid) #[.agg #[.string ⟨#[]⟩, .string ⟨#[]⟩, .bool false, .string ⟨#[]⟩, .slice none 0 0, .slice none 0 0]] 8 (World.laidAll_os _ _ _) (World.shaped_of_ZipB (by kernel_rfl) (by kernel_rfl)) (by kernel_rfl) (by kernel_rfl) (by kernel_rfl)
      (by rw [MakeChecks.laidMetH_plain _ _ _ (by kernel_rfl)]; exact laidMet_laidAll _ (by kernel_rfl) (by kernel_rfl))) ?_
  intro W base args ds gs before hval0 hW hL hl
  exact contract H enc W base args ds gs before hval0 hW hL hl
theorem said : Rows.ChoiceDisplaysSaid :=
  OpenClaim.holds_of_wide 3 Tryz.f3 rfl rfl rfl rfl rfl rfl rfl ⟨rfl, rfl, rfl, rfl, rfl⟩ rfl rfl rfl rfl rfl (by kernel_rfl) Tryz.func3 (by kernel_rfl)
    (of_decide_eq_true (by kernel_rfl)) (by unfold Func.isWrapper; first | (rw [if_pos (by decide +kernel)]; kernel_rfl) | (rw [if_neg (by decide +kernel)]; exact ⟨rfl, rfl⟩))
    (fun os started H enc _ => lifted os started H enc)
theorem plain (f : FuncId) (fn : Func) (hf : Tryz.pinned.checked.prog.funcNamed "cellarer/cellarerlaw30.ChoiceDisplays" = some f) (hfn : Tryz.pinned.checked.prog.funcs[f]? = some fn) :
    true = Tryz.pinned.checked.prog.looks [] ∧ ∀ (j : Nat) t, fn.params[j]? = some t → Tryz.pinned.checked.prog.wantsStandIn t = false := by
  obtain rfl : f = 3 := Option.some.inj ((show Tryz.prog.funcNamed "cellarer/cellarerlaw30.ChoiceDisplays" = some 3 by kernel_rfl).symm.trans hf) |>.symm
  obtain rfl : fn = Tryz.f3 := (Option.some.inj (Tryz.func3.symm.trans hfn)).symm
  refine ⟨by kernel_rfl, fun j t ht => ?_⟩
  have hall : (Tryz.f3.params.toList.all fun u => !Tryz.prog.wantsStandIn u) = true := by kernel_rfl
  exact (show Tryz.prog.wantsStandIn t = false by simpa using List.all_eq_true.1 hall t (Array.mem_toList_iff.2 (Array.mem_of_getElem? ht)))
theorem card : Rows.ChoiceDisplaysCardSaid :=
  Claim7.holds_tied_plain_at .later [] _ _ _ _ said (fun _ h => by cases h) (by kernel_rfl) (fun _ h => by cases h) choiceDisplays_row_tie rfl ⟨rfl, rfl⟩ (by kernel_rfl) rfl plain (by kernel_rfl)
#print axioms card
end Go.Proofs.YtmfmohbcehkooaaGreatDoor.choiceDisplays
