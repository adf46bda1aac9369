/-
  The walk of PackActs: true; nothing old turns. Condition: LaidQ.
-/
import Derived.Test.YtolpcnhgmmnmcaaGreatDoorKFew
import Derived.Test.YtolpcnhgmmnmcaaGreatDoorKRefAct
import Derived.Test.YtolpcnhgmmnmcaaGreatDoorHeld
namespace Go.Proofs.YtolpcnhgmmnmcaaGreatDoor.packActsw
open Go.RowKit Go.Shelf
set_option maxRecDepth 100000 in
set_option maxHeartbeats 16000000 in
theorem walk (x : Kv) (hf : FitK x) (w : World) (hL : LaidQ w) (hh : InK w x) : Calls Tryz.prog 3 #[aggK x] w fun e w' => e = .returned (.bool true) ∧ Below w.heap.size w w' := by
  have B1 := (Below.refl w.heap.size w).alloc (Nat.le_refl _) (.cells (cellsK x) 27)
  obtain ⟨w1, hw1⟩ : ∃ w1, w.alloc (.cells (cellsK x) 27) = w1 := ⟨_, rfl⟩
  have hz1 : w1.heap.size = w.heap.size + 1 := by rw [← hw1, World.size_alloc]
  have B2 := (Below.refl w1.heap.size w1).alloc (Nat.le_refl _) (.cells (cellsK x) 27)
  have hc2 := celK x w1 _ (Below.refl (w1.alloc (.cells (cellsK x) 27)).heap.size (w1.alloc (.cells (cellsK x) 27)))
  obtain ⟨w2, hw2⟩ : ∃ w2, w1.alloc (.cells (cellsK x) 27) = w2 := ⟨_, rfl⟩
  have hz2 : w2.heap.size = w1.heap.size + 1 := by rw [← hw2, World.size_alloc]
  rw [hw1] at B1
  rw [hw2] at B2 hc2
  have B12 := B1.trans (B2.mono (by omega))
  have F := fewActs_any x hf w2 (hh.on B12) w1.heap.size (by omega) hc2
  have HC1 : Hid (∀ W, Below w1.heap.size w1 W → CelK x w.heap.size W) := Lib.hid (fun W hW => by rw [← hw1] at hW; exact celK x w W hW)
  have HL := Lib.hid hL
  have HH := Lib.hid hh
  have AW := fun W (hb : Below w.heap.size w W) => awake19 W (hL.on hb).r
  have PA := fun (hs : SmK x) W (hb : Below w.heap.size w W) => actK_any x hs W (hL.on hb).a (hh.on hb)
  have RA := fun (hs : SmK x) W (hb : Below w.heap.size w W) => actK_ref x hs W (hh.on hb)
  have HB1 := Lib.hid B1
  have HB12 := Lib.hid B12
  have HZ := Lib.hid hz1
  have HT3 : Hid (∀ W, Below (w.heap.size + 1 + 1) w2 W → Below w.heap.size w W ∧ Below w1.heap.size w1 W) := Lib.hid (fun W h => ⟨B12.trans (h.mono (by omega)), B2.trans (h.mono (by omega))⟩)
  obtain ⟨SM, hSM⟩ : ∃ SM : Prop, SmK x = SM := ⟨_, rfl⟩
  unfold FewKP at F
  simp only [hSM] at F PA RA
  obtain ⟨ab, hab⟩ : ∃ ab, actB x = ab := ⟨_, rfl⟩
  simp only [hab] at PA RA
  obtain ⟨kd, nm, pt, ds, mm, uu, gg, pr, fl, fo, sl, ps, sv, pv⟩ := x
  obtain ⟨sa, sc, -, -, hsv, -⟩ := HoldS.parts hh.1
  obtain ⟨pa, pc, -, -, hpv, -⟩ := hh.2
  dsimp only at hsv hpv
  subst hsv
  subst hpv
  obtain ⟨a0, a1, a2, a3, a4, a5, a6, a7, a8, a9, a10, a11⟩ := HC1.out _ (Below.refl _ _)
  unfold aggK cellsK CelK at *
  dsimp only at *
  clear hc2 hf HL HH hL hh hSM hab B1 B2 B12 hz1 hz2 HZ
  generalize sl.length = n at *
  generalize ps.length = m at *
  generalize (⟨nm.toArray⟩ : ByteArray) = N at *
  generalize (⟨pt.toArray⟩ : ByteArray) = P at *
  generalize (⟨ds.toArray⟩ : ByteArray) = T at *
  subst hw2
  subst hw1
  simp only [World.size_alloc] at F
  have hbb : (ab == ab) = true := by simp
  go_enter Tryz.func3, Tryz.ntmps3
  go_wp2_with (first
    | (go_at_call 4; (with_reducible refine F.mono ?_); rintro e w3 ⟨fb, rfl, h1, h2⟩; have H1 := Lib.hid h1; have HB3 := Lib.hid (HT3.out _ h2).1; have HB13 := Lib.hid (HT3.out _ h2).2; clear h1 h2 a0 a1 a2 a3 a4 a5 a6 a7 a8 a9 a10 a11 F HT3; cases fb)
    | (go_at_call 5; (with_reducible refine (AW _ HB3.out).mono ?_); rintro e w4 ⟨rfl, hb⟩; have HB4 := Lib.hid (HB3.out.trans (hb.mono HB3.out.size)); clear hb))
  · go_ret
    exact ⟨rfl, HB4.out⟩
  have HSM := Lib.hid (H1.out trivial)
  obtain ⟨a0, a1, a2, a3, a4, a5, a6, a7, a8, a9, a10, a11⟩ := HC1.out _ HB13.out
  have hs := And.intro a0 (And.intro a1 (And.intro a2 (And.intro a3 (And.intro a4 (And.intro a5 (And.intro a6 (And.intro a7 (And.intro a8 (And.intro a9 (And.intro a10 (And.intro a11 (Below.refl w3.heap.size w3))))))))))))
  clear a0 a1 a2 a3 a4 a5 a6 a7 a8 a9 a10 a11 H1 HC1 HB1 HB12 HB13
  have BE := fun (V : World) (h : V.cell? ⟨w.heap.size, 0, none⟩ = some (.int .i64 kd) ∧ V.cell? ⟨w.heap.size, 1, none⟩ = some (.string N) ∧ V.cell? ⟨w.heap.size, 2, none⟩ = some (.string P) ∧ V.cell? ⟨w.heap.size, 3, none⟩ = some (.string T) ∧ V.cell? ⟨w.heap.size, 4, none⟩ = some (.int .i64 mm) ∧ V.cell? ⟨w.heap.size, 5, none⟩ = some (.int .i64 uu) ∧ V.cell? ⟨w.heap.size, 6, none⟩ = some (.int .i64 gg) ∧ V.cell? ⟨w.heap.size, 7, none⟩ = some (.int .i64 pr) ∧ V.cell? ⟨w.heap.size, 8, none⟩ = some (.bool fl) ∧ V.cell? ⟨w.heap.size, 9, none⟩ = some (.bool fo) ∧ V.cell? ⟨w.heap.size, 10, none⟩ = some (.slice sa n sc) ∧ V.cell? ⟨w.heap.size, 11, none⟩ = some (.slice pa m pc) ∧ Below w3.heap.size w3 V) => AtF.be (w := w3) (l := [(⟨w.heap.size, 0, none⟩, .int .i64 kd), (⟨w.heap.size, 1, none⟩, .string N), (⟨w.heap.size, 2, none⟩, .string P), (⟨w.heap.size, 3, none⟩, .string T), (⟨w.heap.size, 4, none⟩, .int .i64 mm), (⟨w.heap.size, 5, none⟩, .int .i64 uu), (⟨w.heap.size, 6, none⟩, .int .i64 gg), (⟨w.heap.size, 7, none⟩, .int .i64 pr), (⟨w.heap.size, 8, none⟩, .bool fl), (⟨w.heap.size, 9, none⟩, .bool fo), (⟨w.heap.size, 10, none⟩, .slice sa n sc), (⟨w.heap.size, 11, none⟩, .slice pa m pc)]) h
  refine wp_region_held_drew (S := (fun V => V.cell? ⟨w.heap.size, 0, none⟩ = some (.int .i64 kd) ∧ V.cell? ⟨w.heap.size, 1, none⟩ = some (.string N) ∧ V.cell? ⟨w.heap.size, 2, none⟩ = some (.string P) ∧ V.cell? ⟨w.heap.size, 3, none⟩ = some (.string T) ∧ V.cell? ⟨w.heap.size, 4, none⟩ = some (.int .i64 mm) ∧ V.cell? ⟨w.heap.size, 5, none⟩ = some (.int .i64 uu) ∧ V.cell? ⟨w.heap.size, 6, none⟩ = some (.int .i64 gg) ∧ V.cell? ⟨w.heap.size, 7, none⟩ = some (.int .i64 pr) ∧ V.cell? ⟨w.heap.size, 8, none⟩ = some (.bool fl) ∧ V.cell? ⟨w.heap.size, 9, none⟩ = some (.bool fo) ∧ V.cell? ⟨w.heap.size, 10, none⟩ = some (.slice sa n sc) ∧ V.cell? ⟨w.heap.size, 11, none⟩ = some (.slice pa m pc) ∧ Below w3.heap.size w3 V)) (by kernel_rfl) ?_ (fun hHeld => ?_)
  · (try dsimp only); (first | assumption | exact hs | exact AtF.dr (w := w3) (l := [(⟨w.heap.size, 0, none⟩, .int .i64 kd), (⟨w.heap.size, 1, none⟩, .string N), (⟨w.heap.size, 2, none⟩, .string P), (⟨w.heap.size, 3, none⟩, .string T), (⟨w.heap.size, 4, none⟩, .int .i64 mm), (⟨w.heap.size, 5, none⟩, .int .i64 uu), (⟨w.heap.size, 6, none⟩, .int .i64 gg), (⟨w.heap.size, 7, none⟩, .int .i64 pr), (⟨w.heap.size, 8, none⟩, .bool fl), (⟨w.heap.size, 9, none⟩, .bool fo), (⟨w.heap.size, 10, none⟩, .slice sa n sc), (⟨w.heap.size, 11, none⟩, .slice pa m pc)]) hs | exact AtF.dr (w := w3) (l := [(⟨w.heap.size, 0, none⟩, .int .i64 kd), (⟨w.heap.size, 1, none⟩, .string N), (⟨w.heap.size, 2, none⟩, .string P), (⟨w.heap.size, 3, none⟩, .string T), (⟨w.heap.size, 4, none⟩, .int .i64 mm), (⟨w.heap.size, 5, none⟩, .int .i64 uu), (⟨w.heap.size, 6, none⟩, .int .i64 gg), (⟨w.heap.size, 7, none⟩, .int .i64 pr), (⟨w.heap.size, 8, none⟩, .bool fl), (⟨w.heap.size, 9, none⟩, .bool fo), (⟨w.heap.size, 10, none⟩, .slice sa n sc), (⟨w.heap.size, 11, none⟩, .slice pa m pc)]) (by assumption) | exact AtF.on (w := w3) (l := [(⟨w.heap.size, 0, none⟩, .int .i64 kd), (⟨w.heap.size, 1, none⟩, .string N), (⟨w.heap.size, 2, none⟩, .string P), (⟨w.heap.size, 3, none⟩, .string T), (⟨w.heap.size, 4, none⟩, .int .i64 mm), (⟨w.heap.size, 5, none⟩, .int .i64 uu), (⟨w.heap.size, 6, none⟩, .int .i64 gg), (⟨w.heap.size, 7, none⟩, .int .i64 pr), (⟨w.heap.size, 8, none⟩, .bool fl), (⟨w.heap.size, 9, none⟩, .bool fo), (⟨w.heap.size, 10, none⟩, .slice sa n sc), (⟨w.heap.size, 11, none⟩, .slice pa m pc)]) (by assumption) (by assumption) | exact AtF.al (w := w3) (l := [(⟨w.heap.size, 0, none⟩, .int .i64 kd), (⟨w.heap.size, 1, none⟩, .string N), (⟨w.heap.size, 2, none⟩, .string P), (⟨w.heap.size, 3, none⟩, .string T), (⟨w.heap.size, 4, none⟩, .int .i64 mm), (⟨w.heap.size, 5, none⟩, .int .i64 uu), (⟨w.heap.size, 6, none⟩, .int .i64 gg), (⟨w.heap.size, 7, none⟩, .int .i64 pr), (⟨w.heap.size, 8, none⟩, .bool fl), (⟨w.heap.size, 9, none⟩, .bool fo), (⟨w.heap.size, 10, none⟩, .slice sa n sc), (⟨w.heap.size, 11, none⟩, .slice pa m pc)]) (by assumption) _ | exact AtF.ald (w := w3) (l := [(⟨w.heap.size, 0, none⟩, .int .i64 kd), (⟨w.heap.size, 1, none⟩, .string N), (⟨w.heap.size, 2, none⟩, .string P), (⟨w.heap.size, 3, none⟩, .string T), (⟨w.heap.size, 4, none⟩, .int .i64 mm), (⟨w.heap.size, 5, none⟩, .int .i64 uu), (⟨w.heap.size, 6, none⟩, .int .i64 gg), (⟨w.heap.size, 7, none⟩, .int .i64 pr), (⟨w.heap.size, 8, none⟩, .bool fl), (⟨w.heap.size, 9, none⟩, .bool fo), (⟨w.heap.size, 10, none⟩, .slice sa n sc), (⟨w.heap.size, 11, none⟩, .slice pa m pc)]) (by assumption) _ | exact AtF.al (w := w3) (l := [(⟨w.heap.size, 0, none⟩, .int .i64 kd), (⟨w.heap.size, 1, none⟩, .string N), (⟨w.heap.size, 2, none⟩, .string P), (⟨w.heap.size, 3, none⟩, .string T), (⟨w.heap.size, 4, none⟩, .int .i64 mm), (⟨w.heap.size, 5, none⟩, .int .i64 uu), (⟨w.heap.size, 6, none⟩, .int .i64 gg), (⟨w.heap.size, 7, none⟩, .int .i64 pr), (⟨w.heap.size, 8, none⟩, .bool fl), (⟨w.heap.size, 9, none⟩, .bool fo), (⟨w.heap.size, 10, none⟩, .slice sa n sc), (⟨w.heap.size, 11, none⟩, .slice pa m pc)]) hs _ | exact AtF.ald (w := w3) (l := [(⟨w.heap.size, 0, none⟩, .int .i64 kd), (⟨w.heap.size, 1, none⟩, .string N), (⟨w.heap.size, 2, none⟩, .string P), (⟨w.heap.size, 3, none⟩, .string T), (⟨w.heap.size, 4, none⟩, .int .i64 mm), (⟨w.heap.size, 5, none⟩, .int .i64 uu), (⟨w.heap.size, 6, none⟩, .int .i64 gg), (⟨w.heap.size, 7, none⟩, .int .i64 pr), (⟨w.heap.size, 8, none⟩, .bool fl), (⟨w.heap.size, 9, none⟩, .bool fo), (⟨w.heap.size, 10, none⟩, .slice sa n sc), (⟨w.heap.size, 11, none⟩, .slice pa m pc)]) hs _)
  refine heldY 0 8 ?_ _ rfl rfl (by kernel_rfl) (by kernel_rfl) (by kernel_rfl) (fun _ _ _ h => h) rfl (by assumption) ?_ ?_
  rotate_left
  · (intro w hSw; (try dsimp only at hSw); go_simp; (try with_reducible rfl))
  simp only [List.setIfInBounds_toArray, List.set_cons_zero, List.set_cons_succ]
  refine heldY 2 10 ?_ _ rfl rfl (by kernel_rfl) (by kernel_rfl) (by kernel_rfl) (fun _ _ _ h => h) rfl (by assumption) ?_ ?_
  rotate_left
  · (intro w hSw; (try dsimp only at hSw); go_simp; (try with_reducible rfl))
  simp only [List.setIfInBounds_toArray, List.set_cons_zero, List.set_cons_succ]
  refine wpAnyH_ready (rs := [1]) (by kernel_rfl) (by simp) ?_
  refine AllReadyH.cons rfl (fun K hK => ?_) AllReadyH.nil
  go_simp
  first | (go_at_call 6; (with_reducible refine (PA HSM.out _ (HB3.out.trans ((BE _ hHeld).mono HB3.out.size))).mono ?_); rintro e w4 ⟨rfl, hb⟩) | (go_at_call 7; (with_reducible refine (RA HSM.out _ (HB3.out.trans ((BE _ hHeld).mono HB3.out.size))).mono ?_); rintro e w4 ⟨rfl, hb⟩) | (go_at_call 5; (with_reducible refine (AW _ (HB3.out.trans ((BE _ hHeld).mono HB3.out.size))).mono ?_); rintro e w4 ⟨rfl, hb⟩)
  refine hK.out _ _ ?_ (fun hHeld => ?_)
  · (try dsimp only); (first | assumption | exact hs | exact AtF.dr (w := w3) (l := [(⟨w.heap.size, 0, none⟩, .int .i64 kd), (⟨w.heap.size, 1, none⟩, .string N), (⟨w.heap.size, 2, none⟩, .string P), (⟨w.heap.size, 3, none⟩, .string T), (⟨w.heap.size, 4, none⟩, .int .i64 mm), (⟨w.heap.size, 5, none⟩, .int .i64 uu), (⟨w.heap.size, 6, none⟩, .int .i64 gg), (⟨w.heap.size, 7, none⟩, .int .i64 pr), (⟨w.heap.size, 8, none⟩, .bool fl), (⟨w.heap.size, 9, none⟩, .bool fo), (⟨w.heap.size, 10, none⟩, .slice sa n sc), (⟨w.heap.size, 11, none⟩, .slice pa m pc)]) hs | exact AtF.dr (w := w3) (l := [(⟨w.heap.size, 0, none⟩, .int .i64 kd), (⟨w.heap.size, 1, none⟩, .string N), (⟨w.heap.size, 2, none⟩, .string P), (⟨w.heap.size, 3, none⟩, .string T), (⟨w.heap.size, 4, none⟩, .int .i64 mm), (⟨w.heap.size, 5, none⟩, .int .i64 uu), (⟨w.heap.size, 6, none⟩, .int .i64 gg), (⟨w.heap.size, 7, none⟩, .int .i64 pr), (⟨w.heap.size, 8, none⟩, .bool fl), (⟨w.heap.size, 9, none⟩, .bool fo), (⟨w.heap.size, 10, none⟩, .slice sa n sc), (⟨w.heap.size, 11, none⟩, .slice pa m pc)]) (by assumption) | exact AtF.on (w := w3) (l := [(⟨w.heap.size, 0, none⟩, .int .i64 kd), (⟨w.heap.size, 1, none⟩, .string N), (⟨w.heap.size, 2, none⟩, .string P), (⟨w.heap.size, 3, none⟩, .string T), (⟨w.heap.size, 4, none⟩, .int .i64 mm), (⟨w.heap.size, 5, none⟩, .int .i64 uu), (⟨w.heap.size, 6, none⟩, .int .i64 gg), (⟨w.heap.size, 7, none⟩, .int .i64 pr), (⟨w.heap.size, 8, none⟩, .bool fl), (⟨w.heap.size, 9, none⟩, .bool fo), (⟨w.heap.size, 10, none⟩, .slice sa n sc), (⟨w.heap.size, 11, none⟩, .slice pa m pc)]) (by assumption) (by assumption) | exact AtF.al (w := w3) (l := [(⟨w.heap.size, 0, none⟩, .int .i64 kd), (⟨w.heap.size, 1, none⟩, .string N), (⟨w.heap.size, 2, none⟩, .string P), (⟨w.heap.size, 3, none⟩, .string T), (⟨w.heap.size, 4, none⟩, .int .i64 mm), (⟨w.heap.size, 5, none⟩, .int .i64 uu), (⟨w.heap.size, 6, none⟩, .int .i64 gg), (⟨w.heap.size, 7, none⟩, .int .i64 pr), (⟨w.heap.size, 8, none⟩, .bool fl), (⟨w.heap.size, 9, none⟩, .bool fo), (⟨w.heap.size, 10, none⟩, .slice sa n sc), (⟨w.heap.size, 11, none⟩, .slice pa m pc)]) (by assumption) _ | exact AtF.ald (w := w3) (l := [(⟨w.heap.size, 0, none⟩, .int .i64 kd), (⟨w.heap.size, 1, none⟩, .string N), (⟨w.heap.size, 2, none⟩, .string P), (⟨w.heap.size, 3, none⟩, .string T), (⟨w.heap.size, 4, none⟩, .int .i64 mm), (⟨w.heap.size, 5, none⟩, .int .i64 uu), (⟨w.heap.size, 6, none⟩, .int .i64 gg), (⟨w.heap.size, 7, none⟩, .int .i64 pr), (⟨w.heap.size, 8, none⟩, .bool fl), (⟨w.heap.size, 9, none⟩, .bool fo), (⟨w.heap.size, 10, none⟩, .slice sa n sc), (⟨w.heap.size, 11, none⟩, .slice pa m pc)]) (by assumption) _ | exact AtF.al (w := w3) (l := [(⟨w.heap.size, 0, none⟩, .int .i64 kd), (⟨w.heap.size, 1, none⟩, .string N), (⟨w.heap.size, 2, none⟩, .string P), (⟨w.heap.size, 3, none⟩, .string T), (⟨w.heap.size, 4, none⟩, .int .i64 mm), (⟨w.heap.size, 5, none⟩, .int .i64 uu), (⟨w.heap.size, 6, none⟩, .int .i64 gg), (⟨w.heap.size, 7, none⟩, .int .i64 pr), (⟨w.heap.size, 8, none⟩, .bool fl), (⟨w.heap.size, 9, none⟩, .bool fo), (⟨w.heap.size, 10, none⟩, .slice sa n sc), (⟨w.heap.size, 11, none⟩, .slice pa m pc)]) hs _ | exact AtF.ald (w := w3) (l := [(⟨w.heap.size, 0, none⟩, .int .i64 kd), (⟨w.heap.size, 1, none⟩, .string N), (⟨w.heap.size, 2, none⟩, .string P), (⟨w.heap.size, 3, none⟩, .string T), (⟨w.heap.size, 4, none⟩, .int .i64 mm), (⟨w.heap.size, 5, none⟩, .int .i64 uu), (⟨w.heap.size, 6, none⟩, .int .i64 gg), (⟨w.heap.size, 7, none⟩, .int .i64 pr), (⟨w.heap.size, 8, none⟩, .bool fl), (⟨w.heap.size, 9, none⟩, .bool fo), (⟨w.heap.size, 10, none⟩, .slice sa n sc), (⟨w.heap.size, 11, none⟩, .slice pa m pc)]) hs _)
  clear hK K
  try simp only [Act.put, List.setIfInBounds_toArray, List.set_cons_zero, List.set_cons_succ]
  refine wpAnyH_ready (rs := [3]) (by kernel_rfl) (by simp) ?_
  refine AllReadyH.cons rfl (fun K hK => ?_) AllReadyH.nil
  go_simp
  first | (go_at_call 6; (with_reducible refine (PA HSM.out _ (HB3.out.trans ((BE _ hHeld).mono HB3.out.size))).mono ?_); rintro e w4 ⟨rfl, hb⟩) | (go_at_call 7; (with_reducible refine (RA HSM.out _ (HB3.out.trans ((BE _ hHeld).mono HB3.out.size))).mono ?_); rintro e w4 ⟨rfl, hb⟩) | (go_at_call 5; (with_reducible refine (AW _ (HB3.out.trans ((BE _ hHeld).mono HB3.out.size))).mono ?_); rintro e w4 ⟨rfl, hb⟩)
  refine hK.out _ _ ?_ (fun hHeld => ?_)
  · (try dsimp only); (first | assumption | exact hs | exact AtF.dr (w := w3) (l := [(⟨w.heap.size, 0, none⟩, .int .i64 kd), (⟨w.heap.size, 1, none⟩, .string N), (⟨w.heap.size, 2, none⟩, .string P), (⟨w.heap.size, 3, none⟩, .string T), (⟨w.heap.size, 4, none⟩, .int .i64 mm), (⟨w.heap.size, 5, none⟩, .int .i64 uu), (⟨w.heap.size, 6, none⟩, .int .i64 gg), (⟨w.heap.size, 7, none⟩, .int .i64 pr), (⟨w.heap.size, 8, none⟩, .bool fl), (⟨w.heap.size, 9, none⟩, .bool fo), (⟨w.heap.size, 10, none⟩, .slice sa n sc), (⟨w.heap.size, 11, none⟩, .slice pa m pc)]) hs | exact AtF.dr (w := w3) (l := [(⟨w.heap.size, 0, none⟩, .int .i64 kd), (⟨w.heap.size, 1, none⟩, .string N), (⟨w.heap.size, 2, none⟩, .string P), (⟨w.heap.size, 3, none⟩, .string T), (⟨w.heap.size, 4, none⟩, .int .i64 mm), (⟨w.heap.size, 5, none⟩, .int .i64 uu), (⟨w.heap.size, 6, none⟩, .int .i64 gg), (⟨w.heap.size, 7, none⟩, .int .i64 pr), (⟨w.heap.size, 8, none⟩, .bool fl), (⟨w.heap.size, 9, none⟩, .bool fo), (⟨w.heap.size, 10, none⟩, .slice sa n sc), (⟨w.heap.size, 11, none⟩, .slice pa m pc)]) (by assumption) | exact AtF.on (w := w3) (l := [(⟨w.heap.size, 0, none⟩, .int .i64 kd), (⟨w.heap.size, 1, none⟩, .string N), (⟨w.heap.size, 2, none⟩, .string P), (⟨w.heap.size, 3, none⟩, .string T), (⟨w.heap.size, 4, none⟩, .int .i64 mm), (⟨w.heap.size, 5, none⟩, .int .i64 uu), (⟨w.heap.size, 6, none⟩, .int .i64 gg), (⟨w.heap.size, 7, none⟩, .int .i64 pr), (⟨w.heap.size, 8, none⟩, .bool fl), (⟨w.heap.size, 9, none⟩, .bool fo), (⟨w.heap.size, 10, none⟩, .slice sa n sc), (⟨w.heap.size, 11, none⟩, .slice pa m pc)]) (by assumption) (by assumption) | exact AtF.al (w := w3) (l := [(⟨w.heap.size, 0, none⟩, .int .i64 kd), (⟨w.heap.size, 1, none⟩, .string N), (⟨w.heap.size, 2, none⟩, .string P), (⟨w.heap.size, 3, none⟩, .string T), (⟨w.heap.size, 4, none⟩, .int .i64 mm), (⟨w.heap.size, 5, none⟩, .int .i64 uu), (⟨w.heap.size, 6, none⟩, .int .i64 gg), (⟨w.heap.size, 7, none⟩, .int .i64 pr), (⟨w.heap.size, 8, none⟩, .bool fl), (⟨w.heap.size, 9, none⟩, .bool fo), (⟨w.heap.size, 10, none⟩, .slice sa n sc), (⟨w.heap.size, 11, none⟩, .slice pa m pc)]) (by assumption) _ | exact AtF.ald (w := w3) (l := [(⟨w.heap.size, 0, none⟩, .int .i64 kd), (⟨w.heap.size, 1, none⟩, .string N), (⟨w.heap.size, 2, none⟩, .string P), (⟨w.heap.size, 3, none⟩, .string T), (⟨w.heap.size, 4, none⟩, .int .i64 mm), (⟨w.heap.size, 5, none⟩, .int .i64 uu), (⟨w.heap.size, 6, none⟩, .int .i64 gg), (⟨w.heap.size, 7, none⟩, .int .i64 pr), (⟨w.heap.size, 8, none⟩, .bool fl), (⟨w.heap.size, 9, none⟩, .bool fo), (⟨w.heap.size, 10, none⟩, .slice sa n sc), (⟨w.heap.size, 11, none⟩, .slice pa m pc)]) (by assumption) _ | exact AtF.al (w := w3) (l := [(⟨w.heap.size, 0, none⟩, .int .i64 kd), (⟨w.heap.size, 1, none⟩, .string N), (⟨w.heap.size, 2, none⟩, .string P), (⟨w.heap.size, 3, none⟩, .string T), (⟨w.heap.size, 4, none⟩, .int .i64 mm), (⟨w.heap.size, 5, none⟩, .int .i64 uu), (⟨w.heap.size, 6, none⟩, .int .i64 gg), (⟨w.heap.size, 7, none⟩, .int .i64 pr), (⟨w.heap.size, 8, none⟩, .bool fl), (⟨w.heap.size, 9, none⟩, .bool fo), (⟨w.heap.size, 10, none⟩, .slice sa n sc), (⟨w.heap.size, 11, none⟩, .slice pa m pc)]) hs _ | exact AtF.ald (w := w3) (l := [(⟨w.heap.size, 0, none⟩, .int .i64 kd), (⟨w.heap.size, 1, none⟩, .string N), (⟨w.heap.size, 2, none⟩, .string P), (⟨w.heap.size, 3, none⟩, .string T), (⟨w.heap.size, 4, none⟩, .int .i64 mm), (⟨w.heap.size, 5, none⟩, .int .i64 uu), (⟨w.heap.size, 6, none⟩, .int .i64 gg), (⟨w.heap.size, 7, none⟩, .int .i64 pr), (⟨w.heap.size, 8, none⟩, .bool fl), (⟨w.heap.size, 9, none⟩, .bool fo), (⟨w.heap.size, 10, none⟩, .slice sa n sc), (⟨w.heap.size, 11, none⟩, .slice pa m pc)]) hs _)
  clear hK K
  try simp only [Act.put, List.setIfInBounds_toArray, List.set_cons_zero, List.set_cons_succ]
  refine heldY 4 12 ?_ _ rfl rfl (by kernel_rfl) (by kernel_rfl) (by kernel_rfl) (fun _ _ _ h => h) rfl (by assumption) ?_ ?_
  rotate_left
  · (intro w hSw; (try dsimp only at hSw); go_simp; (try with_reducible rfl))
  simp only [List.setIfInBounds_toArray, List.set_cons_zero, List.set_cons_succ]
  refine heldY 5 13 ?_ _ rfl rfl (by kernel_rfl) (by kernel_rfl) (by kernel_rfl) (fun _ _ _ h => h) rfl (by assumption) ?_ ?_
  rotate_left
  · (intro w hSw; (try dsimp only at hSw); go_simp; (try with_reducible rfl))
  simp only [List.setIfInBounds_toArray, List.set_cons_zero, List.set_cons_succ]
  refine wpAnyH_ready (rs := [6]) (by kernel_rfl) (by simp) ?_
  refine AllReadyH.cons rfl (fun K hK => ?_) AllReadyH.nil
  go_simp
  first | (go_at_call 6; (with_reducible refine (PA HSM.out _ (HB3.out.trans ((BE _ hHeld).mono HB3.out.size))).mono ?_); rintro e w4 ⟨rfl, hb⟩) | (go_at_call 7; (with_reducible refine (RA HSM.out _ (HB3.out.trans ((BE _ hHeld).mono HB3.out.size))).mono ?_); rintro e w4 ⟨rfl, hb⟩) | (go_at_call 5; (with_reducible refine (AW _ (HB3.out.trans ((BE _ hHeld).mono HB3.out.size))).mono ?_); rintro e w4 ⟨rfl, hb⟩)
  refine hK.out _ _ ?_ (fun hHeld => ?_)
  · (try dsimp only); (first | assumption | exact hs | exact AtF.dr (w := w3) (l := [(⟨w.heap.size, 0, none⟩, .int .i64 kd), (⟨w.heap.size, 1, none⟩, .string N), (⟨w.heap.size, 2, none⟩, .string P), (⟨w.heap.size, 3, none⟩, .string T), (⟨w.heap.size, 4, none⟩, .int .i64 mm), (⟨w.heap.size, 5, none⟩, .int .i64 uu), (⟨w.heap.size, 6, none⟩, .int .i64 gg), (⟨w.heap.size, 7, none⟩, .int .i64 pr), (⟨w.heap.size, 8, none⟩, .bool fl), (⟨w.heap.size, 9, none⟩, .bool fo), (⟨w.heap.size, 10, none⟩, .slice sa n sc), (⟨w.heap.size, 11, none⟩, .slice pa m pc)]) hs | exact AtF.dr (w := w3) (l := [(⟨w.heap.size, 0, none⟩, .int .i64 kd), (⟨w.heap.size, 1, none⟩, .string N), (⟨w.heap.size, 2, none⟩, .string P), (⟨w.heap.size, 3, none⟩, .string T), (⟨w.heap.size, 4, none⟩, .int .i64 mm), (⟨w.heap.size, 5, none⟩, .int .i64 uu), (⟨w.heap.size, 6, none⟩, .int .i64 gg), (⟨w.heap.size, 7, none⟩, .int .i64 pr), (⟨w.heap.size, 8, none⟩, .bool fl), (⟨w.heap.size, 9, none⟩, .bool fo), (⟨w.heap.size, 10, none⟩, .slice sa n sc), (⟨w.heap.size, 11, none⟩, .slice pa m pc)]) (by assumption) | exact AtF.on (w := w3) (l := [(⟨w.heap.size, 0, none⟩, .int .i64 kd), (⟨w.heap.size, 1, none⟩, .string N), (⟨w.heap.size, 2, none⟩, .string P), (⟨w.heap.size, 3, none⟩, .string T), (⟨w.heap.size, 4, none⟩, .int .i64 mm), (⟨w.heap.size, 5, none⟩, .int .i64 uu), (⟨w.heap.size, 6, none⟩, .int .i64 gg), (⟨w.heap.size, 7, none⟩, .int .i64 pr), (⟨w.heap.size, 8, none⟩, .bool fl), (⟨w.heap.size, 9, none⟩, .bool fo), (⟨w.heap.size, 10, none⟩, .slice sa n sc), (⟨w.heap.size, 11, none⟩, .slice pa m pc)]) (by assumption) (by assumption) | exact AtF.al (w := w3) (l := [(⟨w.heap.size, 0, none⟩, .int .i64 kd), (⟨w.heap.size, 1, none⟩, .string N), (⟨w.heap.size, 2, none⟩, .string P), (⟨w.heap.size, 3, none⟩, .string T), (⟨w.heap.size, 4, none⟩, .int .i64 mm), (⟨w.heap.size, 5, none⟩, .int .i64 uu), (⟨w.heap.size, 6, none⟩, .int .i64 gg), (⟨w.heap.size, 7, none⟩, .int .i64 pr), (⟨w.heap.size, 8, none⟩, .bool fl), (⟨w.heap.size, 9, none⟩, .bool fo), (⟨w.heap.size, 10, none⟩, .slice sa n sc), (⟨w.heap.size, 11, none⟩, .slice pa m pc)]) (by assumption) _ | exact AtF.ald (w := w3) (l := [(⟨w.heap.size, 0, none⟩, .int .i64 kd), (⟨w.heap.size, 1, none⟩, .string N), (⟨w.heap.size, 2, none⟩, .string P), (⟨w.heap.size, 3, none⟩, .string T), (⟨w.heap.size, 4, none⟩, .int .i64 mm), (⟨w.heap.size, 5, none⟩, .int .i64 uu), (⟨w.heap.size, 6, none⟩, .int .i64 gg), (⟨w.heap.size, 7, none⟩, .int .i64 pr), (⟨w.heap.size, 8, none⟩, .bool fl), (⟨w.heap.size, 9, none⟩, .bool fo), (⟨w.heap.size, 10, none⟩, .slice sa n sc), (⟨w.heap.size, 11, none⟩, .slice pa m pc)]) (by assumption) _ | exact AtF.al (w := w3) (l := [(⟨w.heap.size, 0, none⟩, .int .i64 kd), (⟨w.heap.size, 1, none⟩, .string N), (⟨w.heap.size, 2, none⟩, .string P), (⟨w.heap.size, 3, none⟩, .string T), (⟨w.heap.size, 4, none⟩, .int .i64 mm), (⟨w.heap.size, 5, none⟩, .int .i64 uu), (⟨w.heap.size, 6, none⟩, .int .i64 gg), (⟨w.heap.size, 7, none⟩, .int .i64 pr), (⟨w.heap.size, 8, none⟩, .bool fl), (⟨w.heap.size, 9, none⟩, .bool fo), (⟨w.heap.size, 10, none⟩, .slice sa n sc), (⟨w.heap.size, 11, none⟩, .slice pa m pc)]) hs _ | exact AtF.ald (w := w3) (l := [(⟨w.heap.size, 0, none⟩, .int .i64 kd), (⟨w.heap.size, 1, none⟩, .string N), (⟨w.heap.size, 2, none⟩, .string P), (⟨w.heap.size, 3, none⟩, .string T), (⟨w.heap.size, 4, none⟩, .int .i64 mm), (⟨w.heap.size, 5, none⟩, .int .i64 uu), (⟨w.heap.size, 6, none⟩, .int .i64 gg), (⟨w.heap.size, 7, none⟩, .int .i64 pr), (⟨w.heap.size, 8, none⟩, .bool fl), (⟨w.heap.size, 9, none⟩, .bool fo), (⟨w.heap.size, 10, none⟩, .slice sa n sc), (⟨w.heap.size, 11, none⟩, .slice pa m pc)]) hs _)
  clear hK K
  try simp only [Act.put, List.setIfInBounds_toArray, List.set_cons_zero, List.set_cons_succ]
  refine heldY 7 15 ?_ _ rfl rfl (by kernel_rfl) (by kernel_rfl) (by kernel_rfl) (fun _ _ _ h => h) rfl (by assumption) ?_ ?_
  rotate_left
  · (intro w hSw; (try dsimp only at hSw); go_simp; (try with_reducible rfl))
  simp only [List.setIfInBounds_toArray, List.set_cons_zero, List.set_cons_succ]
  refine heldY 8 2 ?_ _ rfl rfl (by kernel_rfl) (by kernel_rfl) (by kernel_rfl) (fun _ _ _ h => h) rfl (by assumption) ?_ ?_
  rotate_left
  · (intro w hSw; (try dsimp only at hSw); go_simp; (try with_reducible rfl))
  simp only [List.setIfInBounds_toArray, List.set_cons_zero, List.set_cons_succ]
  refine wpAnyH_done (by kernel_rfl) ?_ _
  have HW5 := Lib.hid (HB3.out.trans ((BE _ hHeld).mono HB3.out.size))
  clear hHeld
  go_wp2
  go_ret
  exact ⟨rfl, HW5.out⟩
end Go.Proofs.YtolpcnhgmmnmcaaGreatDoor.packActsw
