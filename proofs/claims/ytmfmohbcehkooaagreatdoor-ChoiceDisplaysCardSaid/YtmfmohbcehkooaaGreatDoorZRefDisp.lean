/-
  The reference's Display of an alternative: what it returns; nothing old turns.
-/
import Derived.Test.YtmfmohbcehkooaaGreatDoorZDisp
import Derived.Test.YtmfmohbcehkooaaGreatDoorZRefR1
namespace Go.Proofs.YtmfmohbcehkooaaGreatDoor
open Go.RowKit Go.Shelf
set_option maxRecDepth 100000 in
set_option maxHeartbeats 64000000 in
theorem disp_ref (x : Av) (hf : FewOne x) (w : World) (h : InA w x) : Calls Tryz.prog 10 #[agZA x] w fun e w' => e = .returned (.string (bsT (displayZ x))) ∧ Below w.heap.size w w' := by
  have B1 := (Below.refl w.heap.size w).alloc (Nat.le_refl _) (.cells #[.string (⟨x.nm.toArray⟩ : ByteArray), .string (⟨x.lk.toArray⟩ : ByteArray), .bool x.mn, .string (⟨x.cr.toArray⟩ : ByteArray), x.sv, x.cv] 25)
  obtain ⟨x0, x1, x2, x3, x4, x5⟩ := boxV6 w (.string (⟨x.nm.toArray⟩ : ByteArray)) (.string (⟨x.lk.toArray⟩ : ByteArray)) (.bool x.mn) (.string (⟨x.cr.toArray⟩ : ByteArray)) x.sv x.cv 25
  have RA := fun W (hb : Below w.heap.size w W) => rightA_ref x hf.sm W (h.on hb)
  by_cases hg : GoodA x
  · have hd := hg.smd hf
    have hn0 := hg.ch.some
    have hn1 := hg.ch.few
    have hn2 := hg.sl.few
    have hbr := bestAt_range x.ch x.ch.length (Nat.le_refl _)
    obtain ⟨m, hm⟩ : ∃ m : Nat, bestC x.ch = m := ⟨(bestC x.ch).toNat, by unfold bestC; omega⟩
    have hml : m < x.ch.length := by unfold bestC at hm; omega
    obtain ⟨d, hdm⟩ : ∃ d, x.ch[m]? = some d := ⟨_, List.getElem?_eq_getElem hml⟩
    have HOUT : Hid (displayZ x = dispZ x d.1.1) := Lib.hid (by
      unfold displayZ bpZ
      rw [if_pos (rightA_yes hg), hm, Int.toNat_natCast, hdm])
    have BST := fun W (hb : Below w.heap.size w W) => bestC_ref x.cv x.ch hf.sm.ch W (HoldC.on h.2 hb)
    rw [hm] at BST
    obtain ⟨sa, sc, sb, so, hsv, hsc, hsa, hscell⟩ := HoldS.parts h.1
    obtain ⟨ca, cc, cb, co, hcv, hcc, hca, hccell⟩ := HoldC.parts h.2
    obtain ⟨rfl, hcb⟩ := hca hn0
    have hp0 := (hccell m d hdm).1
    have hdp := (hd.cs d (List.mem_of_getElem? hdm)).1
    have MO := fun W => word_ref30 x.mn W
    have hwl := wordY_len x.mn
    obtain ⟨N0, hN0⟩ : ∃ q : ByteArray, (⟨x.nm.toArray⟩ : ByteArray) = q := ⟨_, rfl⟩
    obtain ⟨L0, hL0⟩ : ∃ q : ByteArray, (⟨x.lk.toArray⟩ : ByteArray) = q := ⟨_, rfl⟩
    obtain ⟨R0, hR0⟩ : ∃ q : ByteArray, (⟨x.cr.toArray⟩ : ByteArray) = q := ⟨_, rfl⟩
    obtain ⟨M0, hM0⟩ : ∃ q : ByteArray, (⟨(wordY x.mn).toArray⟩ : ByteArray) = q := ⟨_, rfl⟩
    obtain ⟨P0, hP0⟩ : ∃ q : ByteArray, (⟨d.1.1.toArray⟩ : ByteArray) = q := ⟨_, rfl⟩
    have zN : N0.size ≤ 300 := by rw [← hN0, sizeOf, bytesOf]; exact hd.nm
    have zL : L0.size ≤ 300 := by rw [← hL0, sizeOf, bytesOf]; exact hd.lk
    have zR : R0.size ≤ 300 := by rw [← hR0, sizeOf, bytesOf]; exact hd.cr
    have zM : M0.size ≤ 6 := by rw [← hM0, sizeOf, bytesOf]; exact hwl
    have zP : P0.size ≤ 300 := by rw [← hP0, sizeOf, bytesOf]; exact hdp
    have HEQ : Hid ((N0 ++ ⟨#[32, 45, 32]⟩ ++ M0 ++ ⟨#[32, 109, 111, 100, 101, 10]⟩ ++ ⟨#[98, 101, 115, 116, 32]⟩ ++ P0 ++ ⟨#[10]⟩ ++ ⟨#[99, 117, 114, 114, 101, 110, 116, 108, 121, 32]⟩ ++ R0 ++ ⟨#[10]⟩ ++ ⟨#[108, 105, 110, 107, 32]⟩ ++ N0 ++ ⟨#[32, 105, 115, 32]⟩ ++ L0 ++ ⟨#[10]⟩ : ByteArray).data.toList = headZ x d.1.1) := Lib.hid (by
      rw [← hN0, ← hM0, ← hP0, ← hR0, ← hL0]
      unfold headZ h1Z h2Z h3Z h4Z lnZ
      simp [joinC])
    have hhl : (headZ x d.1.1).length ≤ 64020 := by
      have s1 := (h1Z_len hd).1
      have s2 := (h2Z_len hdp).1
      have s3 := (h3Z_len hd).1
      have s4 := (h4Z_len hd).1
      unfold headZ
      rw [List.length_append, List.length_append, List.length_append]; omega
    obtain ⟨mn, hmn⟩ : ∃ q, x.mn = q := ⟨_, rfl⟩
    have RA1 := fun W hb => RA W hb
    rw [rightA_yes hg] at RA1
    unfold agZA at RA1 ⊢
    rw [hsv, hcv, hN0, hL0, hR0, hmn] at RA1 B1 x0 x1 x2 x3 x4 x5
    rw [hsv, hcv, hN0, hL0, hR0, hmn]
    rw [hcv] at BST
    rw [hP0] at hp0
    rw [show (bsT (wordY x.mn) : ByteArray) = M0 from hM0, hmn] at MO
    obtain ⟨sn, hsn⟩ : ∃ n, x.sl.length = n := ⟨_, rfl⟩
    obtain ⟨cn, hcn⟩ : ∃ n, x.ch.length = n := ⟨_, rfl⟩
    rw [hsn, hcn] at RA1 B1 x0 x1 x2 x3 x4 x5
    rw [hsn, hcn]
    rw [hcn] at BST hn0 hn1 hml hcc
    rw [hsn] at hn2 hsc hsa
    rw [HOUT.out]
    have HSN := Lib.hid hsn
    have HCN := Lib.hid hcn
    have HD0 := Lib.hid hd
    have HSC := Lib.hid hscell
    have HCC := Lib.hid hccell
    have HIN := Lib.hid h
    have HB1 := Lib.hid B1
    have l0 := World.block_lt_of_cell? _ _ x0
    obtain ⟨H0, hH0⟩ : ∃ q, headZ x d.1.1 = q := ⟨_, rfl⟩
    have HH0 := Lib.hid (show dispZ x d.1.1 = H0 ++ x.sl.flatMap slZ ++ x.ch.flatMap (chZ x.sl) from by rw [← hH0]; rfl)
    rw [hH0] at hhl HEQ
    clear hN0 hL0 hR0 hM0 hP0 hmn hsv hcv hsn hcn hscell hccell hca h hd hg hf hbr hm hdm RA HOUT B1 hwl hdp hH0
    have k3 : (ByteArray.mk #[32, 45, 32]).size = 3 := rfl
    have k6 : (ByteArray.mk #[32, 109, 111, 100, 101, 10]).size = 6 := rfl
    have k5 : (ByteArray.mk #[98, 101, 115, 116, 32]).size = 5 := rfl
    have k10 : (ByteArray.mk #[99, 117, 114, 114, 101, 110, 116, 108, 121, 32]).size = 10 := rfl
    have k5b : (ByteArray.mk #[108, 105, 110, 107, 32]).size = 5 := rfl
    have k4 : (ByteArray.mk #[32, 105, 115, 32]).size = 4 := rfl
    have k1 : (ByteArray.mk #[10]).size = 1 := rfl
    have q1 : ¬ 9223372036854775807 < N0.size + 3 := by omega
    have q2 : ¬ 9223372036854775807 < N0.size + 3 + M0.size := by omega
    have q3 : ¬ 9223372036854775807 < N0.size + 3 + M0.size + 6 := by omega
    go_enter Tryz.func10, Tryz.ntmps10
    go_wp2_with (go_at_call 37; (with_reducible refine (RA1 _ HB1.out).mono ?_); rintro e w2 ⟨rfl, hb⟩; have HB2 := Lib.hid (HB1.out.trans (hb.mono HB1.out.size)); have hl2 := Nat.lt_of_lt_of_le l0 hb.size; have y0 := (hb.cell (p := ⟨w.heap.size, 0, none⟩) l0).trans x0; have y1 := (hb.cell (p := ⟨w.heap.size, 1, none⟩) l0).trans x1; have y2 := (hb.cell (p := ⟨w.heap.size, 2, none⟩) l0).trans x2; have y3 := (hb.cell (p := ⟨w.heap.size, 3, none⟩) l0).trans x3; have y4 := (hb.cell (p := ⟨w.heap.size, 4, none⟩) l0).trans x4; have y5 := (hb.cell (p := ⟨w.heap.size, 5, none⟩) l0).trans x5; clear hb x0 x1 x2 x3 x4 x5)
    have hcb2 : cb < w2.heap.size := Nat.lt_of_lt_of_le hcb HB2.out.size
    have hp2 := (HB2.out.cell (p := ⟨cb, co + m * 3, none⟩) hcb).trans hp0
    have HY : Hid (∀ W, Below w2.heap.size w2 W → W.cell? ⟨w.heap.size, 0, none⟩ = some (.string N0) ∧ W.cell? ⟨w.heap.size, 1, none⟩ = some (.string L0) ∧ W.cell? ⟨w.heap.size, 2, none⟩ = some (.bool mn) ∧ W.cell? ⟨w.heap.size, 3, none⟩ = some (.string R0) ∧ W.cell? ⟨w.heap.size, 4, none⟩ = some (.slice sa sn sc) ∧ W.cell? ⟨w.heap.size, 5, none⟩ = some (.slice (some ⟨cb, co, none⟩) cn cc) ∧ W.cell? ⟨cb, co + m * 3, none⟩ = some (.string P0)) := Lib.hid (fun W hb => ⟨(hb.cell (p := ⟨w.heap.size, 0, none⟩) hl2).trans y0, (hb.cell (p := ⟨w.heap.size, 1, none⟩) hl2).trans y1, (hb.cell (p := ⟨w.heap.size, 2, none⟩) hl2).trans y2, (hb.cell (p := ⟨w.heap.size, 3, none⟩) hl2).trans y3, (hb.cell (p := ⟨w.heap.size, 4, none⟩) hl2).trans y4, (hb.cell (p := ⟨w.heap.size, 5, none⟩) hl2).trans y5, (hb.cell (p := ⟨cb, co + m * 3, none⟩) hcb2).trans hp2⟩)
    have hs := And.intro y0 (And.intro y2 (Below.refl w2.heap.size w2))
    clear y0 y1 y2 y3 y4 y5 hp0 hp2 l0 HB1 RA1
    have BE := fun (V : World) (h : V.cell? ⟨w.heap.size, 0, none⟩ = some (.string N0) ∧ V.cell? ⟨w.heap.size, 2, none⟩ = some (.bool mn) ∧ Below w2.heap.size w2 V) => AtF.be (w := w2) (l := [(⟨w.heap.size, 0, none⟩, .string N0), (⟨w.heap.size, 2, none⟩, .bool mn)]) h
    refine wp_region_held_drew (S := (fun V => V.cell? ⟨w.heap.size, 0, none⟩ = some (.string N0) ∧ V.cell? ⟨w.heap.size, 2, none⟩ = some (.bool mn) ∧ Below w2.heap.size w2 V)) (by kernel_rfl) ?_ (fun hHeld => ?_)
    · (try dsimp only); (first | assumption | exact hs | exact AtF.dr (w := w2) (l := [(⟨w.heap.size, 0, none⟩, .string N0), (⟨w.heap.size, 2, none⟩, .bool mn)]) hs | exact AtF.dr (w := w2) (l := [(⟨w.heap.size, 0, none⟩, .string N0), (⟨w.heap.size, 2, none⟩, .bool mn)]) (by assumption) | exact AtF.on (w := w2) (l := [(⟨w.heap.size, 0, none⟩, .string N0), (⟨w.heap.size, 2, none⟩, .bool mn)]) (by assumption) (by assumption) | exact AtF.al (w := w2) (l := [(⟨w.heap.size, 0, none⟩, .string N0), (⟨w.heap.size, 2, none⟩, .bool mn)]) (by assumption) _ | exact AtF.ald (w := w2) (l := [(⟨w.heap.size, 0, none⟩, .string N0), (⟨w.heap.size, 2, none⟩, .bool mn)]) (by assumption) _ | exact AtF.al (w := w2) (l := [(⟨w.heap.size, 0, none⟩, .string N0), (⟨w.heap.size, 2, none⟩, .bool mn)]) hs _ | exact AtF.ald (w := w2) (l := [(⟨w.heap.size, 0, none⟩, .string N0), (⟨w.heap.size, 2, none⟩, .bool mn)]) hs _)
    refine heldY 0 11 ?_ _ rfl rfl (by kernel_rfl) (by kernel_rfl) (by kernel_rfl) (fun _ _ _ h => h) rfl (by assumption) ?_ ?_
    rotate_left
    · (intro w hSw; (try dsimp only at hSw); go_simp; (try with_reducible rfl))
    simp only [List.setIfInBounds_toArray, List.set_cons_zero, List.set_cons_succ]
    refine heldY 1 12 ?_ _ rfl rfl (by kernel_rfl) (by kernel_rfl) (by kernel_rfl) (fun _ _ _ h => h) rfl (by assumption) ?_ ?_
    rotate_left
    · (intro w hSw; (try dsimp only at hSw); go_simp; (try with_reducible rfl))
    simp only [List.setIfInBounds_toArray, List.set_cons_zero, List.set_cons_succ]
    refine heldY 2 13 ?_ _ rfl rfl (by kernel_rfl) (by kernel_rfl) (by kernel_rfl) (fun _ _ _ h => h) rfl (by assumption) ?_ ?_
    rotate_left
    · (intro w hSw; (try dsimp only at hSw); go_simp; (try with_reducible rfl))
    simp only [List.setIfInBounds_toArray, List.set_cons_zero, List.set_cons_succ]
    refine heldY 3 14 ?_ _ rfl rfl (by kernel_rfl) (by kernel_rfl) (by kernel_rfl) (fun _ _ _ h => h) rfl (by assumption) ?_ ?_
    rotate_left
    · (intro w hSw; (try dsimp only at hSw); go_simp; (try with_reducible rfl))
    simp only [List.setIfInBounds_toArray, List.set_cons_zero, List.set_cons_succ]
    refine heldY 4 15 ?_ _ rfl rfl (by kernel_rfl) (by kernel_rfl) (by kernel_rfl) (fun _ _ _ h => h) rfl (by assumption) ?_ ?_
    rotate_left
    · (intro w hSw; (try dsimp only at hSw); go_simp; (try with_reducible rfl))
    simp only [List.setIfInBounds_toArray, List.set_cons_zero, List.set_cons_succ]
    refine wpAnyH_ready (rs := [5]) (by kernel_rfl) (by simp) ?_
    refine AllReadyH.cons rfl (fun K hK => ?_) AllReadyH.nil
    go_simp
    (go_at_call 38; (with_reducible refine (MO _).mono ?_); rintro e w4 ⟨rfl, rfl⟩)
    refine hK.out _ _ ?_ (fun hHeld => ?_)
    · (try dsimp only); (first | assumption | exact hs | exact AtF.dr (w := w2) (l := [(⟨w.heap.size, 0, none⟩, .string N0), (⟨w.heap.size, 2, none⟩, .bool mn)]) hs | exact AtF.dr (w := w2) (l := [(⟨w.heap.size, 0, none⟩, .string N0), (⟨w.heap.size, 2, none⟩, .bool mn)]) (by assumption) | exact AtF.on (w := w2) (l := [(⟨w.heap.size, 0, none⟩, .string N0), (⟨w.heap.size, 2, none⟩, .bool mn)]) (by assumption) (by assumption) | exact AtF.al (w := w2) (l := [(⟨w.heap.size, 0, none⟩, .string N0), (⟨w.heap.size, 2, none⟩, .bool mn)]) (by assumption) _ | exact AtF.ald (w := w2) (l := [(⟨w.heap.size, 0, none⟩, .string N0), (⟨w.heap.size, 2, none⟩, .bool mn)]) (by assumption) _ | exact AtF.al (w := w2) (l := [(⟨w.heap.size, 0, none⟩, .string N0), (⟨w.heap.size, 2, none⟩, .bool mn)]) hs _ | exact AtF.ald (w := w2) (l := [(⟨w.heap.size, 0, none⟩, .string N0), (⟨w.heap.size, 2, none⟩, .bool mn)]) hs _)
    clear hK K
    try simp only [Act.put, List.setIfInBounds_toArray, List.set_cons_zero, List.set_cons_succ]
    refine heldY 6 17 ?_ _ rfl rfl (by kernel_rfl) (by kernel_rfl) (by kernel_rfl) (fun _ _ _ h => h) rfl (by assumption) ?_ ?_
    rotate_left
    · (intro w hSw; (try dsimp only at hSw); go_simp; (try with_reducible rfl))
    simp only [List.setIfInBounds_toArray, List.set_cons_zero, List.set_cons_succ]
    refine heldY 7 18 ?_ _ rfl rfl (by kernel_rfl) (by kernel_rfl) (by kernel_rfl) (fun _ _ _ h => h) rfl (by assumption) ?_ ?_
    rotate_left
    · (intro w hSw; (try dsimp only at hSw); go_simp; (try with_reducible rfl))
    simp only [List.setIfInBounds_toArray, List.set_cons_zero, List.set_cons_succ]
    refine heldY 8 3 ?_ _ rfl rfl (by kernel_rfl) (by kernel_rfl) (by kernel_rfl) (fun _ _ _ h => h) rfl (by assumption) ?_ ?_
    rotate_left
    · (intro w hSw; (try dsimp only at hSw); go_simp; (try with_reducible rfl))
    simp only [List.setIfInBounds_toArray, List.set_cons_zero, List.set_cons_succ]
    refine wpAnyH_done (by kernel_rfl) ?_ _
    have HB6 := Lib.hid (BE _ hHeld)
    clear hHeld hs BE MO
    obtain ⟨y0, y1, y2, y3, y4, y5, y6⟩ := HY.out _ HB6.out
    have hs := And.intro y5 (And.intro y6 HB6.out)
    clear y0 y1 y2 y3 y4 y5 y6 q1 q2 q3
    have HS3 := Lib.hid (show (N0 ++ ⟨#[32, 45, 32]⟩ ++ M0 ++ ⟨#[32, 109, 111, 100, 101, 10]⟩ : ByteArray).size ≤ 1000 from by simp only [ByteArray.size_append]; omega)
    obtain ⟨S3, hS3⟩ : ∃ q : ByteArray, N0 ++ ⟨#[32, 45, 32]⟩ ++ M0 ++ ⟨#[32, 109, 111, 100, 101, 10]⟩ = q := ⟨_, rfl⟩
    rw [hS3] at HS3 HEQ ⊢
    have hs3 := HS3.out
    clear hS3 HS3
    have j0 : (0 : Int) ≤ (m : Int) := by omega
    have j1 : (m : Int) < (cn : Int) := by omega
    have q1 : ¬ 9223372036854775807 < S3.size + 5 := by omega
    have q2 : ¬ 9223372036854775807 < S3.size + 5 + P0.size := by omega
    have q3 : ¬ 9223372036854775807 < S3.size + 5 + P0.size + 1 := by omega
    go_wp2
    have BE := fun (V : World) (h : V.cell? ⟨w.heap.size, 5, none⟩ = some (.slice (some ⟨cb, co, none⟩) cn cc) ∧ V.cell? ⟨cb, co + m * 3, none⟩ = some (.string P0) ∧ Below w2.heap.size w2 V) => AtF.be (w := w2) (l := [(⟨w.heap.size, 5, none⟩, .slice (some ⟨cb, co, none⟩) cn cc), (⟨cb, co + m * 3, none⟩, .string P0)]) h
    refine wp_region_held_drew (S := (fun V => V.cell? ⟨w.heap.size, 5, none⟩ = some (.slice (some ⟨cb, co, none⟩) cn cc) ∧ V.cell? ⟨cb, co + m * 3, none⟩ = some (.string P0) ∧ Below w2.heap.size w2 V)) (by kernel_rfl) ?_ (fun hHeld => ?_)
    · (try dsimp only); (first | assumption | exact hs | exact AtF.dr (w := w2) (l := [(⟨w.heap.size, 5, none⟩, .slice (some ⟨cb, co, none⟩) cn cc), (⟨cb, co + m * 3, none⟩, .string P0)]) hs | exact AtF.dr (w := w2) (l := [(⟨w.heap.size, 5, none⟩, .slice (some ⟨cb, co, none⟩) cn cc), (⟨cb, co + m * 3, none⟩, .string P0)]) (by assumption) | exact AtF.on (w := w2) (l := [(⟨w.heap.size, 5, none⟩, .slice (some ⟨cb, co, none⟩) cn cc), (⟨cb, co + m * 3, none⟩, .string P0)]) (by assumption) (by assumption) | exact AtF.al (w := w2) (l := [(⟨w.heap.size, 5, none⟩, .slice (some ⟨cb, co, none⟩) cn cc), (⟨cb, co + m * 3, none⟩, .string P0)]) (by assumption) _ | exact AtF.ald (w := w2) (l := [(⟨w.heap.size, 5, none⟩, .slice (some ⟨cb, co, none⟩) cn cc), (⟨cb, co + m * 3, none⟩, .string P0)]) (by assumption) _ | exact AtF.al (w := w2) (l := [(⟨w.heap.size, 5, none⟩, .slice (some ⟨cb, co, none⟩) cn cc), (⟨cb, co + m * 3, none⟩, .string P0)]) hs _ | exact AtF.ald (w := w2) (l := [(⟨w.heap.size, 5, none⟩, .slice (some ⟨cb, co, none⟩) cn cc), (⟨cb, co + m * 3, none⟩, .string P0)]) hs _)
    refine heldY 0 19 ?_ _ rfl rfl (by kernel_rfl) (by kernel_rfl) (by kernel_rfl) (fun _ _ _ h => h) rfl (by assumption) ?_ ?_
    rotate_left
    · (intro w hSw; (try dsimp only at hSw); go_simp; (try with_reducible rfl))
    simp only [List.setIfInBounds_toArray, List.set_cons_zero, List.set_cons_succ]
    refine heldY 1 20 ?_ _ rfl rfl (by kernel_rfl) (by kernel_rfl) (by kernel_rfl) (fun _ _ _ h => h) rfl (by assumption) ?_ ?_
    rotate_left
    · (intro w hSw; (try dsimp only at hSw); go_simp; (try with_reducible rfl))
    simp only [List.setIfInBounds_toArray, List.set_cons_zero, List.set_cons_succ]
    refine heldY 2 21 ?_ _ rfl rfl (by kernel_rfl) (by kernel_rfl) (by kernel_rfl) (fun _ _ _ h => h) rfl (by assumption) ?_ ?_
    rotate_left
    · (intro w hSw; (try dsimp only at hSw); go_simp; (try with_reducible rfl))
    simp only [List.setIfInBounds_toArray, List.set_cons_zero, List.set_cons_succ]
    refine heldY 3 22 ?_ _ rfl rfl (by kernel_rfl) (by kernel_rfl) (by kernel_rfl) (fun _ _ _ h => h) rfl (by assumption) ?_ ?_
    rotate_left
    · (intro w hSw; (try dsimp only at hSw); go_simp; (try with_reducible rfl))
    simp only [List.setIfInBounds_toArray, List.set_cons_zero, List.set_cons_succ]
    refine heldY 4 23 ?_ _ rfl rfl (by kernel_rfl) (by kernel_rfl) (by kernel_rfl) (fun _ _ _ h => h) rfl (by assumption) ?_ ?_
    rotate_left
    · (intro w hSw; (try dsimp only at hSw); go_simp; (try with_reducible rfl))
    simp only [List.setIfInBounds_toArray, List.set_cons_zero, List.set_cons_succ]
    refine heldY 5 24 ?_ _ rfl rfl (by kernel_rfl) (by kernel_rfl) (by kernel_rfl) (fun _ _ _ h => h) rfl (by assumption) ?_ ?_
    rotate_left
    · (intro w hSw; (try dsimp only at hSw); go_simp; (try with_reducible rfl))
    simp only [List.setIfInBounds_toArray, List.set_cons_zero, List.set_cons_succ]
    refine wpAnyH_ready (rs := [6]) (by kernel_rfl) (by simp) ?_
    refine AllReadyH.cons rfl (fun K hK => ?_) AllReadyH.nil
    go_simp
    (go_at_call 13; (with_reducible refine (BST _ (HB2.out.trans ((BE _ (by assumption)).mono HB2.out.size))).mono ?_); rintro e w7 ⟨rfl, hb⟩)
    refine hK.out _ _ ?_ (fun hHeld => ?_)
    · (try dsimp only); (first | assumption | exact hs | exact AtF.dr (w := w2) (l := [(⟨w.heap.size, 5, none⟩, .slice (some ⟨cb, co, none⟩) cn cc), (⟨cb, co + m * 3, none⟩, .string P0)]) hs | exact AtF.dr (w := w2) (l := [(⟨w.heap.size, 5, none⟩, .slice (some ⟨cb, co, none⟩) cn cc), (⟨cb, co + m * 3, none⟩, .string P0)]) (by assumption) | exact AtF.on (w := w2) (l := [(⟨w.heap.size, 5, none⟩, .slice (some ⟨cb, co, none⟩) cn cc), (⟨cb, co + m * 3, none⟩, .string P0)]) (by assumption) (by assumption) | exact AtF.al (w := w2) (l := [(⟨w.heap.size, 5, none⟩, .slice (some ⟨cb, co, none⟩) cn cc), (⟨cb, co + m * 3, none⟩, .string P0)]) (by assumption) _ | exact AtF.ald (w := w2) (l := [(⟨w.heap.size, 5, none⟩, .slice (some ⟨cb, co, none⟩) cn cc), (⟨cb, co + m * 3, none⟩, .string P0)]) (by assumption) _ | exact AtF.al (w := w2) (l := [(⟨w.heap.size, 5, none⟩, .slice (some ⟨cb, co, none⟩) cn cc), (⟨cb, co + m * 3, none⟩, .string P0)]) hs _ | exact AtF.ald (w := w2) (l := [(⟨w.heap.size, 5, none⟩, .slice (some ⟨cb, co, none⟩) cn cc), (⟨cb, co + m * 3, none⟩, .string P0)]) hs _)
    clear hK K
    try simp only [Act.put, List.setIfInBounds_toArray, List.set_cons_zero, List.set_cons_succ]
    refine heldY 7 26 ?_ _ rfl rfl (by kernel_rfl) (by kernel_rfl) (by kernel_rfl) (fun _ _ _ h => h) rfl (by assumption) ?_ ?_
    rotate_left
    · (intro w hSw; (try dsimp only at hSw); go_simp; (try with_reducible rfl))
    simp only [List.setIfInBounds_toArray, List.set_cons_zero, List.set_cons_succ]
    refine heldY 8 27 ?_ _ rfl rfl (by kernel_rfl) (by kernel_rfl) (by kernel_rfl) (fun _ _ _ h => h) rfl (by assumption) ?_ ?_
    rotate_left
    · (intro w hSw; (try dsimp only at hSw); go_simp; (try with_reducible rfl))
    simp only [List.setIfInBounds_toArray, List.set_cons_zero, List.set_cons_succ]
    refine heldY 9 28 ?_ _ rfl rfl (by kernel_rfl) (by kernel_rfl) (by kernel_rfl) (fun _ _ _ h => h) rfl (by assumption) ?_ ?_
    rotate_left
    · (intro w hSw; (try dsimp only at hSw); go_simp; (try with_reducible rfl))
    simp only [List.setIfInBounds_toArray, List.set_cons_zero, List.set_cons_succ]
    refine heldY 10 29 ?_ _ rfl rfl (by kernel_rfl) (by kernel_rfl) (by kernel_rfl) (fun _ _ _ h => h) rfl (by assumption) ?_ ?_
    rotate_left
    · (intro w hSw; (try dsimp only at hSw); go_simp; (try with_reducible rfl))
    simp only [List.setIfInBounds_toArray, List.set_cons_zero, List.set_cons_succ]
    refine heldY 11 30 ?_ _ rfl rfl (by kernel_rfl) (by kernel_rfl) (by kernel_rfl) (fun _ _ _ h => h) rfl (by assumption) ?_ ?_
    rotate_left
    · (intro w hSw; (try dsimp only at hSw); go_simp; (try with_reducible rfl))
    simp only [List.setIfInBounds_toArray, List.set_cons_zero, List.set_cons_succ]
    refine heldY 12 3 ?_ _ rfl rfl (by kernel_rfl) (by kernel_rfl) (by kernel_rfl) (fun _ _ _ h => h) rfl (by assumption) ?_ ?_
    rotate_left
    · (intro w hSw; (try dsimp only at hSw); go_simp; (try with_reducible rfl))
    simp only [List.setIfInBounds_toArray, List.set_cons_zero, List.set_cons_succ]
    refine wpAnyH_done (by kernel_rfl) ?_ _
    have HB7 := Lib.hid (BE _ hHeld)
    clear hHeld hs BE BST HB6 q1 q2 q3 j0 j1
    obtain ⟨y0, y1, y2, y3, y4, y5, y6⟩ := HY.out _ HB7.out
    have hS4 := (show (S3 ++ ⟨#[98, 101, 115, 116, 32]⟩ ++ P0 ++ ⟨#[10]⟩ : ByteArray).size ≤ 2000 from by simp only [ByteArray.size_append]; omega)
    obtain ⟨S4, hS4e⟩ : ∃ q : ByteArray, S3 ++ ⟨#[98, 101, 115, 116, 32]⟩ ++ P0 ++ ⟨#[10]⟩ = q := ⟨_, rfl⟩
    rw [hS4e] at hS4 HEQ ⊢
    clear hS4e hs3
    have r0 : ¬ 9223372036854775807 < S4.size + 10 := by omega
    have r1 : ¬ 9223372036854775807 < S4.size + 10 + R0.size := by omega
    have r2 : ¬ 9223372036854775807 < S4.size + 10 + R0.size + 1 := by omega
    have r3 : ¬ 9223372036854775807 < S4.size + 10 + R0.size + 1 + 5 := by omega
    have r4 : ¬ 9223372036854775807 < S4.size + 10 + R0.size + 1 + 5 + N0.size := by omega
    have r5 : ¬ 9223372036854775807 < S4.size + 10 + R0.size + 1 + 5 + N0.size + 4 := by omega
    have r6 : ¬ 9223372036854775807 < S4.size + 10 + R0.size + 1 + 5 + N0.size + 4 + L0.size := by omega
    have r7 : ¬ 9223372036854775807 < S4.size + 10 + R0.size + 1 + 5 + N0.size + 4 + L0.size + 1 := by omega
    go_wp2
    have hS5 : Hid ((S4 ++ ⟨#[99, 117, 114, 114, 101, 110, 116, 108, 121, 32]⟩ ++ R0 ++ ⟨#[10]⟩ ++ ⟨#[108, 105, 110, 107, 32]⟩ ++ N0 ++ ⟨#[32, 105, 115, 32]⟩ ++ L0 ++ ⟨#[10]⟩ : ByteArray).size ≤ 64020) := Lib.hid (by rw [sizeOf, HEQ.out]; exact hhl)
    have HI0 : Hid ((S4 ++ ⟨#[99, 117, 114, 114, 101, 110, 116, 108, 121, 32]⟩ ++ R0 ++ ⟨#[10]⟩ ++ ⟨#[108, 105, 110, 107, 32]⟩ ++ N0 ++ ⟨#[32, 105, 115, 32]⟩ ++ L0 ++ ⟨#[10]⟩ : ByteArray).data.toList = H0 ++ (x.sl.take 0).flatMap slZ) := Lib.hid (by rw [HEQ.out]; simp)
    have HSM := Lib.hid (show ∀ s ∈ x.sl, s.1.length ≤ 300 ∧ s.2.length ≤ 300 from HD0.out.ss)
    go_loopw [3, 4] (fun u i wr => ∃ (k : Nat) (S : ByteArray), k ≤ sn ∧ i = .int .i64 k ∧ u = .string S ∧ Hid (S.data.toList = H0 ++ (x.sl.take k).flatMap slZ) ∧ S.size ≤ 64020 + 16005 * k ∧ Hid (Below w2.heap.size w2 wr)) (fun _ i _ => sn - (intOf i).toNat)
    case atStart => exact ⟨0, _, by omega, rfl, rfl, HI0, by simpa using hS5.out, HB7⟩
    clear y0 y1 y2 y3 y4 y5 y6 HI0 hS5 HEQ r0 r1 r2 r3 r4 r5 r6 r7 hS4 HB7
    case round =>
      obtain ⟨k, S, hk, rfl, rfl, HE, hlen, HB⟩ := hrel
      have hsz := HB.out.size
      obtain ⟨y0, y1, y2, y3, y4, y5, y6⟩ := HY.out _ HB.out
      clear y0 y1 y2 y3 y6
      by_cases hlt : k < sn
      · obtain ⟨rfl, hsb⟩ := hsa (by omega)
        obtain ⟨s, hx⟩ : ∃ s, x.sl[k]? = some s := ⟨_, List.getElem?_eq_getElem (by rw [HSN.out]; exact hlt)⟩
        have hBW := HB2.out.trans (HB.out.mono HB2.out.size)
        have c0 := (hBW.cell (p := ⟨sb, so + k * 2, none⟩) hsb).trans (HSC.out k s hx).1
        have c1 := (hBW.cell (p := ⟨sb, so + k * 2 + 1, none⟩) hsb).trans (HSC.out k s hx).2
        have hss := HSM.out s (List.mem_of_getElem? hx)
        obtain ⟨S1, hS1⟩ : ∃ q : ByteArray, (⟨s.1.toArray⟩ : ByteArray) = q := ⟨_, rfl⟩
        obtain ⟨S2, hS2⟩ : ∃ q : ByteArray, (⟨s.2.toArray⟩ : ByteArray) = q := ⟨_, rfl⟩
        have z1 : S1.size ≤ 300 := by rw [← hS1, sizeOf, bytesOf]; exact hss.1
        have z2 : S2.size ≤ 300 := by rw [← hS2, sizeOf, bytesOf]; exact hss.2
        have HE2 : Hid ((S ++ ⟨#[115, 108, 97, 118, 101, 32]⟩ ++ S1 ++ ⟨#[32, 105, 115, 32]⟩ ++ S2 ++ ⟨#[10]⟩ : ByteArray).data.toList = H0 ++ (x.sl.take (k + 1)).flatMap slZ) := Lib.hid (by
          rw [flat_snoc slZ hx, ← List.append_assoc, ← HE.out, ← hS1, ← hS2]
          unfold slZ lnZ
          simp [joinC])
        have k6b : (ByteArray.mk #[115, 108, 97, 118, 101, 32]).size = 6 := rfl
        have hln2 : Hid ((S ++ ⟨#[115, 108, 97, 118, 101, 32]⟩ ++ S1 ++ ⟨#[32, 105, 115, 32]⟩ ++ S2 ++ ⟨#[10]⟩ : ByteArray).size ≤ 64020 + 16005 * (k + 1)) := Lib.hid (by simp only [ByteArray.size_append]; omega)
        rw [hS1] at c0
        rw [hS2] at c1
        have hs := And.intro y4 (And.intro c0 (And.intro c1 HB.out))
        have i0 : (0 : Int) ≤ (k : Int) := by omega
        have i1 : (k : Int) < (sn : Int) := by omega
        have r0 : ¬ 9223372036854775807 < S.size + 6 := by omega
        have r1 : ¬ 9223372036854775807 < S.size + 6 + S1.size := by omega
        have r2 : ¬ 9223372036854775807 < S.size + 6 + S1.size + 4 := by omega
        have r3 : ¬ 9223372036854775807 < S.size + 6 + S1.size + 4 + S2.size := by omega
        have r4 : ¬ 9223372036854775807 < S.size + 6 + S1.size + 4 + S2.size + 1 := by omega
        clear hx hBW hss hS1 hS2 HE
        go_wp2
        have BE := fun (V : World) (h : V.cell? ⟨w.heap.size, 4, none⟩ = some (.slice (some ⟨sb, so, none⟩) sn sc) ∧ V.cell? ⟨sb, so + k * 2, none⟩ = some (.string S1) ∧ V.cell? ⟨sb, so + k * 2 + 1, none⟩ = some (.string S2) ∧ Below w2.heap.size w2 V) => AtF.be (w := w2) (l := [(⟨w.heap.size, 4, none⟩, .slice (some ⟨sb, so, none⟩) sn sc), (⟨sb, so + k * 2, none⟩, .string S1), (⟨sb, so + k * 2 + 1, none⟩, .string S2)]) h
        refine wp_region_held_drew (S := (fun V => V.cell? ⟨w.heap.size, 4, none⟩ = some (.slice (some ⟨sb, so, none⟩) sn sc) ∧ V.cell? ⟨sb, so + k * 2, none⟩ = some (.string S1) ∧ V.cell? ⟨sb, so + k * 2 + 1, none⟩ = some (.string S2) ∧ Below w2.heap.size w2 V)) (by kernel_rfl) ?_ (fun hHeld => ?_)
        · (try dsimp only); (first | assumption | exact hs | exact AtF.dr (w := w2) (l := [(⟨w.heap.size, 4, none⟩, .slice (some ⟨sb, so, none⟩) sn sc), (⟨sb, so + k * 2, none⟩, .string S1), (⟨sb, so + k * 2 + 1, none⟩, .string S2)]) hs | exact AtF.dr (w := w2) (l := [(⟨w.heap.size, 4, none⟩, .slice (some ⟨sb, so, none⟩) sn sc), (⟨sb, so + k * 2, none⟩, .string S1), (⟨sb, so + k * 2 + 1, none⟩, .string S2)]) (by assumption) | exact AtF.on (w := w2) (l := [(⟨w.heap.size, 4, none⟩, .slice (some ⟨sb, so, none⟩) sn sc), (⟨sb, so + k * 2, none⟩, .string S1), (⟨sb, so + k * 2 + 1, none⟩, .string S2)]) (by assumption) (by assumption) | exact AtF.al (w := w2) (l := [(⟨w.heap.size, 4, none⟩, .slice (some ⟨sb, so, none⟩) sn sc), (⟨sb, so + k * 2, none⟩, .string S1), (⟨sb, so + k * 2 + 1, none⟩, .string S2)]) (by assumption) _ | exact AtF.ald (w := w2) (l := [(⟨w.heap.size, 4, none⟩, .slice (some ⟨sb, so, none⟩) sn sc), (⟨sb, so + k * 2, none⟩, .string S1), (⟨sb, so + k * 2 + 1, none⟩, .string S2)]) (by assumption) _ | exact AtF.al (w := w2) (l := [(⟨w.heap.size, 4, none⟩, .slice (some ⟨sb, so, none⟩) sn sc), (⟨sb, so + k * 2, none⟩, .string S1), (⟨sb, so + k * 2 + 1, none⟩, .string S2)]) hs _ | exact AtF.ald (w := w2) (l := [(⟨w.heap.size, 4, none⟩, .slice (some ⟨sb, so, none⟩) sn sc), (⟨sb, so + k * 2, none⟩, .string S1), (⟨sb, so + k * 2 + 1, none⟩, .string S2)]) hs _)
        refine heldY 0 54 ?_ _ rfl rfl (by kernel_rfl) (by kernel_rfl) (by kernel_rfl) (fun _ _ _ h => h) rfl (by assumption) ?_ ?_
        rotate_left
        · (intro w hSw; (try dsimp only at hSw); go_simp; (try with_reducible rfl))
        simp only [List.setIfInBounds_toArray, List.set_cons_zero, List.set_cons_succ]
        refine heldY 1 55 ?_ _ rfl rfl (by kernel_rfl) (by kernel_rfl) (by kernel_rfl) (fun _ _ _ h => h) rfl (by assumption) ?_ ?_
        rotate_left
        · (intro w hSw; (try dsimp only at hSw); go_simp; (try with_reducible rfl))
        simp only [List.setIfInBounds_toArray, List.set_cons_zero, List.set_cons_succ]
        refine heldY 2 56 ?_ _ rfl rfl (by kernel_rfl) (by kernel_rfl) (by kernel_rfl) (fun _ _ _ h => h) rfl (by assumption) ?_ ?_
        rotate_left
        · (intro w hSw; (try dsimp only at hSw); go_simp; (try with_reducible rfl))
        simp only [List.setIfInBounds_toArray, List.set_cons_zero, List.set_cons_succ]
        refine heldY 3 57 ?_ _ rfl rfl (by kernel_rfl) (by kernel_rfl) (by kernel_rfl) (fun _ _ _ h => h) rfl (by assumption) ?_ ?_
        rotate_left
        · (intro w hSw; (try dsimp only at hSw); go_simp; (try with_reducible rfl))
        simp only [List.setIfInBounds_toArray, List.set_cons_zero, List.set_cons_succ]
        refine heldY 4 58 ?_ _ rfl rfl (by kernel_rfl) (by kernel_rfl) (by kernel_rfl) (fun _ _ _ h => h) rfl (by assumption) ?_ ?_
        rotate_left
        · (intro w hSw; (try dsimp only at hSw); go_simp; (try with_reducible rfl))
        simp only [List.setIfInBounds_toArray, List.set_cons_zero, List.set_cons_succ]
        refine heldY 5 59 ?_ _ rfl rfl (by kernel_rfl) (by kernel_rfl) (by kernel_rfl) (fun _ _ _ h => h) rfl (by assumption) ?_ ?_
        rotate_left
        · (intro w hSw; (try dsimp only at hSw); go_simp; (try with_reducible rfl))
        simp only [List.setIfInBounds_toArray, List.set_cons_zero, List.set_cons_succ]
        refine heldY 6 60 ?_ _ rfl rfl (by kernel_rfl) (by kernel_rfl) (by kernel_rfl) (fun _ _ _ h => h) rfl (by assumption) ?_ ?_
        rotate_left
        · (intro w hSw; (try dsimp only at hSw); go_simp; (try with_reducible rfl))
        simp only [List.setIfInBounds_toArray, List.set_cons_zero, List.set_cons_succ]
        refine heldY 7 61 ?_ _ rfl rfl (by kernel_rfl) (by kernel_rfl) (by kernel_rfl) (fun _ _ _ h => h) rfl (by assumption) ?_ ?_
        rotate_left
        · (intro w hSw; (try dsimp only at hSw); go_simp; (try with_reducible rfl))
        simp only [List.setIfInBounds_toArray, List.set_cons_zero, List.set_cons_succ]
        refine heldY 8 62 ?_ _ rfl rfl (by kernel_rfl) (by kernel_rfl) (by kernel_rfl) (fun _ _ _ h => h) rfl (by assumption) ?_ ?_
        rotate_left
        · (intro w hSw; (try dsimp only at hSw); go_simp; (try with_reducible rfl))
        simp only [List.setIfInBounds_toArray, List.set_cons_zero, List.set_cons_succ]
        refine heldY 9 63 ?_ _ rfl rfl (by kernel_rfl) (by kernel_rfl) (by kernel_rfl) (fun _ _ _ h => h) rfl (by assumption) ?_ ?_
        rotate_left
        · (intro w hSw; (try dsimp only at hSw); go_simp; (try with_reducible rfl))
        simp only [List.setIfInBounds_toArray, List.set_cons_zero, List.set_cons_succ]
        refine heldY 10 64 ?_ _ rfl rfl (by kernel_rfl) (by kernel_rfl) (by kernel_rfl) (fun _ _ _ h => h) rfl (by assumption) ?_ ?_
        rotate_left
        · (intro w hSw; (try dsimp only at hSw); go_simp; (try with_reducible rfl))
        simp only [List.setIfInBounds_toArray, List.set_cons_zero, List.set_cons_succ]
        refine heldY 11 65 ?_ _ rfl rfl (by kernel_rfl) (by kernel_rfl) (by kernel_rfl) (fun _ _ _ h => h) rfl (by assumption) ?_ ?_
        rotate_left
        · (intro w hSw; (try dsimp only at hSw); go_simp; (try with_reducible rfl))
        simp only [List.setIfInBounds_toArray, List.set_cons_zero, List.set_cons_succ]
        refine heldY 12 66 ?_ _ rfl rfl (by kernel_rfl) (by kernel_rfl) (by kernel_rfl) (fun _ _ _ h => h) rfl (by assumption) ?_ ?_
        rotate_left
        · (intro w hSw; (try dsimp only at hSw); go_simp; (try with_reducible rfl))
        simp only [List.setIfInBounds_toArray, List.set_cons_zero, List.set_cons_succ]
        refine heldY 13 67 ?_ _ rfl rfl (by kernel_rfl) (by kernel_rfl) (by kernel_rfl) (fun _ _ _ h => h) rfl (by assumption) ?_ ?_
        rotate_left
        · (intro w hSw; (try dsimp only at hSw); go_simp; (try with_reducible rfl))
        simp only [List.setIfInBounds_toArray, List.set_cons_zero, List.set_cons_succ]
        refine heldY 14 68 ?_ _ rfl rfl (by kernel_rfl) (by kernel_rfl) (by kernel_rfl) (fun _ _ _ h => h) rfl (by assumption) ?_ ?_
        rotate_left
        · (intro w hSw; (try dsimp only at hSw); go_simp; (try with_reducible rfl))
        simp only [List.setIfInBounds_toArray, List.set_cons_zero, List.set_cons_succ]
        refine heldY 15 69 ?_ _ rfl rfl (by kernel_rfl) (by kernel_rfl) (by kernel_rfl) (fun _ _ _ h => h) rfl (by assumption) ?_ ?_
        rotate_left
        · (intro w hSw; (try dsimp only at hSw); go_simp; (try with_reducible rfl))
        simp only [List.setIfInBounds_toArray, List.set_cons_zero, List.set_cons_succ]
        refine heldY 16 70 ?_ _ rfl rfl (by kernel_rfl) (by kernel_rfl) (by kernel_rfl) (fun _ _ _ h => h) rfl (by assumption) ?_ ?_
        rotate_left
        · (intro w hSw; (try dsimp only at hSw); go_simp; (try with_reducible rfl))
        simp only [List.setIfInBounds_toArray, List.set_cons_zero, List.set_cons_succ]
        refine heldY 17 71 ?_ _ rfl rfl (by kernel_rfl) (by kernel_rfl) (by kernel_rfl) (fun _ _ _ h => h) rfl (by assumption) ?_ ?_
        rotate_left
        · (intro w hSw; (try dsimp only at hSw); go_simp; (try with_reducible rfl))
        simp only [List.setIfInBounds_toArray, List.set_cons_zero, List.set_cons_succ]
        refine heldY 18 3 ?_ _ rfl rfl (by kernel_rfl) (by kernel_rfl) (by kernel_rfl) (fun _ _ _ h => h) rfl (by assumption) ?_ ?_
        rotate_left
        · (intro w hSw; (try dsimp only at hSw); go_simp; (try with_reducible rfl))
        simp only [List.setIfInBounds_toArray, List.set_cons_zero, List.set_cons_succ]
        refine wpAnyH_done (by kernel_rfl) ?_ _
        have HW4 := Lib.hid (BE _ hHeld)
        clear hHeld BE hs
        go_wp2
        go_roundw
        case rel => exact ⟨k + 1, _, by omega, by go_num, rfl, HE2, hln2.out, HW4⟩
        case measure => simp [intOf]; omega
      · obtain rfl : sn = k := by omega
        have hE := HE.out
        rw [List.take_of_length_le (by rw [HSN.out]; omega)] at hE
        obtain ⟨H1, hH1⟩ : ∃ q, H0 ++ x.sl.flatMap slZ = q := ⟨_, rfl⟩
        rw [hH1] at hE
        have HH1 := Lib.hid hH1
        have HI0 : Hid (S.data.toList = H1 ++ (x.ch.take 0).flatMap (chZ x.sl)) := Lib.hid (by rw [hE]; simp)
        have hSl : S.size ≤ 1088340 + 1040325 * 0 := by omega
        have HCM := Lib.hid (show ∀ c ∈ x.ch, c.1.1.length ≤ 300 ∧ (∀ q ∈ c.1.2.2, q.length ≤ 3000) ∧ -2147483648 ≤ c.1.2.1 ∧ c.1.2.1 ≤ 2147483647 ∧ c.1.2.2.length = x.sl.length from HD0.out.cs)
        have HBI := HB
        clear HE hE hH1 hlt hhl
        go_wp2
        go_loopw [3, 5] (fun u i wr => ∃ (k : Nat) (S : ByteArray), k ≤ cn ∧ i = .int .i64 k ∧ u = .string S ∧ Hid (S.data.toList = H1 ++ (x.ch.take k).flatMap (chZ x.sl)) ∧ S.size ≤ 1088340 + 1040325 * k ∧ Hid (Below w2.heap.size w2 wr)) (fun _ i _ => cn - (intOf i).toNat)
        case atStart => exact ⟨0, _, by omega, rfl, rfl, HI0, hSl, HBI⟩
        clear y4 y5 HI0 hSl HBI HB hsz hlen hk
        case round =>
          obtain ⟨k, S, hk, rfl, rfl, HE, hlen, HB⟩ := hrel
          have hsz := HB.out.size
          obtain ⟨y0, y1, y2, y3, y4, y5, y6⟩ := HY.out _ HB.out
          clear y0 y1 y2 y3 y6
          by_cases hlt : k < cn
          · obtain ⟨y, hx⟩ : ∃ y, x.ch[k]? = some y := ⟨_, List.getElem?_eq_getElem (by rw [HCN.out]; exact hlt)⟩
            have hym := List.mem_of_getElem? hx
            have hBW := HB2.out.trans (HB.out.mono HB2.out.size)
            obtain ⟨c0, c1, c2⟩ := HCC.out k y hx
            rw [← hBW.cell (p := ⟨cb, co + k * 3, none⟩) hcb] at c0
            rw [← hBW.cell (p := ⟨cb, co + k * 3 + 1, none⟩) hcb] at c1
            rw [← hBW.cell (p := ⟨cb, co + k * 3 + 2, none⟩) hcb] at c2
            obtain ⟨ta, tc, tb, tO, htv, htc, hta, htcell⟩ := (HIN.out.2.2 y hym)
            obtain ⟨tn, htn⟩ : ∃ n, y.1.2.2.length = n := ⟨_, rfl⟩
            rw [htn] at htv htc hta
            have htsn : tn = sn := by rw [← htn, ← HSN.out]; exact (HCM.out y hym).2.2.2.2
            subst htsn
            have HTN := Lib.hid htn
            have HTC := Lib.hid htcell
            have hcm := HCM.out y hym
            have HQS := Lib.hid hcm.2.1
            have TX := fun W => RT.text_ref y.1.2.1 (by omega) (by omega) W
            have zi := Lib.itoa_length_le y.1.2.1 (by omega) (by omega)
            have i0 : (0 : Int) ≤ (k : Int) := by omega
            have i1 : (k : Int) < (cn : Int) := by omega
            obtain ⟨C0, hC0⟩ : ∃ q : ByteArray, (⟨y.1.1.toArray⟩ : ByteArray) = q := ⟨_, rfl⟩
            obtain ⟨I0, hI0⟩ : ∃ q : ByteArray, (⟨(Lib.itoa y.1.2.1).toArray⟩ : ByteArray) = q := ⟨_, rfl⟩
            have z1 : C0.size ≤ 300 := by rw [← hC0, sizeOf, bytesOf]; exact hcm.1
            have z2 : I0.size ≤ 21 := by rw [← hI0, sizeOf, bytesOf]; exact zi
            have HE2 : Hid ((S ++ C0 ++ ⟨#[32, 45, 32, 112, 114, 105, 111, 114, 105, 116, 121, 32]⟩ ++ I0 ++ ⟨#[10]⟩ : ByteArray).data.toList = H1 ++ (x.ch.take k).flatMap (chZ x.sl) ++ c1Z y) := Lib.hid (by
              rw [← HE.out, ← hC0, ← hI0]
              unfold c1Z lnZ
              simp [joinC])
            have HAP := Lib.hid (show H1 ++ (x.ch.take k).flatMap (chZ x.sl) ++ c1Z y ++ (x.sl.zip y.1.2.2).flatMap tgZ = H1 ++ (x.ch.take (k + 1)).flatMap (chZ x.sl) from by rw [flat_snoc (chZ x.sl) hx]; unfold chZ; simp [List.append_assoc])
            rw [htv] at c2
            rw [hC0] at c0
            simp only [hI0] at TX
            obtain ⟨z, hz⟩ : ∃ z, y.1.2.1 = z := ⟨_, rfl⟩
            rw [hz] at c1 TX
            have k12 : (ByteArray.mk #[32, 45, 32, 112, 114, 105, 111, 114, 105, 116, 121, 32]).size = 12 := rfl
            have hS6 : Hid ((S ++ C0 ++ ⟨#[32, 45, 32, 112, 114, 105, 111, 114, 105, 116, 121, 32]⟩ ++ I0 ++ ⟨#[10]⟩ : ByteArray).size ≤ 1088340 + 1040325 * k + 16005) := Lib.hid (by simp only [ByteArray.size_append]; omega)
            have hB3 := (Below.refl wr.heap.size wr).alloc (Nat.le_refl _) (.cells #[.string C0, .int .i64 z, .slice ta tn tc] 34)
            obtain ⟨u0, u1, u2⟩ := boxV3 wr (.string C0) (.int .i64 z) (.slice ta tn tc) 34
            have hs := And.intro u0 (And.intro u1 (And.intro u2 (HB.out.trans (hB3.mono hsz))))
            clear u0 u1 u2 hB3 hC0 hI0 hz hcm hx hym hBW htv htn htcell HE zi
            have r0 : ¬ 9223372036854775807 < S.size + C0.size := by omega
            have r1 : ¬ 9223372036854775807 < S.size + C0.size + 12 := by omega
            have r2 : ¬ 9223372036854775807 < S.size + C0.size + 12 + I0.size := by omega
            have r3 : ¬ 9223372036854775807 < S.size + C0.size + 12 + I0.size + 1 := by omega
            go_wp2
            generalize wr.alloc (.cells #[.string C0, .int .i64 z, .slice ta tn tc] 34) = W4 at *
            generalize hb70 : wr.heap.size = b7 at *
            clear hb70
            have BE := fun (V : World) (h : V.cell? ⟨b7, 0, none⟩ = some (.string C0) ∧ V.cell? ⟨b7, 1, none⟩ = some (.int .i64 z) ∧ V.cell? ⟨b7, 2, none⟩ = some (.slice ta tn tc) ∧ Below w2.heap.size w2 V) => AtF.be (w := w2) (l := [(⟨b7, 0, none⟩, .string C0), (⟨b7, 1, none⟩, .int .i64 z), (⟨b7, 2, none⟩, .slice ta tn tc)]) h
            refine wp_region_held_drew (S := (fun V => V.cell? ⟨b7, 0, none⟩ = some (.string C0) ∧ V.cell? ⟨b7, 1, none⟩ = some (.int .i64 z) ∧ V.cell? ⟨b7, 2, none⟩ = some (.slice ta tn tc) ∧ Below w2.heap.size w2 V)) (by kernel_rfl) ?_ (fun hHeld => ?_)
            · (try dsimp only); (first | assumption | exact hs | exact AtF.dr (w := w2) (l := [(⟨b7, 0, none⟩, .string C0), (⟨b7, 1, none⟩, .int .i64 z), (⟨b7, 2, none⟩, .slice ta tn tc)]) hs | exact AtF.dr (w := w2) (l := [(⟨b7, 0, none⟩, .string C0), (⟨b7, 1, none⟩, .int .i64 z), (⟨b7, 2, none⟩, .slice ta tn tc)]) (by assumption) | exact AtF.on (w := w2) (l := [(⟨b7, 0, none⟩, .string C0), (⟨b7, 1, none⟩, .int .i64 z), (⟨b7, 2, none⟩, .slice ta tn tc)]) (by assumption) (by assumption) | exact AtF.al (w := w2) (l := [(⟨b7, 0, none⟩, .string C0), (⟨b7, 1, none⟩, .int .i64 z), (⟨b7, 2, none⟩, .slice ta tn tc)]) (by assumption) _ | exact AtF.ald (w := w2) (l := [(⟨b7, 0, none⟩, .string C0), (⟨b7, 1, none⟩, .int .i64 z), (⟨b7, 2, none⟩, .slice ta tn tc)]) (by assumption) _ | exact AtF.al (w := w2) (l := [(⟨b7, 0, none⟩, .string C0), (⟨b7, 1, none⟩, .int .i64 z), (⟨b7, 2, none⟩, .slice ta tn tc)]) hs _ | exact AtF.ald (w := w2) (l := [(⟨b7, 0, none⟩, .string C0), (⟨b7, 1, none⟩, .int .i64 z), (⟨b7, 2, none⟩, .slice ta tn tc)]) hs _)
            refine heldY 0 84 ?_ _ rfl rfl (by kernel_rfl) (by kernel_rfl) (by kernel_rfl) (fun _ _ _ h => h) rfl (by assumption) ?_ ?_
            rotate_left
            · (intro w hSw; (try dsimp only at hSw); go_simp; (try with_reducible rfl))
            simp only [List.setIfInBounds_toArray, List.set_cons_zero, List.set_cons_succ]
            refine heldY 1 85 ?_ _ rfl rfl (by kernel_rfl) (by kernel_rfl) (by kernel_rfl) (fun _ _ _ h => h) rfl (by assumption) ?_ ?_
            rotate_left
            · (intro w hSw; (try dsimp only at hSw); go_simp; (try with_reducible rfl))
            simp only [List.setIfInBounds_toArray, List.set_cons_zero, List.set_cons_succ]
            refine heldY 2 86 ?_ _ rfl rfl (by kernel_rfl) (by kernel_rfl) (by kernel_rfl) (fun _ _ _ h => h) rfl (by assumption) ?_ ?_
            rotate_left
            · (intro w hSw; (try dsimp only at hSw); go_simp; (try with_reducible rfl))
            simp only [List.setIfInBounds_toArray, List.set_cons_zero, List.set_cons_succ]
            refine heldY 3 87 ?_ _ rfl rfl (by kernel_rfl) (by kernel_rfl) (by kernel_rfl) (fun _ _ _ h => h) rfl (by assumption) ?_ ?_
            rotate_left
            · (intro w hSw; (try dsimp only at hSw); go_simp; (try with_reducible rfl))
            simp only [List.setIfInBounds_toArray, List.set_cons_zero, List.set_cons_succ]
            refine heldY 4 88 ?_ _ rfl rfl (by kernel_rfl) (by kernel_rfl) (by kernel_rfl) (fun _ _ _ h => h) rfl (by assumption) ?_ ?_
            rotate_left
            · (intro w hSw; (try dsimp only at hSw); go_simp; (try with_reducible rfl))
            simp only [List.setIfInBounds_toArray, List.set_cons_zero, List.set_cons_succ]
            refine heldY 5 89 ?_ _ rfl rfl (by kernel_rfl) (by kernel_rfl) (by kernel_rfl) (fun _ _ _ h => h) rfl (by assumption) ?_ ?_
            rotate_left
            · (intro w hSw; (try dsimp only at hSw); go_simp; (try with_reducible rfl))
            simp only [List.setIfInBounds_toArray, List.set_cons_zero, List.set_cons_succ]
            refine heldY 6 90 ?_ _ rfl rfl (by kernel_rfl) (by kernel_rfl) (by kernel_rfl) (fun _ _ _ h => h) rfl (by assumption) ?_ ?_
            rotate_left
            · (intro w hSw; (try dsimp only at hSw); go_simp; (try with_reducible rfl))
            simp only [List.setIfInBounds_toArray, List.set_cons_zero, List.set_cons_succ]
            refine wpAnyH_ready (rs := [7]) (by kernel_rfl) (by simp) ?_
            refine AllReadyH.cons rfl (fun K hK => ?_) AllReadyH.nil
            go_simp
            (go_at_call 39; (with_reducible refine (TX _).mono ?_); rintro e w17 ⟨rfl, rfl⟩)
            refine hK.out _ _ ?_ (fun hHeld => ?_)
            · (try dsimp only); (first | assumption | exact hs | exact AtF.dr (w := w2) (l := [(⟨b7, 0, none⟩, .string C0), (⟨b7, 1, none⟩, .int .i64 z), (⟨b7, 2, none⟩, .slice ta tn tc)]) hs | exact AtF.dr (w := w2) (l := [(⟨b7, 0, none⟩, .string C0), (⟨b7, 1, none⟩, .int .i64 z), (⟨b7, 2, none⟩, .slice ta tn tc)]) (by assumption) | exact AtF.on (w := w2) (l := [(⟨b7, 0, none⟩, .string C0), (⟨b7, 1, none⟩, .int .i64 z), (⟨b7, 2, none⟩, .slice ta tn tc)]) (by assumption) (by assumption) | exact AtF.al (w := w2) (l := [(⟨b7, 0, none⟩, .string C0), (⟨b7, 1, none⟩, .int .i64 z), (⟨b7, 2, none⟩, .slice ta tn tc)]) (by assumption) _ | exact AtF.ald (w := w2) (l := [(⟨b7, 0, none⟩, .string C0), (⟨b7, 1, none⟩, .int .i64 z), (⟨b7, 2, none⟩, .slice ta tn tc)]) (by assumption) _ | exact AtF.al (w := w2) (l := [(⟨b7, 0, none⟩, .string C0), (⟨b7, 1, none⟩, .int .i64 z), (⟨b7, 2, none⟩, .slice ta tn tc)]) hs _ | exact AtF.ald (w := w2) (l := [(⟨b7, 0, none⟩, .string C0), (⟨b7, 1, none⟩, .int .i64 z), (⟨b7, 2, none⟩, .slice ta tn tc)]) hs _)
            clear hK K
            try simp only [Act.put, List.setIfInBounds_toArray, List.set_cons_zero, List.set_cons_succ]
            refine heldY 8 92 ?_ _ rfl rfl (by kernel_rfl) (by kernel_rfl) (by kernel_rfl) (fun _ _ _ h => h) rfl (by assumption) ?_ ?_
            rotate_left
            · (intro w hSw; (try dsimp only at hSw); go_simp; (try with_reducible rfl))
            simp only [List.setIfInBounds_toArray, List.set_cons_zero, List.set_cons_succ]
            refine heldY 9 93 ?_ _ rfl rfl (by kernel_rfl) (by kernel_rfl) (by kernel_rfl) (fun _ _ _ h => h) rfl (by assumption) ?_ ?_
            rotate_left
            · (intro w hSw; (try dsimp only at hSw); go_simp; (try with_reducible rfl))
            simp only [List.setIfInBounds_toArray, List.set_cons_zero, List.set_cons_succ]
            refine heldY 10 3 ?_ _ rfl rfl (by kernel_rfl) (by kernel_rfl) (by kernel_rfl) (fun _ _ _ h => h) rfl (by assumption) ?_ ?_
            rotate_left
            · (intro w hSw; (try dsimp only at hSw); go_simp; (try with_reducible rfl))
            simp only [List.setIfInBounds_toArray, List.set_cons_zero, List.set_cons_succ]
            refine wpAnyH_done (by kernel_rfl) ?_ _
            have HB19 := Lib.hid (BE _ hHeld)
            have HV2 := Lib.hid hHeld.2.2.1
            clear hHeld hs BE TX
            obtain ⟨S6, hS6e⟩ : ∃ q : ByteArray, S ++ C0 ++ ⟨#[32, 45, 32, 112, 114, 105, 111, 114, 105, 116, 121, 32]⟩ ++ I0 ++ ⟨#[10]⟩ = q := ⟨_, rfl⟩
            rw [hS6e] at hS6 HE2 ⊢
            obtain ⟨O3, hO3⟩ : ∃ q, H1 ++ (x.ch.take k).flatMap (chZ x.sl) ++ c1Z y = q := ⟨_, rfl⟩
            rw [hO3] at HE2 HAP
            have HZL : Hid ((x.sl.zip y.1.2.2).length = tn) := Lib.hid (by rw [List.length_zip, HTN.out, HSN.out]; omega)
            have HI1 : Hid (S6.data.toList = O3 ++ ((x.sl.zip y.1.2.2).take 0).flatMap tgZ) := Lib.hid (by rw [HE2.out]; simp)
            have hS7 : S6.size ≤ 1088340 + 1040325 * k + 16005 + 16005 * 0 := by have := hS6.out; omega
            clear hS6e hO3 r0 r1 r2 r3 hS6 HE2 y4 y5 hlen i0 i1
            go_wp2
            go_loopw [3, 7] (fun u i wi => ∃ (j : Nat) (S : ByteArray), j ≤ tn ∧ i = .int .i64 j ∧ u = .string S ∧ Hid (S.data.toList = O3 ++ ((x.sl.zip y.1.2.2).take j).flatMap tgZ) ∧ S.size ≤ 1088340 + 1040325 * k + 16005 + 16005 * j ∧ Hid (wi.cell? ⟨b7, 2, none⟩ = some (.slice ta tn tc)) ∧ Hid (Below w2.heap.size w2 wi)) (fun _ i _ => tn - (intOf i).toNat)
            case atStart => exact ⟨0, _, by omega, rfl, rfl, HI1, hS7, HV2, HB19⟩
            clear HI1 hS7 HV2 HB19
            case round =>
              obtain ⟨j, S, hj, rfl, rfl, HEE, hlen, HV2, HBJ⟩ := hrel
              have v2 := HV2.out
              obtain ⟨y0, y1, y2, y3, y4, y5, y6⟩ := HY.out _ HBJ.out
              clear y0 y1 y2 y3 y5 y6
              by_cases hjn : j < tn
              · obtain ⟨rfl, htb⟩ := hta (by omega)
                obtain ⟨rfl, hsb⟩ := hsa (by omega)
                obtain ⟨q, hq⟩ : ∃ q, y.1.2.2[j]? = some q := ⟨_, List.getElem?_eq_getElem (by rw [HTN.out]; exact hjn)⟩
                obtain ⟨s, hsx⟩ : ∃ s, x.sl[j]? = some s := ⟨_, List.getElem?_eq_getElem (by rw [HSN.out]; exact hjn)⟩
                have hBW := HB2.out.trans (HBJ.out.mono HB2.out.size)
                have t0 := (hBW.cell (p := ⟨tb, tO + j, none⟩) htb).trans (HTC.out j q hq)
                have c0 := (hBW.cell (p := ⟨sb, so + j * 2, none⟩) hsb).trans (HSC.out j s hsx).1
                have he := eqTL (⟨q.toArray⟩ : ByteArray) []
                rw [bytesOf] at he
                have HAQ : Hid (∀ L : Bs, tgZ (s, q) = L → (O3 ++ ((x.sl.zip y.1.2.2).take j).flatMap tgZ) ++ L = O3 ++ ((x.sl.zip y.1.2.2).take (j + 1)).flatMap tgZ) := Lib.hid (fun L hL => by rw [flat_snoc tgZ (zip_get hsx hq), hL, List.append_assoc])
                have i0 : (0 : Int) ≤ (j : Int) := by omega
                have i1 : (j : Int) < (tn : Int) := by omega
                by_cases hq0 : q = []
                · have HNX := Lib.hid (show O3 ++ ((x.sl.zip y.1.2.2).take j).flatMap tgZ = O3 ++ ((x.sl.zip y.1.2.2).take (j + 1)).flatMap tgZ from by rw [← HAQ.out [] (by unfold tgZ; rw [if_pos hq0]), List.append_nil])
                  rw [decide_eq_true hq0] at he
                  generalize (⟨q.toArray⟩ : ByteArray) = Q at *
                  clear hq hsx hBW HAQ hq0 c0
                  go_wp2
                  go_roundw
                  case rel => exact ⟨j + 1, _, by omega, by go_num, rfl, by rw [← HNX.out]; exact HEE, by omega, HV2, HBJ⟩
                  case measure => simp [intOf]; omega
                · have hss := HSM.out s (List.mem_of_getElem? hsx)
                  have hqs := HQS.out q (List.mem_of_getElem? hq)
                  rw [decide_eq_false hq0] at he
                  obtain ⟨S1, hS1⟩ : ∃ q : ByteArray, (⟨s.1.toArray⟩ : ByteArray) = q := ⟨_, rfl⟩
                  obtain ⟨Q, hQ⟩ : ∃ u : ByteArray, (⟨q.toArray⟩ : ByteArray) = u := ⟨_, rfl⟩
                  have z1 : S1.size ≤ 300 := by rw [← hS1, sizeOf, bytesOf]; exact hss.1
                  have z2 : Q.size ≤ 3000 := by rw [← hQ, sizeOf, bytesOf]; exact hqs
                  have HE2 : Hid ((S ++ ⟨#[115, 108, 97, 118, 101, 32]⟩ ++ S1 ++ ⟨#[58, 32]⟩ ++ Q ++ ⟨#[10]⟩ : ByteArray).data.toList = O3 ++ ((x.sl.zip y.1.2.2).take (j + 1)).flatMap tgZ) := Lib.hid (by
                    rw [← HAQ.out _ rfl, ← HEE.out, ← hS1, ← hQ]
                    unfold tgZ lnZ
                    rw [if_neg hq0]
                    simp [joinC])
                  have k6b : (ByteArray.mk #[115, 108, 97, 118, 101, 32]).size = 6 := rfl
                  have k2 : (ByteArray.mk #[58, 32]).size = 2 := rfl
                  have hln2 : Hid ((S ++ ⟨#[115, 108, 97, 118, 101, 32]⟩ ++ S1 ++ ⟨#[58, 32]⟩ ++ Q ++ ⟨#[10]⟩ : ByteArray).size ≤ 1088340 + 1040325 * k + 16005 + 16005 * (j + 1)) := Lib.hid (by simp only [ByteArray.size_append]; omega)
                  rw [hS1] at c0
                  rw [hQ] at t0 he
                  have hs := And.intro y4 (And.intro c0 (And.intro v2 (And.intro t0 HBJ.out)))
                  have r0 : ¬ 9223372036854775807 < S.size + 6 := by omega
                  have r1 : ¬ 9223372036854775807 < S.size + 6 + S1.size := by omega
                  have r2 : ¬ 9223372036854775807 < S.size + 6 + S1.size + 2 := by omega
                  have r3 : ¬ 9223372036854775807 < S.size + 6 + S1.size + 2 + Q.size := by omega
                  have r4 : ¬ 9223372036854775807 < S.size + 6 + S1.size + 2 + Q.size + 1 := by omega
                  clear hq hsx hBW HAQ hq0 hss hqs hS1 hQ HEE
                  go_wp2
                  have BE := fun (V : World) (h : V.cell? ⟨w.heap.size, 4, none⟩ = some (.slice (some ⟨sb, so, none⟩) tn sc) ∧ V.cell? ⟨sb, so + j * 2, none⟩ = some (.string S1) ∧ V.cell? ⟨b7, 2, none⟩ = some (.slice (some ⟨tb, tO, none⟩) tn tc) ∧ V.cell? ⟨tb, tO + j, none⟩ = some (.string Q) ∧ Below w2.heap.size w2 V) => AtF.be (w := w2) (l := [(⟨w.heap.size, 4, none⟩, .slice (some ⟨sb, so, none⟩) tn sc), (⟨sb, so + j * 2, none⟩, .string S1), (⟨b7, 2, none⟩, .slice (some ⟨tb, tO, none⟩) tn tc), (⟨tb, tO + j, none⟩, .string Q)]) h
                  refine wp_region_held_drew (S := (fun V => V.cell? ⟨w.heap.size, 4, none⟩ = some (.slice (some ⟨sb, so, none⟩) tn sc) ∧ V.cell? ⟨sb, so + j * 2, none⟩ = some (.string S1) ∧ V.cell? ⟨b7, 2, none⟩ = some (.slice (some ⟨tb, tO, none⟩) tn tc) ∧ V.cell? ⟨tb, tO + j, none⟩ = some (.string Q) ∧ Below w2.heap.size w2 V)) (by kernel_rfl) ?_ (fun hHeld => ?_)
                  · (try dsimp only); (first | assumption | exact hs | exact AtF.dr (w := w2) (l := [(⟨w.heap.size, 4, none⟩, .slice (some ⟨sb, so, none⟩) tn sc), (⟨sb, so + j * 2, none⟩, .string S1), (⟨b7, 2, none⟩, .slice (some ⟨tb, tO, none⟩) tn tc), (⟨tb, tO + j, none⟩, .string Q)]) hs | exact AtF.dr (w := w2) (l := [(⟨w.heap.size, 4, none⟩, .slice (some ⟨sb, so, none⟩) tn sc), (⟨sb, so + j * 2, none⟩, .string S1), (⟨b7, 2, none⟩, .slice (some ⟨tb, tO, none⟩) tn tc), (⟨tb, tO + j, none⟩, .string Q)]) (by assumption) | exact AtF.on (w := w2) (l := [(⟨w.heap.size, 4, none⟩, .slice (some ⟨sb, so, none⟩) tn sc), (⟨sb, so + j * 2, none⟩, .string S1), (⟨b7, 2, none⟩, .slice (some ⟨tb, tO, none⟩) tn tc), (⟨tb, tO + j, none⟩, .string Q)]) (by assumption) (by assumption) | exact AtF.al (w := w2) (l := [(⟨w.heap.size, 4, none⟩, .slice (some ⟨sb, so, none⟩) tn sc), (⟨sb, so + j * 2, none⟩, .string S1), (⟨b7, 2, none⟩, .slice (some ⟨tb, tO, none⟩) tn tc), (⟨tb, tO + j, none⟩, .string Q)]) (by assumption) _ | exact AtF.ald (w := w2) (l := [(⟨w.heap.size, 4, none⟩, .slice (some ⟨sb, so, none⟩) tn sc), (⟨sb, so + j * 2, none⟩, .string S1), (⟨b7, 2, none⟩, .slice (some ⟨tb, tO, none⟩) tn tc), (⟨tb, tO + j, none⟩, .string Q)]) (by assumption) _ | exact AtF.al (w := w2) (l := [(⟨w.heap.size, 4, none⟩, .slice (some ⟨sb, so, none⟩) tn sc), (⟨sb, so + j * 2, none⟩, .string S1), (⟨b7, 2, none⟩, .slice (some ⟨tb, tO, none⟩) tn tc), (⟨tb, tO + j, none⟩, .string Q)]) hs _ | exact AtF.ald (w := w2) (l := [(⟨w.heap.size, 4, none⟩, .slice (some ⟨sb, so, none⟩) tn sc), (⟨sb, so + j * 2, none⟩, .string S1), (⟨b7, 2, none⟩, .slice (some ⟨tb, tO, none⟩) tn tc), (⟨tb, tO + j, none⟩, .string Q)]) hs _)
                  refine heldY 0 107 ?_ _ rfl rfl (by kernel_rfl) (by kernel_rfl) (by kernel_rfl) (fun _ _ _ h => h) rfl (by assumption) ?_ ?_
                  rotate_left
                  · (intro w hSw; (try dsimp only at hSw); go_simp; (try with_reducible rfl))
                  simp only [List.setIfInBounds_toArray, List.set_cons_zero, List.set_cons_succ]
                  refine heldY 1 108 ?_ _ rfl rfl (by kernel_rfl) (by kernel_rfl) (by kernel_rfl) (fun _ _ _ h => h) rfl (by assumption) ?_ ?_
                  rotate_left
                  · (intro w hSw; (try dsimp only at hSw); go_simp; (try with_reducible rfl))
                  simp only [List.setIfInBounds_toArray, List.set_cons_zero, List.set_cons_succ]
                  refine heldY 2 109 ?_ _ rfl rfl (by kernel_rfl) (by kernel_rfl) (by kernel_rfl) (fun _ _ _ h => h) rfl (by assumption) ?_ ?_
                  rotate_left
                  · (intro w hSw; (try dsimp only at hSw); go_simp; (try with_reducible rfl))
                  simp only [List.setIfInBounds_toArray, List.set_cons_zero, List.set_cons_succ]
                  refine heldY 3 110 ?_ _ rfl rfl (by kernel_rfl) (by kernel_rfl) (by kernel_rfl) (fun _ _ _ h => h) rfl (by assumption) ?_ ?_
                  rotate_left
                  · (intro w hSw; (try dsimp only at hSw); go_simp; (try with_reducible rfl))
                  simp only [List.setIfInBounds_toArray, List.set_cons_zero, List.set_cons_succ]
                  refine heldY 4 111 ?_ _ rfl rfl (by kernel_rfl) (by kernel_rfl) (by kernel_rfl) (fun _ _ _ h => h) rfl (by assumption) ?_ ?_
                  rotate_left
                  · (intro w hSw; (try dsimp only at hSw); go_simp; (try with_reducible rfl))
                  simp only [List.setIfInBounds_toArray, List.set_cons_zero, List.set_cons_succ]
                  refine heldY 5 112 ?_ _ rfl rfl (by kernel_rfl) (by kernel_rfl) (by kernel_rfl) (fun _ _ _ h => h) rfl (by assumption) ?_ ?_
                  rotate_left
                  · (intro w hSw; (try dsimp only at hSw); go_simp; (try with_reducible rfl))
                  simp only [List.setIfInBounds_toArray, List.set_cons_zero, List.set_cons_succ]
                  refine heldY 6 113 ?_ _ rfl rfl (by kernel_rfl) (by kernel_rfl) (by kernel_rfl) (fun _ _ _ h => h) rfl (by assumption) ?_ ?_
                  rotate_left
                  · (intro w hSw; (try dsimp only at hSw); go_simp; (try with_reducible rfl))
                  simp only [List.setIfInBounds_toArray, List.set_cons_zero, List.set_cons_succ]
                  refine heldY 7 114 ?_ _ rfl rfl (by kernel_rfl) (by kernel_rfl) (by kernel_rfl) (fun _ _ _ h => h) rfl (by assumption) ?_ ?_
                  rotate_left
                  · (intro w hSw; (try dsimp only at hSw); go_simp; (try with_reducible rfl))
                  simp only [List.setIfInBounds_toArray, List.set_cons_zero, List.set_cons_succ]
                  refine heldY 8 115 ?_ _ rfl rfl (by kernel_rfl) (by kernel_rfl) (by kernel_rfl) (fun _ _ _ h => h) rfl (by assumption) ?_ ?_
                  rotate_left
                  · (intro w hSw; (try dsimp only at hSw); go_simp; (try with_reducible rfl))
                  simp only [List.setIfInBounds_toArray, List.set_cons_zero, List.set_cons_succ]
                  refine heldY 9 116 ?_ _ rfl rfl (by kernel_rfl) (by kernel_rfl) (by kernel_rfl) (fun _ _ _ h => h) rfl (by assumption) ?_ ?_
                  rotate_left
                  · (intro w hSw; (try dsimp only at hSw); go_simp; (try with_reducible rfl))
                  simp only [List.setIfInBounds_toArray, List.set_cons_zero, List.set_cons_succ]
                  refine heldY 10 117 ?_ _ rfl rfl (by kernel_rfl) (by kernel_rfl) (by kernel_rfl) (fun _ _ _ h => h) rfl (by assumption) ?_ ?_
                  rotate_left
                  · (intro w hSw; (try dsimp only at hSw); go_simp; (try with_reducible rfl))
                  simp only [List.setIfInBounds_toArray, List.set_cons_zero, List.set_cons_succ]
                  refine heldY 11 118 ?_ _ rfl rfl (by kernel_rfl) (by kernel_rfl) (by kernel_rfl) (fun _ _ _ h => h) rfl (by assumption) ?_ ?_
                  rotate_left
                  · (intro w hSw; (try dsimp only at hSw); go_simp; (try with_reducible rfl))
                  simp only [List.setIfInBounds_toArray, List.set_cons_zero, List.set_cons_succ]
                  refine heldY 12 119 ?_ _ rfl rfl (by kernel_rfl) (by kernel_rfl) (by kernel_rfl) (fun _ _ _ h => h) rfl (by assumption) ?_ ?_
                  rotate_left
                  · (intro w hSw; (try dsimp only at hSw); go_simp; (try with_reducible rfl))
                  simp only [List.setIfInBounds_toArray, List.set_cons_zero, List.set_cons_succ]
                  refine heldY 13 120 ?_ _ rfl rfl (by kernel_rfl) (by kernel_rfl) (by kernel_rfl) (fun _ _ _ h => h) rfl (by assumption) ?_ ?_
                  rotate_left
                  · (intro w hSw; (try dsimp only at hSw); go_simp; (try with_reducible rfl))
                  simp only [List.setIfInBounds_toArray, List.set_cons_zero, List.set_cons_succ]
                  refine heldY 14 121 ?_ _ rfl rfl (by kernel_rfl) (by kernel_rfl) (by kernel_rfl) (fun _ _ _ h => h) rfl (by assumption) ?_ ?_
                  rotate_left
                  · (intro w hSw; (try dsimp only at hSw); go_simp; (try with_reducible rfl))
                  simp only [List.setIfInBounds_toArray, List.set_cons_zero, List.set_cons_succ]
                  refine heldY 15 122 ?_ _ rfl rfl (by kernel_rfl) (by kernel_rfl) (by kernel_rfl) (fun _ _ _ h => h) rfl (by assumption) ?_ ?_
                  rotate_left
                  · (intro w hSw; (try dsimp only at hSw); go_simp; (try with_reducible rfl))
                  simp only [List.setIfInBounds_toArray, List.set_cons_zero, List.set_cons_succ]
                  refine heldY 16 123 ?_ _ rfl rfl (by kernel_rfl) (by kernel_rfl) (by kernel_rfl) (fun _ _ _ h => h) rfl (by assumption) ?_ ?_
                  rotate_left
                  · (intro w hSw; (try dsimp only at hSw); go_simp; (try with_reducible rfl))
                  simp only [List.setIfInBounds_toArray, List.set_cons_zero, List.set_cons_succ]
                  refine heldY 17 3 ?_ _ rfl rfl (by kernel_rfl) (by kernel_rfl) (by kernel_rfl) (fun _ _ _ h => h) rfl (by assumption) ?_ ?_
                  rotate_left
                  · (intro w hSw; (try dsimp only at hSw); go_simp; (try with_reducible rfl))
                  simp only [List.setIfInBounds_toArray, List.set_cons_zero, List.set_cons_succ]
                  refine wpAnyH_done (by kernel_rfl) ?_ _
                  have HW4 := Lib.hid (BE _ hHeld)
                  have HVV := Lib.hid hHeld.2.2.1
                  clear hHeld BE hs
                  go_wp2
                  go_roundw
                  case rel => exact ⟨j + 1, _, by omega, by go_num, rfl, HE2, hln2.out, HVV, HW4⟩
                  case measure => simp [intOf]; omega
              · obtain rfl : tn = j := by omega
                have hE := HEE.out
                rw [List.take_of_length_le (by rw [HZL.out]; omega), HAP.out] at hE
                have HE5 := Lib.hid hE
                have hl5 : S.size ≤ 1088340 + 1040325 * (k + 1) := by omega
                clear HEE hE hjn
                go_wp2
                go_roundw
                case rel => exact ⟨k + 1, _, by omega, by go_num, rfl, HE5, hl5, HBJ⟩
                case measure => simp [intOf]; omega
          · obtain rfl : cn = k := by omega
            have hE := HE.out
            rw [List.take_of_length_le (by rw [HCN.out]; omega)] at hE
            have HF := Lib.hid (show S = bsT (dispZ x d.1.1) from by rw [HH0.out, HH1.out, ← hE])
            have HB30 := Lib.hid (HB2.out.trans (HB.out.mono HB2.out.size))
            clear HE hE hlt hlen
            go_wp2
            go_ret
            exact ⟨(by rw [HF.out]; rfl), HB30.out⟩
  · have HOUT : Hid (displayZ x = []) := Lib.hid (by unfold displayZ; rw [if_neg (by rw [rightA_no hg]; decide)])
    obtain ⟨sa, sc, ca, cc, hsh⟩ := h.sh
    rw [HOUT.out]
    have RA1 := fun W hb => RA W hb
    rw [rightA_no hg] at RA1
    unfold agZA at RA1 ⊢
    rw [hsh.s, hsh.c] at RA1 B1 x0 x1 x2 x3 x4 x5
    rw [hsh.s, hsh.c]
    have HB1 := Lib.hid B1
    generalize (⟨x.nm.toArray⟩ : ByteArray) = X0 at *
    generalize (⟨x.lk.toArray⟩ : ByteArray) = X1 at *
    generalize (⟨x.cr.toArray⟩ : ByteArray) = X3 at *
    generalize x.mn = mn at *
    generalize x.sl.length = sn at *
    generalize x.ch.length = cn at *
    clear hsh h hf hg RA HOUT B1
    go_enter Tryz.func10, Tryz.ntmps10
    go_wp2_with (go_at_call 37; (with_reducible refine (RA1 _ HB1.out).mono ?_); rintro e w2 ⟨rfl, hb⟩; have HB2 := Lib.hid (HB1.out.trans (hb.mono HB1.out.size)); clear hb)
    go_ret
    exact ⟨rfl, HB2.out⟩
end Go.Proofs.YtmfmohbcehkooaaGreatDoor
