/-
  The reference's Lacks, Missing and Needed of relations of any size.
-/
import Derived.Test.YtkcamfcjkjiijaaGreatDoorPNdC
import Derived.Deep.RegionHeld3
namespace Go.Proofs.YtkcamfcjkjiijaaGreatDoor
open Go.RowKit
theorem any_snocB {α : Type} {l : List α} {k : Nat} {x : α} (h : l[k]? = some x) (f : α → Bool) : (l.take (k + 1)).any f = ((l.take k).any f || f x) := by
  rw [take_snocQ h, List.any_append]; simp
set_option maxRecDepth 100000 in
set_option maxHeartbeats 16000000 in
theorem lacks_refB (v u : Value) (l : List Gv) (hl : l.length ≤ 500) (hs : BigGL l) (t : List Rl) (ht : t.length ≤ 90000) (hst : BigL t) (w : World) (h : HoldGs w v l) (h2 : HoldQ w u t) :
    Calls Tryz.prog 38 #[v, u] w fun e w' => ∃ r, e = .returned r ∧ OwnIn w' w.heap.size r (lackL t 0 (fsts l)) ∧ Below w.heap.size w w' := by
  obtain ⟨i0, hi, hz0, hz1, hz2'⟩ := info_parts infoIn
  have HG := Lib.hid h
  obtain ⟨a, c, b, o, rfl, hc, ha, hcell⟩ := h.parts
  obtain ⟨ua, uc, ub, uo, rfl, huc, hua, hucell⟩ := h2.parts
  have HC := Lib.hid hcell
  have HUC := Lib.hid hucell
  have HSG := Lib.hid hs
  have HST := Lib.hid hst
  obtain ⟨n, hN⟩ : ∃ n, l.length = n := ⟨_, rfl⟩
  rw [hN] at hc ha hl ⊢
  have HN := Lib.hid hN
  obtain ⟨tn, hT⟩ : ∃ tn, t.length = tn := ⟨_, rfl⟩
  rw [hT] at huc hua ht ⊢
  have HT := Lib.hid hT
  have hfl : (fsts l).length = n := by rw [List.length_map]; exact hN
  have HFL := Lib.hid hfl
  have hlk := lackL_len t (fsts l) 0
  have hlk2 : (lackL t 0 (fsts l)).length ≤ 500 := by omega
  have HLK := Lib.hid hlk2
  clear hcell hucell hN hT h h2 hs hst hfl hlk hlk2
  go_enter Tryz.func38, Tryz.ntmps38
  go_wp2
  go_loopw [5, 6] (fun u i wr => ∃ (k : Nat) (xs : List Nat), k ≤ n ∧ i = .int .i64 k ∧ Hid (xs ++ lackL t k ((fsts l).drop k) = lackL t 0 (fsts l)) ∧ xs.length ≤ k ∧ Hid (OwnIn wr w.heap.size u xs) ∧ Hid (Below w.heap.size w wr)) (fun _ i _ => n - (intOf i).toNat)
  case atStart => exact ⟨0, [], by omega, rfl, Lib.hid rfl, by simp, Lib.hid (OwnV.nil _ _ _ _), Lib.hid (Below.refl _ _)⟩
  case round =>
    obtain ⟨k, xs, hk, rfl, HX, hxk, HO, HB⟩ := hrel
    obtain ⟨wo, rfl⟩ : ∃ wo : World, wo = wr := ⟨_, rfl⟩
    have hsz := HB.out.size
    by_cases hlt : k < n
    · obtain ⟨rfl, hbw⟩ := ha (by omega)
      obtain ⟨⟨g0, sv⟩, hx⟩ : ∃ x, l[k]? = some x := ⟨_, List.getElem?_eq_getElem (by rw [HN.out]; exact hlt)⟩
      have c0 := HC.out k _ hx
      dsimp only at c0
      rw [← HB.out.cell (p := ⟨b, o + k, none⟩) hbw] at c0
      obtain ⟨sa, sc, sb, so, hsv, hsc, hsa, hscell⟩ := (HG.out.2 _ (List.mem_of_getElem? hx)).parts
      have hsm := HSG.out _ (List.mem_of_getElem? hx)
      dsimp only at hsv hsm hsc hsa hscell
      subst hsv
      have HSC := Lib.hid hscell
      have HSM := Lib.hid hsm.1
      have hgn := hsm.2
      have hfx : (fsts l)[k]? = some g0 := by rw [List.getElem?_map, hx]; rfl
      have hdr := drop_atQ hfx
      obtain ⟨gn, hGN⟩ : ∃ gn, g0.length = gn := ⟨_, rfl⟩
      rw [hGN] at hsc hsa hgn c0
      have HGN := Lib.hid hGN
      have HC0 : Hid (∀ W, Below wo.heap.size wo W → W.cell? ⟨b, o + k, none⟩ = some (.slice sa gn sc)) := Lib.hid (fun W hW => (hW.cell (p := ⟨b, o + k, none⟩) (by show b < _; omega)).trans c0)
      have HYES : Hid ((g0.any fun y => metB y t) = true → xs ++ lackL t (k + 1) ((fsts l).drop (k + 1)) = lackL t 0 (fsts l)) := Lib.hid (fun hr => by rw [← HX.out, hdr, lackL, hr]; simp)
      have HNO : Hid ((g0.any fun y => metB y t) = false → (xs ++ [k]) ++ lackL t (k + 1) ((fsts l).drop (k + 1)) = lackL t 0 (fsts l)) := Lib.hid (fun hr => by rw [← HX.out, hdr, lackL, hr]; simp)
      clear hx hscell hsm hfx hdr hGN HX c0
      go_wp2
      go_loopw [7, 8] (fun m i wr => ∃ j : Nat, j ≤ gn ∧ i = .int .i64 j ∧ Hid (m = .bool ((g0.take j).any fun y => metB y t)) ∧ Hid (Below wo.heap.size wo wr)) (fun _ i _ => gn - (intOf i).toNat)
      case atStart => exact ⟨0, by omega, rfl, Lib.hid rfl, Lib.hid (Below.refl _ _)⟩
      case round =>
        obtain ⟨j, hj, rfl, HM, HBJ⟩ := hrel
        obtain ⟨wj, rfl⟩ : ∃ wj : World, wj = wr := ⟨_, rfl⟩
        have hszj := HBJ.out.size
        have c0 := HC0.out _ HBJ.out
        have HBW := Lib.hid (HB.out.trans (HBJ.out.mono hsz))
        obtain ⟨mb, hmb⟩ : ∃ mb, ((g0.take j).any fun y => metB y t) = mb := ⟨_, rfl⟩
        have hm := HM.out
        rw [hmb] at hm
        subst hm
        have HMB := Lib.hid hmb
        clear hmb HM
        by_cases hjt : j < gn
        · obtain ⟨rfl, hsb⟩ := hsa (by omega)
          obtain ⟨⟨p, q, z⟩, hy⟩ : ∃ y, g0[j]? = some y := ⟨_, List.getElem?_eq_getElem (by rw [HGN.out]; exact hjt)⟩
          have d := HSC.out j _ hy
          dsimp only at d
          obtain ⟨d0, d1, d2⟩ := d
          rw [← HBW.out.cell (p := ⟨sb, so + j * 3, none⟩) hsb] at d0
          rw [← HBW.out.cell (p := ⟨sb, so + j * 3 + 1, none⟩) hsb] at d1
          rw [← HBW.out.cell (p := ⟨sb, so + j * 3 + 2, none⟩) hsb] at d2
          have hys := HSM.out _ (List.mem_of_getElem? hy)
          unfold Big1 at hys
          dsimp only at hys
          have HNX := Lib.hid (any_snocB hy (fun y => metB y t))
          have FT := fun n v hv W => fits_refB (bsT p) (bsT q) (bsT z) n v (by rw [sizeOf, bytesOf]; omega) hv W
          rw [bytesOf, bytesOf, bytesOf] at FT
          generalize bsT p = X at *
          generalize bsT q = Y at *
          generalize bsT z = Z at *
          clear hy hys
          go_wp2
          go_loopw [7, 9] (fun m i wr => ∃ r : Nat, r ≤ tn ∧ i = .int .i64 r ∧ Hid (m = .bool (mb || (t.take r).any fun y => fitsB (p, q, z) y.1 y.2.2)) ∧ Hid (Below wj.heap.size wj wr)) (fun _ i _ => tn - (intOf i).toNat)
          case atStart => exact ⟨0, by omega, rfl, Lib.hid (by simp), Lib.hid (Below.refl _ _)⟩
          case round =>
            obtain ⟨r, hr, rfl, HM, HBR⟩ := hrel
            obtain ⟨wz, rfl⟩ : ∃ wz : World, wz = wr := ⟨_, rfl⟩
            have hszr := HBR.out.size
            obtain ⟨m2, hm2⟩ : ∃ m2, (mb || (t.take r).any fun y => fitsB (p, q, z) y.1 y.2.2) = m2 := ⟨_, rfl⟩
            have hm := HM.out
            rw [hm2] at hm
            subst hm
            by_cases hrt : r < tn
            · obtain ⟨rfl, hub⟩ := hua (by omega)
              obtain ⟨⟨p', q', z'⟩, hy'⟩ : ∃ y, t[r]? = some y := ⟨_, List.getElem?_eq_getElem (by rw [HT.out]; exact hrt)⟩
              have HBZ := Lib.hid (HBW.out.trans (HBR.out.mono (Nat.le_trans hsz hszj)))
              have f := HUC.out r _ hy'
              dsimp only at f
              obtain ⟨f0, -, f2⟩ := f
              rw [← HBZ.out.cell (p := ⟨ub, uo + r * 3, none⟩) hub] at f0
              rw [← HBZ.out.cell (p := ⟨ub, uo + r * 3 + 2, none⟩) hub] at f2
              have g0' := HC0.out _ (HBJ.out.trans (HBR.out.mono hszj))
              have e0 := (HBR.out.cell (p := ⟨sb, so + j * 3, none⟩) (by show sb < _; omega)).trans d0
              have e1 := (HBR.out.cell (p := ⟨sb, so + j * 3 + 1, none⟩) (by show sb < _; omega)).trans d1
              have e2 := (HBR.out.cell (p := ⟨sb, so + j * 3 + 2, none⟩) (by show sb < _; omega)).trans d2
              have hzs := (HST.out _ (List.mem_of_getElem? hy')).2.2
              dsimp only at hzs
              have FR := FT (bsT p') (bsT z') (by rw [sizeOf, bytesOf]; exact hzs)
              rw [bytesOf, bytesOf] at FR
              have HNR : Hid ((mb || (t.take (r + 1)).any fun y => fitsB (p, q, z) y.1 y.2.2) = (m2 || fitsB (p, q, z) p' z')) := Lib.hid (by rw [any_snocB hy', ← hm2, Bool.or_assoc])
              generalize bsT p' = X' at *
              generalize bsT z' = Z' at *
              generalize fitsB (p, q, z) p' z' = fb at *
              have hB := Below.refl wz.heap.size wz
              have hs := And.intro g0' (And.intro e0 (And.intro e1 (And.intro e2 (And.intro f0 (And.intro f2 hB)))))
              have j0 : (0 : Int) ≤ (k : Int) := by omega
              have j1 : (k : Int) < (n : Int) := by omega
              have j2 : (0 : Int) ≤ (j : Int) := by omega
              have j3 : (j : Int) < (gn : Int) := by omega
              have j4 : (0 : Int) ≤ (r : Int) := by omega
              have j5 : (r : Int) < (tn : Int) := by omega
              clear hm2 hy' hzs FT HM
              cases m2
              · go_wp2
                have BE := fun (V : World) (h : V.cell? ⟨b, o + k, none⟩ = some (.slice (some ⟨sb, so, none⟩) gn sc) ∧ V.cell? ⟨sb, so + j * 3, none⟩ = some (.string X) ∧ V.cell? ⟨sb, so + j * 3 + 1, none⟩ = some (.string Y) ∧ V.cell? ⟨sb, so + j * 3 + 2, none⟩ = some (.string Z) ∧ V.cell? ⟨ub, uo + r * 3, none⟩ = some (.string X') ∧ V.cell? ⟨ub, uo + r * 3 + 2, none⟩ = some (.string Z') ∧ Below wz.heap.size wz V) => AtF.be (w := wz) (l := [(⟨b, o + k, none⟩, .slice (some ⟨sb, so, none⟩) gn sc), (⟨sb, so + j * 3, none⟩, .string X), (⟨sb, so + j * 3 + 1, none⟩, .string Y), (⟨sb, so + j * 3 + 2, none⟩, .string Z), (⟨ub, uo + r * 3, none⟩, .string X'), (⟨ub, uo + r * 3 + 2, none⟩, .string Z')]) h
                refine wp_region_held_drew (S := (fun V => V.cell? ⟨b, o + k, none⟩ = some (.slice (some ⟨sb, so, none⟩) gn sc) ∧ V.cell? ⟨sb, so + j * 3, none⟩ = some (.string X) ∧ V.cell? ⟨sb, so + j * 3 + 1, none⟩ = some (.string Y) ∧ V.cell? ⟨sb, so + j * 3 + 2, none⟩ = some (.string Z) ∧ V.cell? ⟨ub, uo + r * 3, none⟩ = some (.string X') ∧ V.cell? ⟨ub, uo + r * 3 + 2, none⟩ = some (.string Z') ∧ Below wz.heap.size wz V)) (by kernel_rfl) ?_ (fun hHeld => ?_)
                · (try dsimp only); (first | assumption | exact hs | exact AtF.dr (w := wz) (l := [(⟨b, o + k, none⟩, .slice (some ⟨sb, so, none⟩) gn sc), (⟨sb, so + j * 3, none⟩, .string X), (⟨sb, so + j * 3 + 1, none⟩, .string Y), (⟨sb, so + j * 3 + 2, none⟩, .string Z), (⟨ub, uo + r * 3, none⟩, .string X'), (⟨ub, uo + r * 3 + 2, none⟩, .string Z')]) hs | exact AtF.dr (w := wz) (l := [(⟨b, o + k, none⟩, .slice (some ⟨sb, so, none⟩) gn sc), (⟨sb, so + j * 3, none⟩, .string X), (⟨sb, so + j * 3 + 1, none⟩, .string Y), (⟨sb, so + j * 3 + 2, none⟩, .string Z), (⟨ub, uo + r * 3, none⟩, .string X'), (⟨ub, uo + r * 3 + 2, none⟩, .string Z')]) (by assumption) | exact AtF.on (w := wz) (l := [(⟨b, o + k, none⟩, .slice (some ⟨sb, so, none⟩) gn sc), (⟨sb, so + j * 3, none⟩, .string X), (⟨sb, so + j * 3 + 1, none⟩, .string Y), (⟨sb, so + j * 3 + 2, none⟩, .string Z), (⟨ub, uo + r * 3, none⟩, .string X'), (⟨ub, uo + r * 3 + 2, none⟩, .string Z')]) (by assumption) (by assumption) | exact AtF.al (w := wz) (l := [(⟨b, o + k, none⟩, .slice (some ⟨sb, so, none⟩) gn sc), (⟨sb, so + j * 3, none⟩, .string X), (⟨sb, so + j * 3 + 1, none⟩, .string Y), (⟨sb, so + j * 3 + 2, none⟩, .string Z), (⟨ub, uo + r * 3, none⟩, .string X'), (⟨ub, uo + r * 3 + 2, none⟩, .string Z')]) (by assumption) _ | exact AtF.ald (w := wz) (l := [(⟨b, o + k, none⟩, .slice (some ⟨sb, so, none⟩) gn sc), (⟨sb, so + j * 3, none⟩, .string X), (⟨sb, so + j * 3 + 1, none⟩, .string Y), (⟨sb, so + j * 3 + 2, none⟩, .string Z), (⟨ub, uo + r * 3, none⟩, .string X'), (⟨ub, uo + r * 3 + 2, none⟩, .string Z')]) (by assumption) _ | exact AtF.al (w := wz) (l := [(⟨b, o + k, none⟩, .slice (some ⟨sb, so, none⟩) gn sc), (⟨sb, so + j * 3, none⟩, .string X), (⟨sb, so + j * 3 + 1, none⟩, .string Y), (⟨sb, so + j * 3 + 2, none⟩, .string Z), (⟨ub, uo + r * 3, none⟩, .string X'), (⟨ub, uo + r * 3 + 2, none⟩, .string Z')]) hs _ | exact AtF.ald (w := wz) (l := [(⟨b, o + k, none⟩, .slice (some ⟨sb, so, none⟩) gn sc), (⟨sb, so + j * 3, none⟩, .string X), (⟨sb, so + j * 3 + 1, none⟩, .string Y), (⟨sb, so + j * 3 + 2, none⟩, .string Z), (⟨ub, uo + r * 3, none⟩, .string X'), (⟨ub, uo + r * 3 + 2, none⟩, .string Z')]) hs _)
                refine heldY 0 31 ?_ _ rfl rfl (by kernel_rfl) (by kernel_rfl) (by kernel_rfl) (fun _ _ _ h => h) rfl (by assumption) ?_ ?_
                rotate_left
                · (intro w hSw; (try dsimp only at hSw); go_simp; (try with_reducible rfl))
                try simp only [List.setIfInBounds_toArray, List.set_cons_zero, List.set_cons_succ]
                refine heldY 1 32 ?_ _ rfl rfl (by kernel_rfl) (by kernel_rfl) (by kernel_rfl) (fun _ _ _ h => h) rfl (by assumption) ?_ ?_
                rotate_left
                · (intro w hSw; (try dsimp only at hSw); go_simp; (try with_reducible rfl))
                try simp only [List.setIfInBounds_toArray, List.set_cons_zero, List.set_cons_succ]
                refine heldY 2 33 ?_ _ rfl rfl (by kernel_rfl) (by kernel_rfl) (by kernel_rfl) (fun _ _ _ h => h) rfl (by assumption) ?_ ?_
                rotate_left
                · (intro w hSw; (try dsimp only at hSw); go_simp; (try with_reducible rfl))
                try simp only [List.setIfInBounds_toArray, List.set_cons_zero, List.set_cons_succ]
                refine heldY 3 34 ?_ _ rfl rfl (by kernel_rfl) (by kernel_rfl) (by kernel_rfl) (fun _ _ _ h => h) rfl (by assumption) ?_ ?_
                rotate_left
                · (intro w hSw; (try dsimp only at hSw); go_simp; (try with_reducible rfl))
                try simp only [List.setIfInBounds_toArray, List.set_cons_zero, List.set_cons_succ]
                refine heldY 4 35 ?_ _ rfl rfl (by kernel_rfl) (by kernel_rfl) (by kernel_rfl) (fun _ _ _ h => h) rfl (by assumption) ?_ ?_
                rotate_left
                · (intro w hSw; (try dsimp only at hSw); go_simp; (try with_reducible rfl))
                try simp only [List.setIfInBounds_toArray, List.set_cons_zero, List.set_cons_succ]
                refine heldY 5 36 ?_ _ rfl rfl (by kernel_rfl) (by kernel_rfl) (by kernel_rfl) (fun _ _ _ h => h) rfl (by assumption) ?_ ?_
                rotate_left
                · (intro w hSw; (try dsimp only at hSw); go_simp; (try with_reducible rfl))
                try simp only [List.setIfInBounds_toArray, List.set_cons_zero, List.set_cons_succ]
                refine heldY 6 37 ?_ _ rfl rfl (by kernel_rfl) (by kernel_rfl) (by kernel_rfl) (fun _ _ _ h => h) rfl (by assumption) ?_ ?_
                rotate_left
                · (intro w hSw; (try dsimp only at hSw); go_simp; (try with_reducible rfl))
                try simp only [List.setIfInBounds_toArray, List.set_cons_zero, List.set_cons_succ]
                refine heldY 7 38 ?_ _ rfl rfl (by kernel_rfl) (by kernel_rfl) (by kernel_rfl) (fun _ _ _ h => h) rfl (by assumption) ?_ ?_
                rotate_left
                · (intro w hSw; (try dsimp only at hSw); go_simp; (try with_reducible rfl))
                try simp only [List.setIfInBounds_toArray, List.set_cons_zero, List.set_cons_succ]
                refine heldY 8 39 ?_ _ rfl rfl (by kernel_rfl) (by kernel_rfl) (by kernel_rfl) (fun _ _ _ h => h) rfl (by assumption) ?_ ?_
                rotate_left
                · (intro w hSw; (try dsimp only at hSw); go_simp; (try with_reducible rfl))
                try simp only [List.setIfInBounds_toArray, List.set_cons_zero, List.set_cons_succ]
                refine heldY 9 40 ?_ _ rfl rfl (by kernel_rfl) (by kernel_rfl) (by kernel_rfl) (fun _ _ _ h => h) rfl (by assumption) ?_ ?_
                rotate_left
                · (intro w hSw; (try dsimp only at hSw); go_simp; (try with_reducible rfl))
                try simp only [List.setIfInBounds_toArray, List.set_cons_zero, List.set_cons_succ]
                refine heldY 10 41 ?_ _ rfl rfl (by kernel_rfl) (by kernel_rfl) (by kernel_rfl) (fun _ _ _ h => h) rfl (by assumption) ?_ ?_
                rotate_left
                · (intro w hSw; (try dsimp only at hSw); go_simp; (try with_reducible rfl))
                try simp only [List.setIfInBounds_toArray, List.set_cons_zero, List.set_cons_succ]
                refine heldY 11 42 ?_ _ rfl rfl (by kernel_rfl) (by kernel_rfl) (by kernel_rfl) (fun _ _ _ h => h) rfl (by assumption) ?_ ?_
                rotate_left
                · (intro w hSw; (try dsimp only at hSw); go_simp; (try with_reducible rfl))
                try simp only [List.setIfInBounds_toArray, List.set_cons_zero, List.set_cons_succ]
                refine heldY 12 43 ?_ _ rfl rfl (by kernel_rfl) (by kernel_rfl) (by kernel_rfl) (fun _ _ _ h => h) rfl (by assumption) ?_ ?_
                rotate_left
                · (intro w hSw; (try dsimp only at hSw); go_simp; (try with_reducible rfl))
                try simp only [List.setIfInBounds_toArray, List.set_cons_zero, List.set_cons_succ]
                refine heldY 13 44 ?_ _ rfl rfl (by kernel_rfl) (by kernel_rfl) (by kernel_rfl) (fun _ _ _ h => h) rfl (by assumption) ?_ ?_
                rotate_left
                · (intro w hSw; (try dsimp only at hSw); go_simp; (try with_reducible rfl))
                try simp only [List.setIfInBounds_toArray, List.set_cons_zero, List.set_cons_succ]
                refine heldY 14 45 ?_ _ rfl rfl (by kernel_rfl) (by kernel_rfl) (by kernel_rfl) (fun _ _ _ h => h) rfl (by assumption) ?_ ?_
                rotate_left
                · (intro w hSw; (try dsimp only at hSw); go_simp; (try with_reducible rfl))
                try simp only [List.setIfInBounds_toArray, List.set_cons_zero, List.set_cons_succ]
                refine heldY 15 46 ?_ _ rfl rfl (by kernel_rfl) (by kernel_rfl) (by kernel_rfl) (fun _ _ _ h => h) rfl (by assumption) ?_ ?_
                rotate_left
                · (intro w hSw; (try dsimp only at hSw); go_simp; (try with_reducible rfl))
                try simp only [List.setIfInBounds_toArray, List.set_cons_zero, List.set_cons_succ]
                refine heldY 16 47 ?_ _ rfl rfl (by kernel_rfl) (by kernel_rfl) (by kernel_rfl) (fun _ _ _ h => h) rfl (by assumption) ?_ ?_
                rotate_left
                · (intro w hSw; (try dsimp only at hSw); go_simp; (try with_reducible rfl))
                try simp only [List.setIfInBounds_toArray, List.set_cons_zero, List.set_cons_succ]
                refine heldY 17 48 ?_ _ rfl rfl (by kernel_rfl) (by kernel_rfl) (by kernel_rfl) (fun _ _ _ h => h) rfl (by assumption) ?_ ?_
                rotate_left
                · (intro w hSw; (try dsimp only at hSw); go_simp; (try with_reducible rfl))
                try simp only [List.setIfInBounds_toArray, List.set_cons_zero, List.set_cons_succ]
                refine heldY 18 49 ?_ _ rfl rfl (by kernel_rfl) (by kernel_rfl) (by kernel_rfl) (fun _ _ _ h => h) rfl (by assumption) ?_ ?_
                rotate_left
                · (intro w hSw; (try dsimp only at hSw); go_simp; (try with_reducible rfl))
                try simp only [List.setIfInBounds_toArray, List.set_cons_zero, List.set_cons_succ]
                refine wpAnyH_ready (rs := [19]) (by kernel_rfl) (by simp) ?_
                refine AllReadyH.cons rfl (fun K hK => ?_) AllReadyH.nil
                go_simp
                go_at_call 72; (with_reducible refine (FR _).mono ?_); rintro e w3 ⟨rfl, hb⟩
                refine hK.out _ _ ?_ (fun hHeld => ?_)
                · (try dsimp only); (first | assumption | exact hs | exact AtF.dr (w := wz) (l := [(⟨b, o + k, none⟩, .slice (some ⟨sb, so, none⟩) gn sc), (⟨sb, so + j * 3, none⟩, .string X), (⟨sb, so + j * 3 + 1, none⟩, .string Y), (⟨sb, so + j * 3 + 2, none⟩, .string Z), (⟨ub, uo + r * 3, none⟩, .string X'), (⟨ub, uo + r * 3 + 2, none⟩, .string Z')]) hs | exact AtF.dr (w := wz) (l := [(⟨b, o + k, none⟩, .slice (some ⟨sb, so, none⟩) gn sc), (⟨sb, so + j * 3, none⟩, .string X), (⟨sb, so + j * 3 + 1, none⟩, .string Y), (⟨sb, so + j * 3 + 2, none⟩, .string Z), (⟨ub, uo + r * 3, none⟩, .string X'), (⟨ub, uo + r * 3 + 2, none⟩, .string Z')]) (by assumption) | exact AtF.on (w := wz) (l := [(⟨b, o + k, none⟩, .slice (some ⟨sb, so, none⟩) gn sc), (⟨sb, so + j * 3, none⟩, .string X), (⟨sb, so + j * 3 + 1, none⟩, .string Y), (⟨sb, so + j * 3 + 2, none⟩, .string Z), (⟨ub, uo + r * 3, none⟩, .string X'), (⟨ub, uo + r * 3 + 2, none⟩, .string Z')]) (by assumption) (by assumption) | exact AtF.al (w := wz) (l := [(⟨b, o + k, none⟩, .slice (some ⟨sb, so, none⟩) gn sc), (⟨sb, so + j * 3, none⟩, .string X), (⟨sb, so + j * 3 + 1, none⟩, .string Y), (⟨sb, so + j * 3 + 2, none⟩, .string Z), (⟨ub, uo + r * 3, none⟩, .string X'), (⟨ub, uo + r * 3 + 2, none⟩, .string Z')]) (by assumption) _ | exact AtF.ald (w := wz) (l := [(⟨b, o + k, none⟩, .slice (some ⟨sb, so, none⟩) gn sc), (⟨sb, so + j * 3, none⟩, .string X), (⟨sb, so + j * 3 + 1, none⟩, .string Y), (⟨sb, so + j * 3 + 2, none⟩, .string Z), (⟨ub, uo + r * 3, none⟩, .string X'), (⟨ub, uo + r * 3 + 2, none⟩, .string Z')]) (by assumption) _ | exact AtF.al (w := wz) (l := [(⟨b, o + k, none⟩, .slice (some ⟨sb, so, none⟩) gn sc), (⟨sb, so + j * 3, none⟩, .string X), (⟨sb, so + j * 3 + 1, none⟩, .string Y), (⟨sb, so + j * 3 + 2, none⟩, .string Z), (⟨ub, uo + r * 3, none⟩, .string X'), (⟨ub, uo + r * 3 + 2, none⟩, .string Z')]) hs _ | exact AtF.ald (w := wz) (l := [(⟨b, o + k, none⟩, .slice (some ⟨sb, so, none⟩) gn sc), (⟨sb, so + j * 3, none⟩, .string X), (⟨sb, so + j * 3 + 1, none⟩, .string Y), (⟨sb, so + j * 3 + 2, none⟩, .string Z), (⟨ub, uo + r * 3, none⟩, .string X'), (⟨ub, uo + r * 3 + 2, none⟩, .string Z')]) hs _)
                clear hK K
                try simp only [Act.put, List.setIfInBounds_toArray, List.set_cons_zero, List.set_cons_succ]
                refine heldY 20 51 ?_ _ rfl rfl (by kernel_rfl) (by kernel_rfl) (by kernel_rfl) (fun _ _ _ h => h) rfl (by assumption) ?_ ?_
                rotate_left
                · (intro w hSw; (try dsimp only at hSw); go_simp; (try with_reducible rfl))
                try simp only [List.setIfInBounds_toArray, List.set_cons_zero, List.set_cons_succ]
                refine heldY 21 7 ?_ _ rfl rfl (by kernel_rfl) (by kernel_rfl) (by kernel_rfl) (fun _ _ _ h => h) rfl (by assumption) ?_ ?_
                rotate_left
                · (intro w hSw; (try dsimp only at hSw); go_simp; (try with_reducible rfl))
                try simp only [List.setIfInBounds_toArray, List.set_cons_zero, List.set_cons_succ]
                refine wpAnyH_done (by kernel_rfl) ?_ _
                have HW3 := Lib.hid (BE _ hHeld)
                clear hHeld
                go_wp2
                go_roundw
                case rel => exact ⟨r + 1, by omega, by go_num, Lib.hid (by rw [HNR.out]; simp), Lib.hid (HBR.out.trans (HW3.out.mono hszr))⟩
                case measure => simp [intOf]; omega
              · go_wp2
                have BE := fun (V : World) (h : Below wz.heap.size wz V) => AtF.be (w := wz) (l := []) h
                refine wp_region_held_drew (S := (fun V => Below wz.heap.size wz V)) (by kernel_rfl) ?_ (fun hHeld => ?_)
                · (try dsimp only); (first | assumption | exact hs | exact AtF.dr (w := wz) (l := []) hs | exact AtF.dr (w := wz) (l := []) (by assumption) | exact AtF.on (w := wz) (l := []) (by assumption) (by assumption) | exact AtF.al (w := wz) (l := []) (by assumption) _ | exact AtF.ald (w := wz) (l := []) (by assumption) _ | exact AtF.al (w := wz) (l := []) hs _ | exact AtF.ald (w := wz) (l := []) hs _)
                refine heldY 0 31 ?_ _ rfl rfl (by kernel_rfl) (by kernel_rfl) (by kernel_rfl) (fun _ _ _ h => h) rfl (by assumption) ?_ ?_
                rotate_left
                · (intro w hSw; (try dsimp only at hSw); go_simp; (try with_reducible rfl))
                try simp only [List.setIfInBounds_toArray, List.set_cons_zero, List.set_cons_succ]
                refine heldY 1 32 ?_ _ rfl rfl (by kernel_rfl) (by kernel_rfl) (by kernel_rfl) (fun _ _ _ h => h) rfl (by assumption) ?_ ?_
                rotate_left
                · (intro w hSw; (try dsimp only at hSw); go_simp; (try with_reducible rfl))
                try simp only [List.setIfInBounds_toArray, List.set_cons_zero, List.set_cons_succ]
                refine heldNo 2 33 rfl (by kernel_rfl) (by kernel_rfl) (by kernel_rfl) (fun _ _ _ h => h) rfl (by assumption) ?_
                try simp only [List.setIfInBounds_toArray, List.set_cons_zero, List.set_cons_succ]
                refine heldNo 3 34 rfl (by kernel_rfl) (by kernel_rfl) (by kernel_rfl) (fun _ _ _ h => h) rfl (by assumption) ?_
                try simp only [List.setIfInBounds_toArray, List.set_cons_zero, List.set_cons_succ]
                refine heldNo 4 35 rfl (by kernel_rfl) (by kernel_rfl) (by kernel_rfl) (fun _ _ _ h => h) rfl (by assumption) ?_
                try simp only [List.setIfInBounds_toArray, List.set_cons_zero, List.set_cons_succ]
                refine heldNo 5 36 rfl (by kernel_rfl) (by kernel_rfl) (by kernel_rfl) (fun _ _ _ h => h) rfl (by assumption) ?_
                try simp only [List.setIfInBounds_toArray, List.set_cons_zero, List.set_cons_succ]
                refine heldNo 6 37 rfl (by kernel_rfl) (by kernel_rfl) (by kernel_rfl) (fun _ _ _ h => h) rfl (by assumption) ?_
                try simp only [List.setIfInBounds_toArray, List.set_cons_zero, List.set_cons_succ]
                refine heldNo 7 38 rfl (by kernel_rfl) (by kernel_rfl) (by kernel_rfl) (fun _ _ _ h => h) rfl (by assumption) ?_
                try simp only [List.setIfInBounds_toArray, List.set_cons_zero, List.set_cons_succ]
                refine heldNo 8 39 rfl (by kernel_rfl) (by kernel_rfl) (by kernel_rfl) (fun _ _ _ h => h) rfl (by assumption) ?_
                try simp only [List.setIfInBounds_toArray, List.set_cons_zero, List.set_cons_succ]
                refine heldNo 9 40 rfl (by kernel_rfl) (by kernel_rfl) (by kernel_rfl) (fun _ _ _ h => h) rfl (by assumption) ?_
                try simp only [List.setIfInBounds_toArray, List.set_cons_zero, List.set_cons_succ]
                refine heldNo 10 41 rfl (by kernel_rfl) (by kernel_rfl) (by kernel_rfl) (fun _ _ _ h => h) rfl (by assumption) ?_
                try simp only [List.setIfInBounds_toArray, List.set_cons_zero, List.set_cons_succ]
                refine heldNo 11 42 rfl (by kernel_rfl) (by kernel_rfl) (by kernel_rfl) (fun _ _ _ h => h) rfl (by assumption) ?_
                try simp only [List.setIfInBounds_toArray, List.set_cons_zero, List.set_cons_succ]
                refine heldNo 12 43 rfl (by kernel_rfl) (by kernel_rfl) (by kernel_rfl) (fun _ _ _ h => h) rfl (by assumption) ?_
                try simp only [List.setIfInBounds_toArray, List.set_cons_zero, List.set_cons_succ]
                refine heldNo 13 44 rfl (by kernel_rfl) (by kernel_rfl) (by kernel_rfl) (fun _ _ _ h => h) rfl (by assumption) ?_
                try simp only [List.setIfInBounds_toArray, List.set_cons_zero, List.set_cons_succ]
                refine heldNo 14 45 rfl (by kernel_rfl) (by kernel_rfl) (by kernel_rfl) (fun _ _ _ h => h) rfl (by assumption) ?_
                try simp only [List.setIfInBounds_toArray, List.set_cons_zero, List.set_cons_succ]
                refine heldNo 15 46 rfl (by kernel_rfl) (by kernel_rfl) (by kernel_rfl) (fun _ _ _ h => h) rfl (by assumption) ?_
                try simp only [List.setIfInBounds_toArray, List.set_cons_zero, List.set_cons_succ]
                refine heldNo 16 47 rfl (by kernel_rfl) (by kernel_rfl) (by kernel_rfl) (fun _ _ _ h => h) rfl (by assumption) ?_
                try simp only [List.setIfInBounds_toArray, List.set_cons_zero, List.set_cons_succ]
                refine heldNo 17 48 rfl (by kernel_rfl) (by kernel_rfl) (by kernel_rfl) (fun _ _ _ h => h) rfl (by assumption) ?_
                try simp only [List.setIfInBounds_toArray, List.set_cons_zero, List.set_cons_succ]
                refine heldNo 18 49 rfl (by kernel_rfl) (by kernel_rfl) (by kernel_rfl) (fun _ _ _ h => h) rfl (by assumption) ?_
                try simp only [List.setIfInBounds_toArray, List.set_cons_zero, List.set_cons_succ]
                refine heldNo 19 50 rfl (by kernel_rfl) (by kernel_rfl) (by kernel_rfl) (fun _ _ _ h => h) rfl (by assumption) ?_
                try simp only [List.setIfInBounds_toArray, List.set_cons_zero, List.set_cons_succ]
                refine heldY 20 51 ?_ _ rfl rfl (by kernel_rfl) (by kernel_rfl) (by kernel_rfl) (fun _ _ _ h => h) rfl (by assumption) ?_ ?_
                rotate_left
                · (intro w hSw; (try dsimp only at hSw); go_simp; (try with_reducible rfl))
                try simp only [List.setIfInBounds_toArray, List.set_cons_zero, List.set_cons_succ]
                refine heldY 21 7 ?_ _ rfl rfl (by kernel_rfl) (by kernel_rfl) (by kernel_rfl) (fun _ _ _ h => h) rfl (by assumption) ?_ ?_
                rotate_left
                · (intro w hSw; (try dsimp only at hSw); go_simp; (try with_reducible rfl))
                try simp only [List.setIfInBounds_toArray, List.set_cons_zero, List.set_cons_succ]
                refine wpAnyH_done (by kernel_rfl) ?_ _
                have HW3 := Lib.hid (show Below wz.heap.size wz _ from hHeld)
                clear hHeld
                go_wp2
                go_roundw
                case rel => exact ⟨r + 1, by omega, by go_num, Lib.hid (by rw [HNR.out]; simp), Lib.hid (HBR.out.trans (HW3.out.mono hszr))⟩
                case measure => simp [intOf]; omega
            · obtain rfl : r = tn := by omega
              have HMX : Hid (((g0.take (j + 1)).any fun y => metB y t) = m2) := Lib.hid (by
                rw [HNX.out, HMB.out, ← hm2, List.take_of_length_le (by rw [HT.out]; omega)]; rfl)
              clear hrt hm2 HM
              go_wp2
              go_roundw
              case rel => exact ⟨j + 1, by omega, by go_num, Lib.hid (by rw [HMX.out]), Lib.hid (HBJ.out.trans (HBR.out.mono hszj))⟩
              case measure => simp [intOf]; omega
        · obtain rfl : j = gn := by omega
          have hmb := HMB.out
          rw [List.take_of_length_le (by rw [HGN.out]; omega)] at hmb
          have HO2 := Lib.hid (OwnV.on HO.out HBJ.out)
          have hzw := HBW.out.size
          cases mb
          · have HX2 := Lib.hid (HNO.out hmb)
            clear hmb HMB HYES HNO hjt
            go_wp2_with (first
              | (at_builtin; refine wpList_append_own _ rfl _ _ 45 rfl w.heap.size 3 i0 _ 1 8 Tryz.underlying45 hi hz0 hz1 hz2' rfl (by decide) _ _ _ rfl (World.ownsRow.alloc HO2.out.2 _) ⟨wj.heap.size, 0, none⟩ 1 1 [.int .i64 k] rfl rfl ?c1 ?c2 ?c3 ?c4 ?c5 ?_))
            case c1 =>
              intro j u hj
              match j, hj with
              | 0, hj => simp at hj; subst hj; simp [Addr.add]
            case c2 => intro u hu; simp at hu; subst hu; rfl
            case c3 => rw [List.length_map]; unfold maxLen; omega
            case c4 => rw [List.length_map]; omega
            case c5 => simp; omega
            intro v' w3 hown' hgrow _
            have HO3 : Hid (OwnIn w3 w.heap.size v' (xs ++ [k])) := Lib.hid (by
              unfold OwnIn
              rw [List.map_append]
              exact OwnV.app HO2.out.1 rfl (by simpa using hown'))
            have HB3 : Hid (Below w.heap.size w w3) := Lib.hid (OwnV.below HBW.out HO2.out hgrow (Nat.le_refl _) hzw)
            clear hown' hgrow
            go_wp2
            go_roundw
            case rel => exact ⟨k + 1, _, by omega, by go_num, HX2, by rw [List.length_append]; show xs.length + 1 ≤ _; omega, HO3, HB3⟩
            case measure => simp [intOf]; omega
          · have HX2 := Lib.hid (HYES.out hmb)
            clear hmb HMB HYES HNO hjt
            go_wp2
            go_roundw
            case rel => exact ⟨k + 1, _, by omega, by go_num, HX2, by omega, HO2, HBW⟩
            case measure => simp [intOf]; omega
    · obtain rfl : k = n := by omega
      have HE : Hid (xs = lackL t 0 (fsts l)) := Lib.hid (by rw [← HX.out, List.drop_of_length_le (by rw [HFL.out]; omega), lackL, List.append_nil])
      clear hlt HX
      go_wp2
      go_ret
      exact ⟨_, rfl, by rw [← HE.out]; exact HO.out, HB.out⟩
end Go.Proofs.YtkcamfcjkjiijaaGreatDoor
namespace Go.Proofs.YtkcamfcjkjiijaaGreatDoor
open Go.RowKit Go.Shelf
set_option maxRecDepth 100000 in
set_option maxHeartbeats 8000000 in
theorem missing_refB (x : Stv) (hn : x.rs.length ≤ 90000) (hs : BigL (thereU x.rs)) (v : Value) (l : List Gv) (hl : l.length ≤ 500) (hg : BigGL l) (w : World) (hx : InS7 w x) (h : HoldGs w v l) :
    Calls Tryz.prog 15 #[agS x, v] w fun e w' => ∃ r, e = .returned r ∧ OwnIn w' w.heap.size r (missL x.rs l) ∧ Below w.heap.size w w' := by
  have B0 := (Below.refl w.heap.size w).alloc (Nat.le_refl _) (.cells #[x.rv, x.dv, x.ov, x.av, x.iv, x.fv, x.lv] 30)
  have TH := there_ref x.rv x.rs hn _ (hx.rs.on B0)
  have HG := Lib.hid h
  have HLEN : (thereU x.rs).length ≤ 90000 := Nat.le_trans (there_len _) hn
  have LA : Hid (∀ r W, Below w.heap.size w W → OwnQ W w.heap.size r (thereU x.rs) → Calls Tryz.prog 38 #[v, r] W fun e w' => ∃ r', e = .returned r' ∧ OwnIn w' w.heap.size r' (missL x.rs l) ∧ Below w.heap.size w w') := Lib.hid (fun r W hb ho => (lacks_refB v r l hl hg (thereU x.rs) HLEN hs W (HG.out.on hb) ho.holds).mono (fun e w' h => by
    obtain ⟨r', g1, g2, g3⟩ := h
    exact ⟨r', g1, g2.mono hb.size, hb.trans (g3.mono hb.size)⟩))
  obtain ⟨⟨⟨ra, rc, -, -, hrv, -⟩, -⟩, ⟨oa, on, oc, hov⟩, ⟨aa, an, ac, hav⟩, ⟨ia, im, ic, hiv⟩, ⟨fa, fn, fc, hfv⟩, ⟨da, dn, dc, hdv⟩, ⟨la, ln, lc, hlv⟩⟩ := hx
  obtain ⟨ga, gc, gb, go, hgv, -⟩ := h.1
  obtain ⟨RES, hRES⟩ : ∃ q, missL x.rs l = q := ⟨_, rfl⟩
  simp only [hRES] at LA ⊢
  obtain ⟨TL, hTL⟩ : ∃ q, thereU x.rs = q := ⟨_, rfl⟩
  simp only [hTL] at LA TH
  clear hRES hTL HG h HLEN hn hs hl hg
  obtain ⟨rs, ds, ls, rv, dv, ov, av, iv, fv, lv⟩ := x
  unfold agS
  dsimp only at *
  subst hrv hov hav hiv hfv hdv hlv hgv
  simp only [List.length_map] at *
  generalize rs.length = rn at *
  generalize l.length = gn at *
  simp only [World.size_alloc] at TH
  go_enter Tryz.func15, Tryz.ntmps15
  go_wp2_with (first
    | (go_at_call 12; (with_reducible refine TH.mono ?_); rintro e w1 ⟨r, rfl, h1, h2⟩; have HB := Lib.hid (B0.trans (h2.mono (by simp))); have LC := LA.out r w1 HB.out (h1.mono (by omega)); clear h1 h2 TH)
    | (go_at_call 38; (with_reducible refine LC.mono ?_); rintro e w2 ⟨r2, rfl, h1, h2⟩; have HO2 := Lib.hid h1; have HB2 := Lib.hid h2; clear h1 h2 LC))
  first | (go_ret; exact ⟨_, rfl, HO2.out, HB2.out⟩) | exact ⟨_, rfl, HO2.out, HB2.out⟩
theorem dropU_ownR (v : Value) (l : List Uv) (hl : l.length ≤ 90000) (p : ByteArray) (w : World) (h : HoldU w v l) : Calls Tryz.prog 43 #[v, .string p] w fun e w' => ∃ v', e = .returned v' ∧ OwnV 71 9 w' w.heap.size v' ((dropU l p.data.toList).map cellsU) ∧ Below w.heap.size w w' := by
  refine (dropO_refUa v (l.map shU) (by rw [List.length_map]; exact hl) p w (hold_shU h)).mono fun e w' ⟨v', he, ho, hb⟩ => ⟨v', he, ?_, hb⟩
  rw [drop_shU] at ho
  unfold OwnOUa at ho
  rw [map_shU (w := w) (fun x hx => h.2 x (dropU_mem hx))] at ho
  exact ho
theorem missLen_refB (x : Stv) (hn : x.rs.length ≤ 90000) (hs : BigL (thereU x.rs)) (v : Value) (l : List Gv) (hl : l.length ≤ 500) (hg : BigGL l) (w : World) (hx : InS7 w x) (h : HoldGs w v l) :
    Calls Tryz.prog 15 #[agS x, v] w fun e w' => (∃ a c, e = .returned (.slice a (missL x.rs l).length c)) ∧ Below w.heap.size w w' :=
  (missing_refB x hn hs v l hl hg w hx h).mono (fun e w' h => by
    obtain ⟨r, g1, g2, g3⟩ := h
    obtain ⟨a, c, hr⟩ := g2.form
    rw [List.length_map] at hr
    exact ⟨⟨a, c, by rw [g1, hr]⟩, g3⟩)
set_option maxRecDepth 100000 in
set_option maxHeartbeats 16000000 in
theorem needed_ref (x : Stv) (hn : x.rs.length ≤ 90000) (hs : ∀ l, (∀ r ∈ l, r ∈ x.rs) → BigL (thereU l)) (hg : ∀ r ∈ x.rs, r.dp.length ≤ 500 ∧ BigGL r.dp) (p : ByteArray) (w : World) (hx : InS7 w x) :
    Calls Tryz.prog 18 #[agS x, .string p] w fun e w' => ∃ r, e = .returned r ∧ OwnT w' w.heap.size r (neededU x.rs p.data.toList) ∧ Below w.heap.size w w' := by
  obtain ⟨i0, hi0, hz0, hz1, hz2'⟩ := info_parts infoT
  have b1 := (Below.refl w.heap.size w).alloc (Nat.le_refl _) (.cells #[x.rv, x.dv, x.ov, x.av, x.iv, x.fv, x.lv] 30)
  have c7 : Cell7 w.heap.size (w.alloc (.cells #[x.rv, x.dv, x.ov, x.av, x.iv, x.fv, x.lv] 30)) x := by
    have k := fun i v h => boxV7 w x.rv x.dv x.ov x.av x.iv x.fv x.lv 30 i v h
    exact ⟨k 0 _ rfl, k 1 _ rfl, k 2 _ rfl, k 3 _ rfl, k 4 _ rfl, k 5 _ rfl, k 6 _ rfl⟩
  obtain ⟨w1, hw1⟩ : ∃ w1, w.alloc (.cells #[x.rv, x.dv, x.ov, x.av, x.iv, x.fv, x.lv] 30) = w1 := ⟨_, rfl⟩
  have hz1' : w1.heap.size = w.heap.size + 1 := by rw [← hw1]; simp
  rw [hw1] at b1 c7
  have DR := dropU_ownR x.rv x.rs hn p w1 (hx.rs.on b1)
  have hmem : ∀ r ∈ dropU x.rs p.data.toList, r ∈ x.rs := fun r hr => dropU_mem hr
  have hlen := dropU_len x.rs p.data.toList
  have HX7 := Lib.hid (hx.on b1)
  have C7 : Hid (∀ W, Below w1.heap.size w1 W → Cell7 w.heap.size W x) := Lib.hid (fun W hb => c7.on hb)
  obtain ⟨D, hD⟩ : ∃ q, dropU x.rs p.data.toList = q := ⟨_, rfl⟩
  rw [hD] at DR hmem hlen
  have HNE : Hid (neededU x.rs p.data.toList = namesU D (needB x.rs D)) := Lib.hid (by unfold neededU; rw [hD])
  have MB : Hid (∀ W (r : Uv) (v : Value), r ∈ D → Below w1.heap.size w1 W → HoldU W v D → Calls Tryz.prog 15 #[.agg #[v, .slice none 0 0, .slice none 0 0, .slice none 0 0, .slice none 0 0, .slice none 0 0, .slice none 0 0], r.dv] W fun e w' => (∃ a c, e = .returned (.slice a (missL D r.dp).length c)) ∧ Below W.heap.size W w') := Lib.hid (fun W r v hr hb hv =>
    missLen_refB ⟨D, [], [], v, .slice none 0 0, .slice none 0 0, .slice none 0 0, .slice none 0 0, .slice none 0 0, .slice none 0 0⟩ (Nat.le_trans hlen hn) (hs D hmem) r.dv r.dp (hg r (hmem r hr)).1 (hg r (hmem r hr)).2 W ⟨hv, ⟨_, _, _, rfl⟩, ⟨_, _, _, rfl⟩, ⟨_, _, _, rfl⟩, ⟨_, _, _, rfl⟩, ⟨_, _, _, rfl⟩, ⟨_, _, _, rfl⟩⟩ (hv.2 r hr).dp)
  have MA : Hid (∀ W (r : Uv), r ∈ D → Below w1.heap.size w1 W → Calls Tryz.prog 15 #[agS x, r.dv] W fun e w' => (∃ a c, e = .returned (.slice a (missL x.rs r.dp).length c)) ∧ Below W.heap.size W w') := Lib.hid (fun W r hr hb => missLen_refB x hn (hs x.rs (fun r h => h)) r.dv r.dp (hg r (hmem r hr)).1 (hg r (hmem r hr)).2 W (HX7.out.on hb) ((HX7.out.on hb).rs.2 r (hmem r hr)).dp)
  have HIU : Hid (∀ W, Below w1.heap.size w1 W → ∀ r ∈ D, InU W r) := Lib.hid (fun W hb r hr => (HX7.out.on hb).rs.2 r (hmem r hr))
  obtain ⟨⟨⟨ra, rc, -, -, hrv, -⟩, -⟩, ⟨oa, on, oc, hov⟩, ⟨aa, an, ac, hav⟩, ⟨ia, im, ic, hiv⟩, ⟨fa, fn, fc, hfv⟩, ⟨da, dn, dc, hdv⟩, ⟨la, ln, lc, hlv⟩⟩ := hx
  have HB1 := Lib.hid b1
  have HW1 := Lib.hid hw1
  have HZ1 := Lib.hid hz1'
  obtain ⟨n, hN⟩ : ∃ n, D.length = n := ⟨_, rfl⟩
  have hn9 : n ≤ 90000 := by omega
  have HN := Lib.hid hN
  obtain ⟨RS, hRS⟩ : ∃ q, x.rs = q := ⟨_, rfl⟩
  obtain ⟨F, hF⟩ : ∃ F : List Uv → List Bs, (fun l => namesU l (needB x.rs D)) = F := ⟨_, rfl⟩
  have HF0 : Hid (F (D.take 0) = []) := Lib.hid (by rw [← hF]; rfl)
  have HTK : Hid (∀ k p, D[k]? = some p → F (D.take (k + 1)) = F (D.take k) ++ (if (cfS p.st && decide ((missL x.rs p.dp).length < (missL D p.dp).length)) = true then [p.nm] else []) ∧ (F (D.take k)).length ≤ k) := Lib.hid (fun k p h => by
    rw [← hF]
    exact ⟨names_take h, Nat.le_trans (names_len _ _) (by rw [List.length_take]; omega)⟩)
  have HFE : Hid (F (D.take n) = neededU x.rs p.data.toList) := Lib.hid (by rw [← hF, List.take_of_length_le (by omega), HNE.out])
  obtain ⟨RES, hRES⟩ : ∃ q, neededU x.rs p.data.toList = q := ⟨_, rfl⟩
  rw [hRES] at HFE ⊢
  clear hF hRES hN b1 hw1 hz1' c7 hn hs hg hlen hD HNE hmem HX7
  obtain ⟨rs, ds, ls, rv, dv, ov, av, iv, fv, lv⟩ := x
  unfold agS
  unfold agS at MA
  unfold Cell7 at C7
  dsimp only at *
  subst hrv hov hav hiv hfv hdv hlv hRS
  simp only [List.length_map] at *
  generalize rs.length = rn at *
  go_enter Tryz.func18, Tryz.ntmps18
  have hw1 := HW1.out
  obtain ⟨d0, d1, d2, d3, d4, d5, d6⟩ := C7.out w1 (Below.refl _ _)
  go_wp2_with (go_at_call 43; (with_reducible refine DR.mono ?_); rintro e w3 ⟨v', rfl, ho, hb⟩; obtain ⟨va, vc, hve⟩ := OwnV.form ho; rw [List.length_map] at hve; subst hve; have HV3 := Lib.hid ho; have HB3 := Lib.hid hb; clear ho hb hw1 DR d0 d1 d2 d3 d4 d5 d6)
  rw [HN.out] at HV3 ⊢
  have bx := (Below.refl w3.heap.size w3).alloc (Nat.le_refl _) (.cells #[.slice va n vc, .slice none 0 0, .slice none 0 0, .slice none 0 0, .slice none 0 0, .slice none 0 0, .slice none 0 0] 30)
  have k7 := fun i v h => boxV7 w3 (.slice va n vc) (.slice none 0 0) (.slice none 0 0) (.slice none 0 0) (.slice none 0 0) (.slice none 0 0) (.slice none 0 0) 30 i v h
  obtain ⟨w4, hw4⟩ : ∃ w4, w3.alloc (.cells #[.slice va n vc, .slice none 0 0, .slice none 0 0, .slice none 0 0, .slice none 0 0, .slice none 0 0, .slice none 0 0] 30) = w4 := ⟨_, rfl⟩
  rw [hw4] at bx k7
  have e0 := k7 0 _ rfl
  have e1 := k7 1 _ rfl
  have e2 := k7 2 _ rfl
  have e3 := k7 3 _ rfl
  have e4 := k7 4 _ rfl
  have e5 := k7 5 _ rfl
  have e6 := k7 6 _ rfl
  have hz4 : w4.heap.size = w3.heap.size + 1 := by rw [← hw4]; simp
  have R7 : Hid (∀ W, Below w4.heap.size w4 W → W.cell? ⟨w3.heap.size, 0, none⟩ = some (.slice va n vc) ∧ W.cell? ⟨w3.heap.size, 1, none⟩ = some (.slice none 0 0) ∧ W.cell? ⟨w3.heap.size, 2, none⟩ = some (.slice none 0 0) ∧ W.cell? ⟨w3.heap.size, 3, none⟩ = some (.slice none 0 0) ∧ W.cell? ⟨w3.heap.size, 4, none⟩ = some (.slice none 0 0) ∧ W.cell? ⟨w3.heap.size, 5, none⟩ = some (.slice none 0 0) ∧ W.cell? ⟨w3.heap.size, 6, none⟩ = some (.slice none 0 0)) := Lib.hid (fun W hb => by
    have k := fun i v (h : w4.cell? ⟨w3.heap.size, i, none⟩ = some v) => (hb.cell (p := ⟨w3.heap.size, i, none⟩) (show w3.heap.size < w4.heap.size by omega)).trans h
    exact ⟨k 0 _ e0, k 1 _ e1, k 2 _ e2, k 3 _ e3, k 4 _ e4, k 5 _ e5, k 6 _ e6⟩)
  have HB4 := Lib.hid (HB3.out.trans (bx.mono HB3.out.size))
  have HV4 := Lib.hid (OwnV.on HV3.out bx)
  have B14 : Hid (∀ W, Below w4.heap.size w4 W → Below w1.heap.size w1 W) := Lib.hid (fun W hb => HB4.out.trans (hb.mono HB4.out.size))
  obtain ⟨a, c, b, o, hve, hc, ha, hcell⟩ := OwnV.holds HV4.out
  rw [List.length_map, HN.out] at hve hc ha
  simp only [Value.slice.injEq] at hve
  obtain ⟨rfl, -, rfl⟩ := hve
  have HC : Hid (∀ (j : Nat) r, D[j]? = some r → w4.cell? ⟨b, o + j * 9, none⟩ = some (.string (⟨r.nm.toArray⟩ : ByteArray)) ∧ w4.cell? ⟨b, o + j * 9 + 1, none⟩ = some (.string (⟨r.vr.toArray⟩ : ByteArray)) ∧ w4.cell? ⟨b, o + j * 9 + 2, none⟩ = some (.int .i64 r.st) ∧ w4.cell? ⟨b, o + j * 9 + 3, none⟩ = some r.dv ∧ w4.cell? ⟨b, o + j * 9 + 4, none⟩ = some r.cv ∧ w4.cell? ⟨b, o + j * 9 + 5, none⟩ = some r.rv ∧ w4.cell? ⟨b, o + j * 9 + 6, none⟩ = some r.fv ∧ w4.cell? ⟨b, o + j * 9 + 7, none⟩ = some r.pv ∧ w4.cell? ⟨b, o + j * 9 + 8, none⟩ = some r.av) := Lib.hid (fun j r hj => by
    have := hcell j (cellsU r) (by rw [List.getElem?_map, hj]; rfl)
    exact ⟨this 0 _ (by omega) rfl, this 1 _ (by omega) rfl, this 2 _ (by omega) rfl, this 3 _ (by omega) rfl, this 4 _ (by omega) rfl, this 5 _ (by omega) rfl, this 6 _ (by omega) rfl, this 7 _ (by omega) rfl, this 8 _ (by omega) rfl⟩)
  have HHU : Hid (∀ W, Below w4.heap.size w4 W → HoldU W (.slice va n vc) D) := Lib.hid (fun W hb => ⟨HoldV.on (OwnV.holds HV4.out) hb, fun r hr => HIU.out W (B14.out W hb) r hr⟩)
  have HW4 := Lib.hid hw4
  clear hcell k7 e0 e1 e2 e3 e4 e5 e6 bx hw4 HV3 HV4 hz4
  have hw4 := HW4.out
  go_wp2
  clear hw4
  go_loopw [5, 7] (fun u i wr => ∃ (k : Nat), k ≤ n ∧ i = .int .i64 k ∧ Hid (OwnT wr w4.heap.size u (F (D.take k))) ∧ Hid (Below w4.heap.size w4 wr)) (fun _ i _ => n - (intOf i).toNat)
  case atStart => exact ⟨0, by omega, rfl, by rw [HW4.out]; exact Lib.hid (by rw [HF0.out]; exact OwnT.nil _ _), by rw [HW4.out]; exact Lib.hid (Below.refl _ _)⟩
  case round =>
    obtain ⟨k, hk, rfl, HO, HB⟩ := hrel
    have hsz := HB.out.size
    obtain ⟨e0, e1, e2, e3, e4, e5, e6⟩ := R7.out wr HB.out
    by_cases hlt : k < n
    · obtain ⟨rfl, hbw⟩ := ha (by omega)
      obtain ⟨r, hrx⟩ : ∃ p, D[k]? = some p := ⟨_, List.getElem?_eq_getElem (by rw [HN.out]; exact hlt)⟩
      have hrm := List.mem_of_getElem? hrx
      obtain ⟨c0, c1, c2, c3, c4, c5, c6, c7, c8⟩ := HC.out k r hrx
      rw [← HB.out.cell (p := ⟨b, o + k * 9, none⟩) hbw] at c0
      rw [← HB.out.cell (p := ⟨b, o + k * 9 + 1, none⟩) hbw] at c1
      rw [← HB.out.cell (p := ⟨b, o + k * 9 + 2, none⟩) hbw] at c2
      rw [← HB.out.cell (p := ⟨b, o + k * 9 + 3, none⟩) hbw] at c3
      rw [← HB.out.cell (p := ⟨b, o + k * 9 + 4, none⟩) hbw] at c4
      rw [← HB.out.cell (p := ⟨b, o + k * 9 + 5, none⟩) hbw] at c5
      rw [← HB.out.cell (p := ⟨b, o + k * 9 + 6, none⟩) hbw] at c6
      rw [← HB.out.cell (p := ⟨b, o + k * 9 + 7, none⟩) hbw] at c7
      rw [← HB.out.cell (p := ⟨b, o + k * 9 + 8, none⟩) hbw] at c8
      obtain ⟨htk, hlen⟩ := HTK.out k r hrx
      have hi := HIU.out wr (B14.out wr HB.out) r hrm
      obtain ⟨⟨ra1, rc1, -, -, qdv, -⟩, -⟩ := hi.dp
      obtain ⟨ra2, rc2, -, -, qcv, -⟩ := hi.cn
      obtain ⟨ra3, rc3, -, -, qrv, -⟩ := hi.rp
      obtain ⟨ra4, rc4, -, -, qfv, -⟩ := hi.cf
      obtain ⟨ra5, rc5, -, -, qpv, -⟩ := hi.pd
      obtain ⟨ra6, rc6, -, -, qav, -⟩ := hi.aw
      have G1 := fun W hb => MB.out W r (.slice (some ⟨b, o, none⟩) n vc) hrm (B14.out W hb) (HHU.out W hb)
      have G2 := fun W hb => MA.out W r hrm (B14.out W hb)
      have hRN : (⟨r.nm.toArray⟩ : ByteArray).data.toList = r.nm := by simp
      generalize (⟨r.nm.toArray⟩ : ByteArray) = RN at *
      generalize (⟨r.vr.toArray⟩ : ByteArray) = RV at *
      rw [qdv] at c3 G1 G2
      rw [qcv] at c4
      rw [qrv] at c5
      rw [qfv] at c6
      rw [qpv] at c7
      rw [qav] at c8
      simp only [List.length_map] at *
      obtain ⟨m1, hm1⟩ : ∃ q, (missL D r.dp).length = q := ⟨_, rfl⟩
      obtain ⟨m2, hm2⟩ : ∃ q, (missL rs r.dp).length = q := ⟨_, rfl⟩
      rw [hm1] at G1
      rw [hm2] at G2
      rw [hm1, hm2] at htk
      have HTK3 := Lib.hid htk
      have HRN := Lib.hid hRN
      obtain ⟨n1, hn1⟩ : ∃ q, r.dp.length = q := ⟨_, rfl⟩
      obtain ⟨n2, hn2⟩ : ∃ q, r.cn.length = q := ⟨_, rfl⟩
      obtain ⟨n3, hn3⟩ : ∃ q, r.rp.length = q := ⟨_, rfl⟩
      obtain ⟨n4, hn4⟩ : ∃ q, r.cf.length = q := ⟨_, rfl⟩
      obtain ⟨n5, hn5⟩ : ∃ q, r.pd.length = q := ⟨_, rfl⟩
      obtain ⟨n6, hn6⟩ : ∃ q, r.aw.length = q := ⟨_, rfl⟩
      obtain ⟨st, hst0⟩ : ∃ q, r.st = q := ⟨_, rfl⟩
      rw [hn1] at c3 G1 G2
      rw [hn2] at c4
      rw [hn3] at c5
      rw [hn4] at c6
      rw [hn5] at c7
      rw [hn6] at c8
      rw [hst0] at c2 HTK3
      obtain ⟨wb, hwb⟩ : ∃ wb, wr.alloc (.cells #[.string RN, .string RV, .int .i64 st, .slice ra1 n1 rc1, .slice ra2 n2 rc2, .slice ra3 n3 rc3, .slice ra4 n4 rc4, .slice ra5 n5 rc5, .slice ra6 n6 rc6] 71) = wb := ⟨_, rfl⟩
      have hbx : Below wr.heap.size wr wb := by rw [← hwb]; exact (Below.refl wr.heap.size wr).alloc (Nat.le_refl _) _
      have hzb : wb.heap.size = wr.heap.size + 1 := by rw [← hwb]; simp
      obtain ⟨x0, x1, x2, x3, -, -, -, -, -⟩ := boxV9 wr (.string RN) (.string RV) (.int .i64 st) (.slice ra1 n1 rc1) (.slice ra2 n2 rc2) (.slice ra3 n3 rc3) (.slice ra4 n4 rc4) (.slice ra5 n5 rc5) (.slice ra6 n6 rc6) 71
      rw [hwb] at x0 x1 x2 x3
      have HBb := Lib.hid (HB.out.trans (hbx.mono hsz))
      have HOb := Lib.hid (HO.out.on hbx)
      have X9 : Hid (∀ V, Below wb.heap.size wb V → V.cell? ⟨wr.heap.size, 0, none⟩ = some (.string RN)) := Lib.hid (fun V hb => (hb.cell (p := ⟨wr.heap.size, 0, none⟩) (show wr.heap.size < wb.heap.size by omega)).trans x0)
      have HG1 : Hid (∀ V, Below wb.heap.size wb V → Calls Tryz.prog 15 #[.agg #[.slice (some ⟨b, o, none⟩) n vc, .slice none 0 0, .slice none 0 0, .slice none 0 0, .slice none 0 0, .slice none 0 0, .slice none 0 0], .slice ra1 n1 rc1] V fun e w' => (∃ a c, e = .returned (.slice a m1 c)) ∧ Below V.heap.size V w') := Lib.hid (fun V hb => G1 V (HBb.out.trans (hb.mono HBb.out.size)))
      have HG2 := Lib.hid (fun V (hb : Below wb.heap.size wb V) => G2 V (HBb.out.trans (hb.mono HBb.out.size)))
      obtain ⟨d0, d1, d2, d3, d4, d5, d6⟩ := C7.out wb (B14.out wb HBb.out)
      obtain ⟨g0, g1, g2, g3, g4, g5, g6⟩ := R7.out wb HBb.out
      have i0' : (0 : Int) ≤ (k : Int) := by omega
      have i1' : (k : Int) < (n : Int) := by omega
      have hNO : Hid ((cfS st && decide (m2 < m1)) = false → F (D.take (k + 1)) = F (D.take k)) := Lib.hid (fun h => by rw [HTK3.out, h]; simp)
      have hYES : Hid ((cfS st && decide (m2 < m1)) = true → F (D.take (k + 1)) = F (D.take k) ++ [r.nm]) := Lib.hid (fun h => by rw [HTK3.out, h]; simp)
      obtain ⟨RNM, hRNM⟩ : ∃ q, r.nm = q := ⟨_, rfl⟩
      rw [hRNM] at hYES HRN
      obtain ⟨RR, hRR⟩ : ∃ q, F (D.take k) = q := ⟨_, rfl⟩
      rw [hRR] at hNO hYES HOb hlen
      have hs := And.intro x2 (And.intro x3 (And.intro g0 (And.intro g1 (And.intro g2 (And.intro g3 (And.intro g4 (And.intro g5 (And.intro g6 (And.intro d0 (And.intro d1 (And.intro d2 (And.intro d3 (And.intro d4 (And.intro d5 (And.intro d6 (Below.refl wb.heap.size wb))))))))))))))))
      clear htk hm1 hm2 hn1 hn2 hn3 hn4 hn5 hn6 hst0 hrx hrm hi qdv qcv qrv qfv qpv qav hRN G1 G2 hRNM hRR HO hbx
      by_cases h5 : (5 : Int) ≤ st
      rotate_left
      · have hb5 : decide ((5 : Int) ≤ st) = false := decide_eq_false h5
        have hcf : cfS st = false := by unfold cfS; rw [decide_eq_false_iff_not]; omega
        rw [hcf] at hNO
        go_wp2
        have BE := fun (V : World) (h : V.cell? ⟨wr.heap.size, 2, none⟩ = some (.int .i64 st) ∧ V.cell? ⟨wr.heap.size, 3, none⟩ = some (.slice ra1 n1 rc1) ∧ V.cell? ⟨w3.heap.size, 0, none⟩ = some (.slice (some ⟨b, o, none⟩) n vc) ∧ V.cell? ⟨w3.heap.size, 1, none⟩ = some (.slice none 0 0) ∧ V.cell? ⟨w3.heap.size, 2, none⟩ = some (.slice none 0 0) ∧ V.cell? ⟨w3.heap.size, 3, none⟩ = some (.slice none 0 0) ∧ V.cell? ⟨w3.heap.size, 4, none⟩ = some (.slice none 0 0) ∧ V.cell? ⟨w3.heap.size, 5, none⟩ = some (.slice none 0 0) ∧ V.cell? ⟨w3.heap.size, 6, none⟩ = some (.slice none 0 0) ∧ V.cell? ⟨w.heap.size, 0, none⟩ = some (.slice ra rn rc) ∧ V.cell? ⟨w.heap.size, 1, none⟩ = some (.slice da dn dc) ∧ V.cell? ⟨w.heap.size, 2, none⟩ = some (.slice oa on oc) ∧ V.cell? ⟨w.heap.size, 3, none⟩ = some (.slice aa an ac) ∧ V.cell? ⟨w.heap.size, 4, none⟩ = some (.slice ia im ic) ∧ V.cell? ⟨w.heap.size, 5, none⟩ = some (.slice fa fn fc) ∧ V.cell? ⟨w.heap.size, 6, none⟩ = some (.slice la ln lc) ∧ Below wb.heap.size wb V) => AtF.be (w := wb) (l := [(⟨wr.heap.size, 2, none⟩, .int .i64 st), (⟨wr.heap.size, 3, none⟩, .slice ra1 n1 rc1), (⟨w3.heap.size, 0, none⟩, .slice (some ⟨b, o, none⟩) n vc), (⟨w3.heap.size, 1, none⟩, .slice none 0 0), (⟨w3.heap.size, 2, none⟩, .slice none 0 0), (⟨w3.heap.size, 3, none⟩, .slice none 0 0), (⟨w3.heap.size, 4, none⟩, .slice none 0 0), (⟨w3.heap.size, 5, none⟩, .slice none 0 0), (⟨w3.heap.size, 6, none⟩, .slice none 0 0), (⟨w.heap.size, 0, none⟩, .slice ra rn rc), (⟨w.heap.size, 1, none⟩, .slice da dn dc), (⟨w.heap.size, 2, none⟩, .slice oa on oc), (⟨w.heap.size, 3, none⟩, .slice aa an ac), (⟨w.heap.size, 4, none⟩, .slice ia im ic), (⟨w.heap.size, 5, none⟩, .slice fa fn fc), (⟨w.heap.size, 6, none⟩, .slice la ln lc)]) h
        refine wp_region_held_drew (S := (fun V => V.cell? ⟨wr.heap.size, 2, none⟩ = some (.int .i64 st) ∧ V.cell? ⟨wr.heap.size, 3, none⟩ = some (.slice ra1 n1 rc1) ∧ V.cell? ⟨w3.heap.size, 0, none⟩ = some (.slice (some ⟨b, o, none⟩) n vc) ∧ V.cell? ⟨w3.heap.size, 1, none⟩ = some (.slice none 0 0) ∧ V.cell? ⟨w3.heap.size, 2, none⟩ = some (.slice none 0 0) ∧ V.cell? ⟨w3.heap.size, 3, none⟩ = some (.slice none 0 0) ∧ V.cell? ⟨w3.heap.size, 4, none⟩ = some (.slice none 0 0) ∧ V.cell? ⟨w3.heap.size, 5, none⟩ = some (.slice none 0 0) ∧ V.cell? ⟨w3.heap.size, 6, none⟩ = some (.slice none 0 0) ∧ V.cell? ⟨w.heap.size, 0, none⟩ = some (.slice ra rn rc) ∧ V.cell? ⟨w.heap.size, 1, none⟩ = some (.slice da dn dc) ∧ V.cell? ⟨w.heap.size, 2, none⟩ = some (.slice oa on oc) ∧ V.cell? ⟨w.heap.size, 3, none⟩ = some (.slice aa an ac) ∧ V.cell? ⟨w.heap.size, 4, none⟩ = some (.slice ia im ic) ∧ V.cell? ⟨w.heap.size, 5, none⟩ = some (.slice fa fn fc) ∧ V.cell? ⟨w.heap.size, 6, none⟩ = some (.slice la ln lc) ∧ Below wb.heap.size wb V)) (by kernel_rfl) ?_ (fun hHeld => ?_)
        · (try dsimp only); (first | assumption | exact hs | exact AtF.dr (w := wb) (l := [(⟨wr.heap.size, 2, none⟩, .int .i64 st), (⟨wr.heap.size, 3, none⟩, .slice ra1 n1 rc1), (⟨w3.heap.size, 0, none⟩, .slice (some ⟨b, o, none⟩) n vc), (⟨w3.heap.size, 1, none⟩, .slice none 0 0), (⟨w3.heap.size, 2, none⟩, .slice none 0 0), (⟨w3.heap.size, 3, none⟩, .slice none 0 0), (⟨w3.heap.size, 4, none⟩, .slice none 0 0), (⟨w3.heap.size, 5, none⟩, .slice none 0 0), (⟨w3.heap.size, 6, none⟩, .slice none 0 0), (⟨w.heap.size, 0, none⟩, .slice ra rn rc), (⟨w.heap.size, 1, none⟩, .slice da dn dc), (⟨w.heap.size, 2, none⟩, .slice oa on oc), (⟨w.heap.size, 3, none⟩, .slice aa an ac), (⟨w.heap.size, 4, none⟩, .slice ia im ic), (⟨w.heap.size, 5, none⟩, .slice fa fn fc), (⟨w.heap.size, 6, none⟩, .slice la ln lc)]) hs | exact AtF.dr (w := wb) (l := [(⟨wr.heap.size, 2, none⟩, .int .i64 st), (⟨wr.heap.size, 3, none⟩, .slice ra1 n1 rc1), (⟨w3.heap.size, 0, none⟩, .slice (some ⟨b, o, none⟩) n vc), (⟨w3.heap.size, 1, none⟩, .slice none 0 0), (⟨w3.heap.size, 2, none⟩, .slice none 0 0), (⟨w3.heap.size, 3, none⟩, .slice none 0 0), (⟨w3.heap.size, 4, none⟩, .slice none 0 0), (⟨w3.heap.size, 5, none⟩, .slice none 0 0), (⟨w3.heap.size, 6, none⟩, .slice none 0 0), (⟨w.heap.size, 0, none⟩, .slice ra rn rc), (⟨w.heap.size, 1, none⟩, .slice da dn dc), (⟨w.heap.size, 2, none⟩, .slice oa on oc), (⟨w.heap.size, 3, none⟩, .slice aa an ac), (⟨w.heap.size, 4, none⟩, .slice ia im ic), (⟨w.heap.size, 5, none⟩, .slice fa fn fc), (⟨w.heap.size, 6, none⟩, .slice la ln lc)]) (by assumption) | exact AtF.on (w := wb) (l := [(⟨wr.heap.size, 2, none⟩, .int .i64 st), (⟨wr.heap.size, 3, none⟩, .slice ra1 n1 rc1), (⟨w3.heap.size, 0, none⟩, .slice (some ⟨b, o, none⟩) n vc), (⟨w3.heap.size, 1, none⟩, .slice none 0 0), (⟨w3.heap.size, 2, none⟩, .slice none 0 0), (⟨w3.heap.size, 3, none⟩, .slice none 0 0), (⟨w3.heap.size, 4, none⟩, .slice none 0 0), (⟨w3.heap.size, 5, none⟩, .slice none 0 0), (⟨w3.heap.size, 6, none⟩, .slice none 0 0), (⟨w.heap.size, 0, none⟩, .slice ra rn rc), (⟨w.heap.size, 1, none⟩, .slice da dn dc), (⟨w.heap.size, 2, none⟩, .slice oa on oc), (⟨w.heap.size, 3, none⟩, .slice aa an ac), (⟨w.heap.size, 4, none⟩, .slice ia im ic), (⟨w.heap.size, 5, none⟩, .slice fa fn fc), (⟨w.heap.size, 6, none⟩, .slice la ln lc)]) (by assumption) (by assumption) | exact AtF.al (w := wb) (l := [(⟨wr.heap.size, 2, none⟩, .int .i64 st), (⟨wr.heap.size, 3, none⟩, .slice ra1 n1 rc1), (⟨w3.heap.size, 0, none⟩, .slice (some ⟨b, o, none⟩) n vc), (⟨w3.heap.size, 1, none⟩, .slice none 0 0), (⟨w3.heap.size, 2, none⟩, .slice none 0 0), (⟨w3.heap.size, 3, none⟩, .slice none 0 0), (⟨w3.heap.size, 4, none⟩, .slice none 0 0), (⟨w3.heap.size, 5, none⟩, .slice none 0 0), (⟨w3.heap.size, 6, none⟩, .slice none 0 0), (⟨w.heap.size, 0, none⟩, .slice ra rn rc), (⟨w.heap.size, 1, none⟩, .slice da dn dc), (⟨w.heap.size, 2, none⟩, .slice oa on oc), (⟨w.heap.size, 3, none⟩, .slice aa an ac), (⟨w.heap.size, 4, none⟩, .slice ia im ic), (⟨w.heap.size, 5, none⟩, .slice fa fn fc), (⟨w.heap.size, 6, none⟩, .slice la ln lc)]) (by assumption) _ | exact AtF.ald (w := wb) (l := [(⟨wr.heap.size, 2, none⟩, .int .i64 st), (⟨wr.heap.size, 3, none⟩, .slice ra1 n1 rc1), (⟨w3.heap.size, 0, none⟩, .slice (some ⟨b, o, none⟩) n vc), (⟨w3.heap.size, 1, none⟩, .slice none 0 0), (⟨w3.heap.size, 2, none⟩, .slice none 0 0), (⟨w3.heap.size, 3, none⟩, .slice none 0 0), (⟨w3.heap.size, 4, none⟩, .slice none 0 0), (⟨w3.heap.size, 5, none⟩, .slice none 0 0), (⟨w3.heap.size, 6, none⟩, .slice none 0 0), (⟨w.heap.size, 0, none⟩, .slice ra rn rc), (⟨w.heap.size, 1, none⟩, .slice da dn dc), (⟨w.heap.size, 2, none⟩, .slice oa on oc), (⟨w.heap.size, 3, none⟩, .slice aa an ac), (⟨w.heap.size, 4, none⟩, .slice ia im ic), (⟨w.heap.size, 5, none⟩, .slice fa fn fc), (⟨w.heap.size, 6, none⟩, .slice la ln lc)]) (by assumption) _ | exact AtF.al (w := wb) (l := [(⟨wr.heap.size, 2, none⟩, .int .i64 st), (⟨wr.heap.size, 3, none⟩, .slice ra1 n1 rc1), (⟨w3.heap.size, 0, none⟩, .slice (some ⟨b, o, none⟩) n vc), (⟨w3.heap.size, 1, none⟩, .slice none 0 0), (⟨w3.heap.size, 2, none⟩, .slice none 0 0), (⟨w3.heap.size, 3, none⟩, .slice none 0 0), (⟨w3.heap.size, 4, none⟩, .slice none 0 0), (⟨w3.heap.size, 5, none⟩, .slice none 0 0), (⟨w3.heap.size, 6, none⟩, .slice none 0 0), (⟨w.heap.size, 0, none⟩, .slice ra rn rc), (⟨w.heap.size, 1, none⟩, .slice da dn dc), (⟨w.heap.size, 2, none⟩, .slice oa on oc), (⟨w.heap.size, 3, none⟩, .slice aa an ac), (⟨w.heap.size, 4, none⟩, .slice ia im ic), (⟨w.heap.size, 5, none⟩, .slice fa fn fc), (⟨w.heap.size, 6, none⟩, .slice la ln lc)]) hs _ | exact AtF.ald (w := wb) (l := [(⟨wr.heap.size, 2, none⟩, .int .i64 st), (⟨wr.heap.size, 3, none⟩, .slice ra1 n1 rc1), (⟨w3.heap.size, 0, none⟩, .slice (some ⟨b, o, none⟩) n vc), (⟨w3.heap.size, 1, none⟩, .slice none 0 0), (⟨w3.heap.size, 2, none⟩, .slice none 0 0), (⟨w3.heap.size, 3, none⟩, .slice none 0 0), (⟨w3.heap.size, 4, none⟩, .slice none 0 0), (⟨w3.heap.size, 5, none⟩, .slice none 0 0), (⟨w3.heap.size, 6, none⟩, .slice none 0 0), (⟨w.heap.size, 0, none⟩, .slice ra rn rc), (⟨w.heap.size, 1, none⟩, .slice da dn dc), (⟨w.heap.size, 2, none⟩, .slice oa on oc), (⟨w.heap.size, 3, none⟩, .slice aa an ac), (⟨w.heap.size, 4, none⟩, .slice ia im ic), (⟨w.heap.size, 5, none⟩, .slice fa fn fc), (⟨w.heap.size, 6, none⟩, .slice la ln lc)]) hs _)
        refine heldY 0 26 ?_ _ rfl rfl (by kernel_rfl) (by kernel_rfl) (by kernel_rfl) (fun _ _ _ h => h) rfl (by assumption) ?_ ?_
        rotate_left
        · (intro w hSw; (try dsimp only at hSw); go_simp; (try with_reducible rfl))
        try simp only [List.setIfInBounds_toArray, List.set_cons_zero, List.set_cons_succ]
        refine heldY 1 27 ?_ _ rfl rfl (by kernel_rfl) (by kernel_rfl) (by kernel_rfl) (fun _ _ _ h => h) rfl (by assumption) ?_ ?_
        rotate_left
        · (intro w hSw; (try dsimp only at hSw); go_simp; (try with_reducible rfl))
        try simp only [List.setIfInBounds_toArray, List.set_cons_zero, List.set_cons_succ]
        refine heldY 2 28 ?_ _ rfl rfl (by kernel_rfl) (by kernel_rfl) (by kernel_rfl) (fun _ _ _ h => h) rfl (by assumption) ?_ ?_
        rotate_left
        · (intro w hSw; (try dsimp only at hSw); go_simp; (try with_reducible rfl))
        try simp only [List.setIfInBounds_toArray, List.set_cons_zero, List.set_cons_succ]
        refine heldY 3 29 ?_ _ rfl rfl (by kernel_rfl) (by kernel_rfl) (by kernel_rfl) (fun _ _ _ h => h) rfl (by assumption) ?_ ?_
        rotate_left
        · (intro w hSw; (try dsimp only at hSw); go_simp; (try with_reducible rfl))
        try simp only [List.setIfInBounds_toArray, List.set_cons_zero, List.set_cons_succ]
        refine heldNo 4 30 rfl (by kernel_rfl) (by kernel_rfl) (by kernel_rfl) (fun _ _ _ h => h) rfl (by assumption) ?_
        try simp only [List.setIfInBounds_toArray, List.set_cons_zero, List.set_cons_succ]
        refine heldNo 5 31 rfl (by kernel_rfl) (by kernel_rfl) (by kernel_rfl) (fun _ _ _ h => h) rfl (by assumption) ?_
        try simp only [List.setIfInBounds_toArray, List.set_cons_zero, List.set_cons_succ]
        refine heldNo 6 32 rfl (by kernel_rfl) (by kernel_rfl) (by kernel_rfl) (fun _ _ _ h => h) rfl (by assumption) ?_
        try simp only [List.setIfInBounds_toArray, List.set_cons_zero, List.set_cons_succ]
        refine heldY 7 33 ?_ _ rfl rfl (by kernel_rfl) (by kernel_rfl) (by kernel_rfl) (fun _ _ _ h => h) rfl (by assumption) ?_ ?_
        rotate_left
        · (intro w hSw; (try dsimp only at hSw); go_simp; (try with_reducible rfl))
        try simp only [List.setIfInBounds_toArray, List.set_cons_zero, List.set_cons_succ]
        refine heldY 8 34 ?_ _ rfl rfl (by kernel_rfl) (by kernel_rfl) (by kernel_rfl) (fun _ _ _ h => h) rfl (by assumption) ?_ ?_
        rotate_left
        · (intro w hSw; (try dsimp only at hSw); go_simp; (try with_reducible rfl))
        try simp only [List.setIfInBounds_toArray, List.set_cons_zero, List.set_cons_succ]
        refine heldNo 9 35 rfl (by kernel_rfl) (by kernel_rfl) (by kernel_rfl) (fun _ _ _ h => h) rfl (by assumption) ?_
        try simp only [List.setIfInBounds_toArray, List.set_cons_zero, List.set_cons_succ]
        refine heldNo 10 36 rfl (by kernel_rfl) (by kernel_rfl) (by kernel_rfl) (fun _ _ _ h => h) rfl (by assumption) ?_
        try simp only [List.setIfInBounds_toArray, List.set_cons_zero, List.set_cons_succ]
        refine heldNo 11 37 rfl (by kernel_rfl) (by kernel_rfl) (by kernel_rfl) (fun _ _ _ h => h) rfl (by assumption) ?_
        try simp only [List.setIfInBounds_toArray, List.set_cons_zero, List.set_cons_succ]
        refine heldNo 12 38 rfl (by kernel_rfl) (by kernel_rfl) (by kernel_rfl) (fun _ _ _ h => h) rfl (by assumption) ?_
        try simp only [List.setIfInBounds_toArray, List.set_cons_zero, List.set_cons_succ]
        refine heldNo 13 39 rfl (by kernel_rfl) (by kernel_rfl) (by kernel_rfl) (fun _ _ _ h => h) rfl (by assumption) ?_
        try simp only [List.setIfInBounds_toArray, List.set_cons_zero, List.set_cons_succ]
        refine heldNo 14 40 rfl (by kernel_rfl) (by kernel_rfl) (by kernel_rfl) (fun _ _ _ h => h) rfl (by assumption) ?_
        try simp only [List.setIfInBounds_toArray, List.set_cons_zero, List.set_cons_succ]
        refine heldNo 15 41 rfl (by kernel_rfl) (by kernel_rfl) (by kernel_rfl) (fun _ _ _ h => h) rfl (by assumption) ?_
        try simp only [List.setIfInBounds_toArray, List.set_cons_zero, List.set_cons_succ]
        refine heldNo 16 42 rfl (by kernel_rfl) (by kernel_rfl) (by kernel_rfl) (fun _ _ _ h => h) rfl (by assumption) ?_
        try simp only [List.setIfInBounds_toArray, List.set_cons_zero, List.set_cons_succ]
        refine heldNo 17 43 rfl (by kernel_rfl) (by kernel_rfl) (by kernel_rfl) (fun _ _ _ h => h) rfl (by assumption) ?_
        try simp only [List.setIfInBounds_toArray, List.set_cons_zero, List.set_cons_succ]
        refine heldNo 18 44 rfl (by kernel_rfl) (by kernel_rfl) (by kernel_rfl) (fun _ _ _ h => h) rfl (by assumption) ?_
        try simp only [List.setIfInBounds_toArray, List.set_cons_zero, List.set_cons_succ]
        refine heldNo 19 45 rfl (by kernel_rfl) (by kernel_rfl) (by kernel_rfl) (fun _ _ _ h => h) rfl (by assumption) ?_
        try simp only [List.setIfInBounds_toArray, List.set_cons_zero, List.set_cons_succ]
        refine heldY 20 46 ?_ _ rfl rfl (by kernel_rfl) (by kernel_rfl) (by kernel_rfl) (fun _ _ _ h => h) rfl (by assumption) ?_ ?_
        rotate_left
        · (intro w hSw; (try dsimp only at hSw); go_simp; (try with_reducible rfl))
        try simp only [List.setIfInBounds_toArray, List.set_cons_zero, List.set_cons_succ]
        refine wpAnyH_done (by kernel_rfl) ?_ _
        have HB6 : Hid (Below w4.heap.size w4 _) := Lib.hid (HBb.out.trans ((BE _ hHeld).mono HBb.out.size))
        have HO6 := Lib.hid (HOb.out.on (BE _ hHeld))
        clear hHeld hs
        go_wp2
        go_roundw
        case rel => exact ⟨k + 1, by omega, by go_num, by rw [hNO.out (by simp)]; exact HO6, HB6⟩
        case measure => simp [intOf]; omega
      by_cases h7 : st ≤ (7 : Int)
      rotate_left
      · have hb7 : decide (st ≤ (7 : Int)) = false := decide_eq_false h7
        have hcf : cfS st = false := by unfold cfS; rw [decide_eq_false_iff_not]; omega
        rw [hcf] at hNO
        go_wp2
        have BE := fun (V : World) (h : V.cell? ⟨wr.heap.size, 2, none⟩ = some (.int .i64 st) ∧ V.cell? ⟨wr.heap.size, 3, none⟩ = some (.slice ra1 n1 rc1) ∧ V.cell? ⟨w3.heap.size, 0, none⟩ = some (.slice (some ⟨b, o, none⟩) n vc) ∧ V.cell? ⟨w3.heap.size, 1, none⟩ = some (.slice none 0 0) ∧ V.cell? ⟨w3.heap.size, 2, none⟩ = some (.slice none 0 0) ∧ V.cell? ⟨w3.heap.size, 3, none⟩ = some (.slice none 0 0) ∧ V.cell? ⟨w3.heap.size, 4, none⟩ = some (.slice none 0 0) ∧ V.cell? ⟨w3.heap.size, 5, none⟩ = some (.slice none 0 0) ∧ V.cell? ⟨w3.heap.size, 6, none⟩ = some (.slice none 0 0) ∧ V.cell? ⟨w.heap.size, 0, none⟩ = some (.slice ra rn rc) ∧ V.cell? ⟨w.heap.size, 1, none⟩ = some (.slice da dn dc) ∧ V.cell? ⟨w.heap.size, 2, none⟩ = some (.slice oa on oc) ∧ V.cell? ⟨w.heap.size, 3, none⟩ = some (.slice aa an ac) ∧ V.cell? ⟨w.heap.size, 4, none⟩ = some (.slice ia im ic) ∧ V.cell? ⟨w.heap.size, 5, none⟩ = some (.slice fa fn fc) ∧ V.cell? ⟨w.heap.size, 6, none⟩ = some (.slice la ln lc) ∧ Below wb.heap.size wb V) => AtF.be (w := wb) (l := [(⟨wr.heap.size, 2, none⟩, .int .i64 st), (⟨wr.heap.size, 3, none⟩, .slice ra1 n1 rc1), (⟨w3.heap.size, 0, none⟩, .slice (some ⟨b, o, none⟩) n vc), (⟨w3.heap.size, 1, none⟩, .slice none 0 0), (⟨w3.heap.size, 2, none⟩, .slice none 0 0), (⟨w3.heap.size, 3, none⟩, .slice none 0 0), (⟨w3.heap.size, 4, none⟩, .slice none 0 0), (⟨w3.heap.size, 5, none⟩, .slice none 0 0), (⟨w3.heap.size, 6, none⟩, .slice none 0 0), (⟨w.heap.size, 0, none⟩, .slice ra rn rc), (⟨w.heap.size, 1, none⟩, .slice da dn dc), (⟨w.heap.size, 2, none⟩, .slice oa on oc), (⟨w.heap.size, 3, none⟩, .slice aa an ac), (⟨w.heap.size, 4, none⟩, .slice ia im ic), (⟨w.heap.size, 5, none⟩, .slice fa fn fc), (⟨w.heap.size, 6, none⟩, .slice la ln lc)]) h
        refine wp_region_held_drew (S := (fun V => V.cell? ⟨wr.heap.size, 2, none⟩ = some (.int .i64 st) ∧ V.cell? ⟨wr.heap.size, 3, none⟩ = some (.slice ra1 n1 rc1) ∧ V.cell? ⟨w3.heap.size, 0, none⟩ = some (.slice (some ⟨b, o, none⟩) n vc) ∧ V.cell? ⟨w3.heap.size, 1, none⟩ = some (.slice none 0 0) ∧ V.cell? ⟨w3.heap.size, 2, none⟩ = some (.slice none 0 0) ∧ V.cell? ⟨w3.heap.size, 3, none⟩ = some (.slice none 0 0) ∧ V.cell? ⟨w3.heap.size, 4, none⟩ = some (.slice none 0 0) ∧ V.cell? ⟨w3.heap.size, 5, none⟩ = some (.slice none 0 0) ∧ V.cell? ⟨w3.heap.size, 6, none⟩ = some (.slice none 0 0) ∧ V.cell? ⟨w.heap.size, 0, none⟩ = some (.slice ra rn rc) ∧ V.cell? ⟨w.heap.size, 1, none⟩ = some (.slice da dn dc) ∧ V.cell? ⟨w.heap.size, 2, none⟩ = some (.slice oa on oc) ∧ V.cell? ⟨w.heap.size, 3, none⟩ = some (.slice aa an ac) ∧ V.cell? ⟨w.heap.size, 4, none⟩ = some (.slice ia im ic) ∧ V.cell? ⟨w.heap.size, 5, none⟩ = some (.slice fa fn fc) ∧ V.cell? ⟨w.heap.size, 6, none⟩ = some (.slice la ln lc) ∧ Below wb.heap.size wb V)) (by kernel_rfl) ?_ (fun hHeld => ?_)
        · (try dsimp only); (first | assumption | exact hs | exact AtF.dr (w := wb) (l := [(⟨wr.heap.size, 2, none⟩, .int .i64 st), (⟨wr.heap.size, 3, none⟩, .slice ra1 n1 rc1), (⟨w3.heap.size, 0, none⟩, .slice (some ⟨b, o, none⟩) n vc), (⟨w3.heap.size, 1, none⟩, .slice none 0 0), (⟨w3.heap.size, 2, none⟩, .slice none 0 0), (⟨w3.heap.size, 3, none⟩, .slice none 0 0), (⟨w3.heap.size, 4, none⟩, .slice none 0 0), (⟨w3.heap.size, 5, none⟩, .slice none 0 0), (⟨w3.heap.size, 6, none⟩, .slice none 0 0), (⟨w.heap.size, 0, none⟩, .slice ra rn rc), (⟨w.heap.size, 1, none⟩, .slice da dn dc), (⟨w.heap.size, 2, none⟩, .slice oa on oc), (⟨w.heap.size, 3, none⟩, .slice aa an ac), (⟨w.heap.size, 4, none⟩, .slice ia im ic), (⟨w.heap.size, 5, none⟩, .slice fa fn fc), (⟨w.heap.size, 6, none⟩, .slice la ln lc)]) hs | exact AtF.dr (w := wb) (l := [(⟨wr.heap.size, 2, none⟩, .int .i64 st), (⟨wr.heap.size, 3, none⟩, .slice ra1 n1 rc1), (⟨w3.heap.size, 0, none⟩, .slice (some ⟨b, o, none⟩) n vc), (⟨w3.heap.size, 1, none⟩, .slice none 0 0), (⟨w3.heap.size, 2, none⟩, .slice none 0 0), (⟨w3.heap.size, 3, none⟩, .slice none 0 0), (⟨w3.heap.size, 4, none⟩, .slice none 0 0), (⟨w3.heap.size, 5, none⟩, .slice none 0 0), (⟨w3.heap.size, 6, none⟩, .slice none 0 0), (⟨w.heap.size, 0, none⟩, .slice ra rn rc), (⟨w.heap.size, 1, none⟩, .slice da dn dc), (⟨w.heap.size, 2, none⟩, .slice oa on oc), (⟨w.heap.size, 3, none⟩, .slice aa an ac), (⟨w.heap.size, 4, none⟩, .slice ia im ic), (⟨w.heap.size, 5, none⟩, .slice fa fn fc), (⟨w.heap.size, 6, none⟩, .slice la ln lc)]) (by assumption) | exact AtF.on (w := wb) (l := [(⟨wr.heap.size, 2, none⟩, .int .i64 st), (⟨wr.heap.size, 3, none⟩, .slice ra1 n1 rc1), (⟨w3.heap.size, 0, none⟩, .slice (some ⟨b, o, none⟩) n vc), (⟨w3.heap.size, 1, none⟩, .slice none 0 0), (⟨w3.heap.size, 2, none⟩, .slice none 0 0), (⟨w3.heap.size, 3, none⟩, .slice none 0 0), (⟨w3.heap.size, 4, none⟩, .slice none 0 0), (⟨w3.heap.size, 5, none⟩, .slice none 0 0), (⟨w3.heap.size, 6, none⟩, .slice none 0 0), (⟨w.heap.size, 0, none⟩, .slice ra rn rc), (⟨w.heap.size, 1, none⟩, .slice da dn dc), (⟨w.heap.size, 2, none⟩, .slice oa on oc), (⟨w.heap.size, 3, none⟩, .slice aa an ac), (⟨w.heap.size, 4, none⟩, .slice ia im ic), (⟨w.heap.size, 5, none⟩, .slice fa fn fc), (⟨w.heap.size, 6, none⟩, .slice la ln lc)]) (by assumption) (by assumption) | exact AtF.al (w := wb) (l := [(⟨wr.heap.size, 2, none⟩, .int .i64 st), (⟨wr.heap.size, 3, none⟩, .slice ra1 n1 rc1), (⟨w3.heap.size, 0, none⟩, .slice (some ⟨b, o, none⟩) n vc), (⟨w3.heap.size, 1, none⟩, .slice none 0 0), (⟨w3.heap.size, 2, none⟩, .slice none 0 0), (⟨w3.heap.size, 3, none⟩, .slice none 0 0), (⟨w3.heap.size, 4, none⟩, .slice none 0 0), (⟨w3.heap.size, 5, none⟩, .slice none 0 0), (⟨w3.heap.size, 6, none⟩, .slice none 0 0), (⟨w.heap.size, 0, none⟩, .slice ra rn rc), (⟨w.heap.size, 1, none⟩, .slice da dn dc), (⟨w.heap.size, 2, none⟩, .slice oa on oc), (⟨w.heap.size, 3, none⟩, .slice aa an ac), (⟨w.heap.size, 4, none⟩, .slice ia im ic), (⟨w.heap.size, 5, none⟩, .slice fa fn fc), (⟨w.heap.size, 6, none⟩, .slice la ln lc)]) (by assumption) _ | exact AtF.ald (w := wb) (l := [(⟨wr.heap.size, 2, none⟩, .int .i64 st), (⟨wr.heap.size, 3, none⟩, .slice ra1 n1 rc1), (⟨w3.heap.size, 0, none⟩, .slice (some ⟨b, o, none⟩) n vc), (⟨w3.heap.size, 1, none⟩, .slice none 0 0), (⟨w3.heap.size, 2, none⟩, .slice none 0 0), (⟨w3.heap.size, 3, none⟩, .slice none 0 0), (⟨w3.heap.size, 4, none⟩, .slice none 0 0), (⟨w3.heap.size, 5, none⟩, .slice none 0 0), (⟨w3.heap.size, 6, none⟩, .slice none 0 0), (⟨w.heap.size, 0, none⟩, .slice ra rn rc), (⟨w.heap.size, 1, none⟩, .slice da dn dc), (⟨w.heap.size, 2, none⟩, .slice oa on oc), (⟨w.heap.size, 3, none⟩, .slice aa an ac), (⟨w.heap.size, 4, none⟩, .slice ia im ic), (⟨w.heap.size, 5, none⟩, .slice fa fn fc), (⟨w.heap.size, 6, none⟩, .slice la ln lc)]) (by assumption) _ | exact AtF.al (w := wb) (l := [(⟨wr.heap.size, 2, none⟩, .int .i64 st), (⟨wr.heap.size, 3, none⟩, .slice ra1 n1 rc1), (⟨w3.heap.size, 0, none⟩, .slice (some ⟨b, o, none⟩) n vc), (⟨w3.heap.size, 1, none⟩, .slice none 0 0), (⟨w3.heap.size, 2, none⟩, .slice none 0 0), (⟨w3.heap.size, 3, none⟩, .slice none 0 0), (⟨w3.heap.size, 4, none⟩, .slice none 0 0), (⟨w3.heap.size, 5, none⟩, .slice none 0 0), (⟨w3.heap.size, 6, none⟩, .slice none 0 0), (⟨w.heap.size, 0, none⟩, .slice ra rn rc), (⟨w.heap.size, 1, none⟩, .slice da dn dc), (⟨w.heap.size, 2, none⟩, .slice oa on oc), (⟨w.heap.size, 3, none⟩, .slice aa an ac), (⟨w.heap.size, 4, none⟩, .slice ia im ic), (⟨w.heap.size, 5, none⟩, .slice fa fn fc), (⟨w.heap.size, 6, none⟩, .slice la ln lc)]) hs _ | exact AtF.ald (w := wb) (l := [(⟨wr.heap.size, 2, none⟩, .int .i64 st), (⟨wr.heap.size, 3, none⟩, .slice ra1 n1 rc1), (⟨w3.heap.size, 0, none⟩, .slice (some ⟨b, o, none⟩) n vc), (⟨w3.heap.size, 1, none⟩, .slice none 0 0), (⟨w3.heap.size, 2, none⟩, .slice none 0 0), (⟨w3.heap.size, 3, none⟩, .slice none 0 0), (⟨w3.heap.size, 4, none⟩, .slice none 0 0), (⟨w3.heap.size, 5, none⟩, .slice none 0 0), (⟨w3.heap.size, 6, none⟩, .slice none 0 0), (⟨w.heap.size, 0, none⟩, .slice ra rn rc), (⟨w.heap.size, 1, none⟩, .slice da dn dc), (⟨w.heap.size, 2, none⟩, .slice oa on oc), (⟨w.heap.size, 3, none⟩, .slice aa an ac), (⟨w.heap.size, 4, none⟩, .slice ia im ic), (⟨w.heap.size, 5, none⟩, .slice fa fn fc), (⟨w.heap.size, 6, none⟩, .slice la ln lc)]) hs _)
        refine heldY 0 26 ?_ _ rfl rfl (by kernel_rfl) (by kernel_rfl) (by kernel_rfl) (fun _ _ _ h => h) rfl (by assumption) ?_ ?_
        rotate_left
        · (intro w hSw; (try dsimp only at hSw); go_simp; (try with_reducible rfl))
        try simp only [List.setIfInBounds_toArray, List.set_cons_zero, List.set_cons_succ]
        refine heldY 1 27 ?_ _ rfl rfl (by kernel_rfl) (by kernel_rfl) (by kernel_rfl) (fun _ _ _ h => h) rfl (by assumption) ?_ ?_
        rotate_left
        · (intro w hSw; (try dsimp only at hSw); go_simp; (try with_reducible rfl))
        try simp only [List.setIfInBounds_toArray, List.set_cons_zero, List.set_cons_succ]
        refine heldY 2 28 ?_ _ rfl rfl (by kernel_rfl) (by kernel_rfl) (by kernel_rfl) (fun _ _ _ h => h) rfl (by assumption) ?_ ?_
        rotate_left
        · (intro w hSw; (try dsimp only at hSw); go_simp; (try with_reducible rfl))
        try simp only [List.setIfInBounds_toArray, List.set_cons_zero, List.set_cons_succ]
        refine heldY 3 29 ?_ _ rfl rfl (by kernel_rfl) (by kernel_rfl) (by kernel_rfl) (fun _ _ _ h => h) rfl (by assumption) ?_ ?_
        rotate_left
        · (intro w hSw; (try dsimp only at hSw); go_simp; (try with_reducible rfl))
        try simp only [List.setIfInBounds_toArray, List.set_cons_zero, List.set_cons_succ]
        refine heldY 4 30 ?_ _ rfl rfl (by kernel_rfl) (by kernel_rfl) (by kernel_rfl) (fun _ _ _ h => h) rfl (by assumption) ?_ ?_
        rotate_left
        · (intro w hSw; (try dsimp only at hSw); go_simp; (try with_reducible rfl))
        try simp only [List.setIfInBounds_toArray, List.set_cons_zero, List.set_cons_succ]
        refine heldY 5 31 ?_ _ rfl rfl (by kernel_rfl) (by kernel_rfl) (by kernel_rfl) (fun _ _ _ h => h) rfl (by assumption) ?_ ?_
        rotate_left
        · (intro w hSw; (try dsimp only at hSw); go_simp; (try with_reducible rfl))
        try simp only [List.setIfInBounds_toArray, List.set_cons_zero, List.set_cons_succ]
        refine heldY 6 32 ?_ _ rfl rfl (by kernel_rfl) (by kernel_rfl) (by kernel_rfl) (fun _ _ _ h => h) rfl (by assumption) ?_ ?_
        rotate_left
        · (intro w hSw; (try dsimp only at hSw); go_simp; (try with_reducible rfl))
        try simp only [List.setIfInBounds_toArray, List.set_cons_zero, List.set_cons_succ]
        refine heldY 7 33 ?_ _ rfl rfl (by kernel_rfl) (by kernel_rfl) (by kernel_rfl) (fun _ _ _ h => h) rfl (by assumption) ?_ ?_
        rotate_left
        · (intro w hSw; (try dsimp only at hSw); go_simp; (try with_reducible rfl))
        try simp only [List.setIfInBounds_toArray, List.set_cons_zero, List.set_cons_succ]
        refine heldY 8 34 ?_ _ rfl rfl (by kernel_rfl) (by kernel_rfl) (by kernel_rfl) (fun _ _ _ h => h) rfl (by assumption) ?_ ?_
        rotate_left
        · (intro w hSw; (try dsimp only at hSw); go_simp; (try with_reducible rfl))
        try simp only [List.setIfInBounds_toArray, List.set_cons_zero, List.set_cons_succ]
        refine heldNo 9 35 rfl (by kernel_rfl) (by kernel_rfl) (by kernel_rfl) (fun _ _ _ h => h) rfl (by assumption) ?_
        try simp only [List.setIfInBounds_toArray, List.set_cons_zero, List.set_cons_succ]
        refine heldNo 10 36 rfl (by kernel_rfl) (by kernel_rfl) (by kernel_rfl) (fun _ _ _ h => h) rfl (by assumption) ?_
        try simp only [List.setIfInBounds_toArray, List.set_cons_zero, List.set_cons_succ]
        refine heldNo 11 37 rfl (by kernel_rfl) (by kernel_rfl) (by kernel_rfl) (fun _ _ _ h => h) rfl (by assumption) ?_
        try simp only [List.setIfInBounds_toArray, List.set_cons_zero, List.set_cons_succ]
        refine heldNo 12 38 rfl (by kernel_rfl) (by kernel_rfl) (by kernel_rfl) (fun _ _ _ h => h) rfl (by assumption) ?_
        try simp only [List.setIfInBounds_toArray, List.set_cons_zero, List.set_cons_succ]
        refine heldNo 13 39 rfl (by kernel_rfl) (by kernel_rfl) (by kernel_rfl) (fun _ _ _ h => h) rfl (by assumption) ?_
        try simp only [List.setIfInBounds_toArray, List.set_cons_zero, List.set_cons_succ]
        refine heldNo 14 40 rfl (by kernel_rfl) (by kernel_rfl) (by kernel_rfl) (fun _ _ _ h => h) rfl (by assumption) ?_
        try simp only [List.setIfInBounds_toArray, List.set_cons_zero, List.set_cons_succ]
        refine heldNo 15 41 rfl (by kernel_rfl) (by kernel_rfl) (by kernel_rfl) (fun _ _ _ h => h) rfl (by assumption) ?_
        try simp only [List.setIfInBounds_toArray, List.set_cons_zero, List.set_cons_succ]
        refine heldNo 16 42 rfl (by kernel_rfl) (by kernel_rfl) (by kernel_rfl) (fun _ _ _ h => h) rfl (by assumption) ?_
        try simp only [List.setIfInBounds_toArray, List.set_cons_zero, List.set_cons_succ]
        refine heldNo 17 43 rfl (by kernel_rfl) (by kernel_rfl) (by kernel_rfl) (fun _ _ _ h => h) rfl (by assumption) ?_
        try simp only [List.setIfInBounds_toArray, List.set_cons_zero, List.set_cons_succ]
        refine heldNo 18 44 rfl (by kernel_rfl) (by kernel_rfl) (by kernel_rfl) (fun _ _ _ h => h) rfl (by assumption) ?_
        try simp only [List.setIfInBounds_toArray, List.set_cons_zero, List.set_cons_succ]
        refine heldNo 19 45 rfl (by kernel_rfl) (by kernel_rfl) (by kernel_rfl) (fun _ _ _ h => h) rfl (by assumption) ?_
        try simp only [List.setIfInBounds_toArray, List.set_cons_zero, List.set_cons_succ]
        refine heldY 20 46 ?_ _ rfl rfl (by kernel_rfl) (by kernel_rfl) (by kernel_rfl) (fun _ _ _ h => h) rfl (by assumption) ?_ ?_
        rotate_left
        · (intro w hSw; (try dsimp only at hSw); go_simp; (try with_reducible rfl))
        try simp only [List.setIfInBounds_toArray, List.set_cons_zero, List.set_cons_succ]
        refine wpAnyH_done (by kernel_rfl) ?_ _
        have HB6 : Hid (Below w4.heap.size w4 _) := Lib.hid (HBb.out.trans ((BE _ hHeld).mono HBb.out.size))
        have HO6 := Lib.hid (HOb.out.on (BE _ hHeld))
        clear hHeld hs
        go_wp2
        go_roundw
        case rel => exact ⟨k + 1, by omega, by go_num, by rw [hNO.out (by simp)]; exact HO6, HB6⟩
        case measure => simp [intOf]; omega
      have hcf : cfS st = true := by unfold cfS; rw [decide_eq_true_eq]; omega
      rw [hcf] at hNO hYES
      go_wp2
      have BE := fun (V : World) (h : V.cell? ⟨wr.heap.size, 2, none⟩ = some (.int .i64 st) ∧ V.cell? ⟨wr.heap.size, 3, none⟩ = some (.slice ra1 n1 rc1) ∧ V.cell? ⟨w3.heap.size, 0, none⟩ = some (.slice (some ⟨b, o, none⟩) n vc) ∧ V.cell? ⟨w3.heap.size, 1, none⟩ = some (.slice none 0 0) ∧ V.cell? ⟨w3.heap.size, 2, none⟩ = some (.slice none 0 0) ∧ V.cell? ⟨w3.heap.size, 3, none⟩ = some (.slice none 0 0) ∧ V.cell? ⟨w3.heap.size, 4, none⟩ = some (.slice none 0 0) ∧ V.cell? ⟨w3.heap.size, 5, none⟩ = some (.slice none 0 0) ∧ V.cell? ⟨w3.heap.size, 6, none⟩ = some (.slice none 0 0) ∧ V.cell? ⟨w.heap.size, 0, none⟩ = some (.slice ra rn rc) ∧ V.cell? ⟨w.heap.size, 1, none⟩ = some (.slice da dn dc) ∧ V.cell? ⟨w.heap.size, 2, none⟩ = some (.slice oa on oc) ∧ V.cell? ⟨w.heap.size, 3, none⟩ = some (.slice aa an ac) ∧ V.cell? ⟨w.heap.size, 4, none⟩ = some (.slice ia im ic) ∧ V.cell? ⟨w.heap.size, 5, none⟩ = some (.slice fa fn fc) ∧ V.cell? ⟨w.heap.size, 6, none⟩ = some (.slice la ln lc) ∧ Below wb.heap.size wb V) => AtF.be (w := wb) (l := [(⟨wr.heap.size, 2, none⟩, .int .i64 st), (⟨wr.heap.size, 3, none⟩, .slice ra1 n1 rc1), (⟨w3.heap.size, 0, none⟩, .slice (some ⟨b, o, none⟩) n vc), (⟨w3.heap.size, 1, none⟩, .slice none 0 0), (⟨w3.heap.size, 2, none⟩, .slice none 0 0), (⟨w3.heap.size, 3, none⟩, .slice none 0 0), (⟨w3.heap.size, 4, none⟩, .slice none 0 0), (⟨w3.heap.size, 5, none⟩, .slice none 0 0), (⟨w3.heap.size, 6, none⟩, .slice none 0 0), (⟨w.heap.size, 0, none⟩, .slice ra rn rc), (⟨w.heap.size, 1, none⟩, .slice da dn dc), (⟨w.heap.size, 2, none⟩, .slice oa on oc), (⟨w.heap.size, 3, none⟩, .slice aa an ac), (⟨w.heap.size, 4, none⟩, .slice ia im ic), (⟨w.heap.size, 5, none⟩, .slice fa fn fc), (⟨w.heap.size, 6, none⟩, .slice la ln lc)]) h
      refine wp_region_held_drew (S := (fun V => V.cell? ⟨wr.heap.size, 2, none⟩ = some (.int .i64 st) ∧ V.cell? ⟨wr.heap.size, 3, none⟩ = some (.slice ra1 n1 rc1) ∧ V.cell? ⟨w3.heap.size, 0, none⟩ = some (.slice (some ⟨b, o, none⟩) n vc) ∧ V.cell? ⟨w3.heap.size, 1, none⟩ = some (.slice none 0 0) ∧ V.cell? ⟨w3.heap.size, 2, none⟩ = some (.slice none 0 0) ∧ V.cell? ⟨w3.heap.size, 3, none⟩ = some (.slice none 0 0) ∧ V.cell? ⟨w3.heap.size, 4, none⟩ = some (.slice none 0 0) ∧ V.cell? ⟨w3.heap.size, 5, none⟩ = some (.slice none 0 0) ∧ V.cell? ⟨w3.heap.size, 6, none⟩ = some (.slice none 0 0) ∧ V.cell? ⟨w.heap.size, 0, none⟩ = some (.slice ra rn rc) ∧ V.cell? ⟨w.heap.size, 1, none⟩ = some (.slice da dn dc) ∧ V.cell? ⟨w.heap.size, 2, none⟩ = some (.slice oa on oc) ∧ V.cell? ⟨w.heap.size, 3, none⟩ = some (.slice aa an ac) ∧ V.cell? ⟨w.heap.size, 4, none⟩ = some (.slice ia im ic) ∧ V.cell? ⟨w.heap.size, 5, none⟩ = some (.slice fa fn fc) ∧ V.cell? ⟨w.heap.size, 6, none⟩ = some (.slice la ln lc) ∧ Below wb.heap.size wb V)) (by kernel_rfl) ?_ (fun hHeld => ?_)
      · (try dsimp only); (first | assumption | exact hs | exact AtF.dr (w := wb) (l := [(⟨wr.heap.size, 2, none⟩, .int .i64 st), (⟨wr.heap.size, 3, none⟩, .slice ra1 n1 rc1), (⟨w3.heap.size, 0, none⟩, .slice (some ⟨b, o, none⟩) n vc), (⟨w3.heap.size, 1, none⟩, .slice none 0 0), (⟨w3.heap.size, 2, none⟩, .slice none 0 0), (⟨w3.heap.size, 3, none⟩, .slice none 0 0), (⟨w3.heap.size, 4, none⟩, .slice none 0 0), (⟨w3.heap.size, 5, none⟩, .slice none 0 0), (⟨w3.heap.size, 6, none⟩, .slice none 0 0), (⟨w.heap.size, 0, none⟩, .slice ra rn rc), (⟨w.heap.size, 1, none⟩, .slice da dn dc), (⟨w.heap.size, 2, none⟩, .slice oa on oc), (⟨w.heap.size, 3, none⟩, .slice aa an ac), (⟨w.heap.size, 4, none⟩, .slice ia im ic), (⟨w.heap.size, 5, none⟩, .slice fa fn fc), (⟨w.heap.size, 6, none⟩, .slice la ln lc)]) hs | exact AtF.dr (w := wb) (l := [(⟨wr.heap.size, 2, none⟩, .int .i64 st), (⟨wr.heap.size, 3, none⟩, .slice ra1 n1 rc1), (⟨w3.heap.size, 0, none⟩, .slice (some ⟨b, o, none⟩) n vc), (⟨w3.heap.size, 1, none⟩, .slice none 0 0), (⟨w3.heap.size, 2, none⟩, .slice none 0 0), (⟨w3.heap.size, 3, none⟩, .slice none 0 0), (⟨w3.heap.size, 4, none⟩, .slice none 0 0), (⟨w3.heap.size, 5, none⟩, .slice none 0 0), (⟨w3.heap.size, 6, none⟩, .slice none 0 0), (⟨w.heap.size, 0, none⟩, .slice ra rn rc), (⟨w.heap.size, 1, none⟩, .slice da dn dc), (⟨w.heap.size, 2, none⟩, .slice oa on oc), (⟨w.heap.size, 3, none⟩, .slice aa an ac), (⟨w.heap.size, 4, none⟩, .slice ia im ic), (⟨w.heap.size, 5, none⟩, .slice fa fn fc), (⟨w.heap.size, 6, none⟩, .slice la ln lc)]) (by assumption) | exact AtF.on (w := wb) (l := [(⟨wr.heap.size, 2, none⟩, .int .i64 st), (⟨wr.heap.size, 3, none⟩, .slice ra1 n1 rc1), (⟨w3.heap.size, 0, none⟩, .slice (some ⟨b, o, none⟩) n vc), (⟨w3.heap.size, 1, none⟩, .slice none 0 0), (⟨w3.heap.size, 2, none⟩, .slice none 0 0), (⟨w3.heap.size, 3, none⟩, .slice none 0 0), (⟨w3.heap.size, 4, none⟩, .slice none 0 0), (⟨w3.heap.size, 5, none⟩, .slice none 0 0), (⟨w3.heap.size, 6, none⟩, .slice none 0 0), (⟨w.heap.size, 0, none⟩, .slice ra rn rc), (⟨w.heap.size, 1, none⟩, .slice da dn dc), (⟨w.heap.size, 2, none⟩, .slice oa on oc), (⟨w.heap.size, 3, none⟩, .slice aa an ac), (⟨w.heap.size, 4, none⟩, .slice ia im ic), (⟨w.heap.size, 5, none⟩, .slice fa fn fc), (⟨w.heap.size, 6, none⟩, .slice la ln lc)]) (by assumption) (by assumption) | exact AtF.al (w := wb) (l := [(⟨wr.heap.size, 2, none⟩, .int .i64 st), (⟨wr.heap.size, 3, none⟩, .slice ra1 n1 rc1), (⟨w3.heap.size, 0, none⟩, .slice (some ⟨b, o, none⟩) n vc), (⟨w3.heap.size, 1, none⟩, .slice none 0 0), (⟨w3.heap.size, 2, none⟩, .slice none 0 0), (⟨w3.heap.size, 3, none⟩, .slice none 0 0), (⟨w3.heap.size, 4, none⟩, .slice none 0 0), (⟨w3.heap.size, 5, none⟩, .slice none 0 0), (⟨w3.heap.size, 6, none⟩, .slice none 0 0), (⟨w.heap.size, 0, none⟩, .slice ra rn rc), (⟨w.heap.size, 1, none⟩, .slice da dn dc), (⟨w.heap.size, 2, none⟩, .slice oa on oc), (⟨w.heap.size, 3, none⟩, .slice aa an ac), (⟨w.heap.size, 4, none⟩, .slice ia im ic), (⟨w.heap.size, 5, none⟩, .slice fa fn fc), (⟨w.heap.size, 6, none⟩, .slice la ln lc)]) (by assumption) _ | exact AtF.ald (w := wb) (l := [(⟨wr.heap.size, 2, none⟩, .int .i64 st), (⟨wr.heap.size, 3, none⟩, .slice ra1 n1 rc1), (⟨w3.heap.size, 0, none⟩, .slice (some ⟨b, o, none⟩) n vc), (⟨w3.heap.size, 1, none⟩, .slice none 0 0), (⟨w3.heap.size, 2, none⟩, .slice none 0 0), (⟨w3.heap.size, 3, none⟩, .slice none 0 0), (⟨w3.heap.size, 4, none⟩, .slice none 0 0), (⟨w3.heap.size, 5, none⟩, .slice none 0 0), (⟨w3.heap.size, 6, none⟩, .slice none 0 0), (⟨w.heap.size, 0, none⟩, .slice ra rn rc), (⟨w.heap.size, 1, none⟩, .slice da dn dc), (⟨w.heap.size, 2, none⟩, .slice oa on oc), (⟨w.heap.size, 3, none⟩, .slice aa an ac), (⟨w.heap.size, 4, none⟩, .slice ia im ic), (⟨w.heap.size, 5, none⟩, .slice fa fn fc), (⟨w.heap.size, 6, none⟩, .slice la ln lc)]) (by assumption) _ | exact AtF.al (w := wb) (l := [(⟨wr.heap.size, 2, none⟩, .int .i64 st), (⟨wr.heap.size, 3, none⟩, .slice ra1 n1 rc1), (⟨w3.heap.size, 0, none⟩, .slice (some ⟨b, o, none⟩) n vc), (⟨w3.heap.size, 1, none⟩, .slice none 0 0), (⟨w3.heap.size, 2, none⟩, .slice none 0 0), (⟨w3.heap.size, 3, none⟩, .slice none 0 0), (⟨w3.heap.size, 4, none⟩, .slice none 0 0), (⟨w3.heap.size, 5, none⟩, .slice none 0 0), (⟨w3.heap.size, 6, none⟩, .slice none 0 0), (⟨w.heap.size, 0, none⟩, .slice ra rn rc), (⟨w.heap.size, 1, none⟩, .slice da dn dc), (⟨w.heap.size, 2, none⟩, .slice oa on oc), (⟨w.heap.size, 3, none⟩, .slice aa an ac), (⟨w.heap.size, 4, none⟩, .slice ia im ic), (⟨w.heap.size, 5, none⟩, .slice fa fn fc), (⟨w.heap.size, 6, none⟩, .slice la ln lc)]) hs _ | exact AtF.ald (w := wb) (l := [(⟨wr.heap.size, 2, none⟩, .int .i64 st), (⟨wr.heap.size, 3, none⟩, .slice ra1 n1 rc1), (⟨w3.heap.size, 0, none⟩, .slice (some ⟨b, o, none⟩) n vc), (⟨w3.heap.size, 1, none⟩, .slice none 0 0), (⟨w3.heap.size, 2, none⟩, .slice none 0 0), (⟨w3.heap.size, 3, none⟩, .slice none 0 0), (⟨w3.heap.size, 4, none⟩, .slice none 0 0), (⟨w3.heap.size, 5, none⟩, .slice none 0 0), (⟨w3.heap.size, 6, none⟩, .slice none 0 0), (⟨w.heap.size, 0, none⟩, .slice ra rn rc), (⟨w.heap.size, 1, none⟩, .slice da dn dc), (⟨w.heap.size, 2, none⟩, .slice oa on oc), (⟨w.heap.size, 3, none⟩, .slice aa an ac), (⟨w.heap.size, 4, none⟩, .slice ia im ic), (⟨w.heap.size, 5, none⟩, .slice fa fn fc), (⟨w.heap.size, 6, none⟩, .slice la ln lc)]) hs _)
      refine heldY 0 26 ?_ _ rfl rfl (by kernel_rfl) (by kernel_rfl) (by kernel_rfl) (fun _ _ _ h => h) rfl (by assumption) ?_ ?_
      rotate_left
      · (intro w hSw; (try dsimp only at hSw); go_simp; (try with_reducible rfl))
      try simp only [List.setIfInBounds_toArray, List.set_cons_zero, List.set_cons_succ]
      refine heldY 1 27 ?_ _ rfl rfl (by kernel_rfl) (by kernel_rfl) (by kernel_rfl) (fun _ _ _ h => h) rfl (by assumption) ?_ ?_
      rotate_left
      · (intro w hSw; (try dsimp only at hSw); go_simp; (try with_reducible rfl))
      try simp only [List.setIfInBounds_toArray, List.set_cons_zero, List.set_cons_succ]
      refine heldY 2 28 ?_ _ rfl rfl (by kernel_rfl) (by kernel_rfl) (by kernel_rfl) (fun _ _ _ h => h) rfl (by assumption) ?_ ?_
      rotate_left
      · (intro w hSw; (try dsimp only at hSw); go_simp; (try with_reducible rfl))
      try simp only [List.setIfInBounds_toArray, List.set_cons_zero, List.set_cons_succ]
      refine heldY 3 29 ?_ _ rfl rfl (by kernel_rfl) (by kernel_rfl) (by kernel_rfl) (fun _ _ _ h => h) rfl (by assumption) ?_ ?_
      rotate_left
      · (intro w hSw; (try dsimp only at hSw); go_simp; (try with_reducible rfl))
      try simp only [List.setIfInBounds_toArray, List.set_cons_zero, List.set_cons_succ]
      refine heldY 4 30 ?_ _ rfl rfl (by kernel_rfl) (by kernel_rfl) (by kernel_rfl) (fun _ _ _ h => h) rfl (by assumption) ?_ ?_
      rotate_left
      · (intro w hSw; (try dsimp only at hSw); go_simp; (try with_reducible rfl))
      try simp only [List.setIfInBounds_toArray, List.set_cons_zero, List.set_cons_succ]
      refine heldY 5 31 ?_ _ rfl rfl (by kernel_rfl) (by kernel_rfl) (by kernel_rfl) (fun _ _ _ h => h) rfl (by assumption) ?_ ?_
      rotate_left
      · (intro w hSw; (try dsimp only at hSw); go_simp; (try with_reducible rfl))
      try simp only [List.setIfInBounds_toArray, List.set_cons_zero, List.set_cons_succ]
      refine heldY 6 32 ?_ _ rfl rfl (by kernel_rfl) (by kernel_rfl) (by kernel_rfl) (fun _ _ _ h => h) rfl (by assumption) ?_ ?_
      rotate_left
      · (intro w hSw; (try dsimp only at hSw); go_simp; (try with_reducible rfl))
      try simp only [List.setIfInBounds_toArray, List.set_cons_zero, List.set_cons_succ]
      refine heldY 7 33 ?_ _ rfl rfl (by kernel_rfl) (by kernel_rfl) (by kernel_rfl) (fun _ _ _ h => h) rfl (by assumption) ?_ ?_
      rotate_left
      · (intro w hSw; (try dsimp only at hSw); go_simp; (try with_reducible rfl))
      try simp only [List.setIfInBounds_toArray, List.set_cons_zero, List.set_cons_succ]
      refine heldY 8 34 ?_ _ rfl rfl (by kernel_rfl) (by kernel_rfl) (by kernel_rfl) (fun _ _ _ h => h) rfl (by assumption) ?_ ?_
      rotate_left
      · (intro w hSw; (try dsimp only at hSw); go_simp; (try with_reducible rfl))
      try simp only [List.setIfInBounds_toArray, List.set_cons_zero, List.set_cons_succ]
      refine heldY 9 35 ?_ _ rfl rfl (by kernel_rfl) (by kernel_rfl) (by kernel_rfl) (fun _ _ _ h => h) rfl (by assumption) ?_ ?_
      rotate_left
      · (intro w hSw; (try dsimp only at hSw); go_simp; (try with_reducible rfl))
      try simp only [List.setIfInBounds_toArray, List.set_cons_zero, List.set_cons_succ]
      refine heldY 10 36 ?_ _ rfl rfl (by kernel_rfl) (by kernel_rfl) (by kernel_rfl) (fun _ _ _ h => h) rfl (by assumption) ?_ ?_
      rotate_left
      · (intro w hSw; (try dsimp only at hSw); go_simp; (try with_reducible rfl))
      try simp only [List.setIfInBounds_toArray, List.set_cons_zero, List.set_cons_succ]
      refine heldY 11 37 ?_ _ rfl rfl (by kernel_rfl) (by kernel_rfl) (by kernel_rfl) (fun _ _ _ h => h) rfl (by assumption) ?_ ?_
      rotate_left
      · (intro w hSw; (try dsimp only at hSw); go_simp; (try with_reducible rfl))
      try simp only [List.setIfInBounds_toArray, List.set_cons_zero, List.set_cons_succ]
      refine heldY 14 40 ?_ _ rfl rfl (by kernel_rfl) (by kernel_rfl) (by kernel_rfl) (fun _ _ _ h => h) rfl (by assumption) ?_ ?_
      rotate_left
      · (intro w hSw; (try dsimp only at hSw); go_simp; (try with_reducible rfl))
      try simp only [List.setIfInBounds_toArray, List.set_cons_zero, List.set_cons_succ]
      refine heldY 15 41 ?_ _ rfl rfl (by kernel_rfl) (by kernel_rfl) (by kernel_rfl) (fun _ _ _ h => h) rfl (by assumption) ?_ ?_
      rotate_left
      · (intro w hSw; (try dsimp only at hSw); go_simp; (try with_reducible rfl))
      try simp only [List.setIfInBounds_toArray, List.set_cons_zero, List.set_cons_succ]
      refine heldY 16 42 ?_ _ rfl rfl (by kernel_rfl) (by kernel_rfl) (by kernel_rfl) (fun _ _ _ h => h) rfl (by assumption) ?_ ?_
      rotate_left
      · (intro w hSw; (try dsimp only at hSw); go_simp; (try with_reducible rfl))
      try simp only [List.setIfInBounds_toArray, List.set_cons_zero, List.set_cons_succ]
      refine wpAnyH_ready (rs := [12]) (by kernel_rfl) (by simp) ?_
      refine AllReadyH.cons rfl (fun K hK => ?_) AllReadyH.nil
      go_simp
      first | (go_at_call 15; (with_reducible refine (HG1.out _ (BE _ (by assumption))).mono ?_); rintro e w5 ⟨⟨a5, c5', rfl⟩, hb⟩) | (go_at_call 15; (with_reducible refine (HG2.out _ (BE _ (by assumption))).mono ?_); rintro e w6 ⟨⟨a6, c6', rfl⟩, hb⟩)
      refine hK.out _ _ ?_ (fun hHeld => ?_)
      · (try dsimp only); (first | assumption | exact hs | exact AtF.dr (w := wb) (l := [(⟨wr.heap.size, 2, none⟩, .int .i64 st), (⟨wr.heap.size, 3, none⟩, .slice ra1 n1 rc1), (⟨w3.heap.size, 0, none⟩, .slice (some ⟨b, o, none⟩) n vc), (⟨w3.heap.size, 1, none⟩, .slice none 0 0), (⟨w3.heap.size, 2, none⟩, .slice none 0 0), (⟨w3.heap.size, 3, none⟩, .slice none 0 0), (⟨w3.heap.size, 4, none⟩, .slice none 0 0), (⟨w3.heap.size, 5, none⟩, .slice none 0 0), (⟨w3.heap.size, 6, none⟩, .slice none 0 0), (⟨w.heap.size, 0, none⟩, .slice ra rn rc), (⟨w.heap.size, 1, none⟩, .slice da dn dc), (⟨w.heap.size, 2, none⟩, .slice oa on oc), (⟨w.heap.size, 3, none⟩, .slice aa an ac), (⟨w.heap.size, 4, none⟩, .slice ia im ic), (⟨w.heap.size, 5, none⟩, .slice fa fn fc), (⟨w.heap.size, 6, none⟩, .slice la ln lc)]) hs | exact AtF.dr (w := wb) (l := [(⟨wr.heap.size, 2, none⟩, .int .i64 st), (⟨wr.heap.size, 3, none⟩, .slice ra1 n1 rc1), (⟨w3.heap.size, 0, none⟩, .slice (some ⟨b, o, none⟩) n vc), (⟨w3.heap.size, 1, none⟩, .slice none 0 0), (⟨w3.heap.size, 2, none⟩, .slice none 0 0), (⟨w3.heap.size, 3, none⟩, .slice none 0 0), (⟨w3.heap.size, 4, none⟩, .slice none 0 0), (⟨w3.heap.size, 5, none⟩, .slice none 0 0), (⟨w3.heap.size, 6, none⟩, .slice none 0 0), (⟨w.heap.size, 0, none⟩, .slice ra rn rc), (⟨w.heap.size, 1, none⟩, .slice da dn dc), (⟨w.heap.size, 2, none⟩, .slice oa on oc), (⟨w.heap.size, 3, none⟩, .slice aa an ac), (⟨w.heap.size, 4, none⟩, .slice ia im ic), (⟨w.heap.size, 5, none⟩, .slice fa fn fc), (⟨w.heap.size, 6, none⟩, .slice la ln lc)]) (by assumption) | exact AtF.on (w := wb) (l := [(⟨wr.heap.size, 2, none⟩, .int .i64 st), (⟨wr.heap.size, 3, none⟩, .slice ra1 n1 rc1), (⟨w3.heap.size, 0, none⟩, .slice (some ⟨b, o, none⟩) n vc), (⟨w3.heap.size, 1, none⟩, .slice none 0 0), (⟨w3.heap.size, 2, none⟩, .slice none 0 0), (⟨w3.heap.size, 3, none⟩, .slice none 0 0), (⟨w3.heap.size, 4, none⟩, .slice none 0 0), (⟨w3.heap.size, 5, none⟩, .slice none 0 0), (⟨w3.heap.size, 6, none⟩, .slice none 0 0), (⟨w.heap.size, 0, none⟩, .slice ra rn rc), (⟨w.heap.size, 1, none⟩, .slice da dn dc), (⟨w.heap.size, 2, none⟩, .slice oa on oc), (⟨w.heap.size, 3, none⟩, .slice aa an ac), (⟨w.heap.size, 4, none⟩, .slice ia im ic), (⟨w.heap.size, 5, none⟩, .slice fa fn fc), (⟨w.heap.size, 6, none⟩, .slice la ln lc)]) (by assumption) (by assumption) | exact AtF.al (w := wb) (l := [(⟨wr.heap.size, 2, none⟩, .int .i64 st), (⟨wr.heap.size, 3, none⟩, .slice ra1 n1 rc1), (⟨w3.heap.size, 0, none⟩, .slice (some ⟨b, o, none⟩) n vc), (⟨w3.heap.size, 1, none⟩, .slice none 0 0), (⟨w3.heap.size, 2, none⟩, .slice none 0 0), (⟨w3.heap.size, 3, none⟩, .slice none 0 0), (⟨w3.heap.size, 4, none⟩, .slice none 0 0), (⟨w3.heap.size, 5, none⟩, .slice none 0 0), (⟨w3.heap.size, 6, none⟩, .slice none 0 0), (⟨w.heap.size, 0, none⟩, .slice ra rn rc), (⟨w.heap.size, 1, none⟩, .slice da dn dc), (⟨w.heap.size, 2, none⟩, .slice oa on oc), (⟨w.heap.size, 3, none⟩, .slice aa an ac), (⟨w.heap.size, 4, none⟩, .slice ia im ic), (⟨w.heap.size, 5, none⟩, .slice fa fn fc), (⟨w.heap.size, 6, none⟩, .slice la ln lc)]) (by assumption) _ | exact AtF.ald (w := wb) (l := [(⟨wr.heap.size, 2, none⟩, .int .i64 st), (⟨wr.heap.size, 3, none⟩, .slice ra1 n1 rc1), (⟨w3.heap.size, 0, none⟩, .slice (some ⟨b, o, none⟩) n vc), (⟨w3.heap.size, 1, none⟩, .slice none 0 0), (⟨w3.heap.size, 2, none⟩, .slice none 0 0), (⟨w3.heap.size, 3, none⟩, .slice none 0 0), (⟨w3.heap.size, 4, none⟩, .slice none 0 0), (⟨w3.heap.size, 5, none⟩, .slice none 0 0), (⟨w3.heap.size, 6, none⟩, .slice none 0 0), (⟨w.heap.size, 0, none⟩, .slice ra rn rc), (⟨w.heap.size, 1, none⟩, .slice da dn dc), (⟨w.heap.size, 2, none⟩, .slice oa on oc), (⟨w.heap.size, 3, none⟩, .slice aa an ac), (⟨w.heap.size, 4, none⟩, .slice ia im ic), (⟨w.heap.size, 5, none⟩, .slice fa fn fc), (⟨w.heap.size, 6, none⟩, .slice la ln lc)]) (by assumption) _ | exact AtF.al (w := wb) (l := [(⟨wr.heap.size, 2, none⟩, .int .i64 st), (⟨wr.heap.size, 3, none⟩, .slice ra1 n1 rc1), (⟨w3.heap.size, 0, none⟩, .slice (some ⟨b, o, none⟩) n vc), (⟨w3.heap.size, 1, none⟩, .slice none 0 0), (⟨w3.heap.size, 2, none⟩, .slice none 0 0), (⟨w3.heap.size, 3, none⟩, .slice none 0 0), (⟨w3.heap.size, 4, none⟩, .slice none 0 0), (⟨w3.heap.size, 5, none⟩, .slice none 0 0), (⟨w3.heap.size, 6, none⟩, .slice none 0 0), (⟨w.heap.size, 0, none⟩, .slice ra rn rc), (⟨w.heap.size, 1, none⟩, .slice da dn dc), (⟨w.heap.size, 2, none⟩, .slice oa on oc), (⟨w.heap.size, 3, none⟩, .slice aa an ac), (⟨w.heap.size, 4, none⟩, .slice ia im ic), (⟨w.heap.size, 5, none⟩, .slice fa fn fc), (⟨w.heap.size, 6, none⟩, .slice la ln lc)]) hs _ | exact AtF.ald (w := wb) (l := [(⟨wr.heap.size, 2, none⟩, .int .i64 st), (⟨wr.heap.size, 3, none⟩, .slice ra1 n1 rc1), (⟨w3.heap.size, 0, none⟩, .slice (some ⟨b, o, none⟩) n vc), (⟨w3.heap.size, 1, none⟩, .slice none 0 0), (⟨w3.heap.size, 2, none⟩, .slice none 0 0), (⟨w3.heap.size, 3, none⟩, .slice none 0 0), (⟨w3.heap.size, 4, none⟩, .slice none 0 0), (⟨w3.heap.size, 5, none⟩, .slice none 0 0), (⟨w3.heap.size, 6, none⟩, .slice none 0 0), (⟨w.heap.size, 0, none⟩, .slice ra rn rc), (⟨w.heap.size, 1, none⟩, .slice da dn dc), (⟨w.heap.size, 2, none⟩, .slice oa on oc), (⟨w.heap.size, 3, none⟩, .slice aa an ac), (⟨w.heap.size, 4, none⟩, .slice ia im ic), (⟨w.heap.size, 5, none⟩, .slice fa fn fc), (⟨w.heap.size, 6, none⟩, .slice la ln lc)]) hs _)
      clear hK K
      try simp only [Act.put, List.setIfInBounds_toArray, List.set_cons_zero, List.set_cons_succ]
      refine heldY 13 39 ?_ _ rfl rfl (by kernel_rfl) (by kernel_rfl) (by kernel_rfl) (fun _ _ _ h => h) rfl (by assumption) ?_ ?_
      rotate_left
      · (intro w hSw; (try dsimp only at hSw); go_simp; (try with_reducible rfl))
      try simp only [List.setIfInBounds_toArray, List.set_cons_zero, List.set_cons_succ]
      refine wpAnyH_ready (rs := [17]) (by kernel_rfl) (by simp) ?_
      refine AllReadyH.cons rfl (fun K hK => ?_) AllReadyH.nil
      go_simp
      first | (go_at_call 15; (with_reducible refine (HG1.out _ (BE _ (by assumption))).mono ?_); rintro e w5 ⟨⟨a5, c5', rfl⟩, hb⟩) | (go_at_call 15; (with_reducible refine (HG2.out _ (BE _ (by assumption))).mono ?_); rintro e w6 ⟨⟨a6, c6', rfl⟩, hb⟩)
      refine hK.out _ _ ?_ (fun hHeld => ?_)
      · (try dsimp only); (first | assumption | exact hs | exact AtF.dr (w := wb) (l := [(⟨wr.heap.size, 2, none⟩, .int .i64 st), (⟨wr.heap.size, 3, none⟩, .slice ra1 n1 rc1), (⟨w3.heap.size, 0, none⟩, .slice (some ⟨b, o, none⟩) n vc), (⟨w3.heap.size, 1, none⟩, .slice none 0 0), (⟨w3.heap.size, 2, none⟩, .slice none 0 0), (⟨w3.heap.size, 3, none⟩, .slice none 0 0), (⟨w3.heap.size, 4, none⟩, .slice none 0 0), (⟨w3.heap.size, 5, none⟩, .slice none 0 0), (⟨w3.heap.size, 6, none⟩, .slice none 0 0), (⟨w.heap.size, 0, none⟩, .slice ra rn rc), (⟨w.heap.size, 1, none⟩, .slice da dn dc), (⟨w.heap.size, 2, none⟩, .slice oa on oc), (⟨w.heap.size, 3, none⟩, .slice aa an ac), (⟨w.heap.size, 4, none⟩, .slice ia im ic), (⟨w.heap.size, 5, none⟩, .slice fa fn fc), (⟨w.heap.size, 6, none⟩, .slice la ln lc)]) hs | exact AtF.dr (w := wb) (l := [(⟨wr.heap.size, 2, none⟩, .int .i64 st), (⟨wr.heap.size, 3, none⟩, .slice ra1 n1 rc1), (⟨w3.heap.size, 0, none⟩, .slice (some ⟨b, o, none⟩) n vc), (⟨w3.heap.size, 1, none⟩, .slice none 0 0), (⟨w3.heap.size, 2, none⟩, .slice none 0 0), (⟨w3.heap.size, 3, none⟩, .slice none 0 0), (⟨w3.heap.size, 4, none⟩, .slice none 0 0), (⟨w3.heap.size, 5, none⟩, .slice none 0 0), (⟨w3.heap.size, 6, none⟩, .slice none 0 0), (⟨w.heap.size, 0, none⟩, .slice ra rn rc), (⟨w.heap.size, 1, none⟩, .slice da dn dc), (⟨w.heap.size, 2, none⟩, .slice oa on oc), (⟨w.heap.size, 3, none⟩, .slice aa an ac), (⟨w.heap.size, 4, none⟩, .slice ia im ic), (⟨w.heap.size, 5, none⟩, .slice fa fn fc), (⟨w.heap.size, 6, none⟩, .slice la ln lc)]) (by assumption) | exact AtF.on (w := wb) (l := [(⟨wr.heap.size, 2, none⟩, .int .i64 st), (⟨wr.heap.size, 3, none⟩, .slice ra1 n1 rc1), (⟨w3.heap.size, 0, none⟩, .slice (some ⟨b, o, none⟩) n vc), (⟨w3.heap.size, 1, none⟩, .slice none 0 0), (⟨w3.heap.size, 2, none⟩, .slice none 0 0), (⟨w3.heap.size, 3, none⟩, .slice none 0 0), (⟨w3.heap.size, 4, none⟩, .slice none 0 0), (⟨w3.heap.size, 5, none⟩, .slice none 0 0), (⟨w3.heap.size, 6, none⟩, .slice none 0 0), (⟨w.heap.size, 0, none⟩, .slice ra rn rc), (⟨w.heap.size, 1, none⟩, .slice da dn dc), (⟨w.heap.size, 2, none⟩, .slice oa on oc), (⟨w.heap.size, 3, none⟩, .slice aa an ac), (⟨w.heap.size, 4, none⟩, .slice ia im ic), (⟨w.heap.size, 5, none⟩, .slice fa fn fc), (⟨w.heap.size, 6, none⟩, .slice la ln lc)]) (by assumption) (by assumption) | exact AtF.al (w := wb) (l := [(⟨wr.heap.size, 2, none⟩, .int .i64 st), (⟨wr.heap.size, 3, none⟩, .slice ra1 n1 rc1), (⟨w3.heap.size, 0, none⟩, .slice (some ⟨b, o, none⟩) n vc), (⟨w3.heap.size, 1, none⟩, .slice none 0 0), (⟨w3.heap.size, 2, none⟩, .slice none 0 0), (⟨w3.heap.size, 3, none⟩, .slice none 0 0), (⟨w3.heap.size, 4, none⟩, .slice none 0 0), (⟨w3.heap.size, 5, none⟩, .slice none 0 0), (⟨w3.heap.size, 6, none⟩, .slice none 0 0), (⟨w.heap.size, 0, none⟩, .slice ra rn rc), (⟨w.heap.size, 1, none⟩, .slice da dn dc), (⟨w.heap.size, 2, none⟩, .slice oa on oc), (⟨w.heap.size, 3, none⟩, .slice aa an ac), (⟨w.heap.size, 4, none⟩, .slice ia im ic), (⟨w.heap.size, 5, none⟩, .slice fa fn fc), (⟨w.heap.size, 6, none⟩, .slice la ln lc)]) (by assumption) _ | exact AtF.ald (w := wb) (l := [(⟨wr.heap.size, 2, none⟩, .int .i64 st), (⟨wr.heap.size, 3, none⟩, .slice ra1 n1 rc1), (⟨w3.heap.size, 0, none⟩, .slice (some ⟨b, o, none⟩) n vc), (⟨w3.heap.size, 1, none⟩, .slice none 0 0), (⟨w3.heap.size, 2, none⟩, .slice none 0 0), (⟨w3.heap.size, 3, none⟩, .slice none 0 0), (⟨w3.heap.size, 4, none⟩, .slice none 0 0), (⟨w3.heap.size, 5, none⟩, .slice none 0 0), (⟨w3.heap.size, 6, none⟩, .slice none 0 0), (⟨w.heap.size, 0, none⟩, .slice ra rn rc), (⟨w.heap.size, 1, none⟩, .slice da dn dc), (⟨w.heap.size, 2, none⟩, .slice oa on oc), (⟨w.heap.size, 3, none⟩, .slice aa an ac), (⟨w.heap.size, 4, none⟩, .slice ia im ic), (⟨w.heap.size, 5, none⟩, .slice fa fn fc), (⟨w.heap.size, 6, none⟩, .slice la ln lc)]) (by assumption) _ | exact AtF.al (w := wb) (l := [(⟨wr.heap.size, 2, none⟩, .int .i64 st), (⟨wr.heap.size, 3, none⟩, .slice ra1 n1 rc1), (⟨w3.heap.size, 0, none⟩, .slice (some ⟨b, o, none⟩) n vc), (⟨w3.heap.size, 1, none⟩, .slice none 0 0), (⟨w3.heap.size, 2, none⟩, .slice none 0 0), (⟨w3.heap.size, 3, none⟩, .slice none 0 0), (⟨w3.heap.size, 4, none⟩, .slice none 0 0), (⟨w3.heap.size, 5, none⟩, .slice none 0 0), (⟨w3.heap.size, 6, none⟩, .slice none 0 0), (⟨w.heap.size, 0, none⟩, .slice ra rn rc), (⟨w.heap.size, 1, none⟩, .slice da dn dc), (⟨w.heap.size, 2, none⟩, .slice oa on oc), (⟨w.heap.size, 3, none⟩, .slice aa an ac), (⟨w.heap.size, 4, none⟩, .slice ia im ic), (⟨w.heap.size, 5, none⟩, .slice fa fn fc), (⟨w.heap.size, 6, none⟩, .slice la ln lc)]) hs _ | exact AtF.ald (w := wb) (l := [(⟨wr.heap.size, 2, none⟩, .int .i64 st), (⟨wr.heap.size, 3, none⟩, .slice ra1 n1 rc1), (⟨w3.heap.size, 0, none⟩, .slice (some ⟨b, o, none⟩) n vc), (⟨w3.heap.size, 1, none⟩, .slice none 0 0), (⟨w3.heap.size, 2, none⟩, .slice none 0 0), (⟨w3.heap.size, 3, none⟩, .slice none 0 0), (⟨w3.heap.size, 4, none⟩, .slice none 0 0), (⟨w3.heap.size, 5, none⟩, .slice none 0 0), (⟨w3.heap.size, 6, none⟩, .slice none 0 0), (⟨w.heap.size, 0, none⟩, .slice ra rn rc), (⟨w.heap.size, 1, none⟩, .slice da dn dc), (⟨w.heap.size, 2, none⟩, .slice oa on oc), (⟨w.heap.size, 3, none⟩, .slice aa an ac), (⟨w.heap.size, 4, none⟩, .slice ia im ic), (⟨w.heap.size, 5, none⟩, .slice fa fn fc), (⟨w.heap.size, 6, none⟩, .slice la ln lc)]) hs _)
      clear hK K
      try simp only [Act.put, List.setIfInBounds_toArray, List.set_cons_zero, List.set_cons_succ]
      refine heldY 18 44 ?_ _ rfl rfl (by kernel_rfl) (by kernel_rfl) (by kernel_rfl) (fun _ _ _ h => h) rfl (by assumption) ?_ ?_
      rotate_left
      · (intro w hSw; (try dsimp only at hSw); go_simp; (try with_reducible rfl))
      try simp only [List.setIfInBounds_toArray, List.set_cons_zero, List.set_cons_succ]
      refine heldY 19 45 ?_ _ rfl rfl (by kernel_rfl) (by kernel_rfl) (by kernel_rfl) (fun _ _ _ h => h) rfl (by assumption) ?_ ?_
      rotate_left
      · (intro w hSw; (try dsimp only at hSw); go_simp; (try with_reducible rfl))
      try simp only [List.setIfInBounds_toArray, List.set_cons_zero, List.set_cons_succ]
      refine heldY 20 46 ?_ _ rfl rfl (by kernel_rfl) (by kernel_rfl) (by kernel_rfl) (fun _ _ _ h => h) rfl (by assumption) ?_ ?_
      rotate_left
      · (intro w hSw; (try dsimp only at hSw); go_simp; (try with_reducible rfl))
      try simp only [List.setIfInBounds_toArray, List.set_cons_zero, List.set_cons_succ]
      refine wpAnyH_done (by kernel_rfl) ?_ _
      have HB5 := Lib.hid (HBb.out.trans ((BE _ hHeld).mono HBb.out.size))
      have HO5 := Lib.hid (HOb.out.on (BE _ hHeld))
      have xx0 := X9.out _ (BE _ hHeld)
      have hs5 := HB5.out.size
      clear hHeld hs d0 d1 d2 d3 d4 d5 d6 g0 g1 g2 g3 g4 g5 g6 HG1 HG2
      by_cases hgt : m2 < m1
      rotate_left
      · have HF1 := Lib.hid (hNO.out (by simp [hgt]))
        go_wp2
        go_roundw
        case rel => exact ⟨k + 1, by omega, by go_num, by rw [HF1.out]; exact HO5, HB5⟩
        case measure => simp [intOf]; omega
      · have HF1 := Lib.hid (hYES.out (by simp [hgt]))
        go_wp2_with (at_builtin; refine wpList_append_own _ rfl _ _ 33 rfl w4.heap.size 9 i0 _ 1 16 Tryz.underlying33 hi0 hz0 hz1 hz2' rfl (by decide) _ _ _ rfl (World.ownsRow.alloc HO5.out _) ⟨w6.heap.size, 0, none⟩ 1 1 [.string RN] rfl rfl ?c1 ?c2 ?c3 ?c4 ?c5 ?_)
        case c1 =>
          intro j u hj
          match j, hj with
          | 0, hj => simp at hj; subst hj; simp [Addr.add]
        case c2 => intro u hu; simp at hu; subst hu; rfl
        case c3 => unfold maxLen; omega
        case c4 => omega
        case c5 => simp; omega
        intro v' w7 hown' hgrow _
        have HO7 : Hid (OwnT w7 w4.heap.size v' (F (D.take (k + 1)))) := Lib.hid (by rw [HF1.out]; exact OwnT.app HRN.out (by simpa using hown'))
        have HB7 : Hid (Below w4.heap.size w4 w7) := Lib.hid (OwnT.belowA HB5.out HO5.out hgrow (Nat.le_refl _) hs5)
        clear hown' hgrow
        go_wp2
        go_roundw
        case rel => exact ⟨k + 1, by omega, by go_num, HO7, HB7⟩
        case measure => simp [intOf]; omega
    · have hkn : k = n := by omega
      subst hkn
      have HFIN := Lib.hid (show OwnT wr w.heap.size _ RES from by have := HO.out.mono (base' := w.heap.size) (by have := HZ1.out; have := HB4.out.size; omega); rw [HFE.out] at this; exact this)
      have HFB := Lib.hid (HB1.out.trans ((B14.out wr HB.out).mono HB1.out.size))
      clear hlt
      go_wp2
      first | (go_ret; exact ⟨_, rfl, HFIN.out, HFB.out⟩) | exact ⟨_, rfl, HFIN.out, HFB.out⟩
end Go.Proofs.YtkcamfcjkjiijaaGreatDoor
