/-
  The reference's Lacks: what it returns; nothing old turns.
-/
import Derived.Test.YtpkdnohaefkfgaaGreatDoorGOdState
import Derived.Test.YtpkdnohaefkfgaaGreatDoorGOdKey
import Derived.Deep.RegionHeld3
namespace Go.Proofs.YtpkdnohaefkfgaaGreatDoor
open Go.RowKit
theorem any_snoc {α : Type} {l : List α} {k : Nat} {x : α} (h : l[k]? = some x) (f : α → Bool) : (l.take (k + 1)).any f = ((l.take k).any f || f x) := by
  rw [take_snocQ h, List.any_append]; simp
set_option maxRecDepth 100000 in
set_option maxHeartbeats 16000000 in
theorem lacks_ref (v u : Value) (l : List Gv) (hl : l.length ≤ 500) (hs : SmallG l) (t : List Rl) (ht : t.length ≤ 90000) (hst : SmallQ t) (w : World) (h : HoldGs w v l) (h2 : HoldQ w u t) :
    Calls Tryz.prog 13 #[v, u] w fun e w' => ∃ r, e = .returned r ∧ OwnI w' w.heap.size r (lackL t 0 (fsts l)) ∧ Below w.heap.size w w' := by
  obtain ⟨i0, hi, hz0, hz1, hz2'⟩ := info_parts infoIn
  have HG := Lib.hid h
  obtain ⟨a, c, b, o, rfl, hc, ha, hcell⟩ := h.parts
  obtain ⟨ua, uc, ub, uo, rfl, huc, hua, hucell⟩ := h2.parts
  have HC := Lib.hid hcell
  have HUC := Lib.hid hucell
  have HSG := Lib.hid hs
  have HST := Lib.hid hst
  obtain ⟨n, hN⟩ : ∃ n, l.length = n := ⟨_, rfl⟩
  rw [hN] at hc ha hl ⊢
  have HN := Lib.hid hN
  obtain ⟨tn, hT⟩ : ∃ tn, t.length = tn := ⟨_, rfl⟩
  rw [hT] at huc hua ht ⊢
  have HT := Lib.hid hT
  have hfl : (fsts l).length = n := by rw [List.length_map]; exact hN
  have HFL := Lib.hid hfl
  have hlk := lackL_len t (fsts l) 0
  have hlk2 : (lackL t 0 (fsts l)).length ≤ 500 := by omega
  have HLK := Lib.hid hlk2
  clear hcell hucell hN hT h h2 hs hst hfl hlk hlk2
  go_enter Tryz.func13, Tryz.ntmps13
  go_wp2
  go_loopw [5, 6] (fun u i wr => ∃ (k : Nat) (xs : List Nat), k ≤ n ∧ i = .int .i64 k ∧ Hid (xs ++ lackL t k ((fsts l).drop k) = lackL t 0 (fsts l)) ∧ xs.length ≤ k ∧ Hid (OwnI wr w.heap.size u xs) ∧ Hid (Below w.heap.size w wr)) (fun _ i _ => n - (intOf i).toNat)
  case atStart => exact ⟨0, [], by omega, rfl, Lib.hid rfl, by simp, Lib.hid (OwnV.nil _ _ _ _), Lib.hid (Below.refl _ _)⟩
  case round =>
    obtain ⟨k, xs, hk, rfl, HX, hxk, HO, HB⟩ := hrel
    obtain ⟨wo, rfl⟩ : ∃ wo : World, wo = wr := ⟨_, rfl⟩
    have hsz := HB.out.size
    by_cases hlt : k < n
    · obtain ⟨rfl, hbw⟩ := ha (by omega)
      obtain ⟨⟨g0, sv⟩, hx⟩ : ∃ x, l[k]? = some x := ⟨_, List.getElem?_eq_getElem (by rw [HN.out]; exact hlt)⟩
      have c0 := HC.out k _ hx
      dsimp only at c0
      rw [← HB.out.cell (p := ⟨b, o + k, none⟩) hbw] at c0
      obtain ⟨sa, sc, sb, so, hsv, hsc, hsa, hscell⟩ := (HG.out.2 _ (List.mem_of_getElem? hx)).parts
      have hsm := HSG.out _ (List.mem_of_getElem? hx)
      dsimp only at hsv hsm hsc hsa hscell
      subst hsv
      have HSC := Lib.hid hscell
      have HSM := Lib.hid hsm.1
      have hgn := hsm.2
      have hfx : (fsts l)[k]? = some g0 := by rw [List.getElem?_map, hx]; rfl
      have hdr := drop_atQ hfx
      obtain ⟨gn, hGN⟩ : ∃ gn, g0.length = gn := ⟨_, rfl⟩
      rw [hGN] at hsc hsa hgn c0
      have HGN := Lib.hid hGN
      have HC0 : Hid (∀ W, Below wo.heap.size wo W → W.cell? ⟨b, o + k, none⟩ = some (.slice sa gn sc)) := Lib.hid (fun W hW => (hW.cell (p := ⟨b, o + k, none⟩) (by show b < _; omega)).trans c0)
      have HYES : Hid ((g0.any fun y => metB y t) = true → xs ++ lackL t (k + 1) ((fsts l).drop (k + 1)) = lackL t 0 (fsts l)) := Lib.hid (fun hr => by rw [← HX.out, hdr, lackL, hr]; simp)
      have HNO : Hid ((g0.any fun y => metB y t) = false → (xs ++ [k]) ++ lackL t (k + 1) ((fsts l).drop (k + 1)) = lackL t 0 (fsts l)) := Lib.hid (fun hr => by rw [← HX.out, hdr, lackL, hr]; simp)
      clear hx hscell hsm hfx hdr hGN HX c0
      go_wp2
      go_loopw [7, 8] (fun m i wr => ∃ j : Nat, j ≤ gn ∧ i = .int .i64 j ∧ Hid (m = .bool ((g0.take j).any fun y => metB y t)) ∧ Hid (Below wo.heap.size wo wr)) (fun _ i _ => gn - (intOf i).toNat)
      case atStart => exact ⟨0, by omega, rfl, Lib.hid rfl, Lib.hid (Below.refl _ _)⟩
      case round =>
        obtain ⟨j, hj, rfl, HM, HBJ⟩ := hrel
        obtain ⟨wj, rfl⟩ : ∃ wj : World, wj = wr := ⟨_, rfl⟩
        have hszj := HBJ.out.size
        have c0 := HC0.out _ HBJ.out
        have HBW := Lib.hid (HB.out.trans (HBJ.out.mono hsz))
        obtain ⟨mb, hmb⟩ : ∃ mb, ((g0.take j).any fun y => metB y t) = mb := ⟨_, rfl⟩
        have hm := HM.out
        rw [hmb] at hm
        subst hm
        have HMB := Lib.hid hmb
        clear hmb HM
        by_cases hjt : j < gn
        · obtain ⟨rfl, hsb⟩ := hsa (by omega)
          obtain ⟨⟨p, q, z⟩, hy⟩ : ∃ y, g0[j]? = some y := ⟨_, List.getElem?_eq_getElem (by rw [HGN.out]; exact hjt)⟩
          have d := HSC.out j _ hy
          dsimp only at d
          obtain ⟨d0, d1, d2⟩ := d
          rw [← HBW.out.cell (p := ⟨sb, so + j * 3, none⟩) hsb] at d0
          rw [← HBW.out.cell (p := ⟨sb, so + j * 3 + 1, none⟩) hsb] at d1
          rw [← HBW.out.cell (p := ⟨sb, so + j * 3 + 2, none⟩) hsb] at d2
          have hys := HSM.out _ (List.mem_of_getElem? hy)
          dsimp only at hys
          have HNX := Lib.hid (any_snoc hy (fun y => metB y t))
          have FT := fun n v hv W => fits_ref (bsT p) (bsT q) (bsT z) n v (by rw [sizeOf, bytesOf]; omega) hv W
          rw [bytesOf, bytesOf, bytesOf] at FT
          generalize bsT p = X at *
          generalize bsT q = Y at *
          generalize bsT z = Z at *
          clear hy hys
          go_wp2
          go_loopw [7, 9] (fun m i wr => ∃ r : Nat, r ≤ tn ∧ i = .int .i64 r ∧ Hid (m = .bool (mb || (t.take r).any fun y => fitsB (p, q, z) y.1 y.2.2)) ∧ Hid (Below wj.heap.size wj wr)) (fun _ i _ => tn - (intOf i).toNat)
          case atStart => exact ⟨0, by omega, rfl, Lib.hid (by simp), Lib.hid (Below.refl _ _)⟩
          case round =>
            obtain ⟨r, hr, rfl, HM, HBR⟩ := hrel
            obtain ⟨wz, rfl⟩ : ∃ wz : World, wz = wr := ⟨_, rfl⟩
            have hszr := HBR.out.size
            obtain ⟨m2, hm2⟩ : ∃ m2, (mb || (t.take r).any fun y => fitsB (p, q, z) y.1 y.2.2) = m2 := ⟨_, rfl⟩
            have hm := HM.out
            rw [hm2] at hm
            subst hm
            by_cases hrt : r < tn
            · obtain ⟨rfl, hub⟩ := hua (by omega)
              obtain ⟨⟨p', q', z'⟩, hy'⟩ : ∃ y, t[r]? = some y := ⟨_, List.getElem?_eq_getElem (by rw [HT.out]; exact hrt)⟩
              have HBZ := Lib.hid (HBW.out.trans (HBR.out.mono (Nat.le_trans hsz hszj)))
              have f := HUC.out r _ hy'
              dsimp only at f
              obtain ⟨f0, -, f2⟩ := f
              rw [← HBZ.out.cell (p := ⟨ub, uo + r * 3, none⟩) hub] at f0
              rw [← HBZ.out.cell (p := ⟨ub, uo + r * 3 + 2, none⟩) hub] at f2
              have g0' := HC0.out _ (HBJ.out.trans (HBR.out.mono hszj))
              have e0 := (HBR.out.cell (p := ⟨sb, so + j * 3, none⟩) (by show sb < _; omega)).trans d0
              have e1 := (HBR.out.cell (p := ⟨sb, so + j * 3 + 1, none⟩) (by show sb < _; omega)).trans d1
              have e2 := (HBR.out.cell (p := ⟨sb, so + j * 3 + 2, none⟩) (by show sb < _; omega)).trans d2
              have hzs := (HST.out _ (List.mem_of_getElem? hy')).2.2
              dsimp only at hzs
              have FR := FT (bsT p') (bsT z') (by rw [sizeOf, bytesOf]; exact hzs)
              rw [bytesOf, bytesOf] at FR
              have HNR : Hid ((mb || (t.take (r + 1)).any fun y => fitsB (p, q, z) y.1 y.2.2) = (m2 || fitsB (p, q, z) p' z')) := Lib.hid (by rw [any_snoc hy', ← hm2, Bool.or_assoc])
              generalize bsT p' = X' at *
              generalize bsT z' = Z' at *
              generalize fitsB (p, q, z) p' z' = fb at *
              have hB := Below.refl wz.heap.size wz
              have hs := And.intro g0' (And.intro e0 (And.intro e1 (And.intro e2 (And.intro f0 (And.intro f2 hB)))))
              have j0 : (0 : Int) ≤ (k : Int) := by omega
              have j1 : (k : Int) < (n : Int) := by omega
              have j2 : (0 : Int) ≤ (j : Int) := by omega
              have j3 : (j : Int) < (gn : Int) := by omega
              have j4 : (0 : Int) ≤ (r : Int) := by omega
              have j5 : (r : Int) < (tn : Int) := by omega
              clear hm2 hy' hzs FT HM
              cases m2
              · go_wp2
                have BE := fun (V : World) (h : V.cell? ⟨b, o + k, none⟩ = some (.slice (some ⟨sb, so, none⟩) gn sc) ∧ V.cell? ⟨sb, so + j * 3, none⟩ = some (.string X) ∧ V.cell? ⟨sb, so + j * 3 + 1, none⟩ = some (.string Y) ∧ V.cell? ⟨sb, so + j * 3 + 2, none⟩ = some (.string Z) ∧ V.cell? ⟨ub, uo + r * 3, none⟩ = some (.string X') ∧ V.cell? ⟨ub, uo + r * 3 + 2, none⟩ = some (.string Z') ∧ Below wz.heap.size wz V) => AtF.be (w := wz) (l := [(⟨b, o + k, none⟩, .slice (some ⟨sb, so, none⟩) gn sc), (⟨sb, so + j * 3, none⟩, .string X), (⟨sb, so + j * 3 + 1, none⟩, .string Y), (⟨sb, so + j * 3 + 2, none⟩, .string Z), (⟨ub, uo + r * 3, none⟩, .string X'), (⟨ub, uo + r * 3 + 2, none⟩, .string Z')]) h
                refine wp_region_held_drew (S := (fun V => V.cell? ⟨b, o + k, none⟩ = some (.slice (some ⟨sb, so, none⟩) gn sc) ∧ V.cell? ⟨sb, so + j * 3, none⟩ = some (.string X) ∧ V.cell? ⟨sb, so + j * 3 + 1, none⟩ = some (.string Y) ∧ V.cell? ⟨sb, so + j * 3 + 2, none⟩ = some (.string Z) ∧ V.cell? ⟨ub, uo + r * 3, none⟩ = some (.string X') ∧ V.cell? ⟨ub, uo + r * 3 + 2, none⟩ = some (.string Z') ∧ Below wz.heap.size wz V)) (by kernel_rfl) ?_ (fun hHeld => ?_)
                · (try dsimp only); (first | assumption | exact hs | exact AtF.dr (w := wz) (l := [(⟨b, o + k, none⟩, .slice (some ⟨sb, so, none⟩) gn sc), (⟨sb, so + j * 3, none⟩, .string X), (⟨sb, so + j * 3 + 1, none⟩, .string Y), (⟨sb, so + j * 3 + 2, none⟩, .string Z), (⟨ub, uo + r * 3, none⟩, .string X'), (⟨ub, uo + r * 3 + 2, none⟩, .string Z')]) hs | exact AtF.dr (w := wz) (l := [(⟨b, o + k, none⟩, .slice (some ⟨sb, so, none⟩) gn sc), (⟨sb, so + j * 3, none⟩, .string X), (⟨sb, so + j * 3 + 1, none⟩, .string Y), (⟨sb, so + j * 3 + 2, none⟩, .string Z), (⟨ub, uo + r * 3, none⟩, .string X'), (⟨ub, uo + r * 3 + 2, none⟩, .string Z')]) (by assumption) | exact AtF.on (w := wz) (l := [(⟨b, o + k, none⟩, .slice (some ⟨sb, so, none⟩) gn sc), (⟨sb, so + j * 3, none⟩, .string X), (⟨sb, so + j * 3 + 1, none⟩, .string Y), (⟨sb, so + j * 3 + 2, none⟩, .string Z), (⟨ub, uo + r * 3, none⟩, .string X'), (⟨ub, uo + r * 3 + 2, none⟩, .string Z')]) (by assumption) (by assumption) | exact AtF.al (w := wz) (l := [(⟨b, o + k, none⟩, .slice (some ⟨sb, so, none⟩) gn sc), (⟨sb, so + j * 3, none⟩, .string X), (⟨sb, so + j * 3 + 1, none⟩, .string Y), (⟨sb, so + j * 3 + 2, none⟩, .string Z), (⟨ub, uo + r * 3, none⟩, .string X'), (⟨ub, uo + r * 3 + 2, none⟩, .string Z')]) (by assumption) _ | exact AtF.ald (w := wz) (l := [(⟨b, o + k, none⟩, .slice (some ⟨sb, so, none⟩) gn sc), (⟨sb, so + j * 3, none⟩, .string X), (⟨sb, so + j * 3 + 1, none⟩, .string Y), (⟨sb, so + j * 3 + 2, none⟩, .string Z), (⟨ub, uo + r * 3, none⟩, .string X'), (⟨ub, uo + r * 3 + 2, none⟩, .string Z')]) (by assumption) _ | exact AtF.al (w := wz) (l := [(⟨b, o + k, none⟩, .slice (some ⟨sb, so, none⟩) gn sc), (⟨sb, so + j * 3, none⟩, .string X), (⟨sb, so + j * 3 + 1, none⟩, .string Y), (⟨sb, so + j * 3 + 2, none⟩, .string Z), (⟨ub, uo + r * 3, none⟩, .string X'), (⟨ub, uo + r * 3 + 2, none⟩, .string Z')]) hs _ | exact AtF.ald (w := wz) (l := [(⟨b, o + k, none⟩, .slice (some ⟨sb, so, none⟩) gn sc), (⟨sb, so + j * 3, none⟩, .string X), (⟨sb, so + j * 3 + 1, none⟩, .string Y), (⟨sb, so + j * 3 + 2, none⟩, .string Z), (⟨ub, uo + r * 3, none⟩, .string X'), (⟨ub, uo + r * 3 + 2, none⟩, .string Z')]) hs _)
                refine heldY 0 31 ?_ _ rfl rfl (by kernel_rfl) (by kernel_rfl) (by kernel_rfl) (fun _ _ _ h => h) rfl (by assumption) ?_ ?_
                rotate_left
                · (intro w hSw; (try dsimp only at hSw); go_simp; (try with_reducible rfl))
                try simp only [List.setIfInBounds_toArray, List.set_cons_zero, List.set_cons_succ]
                refine heldY 1 32 ?_ _ rfl rfl (by kernel_rfl) (by kernel_rfl) (by kernel_rfl) (fun _ _ _ h => h) rfl (by assumption) ?_ ?_
                rotate_left
                · (intro w hSw; (try dsimp only at hSw); go_simp; (try with_reducible rfl))
                try simp only [List.setIfInBounds_toArray, List.set_cons_zero, List.set_cons_succ]
                refine heldY 2 33 ?_ _ rfl rfl (by kernel_rfl) (by kernel_rfl) (by kernel_rfl) (fun _ _ _ h => h) rfl (by assumption) ?_ ?_
                rotate_left
                · (intro w hSw; (try dsimp only at hSw); go_simp; (try with_reducible rfl))
                try simp only [List.setIfInBounds_toArray, List.set_cons_zero, List.set_cons_succ]
                refine heldY 3 34 ?_ _ rfl rfl (by kernel_rfl) (by kernel_rfl) (by kernel_rfl) (fun _ _ _ h => h) rfl (by assumption) ?_ ?_
                rotate_left
                · (intro w hSw; (try dsimp only at hSw); go_simp; (try with_reducible rfl))
                try simp only [List.setIfInBounds_toArray, List.set_cons_zero, List.set_cons_succ]
                refine heldY 4 35 ?_ _ rfl rfl (by kernel_rfl) (by kernel_rfl) (by kernel_rfl) (fun _ _ _ h => h) rfl (by assumption) ?_ ?_
                rotate_left
                · (intro w hSw; (try dsimp only at hSw); go_simp; (try with_reducible rfl))
                try simp only [List.setIfInBounds_toArray, List.set_cons_zero, List.set_cons_succ]
                refine heldY 5 36 ?_ _ rfl rfl (by kernel_rfl) (by kernel_rfl) (by kernel_rfl) (fun _ _ _ h => h) rfl (by assumption) ?_ ?_
                rotate_left
                · (intro w hSw; (try dsimp only at hSw); go_simp; (try with_reducible rfl))
                try simp only [List.setIfInBounds_toArray, List.set_cons_zero, List.set_cons_succ]
                refine heldY 6 37 ?_ _ rfl rfl (by kernel_rfl) (by kernel_rfl) (by kernel_rfl) (fun _ _ _ h => h) rfl (by assumption) ?_ ?_
                rotate_left
                · (intro w hSw; (try dsimp only at hSw); go_simp; (try with_reducible rfl))
                try simp only [List.setIfInBounds_toArray, List.set_cons_zero, List.set_cons_succ]
                refine heldY 7 38 ?_ _ rfl rfl (by kernel_rfl) (by kernel_rfl) (by kernel_rfl) (fun _ _ _ h => h) rfl (by assumption) ?_ ?_
                rotate_left
                · (intro w hSw; (try dsimp only at hSw); go_simp; (try with_reducible rfl))
                try simp only [List.setIfInBounds_toArray, List.set_cons_zero, List.set_cons_succ]
                refine heldY 8 39 ?_ _ rfl rfl (by kernel_rfl) (by kernel_rfl) (by kernel_rfl) (fun _ _ _ h => h) rfl (by assumption) ?_ ?_
                rotate_left
                · (intro w hSw; (try dsimp only at hSw); go_simp; (try with_reducible rfl))
                try simp only [List.setIfInBounds_toArray, List.set_cons_zero, List.set_cons_succ]
                refine heldY 9 40 ?_ _ rfl rfl (by kernel_rfl) (by kernel_rfl) (by kernel_rfl) (fun _ _ _ h => h) rfl (by assumption) ?_ ?_
                rotate_left
                · (intro w hSw; (try dsimp only at hSw); go_simp; (try with_reducible rfl))
                try simp only [List.setIfInBounds_toArray, List.set_cons_zero, List.set_cons_succ]
                refine heldY 10 41 ?_ _ rfl rfl (by kernel_rfl) (by kernel_rfl) (by kernel_rfl) (fun _ _ _ h => h) rfl (by assumption) ?_ ?_
                rotate_left
                · (intro w hSw; (try dsimp only at hSw); go_simp; (try with_reducible rfl))
                try simp only [List.setIfInBounds_toArray, List.set_cons_zero, List.set_cons_succ]
                refine heldY 11 42 ?_ _ rfl rfl (by kernel_rfl) (by kernel_rfl) (by kernel_rfl) (fun _ _ _ h => h) rfl (by assumption) ?_ ?_
                rotate_left
                · (intro w hSw; (try dsimp only at hSw); go_simp; (try with_reducible rfl))
                try simp only [List.setIfInBounds_toArray, List.set_cons_zero, List.set_cons_succ]
                refine heldY 12 43 ?_ _ rfl rfl (by kernel_rfl) (by kernel_rfl) (by kernel_rfl) (fun _ _ _ h => h) rfl (by assumption) ?_ ?_
                rotate_left
                · (intro w hSw; (try dsimp only at hSw); go_simp; (try with_reducible rfl))
                try simp only [List.setIfInBounds_toArray, List.set_cons_zero, List.set_cons_succ]
                refine heldY 13 44 ?_ _ rfl rfl (by kernel_rfl) (by kernel_rfl) (by kernel_rfl) (fun _ _ _ h => h) rfl (by assumption) ?_ ?_
                rotate_left
                · (intro w hSw; (try dsimp only at hSw); go_simp; (try with_reducible rfl))
                try simp only [List.setIfInBounds_toArray, List.set_cons_zero, List.set_cons_succ]
                refine heldY 14 45 ?_ _ rfl rfl (by kernel_rfl) (by kernel_rfl) (by kernel_rfl) (fun _ _ _ h => h) rfl (by assumption) ?_ ?_
                rotate_left
                · (intro w hSw; (try dsimp only at hSw); go_simp; (try with_reducible rfl))
                try simp only [List.setIfInBounds_toArray, List.set_cons_zero, List.set_cons_succ]
                refine heldY 15 46 ?_ _ rfl rfl (by kernel_rfl) (by kernel_rfl) (by kernel_rfl) (fun _ _ _ h => h) rfl (by assumption) ?_ ?_
                rotate_left
                · (intro w hSw; (try dsimp only at hSw); go_simp; (try with_reducible rfl))
                try simp only [List.setIfInBounds_toArray, List.set_cons_zero, List.set_cons_succ]
                refine heldY 16 47 ?_ _ rfl rfl (by kernel_rfl) (by kernel_rfl) (by kernel_rfl) (fun _ _ _ h => h) rfl (by assumption) ?_ ?_
                rotate_left
                · (intro w hSw; (try dsimp only at hSw); go_simp; (try with_reducible rfl))
                try simp only [List.setIfInBounds_toArray, List.set_cons_zero, List.set_cons_succ]
                refine heldY 17 48 ?_ _ rfl rfl (by kernel_rfl) (by kernel_rfl) (by kernel_rfl) (fun _ _ _ h => h) rfl (by assumption) ?_ ?_
                rotate_left
                · (intro w hSw; (try dsimp only at hSw); go_simp; (try with_reducible rfl))
                try simp only [List.setIfInBounds_toArray, List.set_cons_zero, List.set_cons_succ]
                refine heldY 18 49 ?_ _ rfl rfl (by kernel_rfl) (by kernel_rfl) (by kernel_rfl) (fun _ _ _ h => h) rfl (by assumption) ?_ ?_
                rotate_left
                · (intro w hSw; (try dsimp only at hSw); go_simp; (try with_reducible rfl))
                try simp only [List.setIfInBounds_toArray, List.set_cons_zero, List.set_cons_succ]
                refine wpAnyH_ready (rs := [19]) (by kernel_rfl) (by simp) ?_
                refine AllReadyH.cons rfl (fun K hK => ?_) AllReadyH.nil
                go_simp
                go_at_call 20; (with_reducible refine (FR _).mono ?_); rintro e w3 ⟨rfl, hb⟩
                refine hK.out _ _ ?_ (fun hHeld => ?_)
                · (try dsimp only); (first | assumption | exact hs | exact AtF.dr (w := wz) (l := [(⟨b, o + k, none⟩, .slice (some ⟨sb, so, none⟩) gn sc), (⟨sb, so + j * 3, none⟩, .string X), (⟨sb, so + j * 3 + 1, none⟩, .string Y), (⟨sb, so + j * 3 + 2, none⟩, .string Z), (⟨ub, uo + r * 3, none⟩, .string X'), (⟨ub, uo + r * 3 + 2, none⟩, .string Z')]) hs | exact AtF.dr (w := wz) (l := [(⟨b, o + k, none⟩, .slice (some ⟨sb, so, none⟩) gn sc), (⟨sb, so + j * 3, none⟩, .string X), (⟨sb, so + j * 3 + 1, none⟩, .string Y), (⟨sb, so + j * 3 + 2, none⟩, .string Z), (⟨ub, uo + r * 3, none⟩, .string X'), (⟨ub, uo + r * 3 + 2, none⟩, .string Z')]) (by assumption) | exact AtF.on (w := wz) (l := [(⟨b, o + k, none⟩, .slice (some ⟨sb, so, none⟩) gn sc), (⟨sb, so + j * 3, none⟩, .string X), (⟨sb, so + j * 3 + 1, none⟩, .string Y), (⟨sb, so + j * 3 + 2, none⟩, .string Z), (⟨ub, uo + r * 3, none⟩, .string X'), (⟨ub, uo + r * 3 + 2, none⟩, .string Z')]) (by assumption) (by assumption) | exact AtF.al (w := wz) (l := [(⟨b, o + k, none⟩, .slice (some ⟨sb, so, none⟩) gn sc), (⟨sb, so + j * 3, none⟩, .string X), (⟨sb, so + j * 3 + 1, none⟩, .string Y), (⟨sb, so + j * 3 + 2, none⟩, .string Z), (⟨ub, uo + r * 3, none⟩, .string X'), (⟨ub, uo + r * 3 + 2, none⟩, .string Z')]) (by assumption) _ | exact AtF.ald (w := wz) (l := [(⟨b, o + k, none⟩, .slice (some ⟨sb, so, none⟩) gn sc), (⟨sb, so + j * 3, none⟩, .string X), (⟨sb, so + j * 3 + 1, none⟩, .string Y), (⟨sb, so + j * 3 + 2, none⟩, .string Z), (⟨ub, uo + r * 3, none⟩, .string X'), (⟨ub, uo + r * 3 + 2, none⟩, .string Z')]) (by assumption) _ | exact AtF.al (w := wz) (l := [(⟨b, o + k, none⟩, .slice (some ⟨sb, so, none⟩) gn sc), (⟨sb, so + j * 3, none⟩, .string X), (⟨sb, so + j * 3 + 1, none⟩, .string Y), (⟨sb, so + j * 3 + 2, none⟩, .string Z), (⟨ub, uo + r * 3, none⟩, .string X'), (⟨ub, uo + r * 3 + 2, none⟩, .string Z')]) hs _ | exact AtF.ald (w := wz) (l := [(⟨b, o + k, none⟩, .slice (some ⟨sb, so, none⟩) gn sc), (⟨sb, so + j * 3, none⟩, .string X), (⟨sb, so + j * 3 + 1, none⟩, .string Y), (⟨sb, so + j * 3 + 2, none⟩, .string Z), (⟨ub, uo + r * 3, none⟩, .string X'), (⟨ub, uo + r * 3 + 2, none⟩, .string Z')]) hs _)
                clear hK K
                try simp only [Act.put, List.setIfInBounds_toArray, List.set_cons_zero, List.set_cons_succ]
                refine heldY 20 51 ?_ _ rfl rfl (by kernel_rfl) (by kernel_rfl) (by kernel_rfl) (fun _ _ _ h => h) rfl (by assumption) ?_ ?_
                rotate_left
                · (intro w hSw; (try dsimp only at hSw); go_simp; (try with_reducible rfl))
                try simp only [List.setIfInBounds_toArray, List.set_cons_zero, List.set_cons_succ]
                refine heldY 21 7 ?_ _ rfl rfl (by kernel_rfl) (by kernel_rfl) (by kernel_rfl) (fun _ _ _ h => h) rfl (by assumption) ?_ ?_
                rotate_left
                · (intro w hSw; (try dsimp only at hSw); go_simp; (try with_reducible rfl))
                try simp only [List.setIfInBounds_toArray, List.set_cons_zero, List.set_cons_succ]
                refine wpAnyH_done (by kernel_rfl) ?_ _
                have HW3 := Lib.hid (BE _ hHeld)
                clear hHeld
                go_wp2
                go_roundw
                case rel => exact ⟨r + 1, by omega, by go_num, Lib.hid (by rw [HNR.out]; simp), Lib.hid (HBR.out.trans (HW3.out.mono hszr))⟩
                case measure => simp [intOf]; omega
              · go_wp2
                have BE := fun (V : World) (h : Below wz.heap.size wz V) => AtF.be (w := wz) (l := []) h
                refine wp_region_held_drew (S := (fun V => Below wz.heap.size wz V)) (by kernel_rfl) ?_ (fun hHeld => ?_)
                · (try dsimp only); (first | assumption | exact hs | exact AtF.dr (w := wz) (l := []) hs | exact AtF.dr (w := wz) (l := []) (by assumption) | exact AtF.on (w := wz) (l := []) (by assumption) (by assumption) | exact AtF.al (w := wz) (l := []) (by assumption) _ | exact AtF.ald (w := wz) (l := []) (by assumption) _ | exact AtF.al (w := wz) (l := []) hs _ | exact AtF.ald (w := wz) (l := []) hs _)
                refine heldY 0 31 ?_ _ rfl rfl (by kernel_rfl) (by kernel_rfl) (by kernel_rfl) (fun _ _ _ h => h) rfl (by assumption) ?_ ?_
                rotate_left
                · (intro w hSw; (try dsimp only at hSw); go_simp; (try with_reducible rfl))
                try simp only [List.setIfInBounds_toArray, List.set_cons_zero, List.set_cons_succ]
                refine heldY 1 32 ?_ _ rfl rfl (by kernel_rfl) (by kernel_rfl) (by kernel_rfl) (fun _ _ _ h => h) rfl (by assumption) ?_ ?_
                rotate_left
                · (intro w hSw; (try dsimp only at hSw); go_simp; (try with_reducible rfl))
                try simp only [List.setIfInBounds_toArray, List.set_cons_zero, List.set_cons_succ]
                refine heldNo 2 33 rfl (by kernel_rfl) (by kernel_rfl) (by kernel_rfl) (fun _ _ _ h => h) rfl (by assumption) ?_
                try simp only [List.setIfInBounds_toArray, List.set_cons_zero, List.set_cons_succ]
                refine heldNo 3 34 rfl (by kernel_rfl) (by kernel_rfl) (by kernel_rfl) (fun _ _ _ h => h) rfl (by assumption) ?_
                try simp only [List.setIfInBounds_toArray, List.set_cons_zero, List.set_cons_succ]
                refine heldNo 4 35 rfl (by kernel_rfl) (by kernel_rfl) (by kernel_rfl) (fun _ _ _ h => h) rfl (by assumption) ?_
                try simp only [List.setIfInBounds_toArray, List.set_cons_zero, List.set_cons_succ]
                refine heldNo 5 36 rfl (by kernel_rfl) (by kernel_rfl) (by kernel_rfl) (fun _ _ _ h => h) rfl (by assumption) ?_
                try simp only [List.setIfInBounds_toArray, List.set_cons_zero, List.set_cons_succ]
                refine heldNo 6 37 rfl (by kernel_rfl) (by kernel_rfl) (by kernel_rfl) (fun _ _ _ h => h) rfl (by assumption) ?_
                try simp only [List.setIfInBounds_toArray, List.set_cons_zero, List.set_cons_succ]
                refine heldNo 7 38 rfl (by kernel_rfl) (by kernel_rfl) (by kernel_rfl) (fun _ _ _ h => h) rfl (by assumption) ?_
                try simp only [List.setIfInBounds_toArray, List.set_cons_zero, List.set_cons_succ]
                refine heldNo 8 39 rfl (by kernel_rfl) (by kernel_rfl) (by kernel_rfl) (fun _ _ _ h => h) rfl (by assumption) ?_
                try simp only [List.setIfInBounds_toArray, List.set_cons_zero, List.set_cons_succ]
                refine heldNo 9 40 rfl (by kernel_rfl) (by kernel_rfl) (by kernel_rfl) (fun _ _ _ h => h) rfl (by assumption) ?_
                try simp only [List.setIfInBounds_toArray, List.set_cons_zero, List.set_cons_succ]
                refine heldNo 10 41 rfl (by kernel_rfl) (by kernel_rfl) (by kernel_rfl) (fun _ _ _ h => h) rfl (by assumption) ?_
                try simp only [List.setIfInBounds_toArray, List.set_cons_zero, List.set_cons_succ]
                refine heldNo 11 42 rfl (by kernel_rfl) (by kernel_rfl) (by kernel_rfl) (fun _ _ _ h => h) rfl (by assumption) ?_
                try simp only [List.setIfInBounds_toArray, List.set_cons_zero, List.set_cons_succ]
                refine heldNo 12 43 rfl (by kernel_rfl) (by kernel_rfl) (by kernel_rfl) (fun _ _ _ h => h) rfl (by assumption) ?_
                try simp only [List.setIfInBounds_toArray, List.set_cons_zero, List.set_cons_succ]
                refine heldNo 13 44 rfl (by kernel_rfl) (by kernel_rfl) (by kernel_rfl) (fun _ _ _ h => h) rfl (by assumption) ?_
                try simp only [List.setIfInBounds_toArray, List.set_cons_zero, List.set_cons_succ]
                refine heldNo 14 45 rfl (by kernel_rfl) (by kernel_rfl) (by kernel_rfl) (fun _ _ _ h => h) rfl (by assumption) ?_
                try simp only [List.setIfInBounds_toArray, List.set_cons_zero, List.set_cons_succ]
                refine heldNo 15 46 rfl (by kernel_rfl) (by kernel_rfl) (by kernel_rfl) (fun _ _ _ h => h) rfl (by assumption) ?_
                try simp only [List.setIfInBounds_toArray, List.set_cons_zero, List.set_cons_succ]
                refine heldNo 16 47 rfl (by kernel_rfl) (by kernel_rfl) (by kernel_rfl) (fun _ _ _ h => h) rfl (by assumption) ?_
                try simp only [List.setIfInBounds_toArray, List.set_cons_zero, List.set_cons_succ]
                refine heldNo 17 48 rfl (by kernel_rfl) (by kernel_rfl) (by kernel_rfl) (fun _ _ _ h => h) rfl (by assumption) ?_
                try simp only [List.setIfInBounds_toArray, List.set_cons_zero, List.set_cons_succ]
                refine heldNo 18 49 rfl (by kernel_rfl) (by kernel_rfl) (by kernel_rfl) (fun _ _ _ h => h) rfl (by assumption) ?_
                try simp only [List.setIfInBounds_toArray, List.set_cons_zero, List.set_cons_succ]
                refine heldNo 19 50 rfl (by kernel_rfl) (by kernel_rfl) (by kernel_rfl) (fun _ _ _ h => h) rfl (by assumption) ?_
                try simp only [List.setIfInBounds_toArray, List.set_cons_zero, List.set_cons_succ]
                refine heldY 20 51 ?_ _ rfl rfl (by kernel_rfl) (by kernel_rfl) (by kernel_rfl) (fun _ _ _ h => h) rfl (by assumption) ?_ ?_
                rotate_left
                · (intro w hSw; (try dsimp only at hSw); go_simp; (try with_reducible rfl))
                try simp only [List.setIfInBounds_toArray, List.set_cons_zero, List.set_cons_succ]
                refine heldY 21 7 ?_ _ rfl rfl (by kernel_rfl) (by kernel_rfl) (by kernel_rfl) (fun _ _ _ h => h) rfl (by assumption) ?_ ?_
                rotate_left
                · (intro w hSw; (try dsimp only at hSw); go_simp; (try with_reducible rfl))
                try simp only [List.setIfInBounds_toArray, List.set_cons_zero, List.set_cons_succ]
                refine wpAnyH_done (by kernel_rfl) ?_ _
                have HW3 := Lib.hid (show Below wz.heap.size wz _ from hHeld)
                clear hHeld
                go_wp2
                go_roundw
                case rel => exact ⟨r + 1, by omega, by go_num, Lib.hid (by rw [HNR.out]; simp), Lib.hid (HBR.out.trans (HW3.out.mono hszr))⟩
                case measure => simp [intOf]; omega
            · obtain rfl : r = tn := by omega
              have HMX : Hid (((g0.take (j + 1)).any fun y => metB y t) = m2) := Lib.hid (by
                rw [HNX.out, HMB.out, ← hm2, List.take_of_length_le (by rw [HT.out]; omega)]; rfl)
              clear hrt hm2 HM
              go_wp2
              go_roundw
              case rel => exact ⟨j + 1, by omega, by go_num, Lib.hid (by rw [HMX.out]), Lib.hid (HBJ.out.trans (HBR.out.mono hszj))⟩
              case measure => simp [intOf]; omega
        · obtain rfl : j = gn := by omega
          have hmb := HMB.out
          rw [List.take_of_length_le (by rw [HGN.out]; omega)] at hmb
          have HO2 := Lib.hid (OwnV.on HO.out HBJ.out)
          have hzw := HBW.out.size
          cases mb
          · have HX2 := Lib.hid (HNO.out hmb)
            clear hmb HMB HYES HNO hjt
            go_wp2_with (first
              | (at_builtin; refine wpList_append_own _ rfl _ _ 38 rfl w.heap.size 3 i0 _ 1 8 Tryz.underlying38 hi hz0 hz1 hz2' rfl (by decide) _ _ _ rfl (World.ownsRow.alloc HO2.out.2 _) ⟨wj.heap.size, 0, none⟩ 1 1 [.int .i64 k] rfl rfl ?c1 ?c2 ?c3 ?c4 ?c5 ?_))
            case c1 =>
              intro j u hj
              match j, hj with
              | 0, hj => simp at hj; subst hj; simp [Addr.add]
            case c2 => intro u hu; simp at hu; subst hu; rfl
            case c3 => rw [List.length_map]; unfold maxLen; omega
            case c4 => rw [List.length_map]; omega
            case c5 => simp; omega
            intro v' w3 hown' hgrow _
            have HO3 : Hid (OwnI w3 w.heap.size v' (xs ++ [k])) := Lib.hid (by
              unfold OwnI
              rw [List.map_append]
              exact OwnV.app HO2.out.1 rfl (by simpa using hown'))
            have HB3 : Hid (Below w.heap.size w w3) := Lib.hid (OwnV.below HBW.out HO2.out hgrow (Nat.le_refl _) hzw)
            clear hown' hgrow
            go_wp2
            go_roundw
            case rel => exact ⟨k + 1, _, by omega, by go_num, HX2, by rw [List.length_append]; show xs.length + 1 ≤ _; omega, HO3, HB3⟩
            case measure => simp [intOf]; omega
          · have HX2 := Lib.hid (HYES.out hmb)
            clear hmb HMB HYES HNO hjt
            go_wp2
            go_roundw
            case rel => exact ⟨k + 1, _, by omega, by go_num, HX2, by omega, HO2, HBW⟩
            case measure => simp [intOf]; omega
    · obtain rfl : k = n := by omega
      have HE : Hid (xs = lackL t 0 (fsts l)) := Lib.hid (by rw [← HX.out, List.drop_of_length_le (by rw [HFL.out]; omega), lackL, List.append_nil])
      clear hlt HX
      go_wp2
      go_ret
      exact ⟨_, rfl, by rw [← HE.out]; exact HO.out, HB.out⟩
end Go.Proofs.YtpkdnohaefkfgaaGreatDoor
