/-
  The reference's put: an interest at its place; nothing old turns. The reference's Set: what it returns; nothing old turns.
-/
import Derived.Test.YtceohgjfjndcmaaGreatDoorGOfFor
import Derived.Test.YtceohgjfjndcmaaGreatDoorGRefChk
namespace Go.Proofs.YtceohgjfjndcmaaGreatDoor
open Go.RowKit
theorem less_ahead (x y : It) : lessB x y = ahead x y := rfl
set_option maxRecDepth 100000 in
set_option maxHeartbeats 8000000 in
theorem put_ref (v : Value) (l : List It) (hl : l.length ≤ 40000) (x : It) (w : World) (h : HoldI w v l) :
    Calls Tryz.prog 56 #[v, aggI x] w fun e w' => ∃ v', e = .returned v' ∧ OwnI w' w.heap.size v' (putI l x) ∧ Below w.heap.size w w' := by
  obtain ⟨t, q, z⟩ := x
  obtain ⟨Z, hZ⟩ : ∃ Z, putI l (t, q, z) = Z := ⟨_, rfl⟩
  have HFIN := Lib.hid (stepP_put (t, q, z) l [])
  rw [hZ, List.nil_append] at HFIN
  rw [hZ]
  unfold aggI
  dsimp only
  have LS := fun y W => less_ref (t, q, z) y W
  simp only [less_ahead] at LS
  unfold aggI at LS
  dsimp only at LS
  have HX : Hid ((bsT t).data.toList = t) := Lib.hid (by rw [bytesOf])
  have HY : Hid ((bsT q).data.toList = q) := Lib.hid (by rw [bytesOf])
  generalize hX : bsT t = X at *
  generalize hY : bsT q = Y at *
  obtain ⟨W0, hW0⟩ : ∃ W0, w.alloc (.cells #[.string X, .string Y, .bool z] 53) = W0 := ⟨_, rfl⟩
  have B0 : Below w.heap.size w W0 := by rw [← hW0]; exact (Below.refl w.heap.size w).alloc (Nat.le_refl _) _
  have hB1 : w.heap.size < W0.heap.size := by rw [← hW0]; simp
  have hK0 : Box3 W0 w.heap.size (.string X) (.string Y) (.bool z) := by rw [← hW0]; exact Box3.new w _ _ _ _
  have HU := HoldV.on h B0
  obtain ⟨a, c, b, o, rfl, hc, ha, hcell⟩ := HoldI.parts HU
  have HC := Lib.hid hcell
  have HB0 := Lib.hid B0
  have HK0 := Lib.hid hK0
  have HW0 := Lib.hid hW0
  obtain ⟨i0, hi, hz0, hz1, hz2'⟩ := info_parts infoI
  obtain ⟨n, hN⟩ : ∃ n, l.length = n := ⟨_, rfl⟩
  rw [hN] at hc ha hl ⊢
  have HN := Lib.hid hN
  clear hcell hN h HU B0 hK0 hW0 hX hY hZ
  go_enter Tryz.func56, Tryz.ntmps56
  go_wp2
  go_loopw [5, 6, 7] (fun s d i wr => ∃ (k : Nat) (cur : List It) (db : Bool), k ≤ n ∧ d = .bool db ∧ i = .int .i64 k ∧ Hid ((l.take k).foldl (stepP (t, q, z)) ([], false) = (cur, db)) ∧ Hid (OwnI wr W0.heap.size s cur) ∧ Hid (cur.length ≤ 2 * k) ∧ Hid (Below W0.heap.size W0 wr)) (fun _ _ i _ => n - (intOf i).toNat)
  case atStart => exact ⟨0, [], false, by omega, rfl, rfl, Lib.hid rfl, Lib.hid (OwnV.nil _ _ _ _), Lib.hid (Nat.zero_le _), Lib.hid (by rw [HW0.out]; exact Below.refl _ _)⟩
  case round =>
    obtain ⟨k, cur, db, hk, rfl, rfl, HS, HO, HLC, HB⟩ := hrel
    have hsz := HB.out.size
    by_cases hlt : k < n
    · obtain ⟨rfl, hbw⟩ := ha (by omega)
      obtain ⟨⟨t2, q2, z2⟩, hx⟩ : ∃ x, l[k]? = some x := ⟨_, List.getElem?_eq_getElem (by rw [HN.out]; exact hlt)⟩
      obtain ⟨c0, c1, c2⟩ := HC.out k (t2, q2, z2) hx
      dsimp only at c0 c1 c2
      rw [← HB.out.cell (p := ⟨b, o + k * 3, none⟩) hbw] at c0
      rw [← HB.out.cell (p := ⟨b, o + k * 3 + 1, none⟩) hbw] at c1
      rw [← HB.out.cell (p := ⟨b, o + k * 3 + 2, none⟩) hbw] at c2
      have HFS := Lib.hid (foldl_snoc (stepP (t, q, z)) ([], false) hx)
      rw [HS.out] at HFS
      obtain ⟨b0, b1, b2⟩ := HK0.out
      rw [← HB.out.cell (p := ⟨w.heap.size, 0, none⟩) hB1] at b0
      rw [← HB.out.cell (p := ⟨w.heap.size, 1, none⟩) hB1] at b1
      rw [← HB.out.cell (p := ⟨w.heap.size, 2, none⟩) hB1] at b2
      have HX2 : Hid ((bsT t2).data.toList = t2) := Lib.hid (by rw [bytesOf])
      have HY2 : Hid ((bsT q2).data.toList = q2) := Lib.hid (by rw [bytesOf])
      have LS2 := fun W => LS (t2, q2, z2) W
      dsimp only at LS2
      have hcl := HLC.out
      have hl0 := World.block_lt_of_cell? _ _ b0
      have hl1 := World.block_lt_of_cell? _ _ c0
      have HXK := Lib.hid hx
      clear LS hx
      generalize hX2 : bsT t2 = X2 at *
      generalize hY2 : bsT q2 = Y2 at *
      have HBX2 := Lib.hid hX2
      have HBY2 := Lib.hid hY2
      clear hX2 hY2
      have j0 : (0 : Int) ≤ (k : Int) := by omega
      have j1 : (k : Int) < (n : Int) := by omega
      have hs := And.intro b0 (And.intro b1 (And.intro b2 (And.intro c0 (And.intro c1 (And.intro c2 (Below.refl wr.heap.size wr))))))
      cases db
      · cases hq : ahead (t, q, z) (t2, q2, z2)
        · rw [hq] at LS2
          have HK : Hid ((l.take (k + 1)).foldl (stepP (t, q, z)) ([], false) = (cur ++ [(t2, q2, z2)], false)) := Lib.hid (by rw [HFS.out, stepP]; simp [hq])
          clear hq HFS
          go_wp2
          have BE := fun (V : World) (h : V.cell? ⟨w.heap.size, 0, none⟩ = some (.string X) ∧ V.cell? ⟨w.heap.size, 1, none⟩ = some (.string Y) ∧ V.cell? ⟨w.heap.size, 2, none⟩ = some (.bool z) ∧ V.cell? ⟨b, o + k * 3, none⟩ = some (.string X2) ∧ V.cell? ⟨b, o + k * 3 + 1, none⟩ = some (.string Y2) ∧ V.cell? ⟨b, o + k * 3 + 2, none⟩ = some (.bool z2) ∧ Below wr.heap.size wr V) => AtF.be (w := wr) (l := [(⟨w.heap.size, 0, none⟩, .string X), (⟨w.heap.size, 1, none⟩, .string Y), (⟨w.heap.size, 2, none⟩, .bool z), (⟨b, o + k * 3, none⟩, .string X2), (⟨b, o + k * 3 + 1, none⟩, .string Y2), (⟨b, o + k * 3 + 2, none⟩, .bool z2)]) h
          refine wp_region_held_drew (S := (fun V => V.cell? ⟨w.heap.size, 0, none⟩ = some (.string X) ∧ V.cell? ⟨w.heap.size, 1, none⟩ = some (.string Y) ∧ V.cell? ⟨w.heap.size, 2, none⟩ = some (.bool z) ∧ V.cell? ⟨b, o + k * 3, none⟩ = some (.string X2) ∧ V.cell? ⟨b, o + k * 3 + 1, none⟩ = some (.string Y2) ∧ V.cell? ⟨b, o + k * 3 + 2, none⟩ = some (.bool z2) ∧ Below wr.heap.size wr V)) (by kernel_rfl) ?_ (fun hHeld => ?_)
          · (try dsimp only); (first | assumption | exact hs | exact AtF.dr (w := wr) (l := [(⟨w.heap.size, 0, none⟩, .string X), (⟨w.heap.size, 1, none⟩, .string Y), (⟨w.heap.size, 2, none⟩, .bool z), (⟨b, o + k * 3, none⟩, .string X2), (⟨b, o + k * 3 + 1, none⟩, .string Y2), (⟨b, o + k * 3 + 2, none⟩, .bool z2)]) hs | exact AtF.dr (w := wr) (l := [(⟨w.heap.size, 0, none⟩, .string X), (⟨w.heap.size, 1, none⟩, .string Y), (⟨w.heap.size, 2, none⟩, .bool z), (⟨b, o + k * 3, none⟩, .string X2), (⟨b, o + k * 3 + 1, none⟩, .string Y2), (⟨b, o + k * 3 + 2, none⟩, .bool z2)]) (by assumption) | exact AtF.on (w := wr) (l := [(⟨w.heap.size, 0, none⟩, .string X), (⟨w.heap.size, 1, none⟩, .string Y), (⟨w.heap.size, 2, none⟩, .bool z), (⟨b, o + k * 3, none⟩, .string X2), (⟨b, o + k * 3 + 1, none⟩, .string Y2), (⟨b, o + k * 3 + 2, none⟩, .bool z2)]) (by assumption) (by assumption) | exact AtF.al (w := wr) (l := [(⟨w.heap.size, 0, none⟩, .string X), (⟨w.heap.size, 1, none⟩, .string Y), (⟨w.heap.size, 2, none⟩, .bool z), (⟨b, o + k * 3, none⟩, .string X2), (⟨b, o + k * 3 + 1, none⟩, .string Y2), (⟨b, o + k * 3 + 2, none⟩, .bool z2)]) (by assumption) _ | exact AtF.ald (w := wr) (l := [(⟨w.heap.size, 0, none⟩, .string X), (⟨w.heap.size, 1, none⟩, .string Y), (⟨w.heap.size, 2, none⟩, .bool z), (⟨b, o + k * 3, none⟩, .string X2), (⟨b, o + k * 3 + 1, none⟩, .string Y2), (⟨b, o + k * 3 + 2, none⟩, .bool z2)]) (by assumption) _ | exact AtF.al (w := wr) (l := [(⟨w.heap.size, 0, none⟩, .string X), (⟨w.heap.size, 1, none⟩, .string Y), (⟨w.heap.size, 2, none⟩, .bool z), (⟨b, o + k * 3, none⟩, .string X2), (⟨b, o + k * 3 + 1, none⟩, .string Y2), (⟨b, o + k * 3 + 2, none⟩, .bool z2)]) hs _ | exact AtF.ald (w := wr) (l := [(⟨w.heap.size, 0, none⟩, .string X), (⟨w.heap.size, 1, none⟩, .string Y), (⟨w.heap.size, 2, none⟩, .bool z), (⟨b, o + k * 3, none⟩, .string X2), (⟨b, o + k * 3 + 1, none⟩, .string Y2), (⟨b, o + k * 3 + 2, none⟩, .bool z2)]) hs _)
          refine heldY 0 14 ?_ _ rfl rfl (by kernel_rfl) (by kernel_rfl) (by kernel_rfl) (fun _ _ _ h => h) rfl (by assumption) ?_ ?_
          rotate_left
          · (intro w hSw; (try dsimp only at hSw); go_simp; (try with_reducible rfl))
          simp only [List.setIfInBounds_toArray, List.set_cons_zero, List.set_cons_succ]
          refine heldY 1 15 ?_ _ rfl rfl (by kernel_rfl) (by kernel_rfl) (by kernel_rfl) (fun _ _ _ h => h) rfl (by assumption) ?_ ?_
          rotate_left
          · (intro w hSw; (try dsimp only at hSw); go_simp; (try with_reducible rfl))
          simp only [List.setIfInBounds_toArray, List.set_cons_zero, List.set_cons_succ]
          refine heldY 2 16 ?_ _ rfl rfl (by kernel_rfl) (by kernel_rfl) (by kernel_rfl) (fun _ _ _ h => h) rfl (by assumption) ?_ ?_
          rotate_left
          · (intro w hSw; (try dsimp only at hSw); go_simp; (try with_reducible rfl))
          simp only [List.setIfInBounds_toArray, List.set_cons_zero, List.set_cons_succ]
          refine heldY 3 17 ?_ _ rfl rfl (by kernel_rfl) (by kernel_rfl) (by kernel_rfl) (fun _ _ _ h => h) rfl (by assumption) ?_ ?_
          rotate_left
          · (intro w hSw; (try dsimp only at hSw); go_simp; (try with_reducible rfl))
          simp only [List.setIfInBounds_toArray, List.set_cons_zero, List.set_cons_succ]
          refine heldY 4 18 ?_ _ rfl rfl (by kernel_rfl) (by kernel_rfl) (by kernel_rfl) (fun _ _ _ h => h) rfl (by assumption) ?_ ?_
          rotate_left
          · (intro w hSw; (try dsimp only at hSw); go_simp; (try with_reducible rfl))
          simp only [List.setIfInBounds_toArray, List.set_cons_zero, List.set_cons_succ]
          refine heldY 5 19 ?_ _ rfl rfl (by kernel_rfl) (by kernel_rfl) (by kernel_rfl) (fun _ _ _ h => h) rfl (by assumption) ?_ ?_
          rotate_left
          · (intro w hSw; (try dsimp only at hSw); go_simp; (try with_reducible rfl))
          simp only [List.setIfInBounds_toArray, List.set_cons_zero, List.set_cons_succ]
          refine heldY 6 20 ?_ _ rfl rfl (by kernel_rfl) (by kernel_rfl) (by kernel_rfl) (fun _ _ _ h => h) rfl (by assumption) ?_ ?_
          rotate_left
          · (intro w hSw; (try dsimp only at hSw); go_simp; (try with_reducible rfl))
          simp only [List.setIfInBounds_toArray, List.set_cons_zero, List.set_cons_succ]
          refine heldY 7 21 ?_ _ rfl rfl (by kernel_rfl) (by kernel_rfl) (by kernel_rfl) (fun _ _ _ h => h) rfl (by assumption) ?_ ?_
          rotate_left
          · (intro w hSw; (try dsimp only at hSw); go_simp; (try with_reducible rfl))
          simp only [List.setIfInBounds_toArray, List.set_cons_zero, List.set_cons_succ]
          refine wpAnyH_ready (rs := [8]) (by kernel_rfl) (by simp) ?_
          refine AllReadyH.cons rfl (fun K hK => ?_) AllReadyH.nil
          go_simp
          go_at_call 39; (with_reducible refine (LS2 _).mono ?_); rintro e w3 ⟨rfl, hb⟩
          refine hK.out _ _ ?_ (fun hHeld => ?_)
          · (try dsimp only); (first | assumption | exact hs | exact AtF.dr (w := wr) (l := [(⟨w.heap.size, 0, none⟩, .string X), (⟨w.heap.size, 1, none⟩, .string Y), (⟨w.heap.size, 2, none⟩, .bool z), (⟨b, o + k * 3, none⟩, .string X2), (⟨b, o + k * 3 + 1, none⟩, .string Y2), (⟨b, o + k * 3 + 2, none⟩, .bool z2)]) hs | exact AtF.dr (w := wr) (l := [(⟨w.heap.size, 0, none⟩, .string X), (⟨w.heap.size, 1, none⟩, .string Y), (⟨w.heap.size, 2, none⟩, .bool z), (⟨b, o + k * 3, none⟩, .string X2), (⟨b, o + k * 3 + 1, none⟩, .string Y2), (⟨b, o + k * 3 + 2, none⟩, .bool z2)]) (by assumption) | exact AtF.on (w := wr) (l := [(⟨w.heap.size, 0, none⟩, .string X), (⟨w.heap.size, 1, none⟩, .string Y), (⟨w.heap.size, 2, none⟩, .bool z), (⟨b, o + k * 3, none⟩, .string X2), (⟨b, o + k * 3 + 1, none⟩, .string Y2), (⟨b, o + k * 3 + 2, none⟩, .bool z2)]) (by assumption) (by assumption) | exact AtF.al (w := wr) (l := [(⟨w.heap.size, 0, none⟩, .string X), (⟨w.heap.size, 1, none⟩, .string Y), (⟨w.heap.size, 2, none⟩, .bool z), (⟨b, o + k * 3, none⟩, .string X2), (⟨b, o + k * 3 + 1, none⟩, .string Y2), (⟨b, o + k * 3 + 2, none⟩, .bool z2)]) (by assumption) _ | exact AtF.ald (w := wr) (l := [(⟨w.heap.size, 0, none⟩, .string X), (⟨w.heap.size, 1, none⟩, .string Y), (⟨w.heap.size, 2, none⟩, .bool z), (⟨b, o + k * 3, none⟩, .string X2), (⟨b, o + k * 3 + 1, none⟩, .string Y2), (⟨b, o + k * 3 + 2, none⟩, .bool z2)]) (by assumption) _ | exact AtF.al (w := wr) (l := [(⟨w.heap.size, 0, none⟩, .string X), (⟨w.heap.size, 1, none⟩, .string Y), (⟨w.heap.size, 2, none⟩, .bool z), (⟨b, o + k * 3, none⟩, .string X2), (⟨b, o + k * 3 + 1, none⟩, .string Y2), (⟨b, o + k * 3 + 2, none⟩, .bool z2)]) hs _ | exact AtF.ald (w := wr) (l := [(⟨w.heap.size, 0, none⟩, .string X), (⟨w.heap.size, 1, none⟩, .string Y), (⟨w.heap.size, 2, none⟩, .bool z), (⟨b, o + k * 3, none⟩, .string X2), (⟨b, o + k * 3 + 1, none⟩, .string Y2), (⟨b, o + k * 3 + 2, none⟩, .bool z2)]) hs _)
          clear hK K
          try simp only [Act.put, List.setIfInBounds_toArray, List.set_cons_zero, List.set_cons_succ]
          refine heldY 9 23 ?_ _ rfl rfl (by kernel_rfl) (by kernel_rfl) (by kernel_rfl) (fun _ _ _ h => h) rfl (by assumption) ?_ ?_
          rotate_left
          · (intro w hSw; (try dsimp only at hSw); go_simp; (try with_reducible rfl))
          simp only [List.setIfInBounds_toArray, List.set_cons_zero, List.set_cons_succ]
          refine wpAnyH_done (by kernel_rfl) ?_ _
          obtain ⟨d0, d1, d2, e0, e1, e2, hBE⟩ := (show _ ∧ _ ∧ _ ∧ _ ∧ _ ∧ _ ∧ _ from hHeld)
          have hV := hBE
          have HBV := Lib.hid (HB.out.trans (hBE.mono hsz))
          have HOV := Lib.hid (OwnV.on HO.out hBE)
          have hszV := HBV.out.size
          clear hHeld hBE hs b0 b1 b2 c0 c1 c2
          go_wp2_with (at_builtin; refine wpList_append_own _ rfl _ _ 22 rfl W0.heap.size 53 i0 _ 3 40 Tryz.underlying22 hi hz0 hz1 hz2' rfl (by decide) _ _ _ rfl (World.ownsRow.alloc HOV.out.2 _) ⟨w3.heap.size, 0, none⟩ 1 1 [.string X2, .string Y2, .bool z2] rfl rfl ?c1 ?c2 ?c3 ?c4 ?c5 ?_)
          case c1 =>
            intro j u hj
            match j, hj with
            | 0, hj => simp at hj; subst hj; simp [Addr.add]
            | 1, hj => simp at hj; subst hj; simp [Addr.add]
            | 2, hj => simp at hj; subst hj; simp [Addr.add]
          case c2 => intro u hu; simp at hu; rcases hu with rfl | rfl | rfl <;> rfl
          case c3 => rw [List.length_map]; have := hcl; unfold maxLen; omega
          case c4 => rw [List.length_map]; have := hcl; omega
          case c5 => simp; omega
          intro v4 w4 hown' hgrow _
          have HO4 : Hid (OwnI w4 W0.heap.size v4 (cur ++ [(t2, q2, z2)])) := Lib.hid (OwnI.app (x := (t2, q2, z2)) HX2.out HY2.out (by simpa using hown'))
          have HB4 : Hid (Below W0.heap.size W0 w4) := Lib.hid (OwnV.below HBV.out HOV.out hgrow (Nat.le_refl _) hszV)
          clear hown' hgrow
          go_wp2
          go_roundw
          case rel => exact ⟨k + 1, cur ++ [(t2, q2, z2)], false, by omega, rfl, by go_num, HK, HO4, Lib.hid (by simp; omega), HB4⟩
          case measure => simp [intOf]; omega
        · rw [hq] at LS2
          have HK : Hid ((l.take (k + 1)).foldl (stepP (t, q, z)) ([], false) = (cur ++ [(t, q, z)] ++ [(t2, q2, z2)], true)) := Lib.hid (by rw [HFS.out, stepP]; simp [hq])
          clear hq HFS
          go_wp2
          have BE := fun (V : World) (h : V.cell? ⟨w.heap.size, 0, none⟩ = some (.string X) ∧ V.cell? ⟨w.heap.size, 1, none⟩ = some (.string Y) ∧ V.cell? ⟨w.heap.size, 2, none⟩ = some (.bool z) ∧ V.cell? ⟨b, o + k * 3, none⟩ = some (.string X2) ∧ V.cell? ⟨b, o + k * 3 + 1, none⟩ = some (.string Y2) ∧ V.cell? ⟨b, o + k * 3 + 2, none⟩ = some (.bool z2) ∧ Below wr.heap.size wr V) => AtF.be (w := wr) (l := [(⟨w.heap.size, 0, none⟩, .string X), (⟨w.heap.size, 1, none⟩, .string Y), (⟨w.heap.size, 2, none⟩, .bool z), (⟨b, o + k * 3, none⟩, .string X2), (⟨b, o + k * 3 + 1, none⟩, .string Y2), (⟨b, o + k * 3 + 2, none⟩, .bool z2)]) h
          refine wp_region_held_drew (S := (fun V => V.cell? ⟨w.heap.size, 0, none⟩ = some (.string X) ∧ V.cell? ⟨w.heap.size, 1, none⟩ = some (.string Y) ∧ V.cell? ⟨w.heap.size, 2, none⟩ = some (.bool z) ∧ V.cell? ⟨b, o + k * 3, none⟩ = some (.string X2) ∧ V.cell? ⟨b, o + k * 3 + 1, none⟩ = some (.string Y2) ∧ V.cell? ⟨b, o + k * 3 + 2, none⟩ = some (.bool z2) ∧ Below wr.heap.size wr V)) (by kernel_rfl) ?_ (fun hHeld => ?_)
          · (try dsimp only); (first | assumption | exact hs | exact AtF.dr (w := wr) (l := [(⟨w.heap.size, 0, none⟩, .string X), (⟨w.heap.size, 1, none⟩, .string Y), (⟨w.heap.size, 2, none⟩, .bool z), (⟨b, o + k * 3, none⟩, .string X2), (⟨b, o + k * 3 + 1, none⟩, .string Y2), (⟨b, o + k * 3 + 2, none⟩, .bool z2)]) hs | exact AtF.dr (w := wr) (l := [(⟨w.heap.size, 0, none⟩, .string X), (⟨w.heap.size, 1, none⟩, .string Y), (⟨w.heap.size, 2, none⟩, .bool z), (⟨b, o + k * 3, none⟩, .string X2), (⟨b, o + k * 3 + 1, none⟩, .string Y2), (⟨b, o + k * 3 + 2, none⟩, .bool z2)]) (by assumption) | exact AtF.on (w := wr) (l := [(⟨w.heap.size, 0, none⟩, .string X), (⟨w.heap.size, 1, none⟩, .string Y), (⟨w.heap.size, 2, none⟩, .bool z), (⟨b, o + k * 3, none⟩, .string X2), (⟨b, o + k * 3 + 1, none⟩, .string Y2), (⟨b, o + k * 3 + 2, none⟩, .bool z2)]) (by assumption) (by assumption) | exact AtF.al (w := wr) (l := [(⟨w.heap.size, 0, none⟩, .string X), (⟨w.heap.size, 1, none⟩, .string Y), (⟨w.heap.size, 2, none⟩, .bool z), (⟨b, o + k * 3, none⟩, .string X2), (⟨b, o + k * 3 + 1, none⟩, .string Y2), (⟨b, o + k * 3 + 2, none⟩, .bool z2)]) (by assumption) _ | exact AtF.ald (w := wr) (l := [(⟨w.heap.size, 0, none⟩, .string X), (⟨w.heap.size, 1, none⟩, .string Y), (⟨w.heap.size, 2, none⟩, .bool z), (⟨b, o + k * 3, none⟩, .string X2), (⟨b, o + k * 3 + 1, none⟩, .string Y2), (⟨b, o + k * 3 + 2, none⟩, .bool z2)]) (by assumption) _ | exact AtF.al (w := wr) (l := [(⟨w.heap.size, 0, none⟩, .string X), (⟨w.heap.size, 1, none⟩, .string Y), (⟨w.heap.size, 2, none⟩, .bool z), (⟨b, o + k * 3, none⟩, .string X2), (⟨b, o + k * 3 + 1, none⟩, .string Y2), (⟨b, o + k * 3 + 2, none⟩, .bool z2)]) hs _ | exact AtF.ald (w := wr) (l := [(⟨w.heap.size, 0, none⟩, .string X), (⟨w.heap.size, 1, none⟩, .string Y), (⟨w.heap.size, 2, none⟩, .bool z), (⟨b, o + k * 3, none⟩, .string X2), (⟨b, o + k * 3 + 1, none⟩, .string Y2), (⟨b, o + k * 3 + 2, none⟩, .bool z2)]) hs _)
          refine heldY 0 14 ?_ _ rfl rfl (by kernel_rfl) (by kernel_rfl) (by kernel_rfl) (fun _ _ _ h => h) rfl (by assumption) ?_ ?_
          rotate_left
          · (intro w hSw; (try dsimp only at hSw); go_simp; (try with_reducible rfl))
          simp only [List.setIfInBounds_toArray, List.set_cons_zero, List.set_cons_succ]
          refine heldY 1 15 ?_ _ rfl rfl (by kernel_rfl) (by kernel_rfl) (by kernel_rfl) (fun _ _ _ h => h) rfl (by assumption) ?_ ?_
          rotate_left
          · (intro w hSw; (try dsimp only at hSw); go_simp; (try with_reducible rfl))
          simp only [List.setIfInBounds_toArray, List.set_cons_zero, List.set_cons_succ]
          refine heldY 2 16 ?_ _ rfl rfl (by kernel_rfl) (by kernel_rfl) (by kernel_rfl) (fun _ _ _ h => h) rfl (by assumption) ?_ ?_
          rotate_left
          · (intro w hSw; (try dsimp only at hSw); go_simp; (try with_reducible rfl))
          simp only [List.setIfInBounds_toArray, List.set_cons_zero, List.set_cons_succ]
          refine heldY 3 17 ?_ _ rfl rfl (by kernel_rfl) (by kernel_rfl) (by kernel_rfl) (fun _ _ _ h => h) rfl (by assumption) ?_ ?_
          rotate_left
          · (intro w hSw; (try dsimp only at hSw); go_simp; (try with_reducible rfl))
          simp only [List.setIfInBounds_toArray, List.set_cons_zero, List.set_cons_succ]
          refine heldY 4 18 ?_ _ rfl rfl (by kernel_rfl) (by kernel_rfl) (by kernel_rfl) (fun _ _ _ h => h) rfl (by assumption) ?_ ?_
          rotate_left
          · (intro w hSw; (try dsimp only at hSw); go_simp; (try with_reducible rfl))
          simp only [List.setIfInBounds_toArray, List.set_cons_zero, List.set_cons_succ]
          refine heldY 5 19 ?_ _ rfl rfl (by kernel_rfl) (by kernel_rfl) (by kernel_rfl) (fun _ _ _ h => h) rfl (by assumption) ?_ ?_
          rotate_left
          · (intro w hSw; (try dsimp only at hSw); go_simp; (try with_reducible rfl))
          simp only [List.setIfInBounds_toArray, List.set_cons_zero, List.set_cons_succ]
          refine heldY 6 20 ?_ _ rfl rfl (by kernel_rfl) (by kernel_rfl) (by kernel_rfl) (fun _ _ _ h => h) rfl (by assumption) ?_ ?_
          rotate_left
          · (intro w hSw; (try dsimp only at hSw); go_simp; (try with_reducible rfl))
          simp only [List.setIfInBounds_toArray, List.set_cons_zero, List.set_cons_succ]
          refine heldY 7 21 ?_ _ rfl rfl (by kernel_rfl) (by kernel_rfl) (by kernel_rfl) (fun _ _ _ h => h) rfl (by assumption) ?_ ?_
          rotate_left
          · (intro w hSw; (try dsimp only at hSw); go_simp; (try with_reducible rfl))
          simp only [List.setIfInBounds_toArray, List.set_cons_zero, List.set_cons_succ]
          refine wpAnyH_ready (rs := [8]) (by kernel_rfl) (by simp) ?_
          refine AllReadyH.cons rfl (fun K hK => ?_) AllReadyH.nil
          go_simp
          go_at_call 39; (with_reducible refine (LS2 _).mono ?_); rintro e w3 ⟨rfl, hb⟩
          refine hK.out _ _ ?_ (fun hHeld => ?_)
          · (try dsimp only); (first | assumption | exact hs | exact AtF.dr (w := wr) (l := [(⟨w.heap.size, 0, none⟩, .string X), (⟨w.heap.size, 1, none⟩, .string Y), (⟨w.heap.size, 2, none⟩, .bool z), (⟨b, o + k * 3, none⟩, .string X2), (⟨b, o + k * 3 + 1, none⟩, .string Y2), (⟨b, o + k * 3 + 2, none⟩, .bool z2)]) hs | exact AtF.dr (w := wr) (l := [(⟨w.heap.size, 0, none⟩, .string X), (⟨w.heap.size, 1, none⟩, .string Y), (⟨w.heap.size, 2, none⟩, .bool z), (⟨b, o + k * 3, none⟩, .string X2), (⟨b, o + k * 3 + 1, none⟩, .string Y2), (⟨b, o + k * 3 + 2, none⟩, .bool z2)]) (by assumption) | exact AtF.on (w := wr) (l := [(⟨w.heap.size, 0, none⟩, .string X), (⟨w.heap.size, 1, none⟩, .string Y), (⟨w.heap.size, 2, none⟩, .bool z), (⟨b, o + k * 3, none⟩, .string X2), (⟨b, o + k * 3 + 1, none⟩, .string Y2), (⟨b, o + k * 3 + 2, none⟩, .bool z2)]) (by assumption) (by assumption) | exact AtF.al (w := wr) (l := [(⟨w.heap.size, 0, none⟩, .string X), (⟨w.heap.size, 1, none⟩, .string Y), (⟨w.heap.size, 2, none⟩, .bool z), (⟨b, o + k * 3, none⟩, .string X2), (⟨b, o + k * 3 + 1, none⟩, .string Y2), (⟨b, o + k * 3 + 2, none⟩, .bool z2)]) (by assumption) _ | exact AtF.ald (w := wr) (l := [(⟨w.heap.size, 0, none⟩, .string X), (⟨w.heap.size, 1, none⟩, .string Y), (⟨w.heap.size, 2, none⟩, .bool z), (⟨b, o + k * 3, none⟩, .string X2), (⟨b, o + k * 3 + 1, none⟩, .string Y2), (⟨b, o + k * 3 + 2, none⟩, .bool z2)]) (by assumption) _ | exact AtF.al (w := wr) (l := [(⟨w.heap.size, 0, none⟩, .string X), (⟨w.heap.size, 1, none⟩, .string Y), (⟨w.heap.size, 2, none⟩, .bool z), (⟨b, o + k * 3, none⟩, .string X2), (⟨b, o + k * 3 + 1, none⟩, .string Y2), (⟨b, o + k * 3 + 2, none⟩, .bool z2)]) hs _ | exact AtF.ald (w := wr) (l := [(⟨w.heap.size, 0, none⟩, .string X), (⟨w.heap.size, 1, none⟩, .string Y), (⟨w.heap.size, 2, none⟩, .bool z), (⟨b, o + k * 3, none⟩, .string X2), (⟨b, o + k * 3 + 1, none⟩, .string Y2), (⟨b, o + k * 3 + 2, none⟩, .bool z2)]) hs _)
          clear hK K
          try simp only [Act.put, List.setIfInBounds_toArray, List.set_cons_zero, List.set_cons_succ]
          refine heldY 9 23 ?_ _ rfl rfl (by kernel_rfl) (by kernel_rfl) (by kernel_rfl) (fun _ _ _ h => h) rfl (by assumption) ?_ ?_
          rotate_left
          · (intro w hSw; (try dsimp only at hSw); go_simp; (try with_reducible rfl))
          simp only [List.setIfInBounds_toArray, List.set_cons_zero, List.set_cons_succ]
          refine wpAnyH_done (by kernel_rfl) ?_ _
          obtain ⟨d0, d1, d2, e0, e1, e2, hBE⟩ := (show _ ∧ _ ∧ _ ∧ _ ∧ _ ∧ _ ∧ _ from hHeld)
          have hV := hBE
          have HBV := Lib.hid (HB.out.trans (hBE.mono hsz))
          have HOV := Lib.hid (OwnV.on HO.out hBE)
          have hszV := HBV.out.size
          clear hHeld hBE hs b0 b1 b2 c0 c1 c2
          have hlb : b < W0.heap.size := hbw
          go_wp2_with (at_builtin; refine wpList_append_own _ rfl _ _ 22 rfl W0.heap.size 53 i0 _ 3 40 Tryz.underlying22 hi hz0 hz1 hz2' rfl (by decide) _ _ _ rfl (World.ownsRow.alloc HOV.out.2 _) ⟨w3.heap.size, 0, none⟩ 1 1 [.string X, .string Y, .bool z] rfl rfl ?c1 ?c2 ?c3 ?c4 ?c5 ?_)
          case c1 =>
            intro j u hj
            match j, hj with
            | 0, hj => simp at hj; subst hj; simp [Addr.add]
            | 1, hj => simp at hj; subst hj; simp [Addr.add]
            | 2, hj => simp at hj; subst hj; simp [Addr.add]
          case c2 => intro u hu; simp at hu; rcases hu with rfl | rfl | rfl <;> rfl
          case c3 => rw [List.length_map]; have := hcl; unfold maxLen; omega
          case c4 => rw [List.length_map]; have := hcl; omega
          case c5 => simp; omega
          intro v4 w4 hown' hgrow _
          have HO4 : Hid (OwnI w4 W0.heap.size v4 (cur ++ [(t, q, z)])) := Lib.hid (OwnI.app (x := (t, q, z)) HX.out HY.out (by simpa using hown'))
          have HB4 : Hid (Below W0.heap.size W0 w4) := Lib.hid (OwnV.below HBV.out HOV.out hgrow (Nat.le_refl _) hszV)
          have hz4 := HB4.out.size
          obtain ⟨f0, f1, f2⟩ := HC.out k (t2, q2, z2) HXK.out
          dsimp only at f0 f1 f2
          rw [← HB4.out.cell (p := ⟨b, o + k * 3, none⟩) hbw] at f0
          rw [← HB4.out.cell (p := ⟨b, o + k * 3 + 1, none⟩) hbw] at f1
          rw [← HB4.out.cell (p := ⟨b, o + k * 3 + 2, none⟩) hbw] at f2
          rw [HBX2.out] at f0
          rw [HBY2.out] at f1
          have hcl2 : (cur ++ [(t, q, z)]).length ≤ 2 * k + 1 := by simp; omega
          clear hown' hgrow
          go_wp2_with (at_builtin; refine wpList_append_own _ rfl _ _ 22 rfl W0.heap.size 53 i0 _ 3 40 Tryz.underlying22 hi hz0 hz1 hz2' rfl (by decide) _ _ _ rfl (World.ownsRow.alloc HO4.out.2 _) ⟨w4.heap.size, 0, none⟩ 1 1 [.string X2, .string Y2, .bool z2] rfl rfl ?c1 ?c2 ?c3 ?c4 ?c5 ?_)
          case c1 =>
            intro j u hj
            match j, hj with
            | 0, hj => simp at hj; subst hj; simp [Addr.add]
            | 1, hj => simp at hj; subst hj; simp [Addr.add]
            | 2, hj => simp at hj; subst hj; simp [Addr.add]
          case c2 => intro u hu; simp at hu; rcases hu with rfl | rfl | rfl <;> rfl
          case c3 => rw [List.length_map]; have := hcl2; unfold maxLen; omega
          case c4 => rw [List.length_map]; have := hcl2; omega
          case c5 => simp; omega
          intro v5 w5 hown' hgrow _
          have HO5 : Hid (OwnI w5 W0.heap.size v5 ((cur ++ [(t, q, z)]) ++ [(t2, q2, z2)])) := Lib.hid (OwnI.app (x := (t2, q2, z2)) HX2.out HY2.out (by simpa using hown'))
          have HB5 : Hid (Below W0.heap.size W0 w5) := Lib.hid (OwnV.below HB4.out HO4.out hgrow (Nat.le_refl _) hz4)
          clear hown' hgrow
          go_wp2
          go_roundw
          case rel => exact ⟨k + 1, cur ++ [(t, q, z)] ++ [(t2, q2, z2)], true, by omega, rfl, by go_num, HK, HO5, Lib.hid (by simp; omega), HB5⟩
          case measure => simp [intOf]; omega
      · have HK : Hid ((l.take (k + 1)).foldl (stepP (t, q, z)) ([], false) = (cur ++ [(t2, q2, z2)], true)) := Lib.hid (by rw [HFS.out, stepP]; simp)
        clear HFS LS2
        go_wp2
        have BE := fun (V : World) (h : V.cell? ⟨w.heap.size, 0, none⟩ = some (.string X) ∧ V.cell? ⟨w.heap.size, 1, none⟩ = some (.string Y) ∧ V.cell? ⟨w.heap.size, 2, none⟩ = some (.bool z) ∧ V.cell? ⟨b, o + k * 3, none⟩ = some (.string X2) ∧ V.cell? ⟨b, o + k * 3 + 1, none⟩ = some (.string Y2) ∧ V.cell? ⟨b, o + k * 3 + 2, none⟩ = some (.bool z2) ∧ Below wr.heap.size wr V) => AtF.be (w := wr) (l := [(⟨w.heap.size, 0, none⟩, .string X), (⟨w.heap.size, 1, none⟩, .string Y), (⟨w.heap.size, 2, none⟩, .bool z), (⟨b, o + k * 3, none⟩, .string X2), (⟨b, o + k * 3 + 1, none⟩, .string Y2), (⟨b, o + k * 3 + 2, none⟩, .bool z2)]) h
        refine wp_region_held_drew (S := (fun V => V.cell? ⟨w.heap.size, 0, none⟩ = some (.string X) ∧ V.cell? ⟨w.heap.size, 1, none⟩ = some (.string Y) ∧ V.cell? ⟨w.heap.size, 2, none⟩ = some (.bool z) ∧ V.cell? ⟨b, o + k * 3, none⟩ = some (.string X2) ∧ V.cell? ⟨b, o + k * 3 + 1, none⟩ = some (.string Y2) ∧ V.cell? ⟨b, o + k * 3 + 2, none⟩ = some (.bool z2) ∧ Below wr.heap.size wr V)) (by kernel_rfl) ?_ (fun hHeld => ?_)
        · (try dsimp only); (first | assumption | exact hs | exact AtF.dr (w := wr) (l := [(⟨w.heap.size, 0, none⟩, .string X), (⟨w.heap.size, 1, none⟩, .string Y), (⟨w.heap.size, 2, none⟩, .bool z), (⟨b, o + k * 3, none⟩, .string X2), (⟨b, o + k * 3 + 1, none⟩, .string Y2), (⟨b, o + k * 3 + 2, none⟩, .bool z2)]) hs | exact AtF.dr (w := wr) (l := [(⟨w.heap.size, 0, none⟩, .string X), (⟨w.heap.size, 1, none⟩, .string Y), (⟨w.heap.size, 2, none⟩, .bool z), (⟨b, o + k * 3, none⟩, .string X2), (⟨b, o + k * 3 + 1, none⟩, .string Y2), (⟨b, o + k * 3 + 2, none⟩, .bool z2)]) (by assumption) | exact AtF.on (w := wr) (l := [(⟨w.heap.size, 0, none⟩, .string X), (⟨w.heap.size, 1, none⟩, .string Y), (⟨w.heap.size, 2, none⟩, .bool z), (⟨b, o + k * 3, none⟩, .string X2), (⟨b, o + k * 3 + 1, none⟩, .string Y2), (⟨b, o + k * 3 + 2, none⟩, .bool z2)]) (by assumption) (by assumption) | exact AtF.al (w := wr) (l := [(⟨w.heap.size, 0, none⟩, .string X), (⟨w.heap.size, 1, none⟩, .string Y), (⟨w.heap.size, 2, none⟩, .bool z), (⟨b, o + k * 3, none⟩, .string X2), (⟨b, o + k * 3 + 1, none⟩, .string Y2), (⟨b, o + k * 3 + 2, none⟩, .bool z2)]) (by assumption) _ | exact AtF.ald (w := wr) (l := [(⟨w.heap.size, 0, none⟩, .string X), (⟨w.heap.size, 1, none⟩, .string Y), (⟨w.heap.size, 2, none⟩, .bool z), (⟨b, o + k * 3, none⟩, .string X2), (⟨b, o + k * 3 + 1, none⟩, .string Y2), (⟨b, o + k * 3 + 2, none⟩, .bool z2)]) (by assumption) _ | exact AtF.al (w := wr) (l := [(⟨w.heap.size, 0, none⟩, .string X), (⟨w.heap.size, 1, none⟩, .string Y), (⟨w.heap.size, 2, none⟩, .bool z), (⟨b, o + k * 3, none⟩, .string X2), (⟨b, o + k * 3 + 1, none⟩, .string Y2), (⟨b, o + k * 3 + 2, none⟩, .bool z2)]) hs _ | exact AtF.ald (w := wr) (l := [(⟨w.heap.size, 0, none⟩, .string X), (⟨w.heap.size, 1, none⟩, .string Y), (⟨w.heap.size, 2, none⟩, .bool z), (⟨b, o + k * 3, none⟩, .string X2), (⟨b, o + k * 3 + 1, none⟩, .string Y2), (⟨b, o + k * 3 + 2, none⟩, .bool z2)]) hs _)
        refine heldY 0 14 ?_ _ rfl rfl (by kernel_rfl) (by kernel_rfl) (by kernel_rfl) (fun _ _ _ h => h) rfl (by assumption) ?_ ?_
        rotate_left
        · (intro w hSw; (try dsimp only at hSw); go_simp; (try with_reducible rfl))
        simp only [List.setIfInBounds_toArray, List.set_cons_zero, List.set_cons_succ]
        refine heldY 1 15 ?_ _ rfl rfl (by kernel_rfl) (by kernel_rfl) (by kernel_rfl) (fun _ _ _ h => h) rfl (by assumption) ?_ ?_
        rotate_left
        · (intro w hSw; (try dsimp only at hSw); go_simp; (try with_reducible rfl))
        simp only [List.setIfInBounds_toArray, List.set_cons_zero, List.set_cons_succ]
        refine heldY 2 16 ?_ _ rfl rfl (by kernel_rfl) (by kernel_rfl) (by kernel_rfl) (fun _ _ _ h => h) rfl (by assumption) ?_ ?_
        rotate_left
        · (intro w hSw; (try dsimp only at hSw); go_simp; (try with_reducible rfl))
        simp only [List.setIfInBounds_toArray, List.set_cons_zero, List.set_cons_succ]
        refine heldNo 3 17 rfl (by kernel_rfl) (by kernel_rfl) (by kernel_rfl) (fun _ _ _ h => h) rfl (by assumption) ?_
        simp only [List.setIfInBounds_toArray, List.set_cons_zero, List.set_cons_succ]
        refine heldNo 4 18 rfl (by kernel_rfl) (by kernel_rfl) (by kernel_rfl) (fun _ _ _ h => h) rfl (by assumption) ?_
        simp only [List.setIfInBounds_toArray, List.set_cons_zero, List.set_cons_succ]
        refine heldNo 5 19 rfl (by kernel_rfl) (by kernel_rfl) (by kernel_rfl) (fun _ _ _ h => h) rfl (by assumption) ?_
        simp only [List.setIfInBounds_toArray, List.set_cons_zero, List.set_cons_succ]
        refine heldNo 6 20 rfl (by kernel_rfl) (by kernel_rfl) (by kernel_rfl) (fun _ _ _ h => h) rfl (by assumption) ?_
        simp only [List.setIfInBounds_toArray, List.set_cons_zero, List.set_cons_succ]
        refine heldNo 7 21 rfl (by kernel_rfl) (by kernel_rfl) (by kernel_rfl) (fun _ _ _ h => h) rfl (by assumption) ?_
        simp only [List.setIfInBounds_toArray, List.set_cons_zero, List.set_cons_succ]
        refine heldNo 8 22 rfl (by kernel_rfl) (by kernel_rfl) (by kernel_rfl) (fun _ _ _ h => h) rfl (by assumption) ?_
        simp only [List.setIfInBounds_toArray, List.set_cons_zero, List.set_cons_succ]
        refine heldY 9 23 ?_ _ rfl rfl (by kernel_rfl) (by kernel_rfl) (by kernel_rfl) (fun _ _ _ h => h) rfl (by assumption) ?_ ?_
        rotate_left
        · (intro w hSw; (try dsimp only at hSw); go_simp; (try with_reducible rfl))
        simp only [List.setIfInBounds_toArray, List.set_cons_zero, List.set_cons_succ]
        refine wpAnyH_done (by kernel_rfl) ?_ _
        obtain ⟨d0, d1, d2, e0, e1, e2, hBE⟩ := (show _ ∧ _ ∧ _ ∧ _ ∧ _ ∧ _ ∧ _ from hHeld)
        have hV := hBE
        have HBV := Lib.hid (HB.out.trans (hBE.mono hsz))
        have HOV := Lib.hid (OwnV.on HO.out hBE)
        have hszV := HBV.out.size
        clear hHeld hBE hs b0 b1 b2 c0 c1 c2
        go_wp2_with (at_builtin; refine wpList_append_own _ rfl _ _ 22 rfl W0.heap.size 53 i0 _ 3 40 Tryz.underlying22 hi hz0 hz1 hz2' rfl (by decide) _ _ _ rfl (World.ownsRow.alloc HOV.out.2 _) ⟨wr.drew.heap.size, 0, none⟩ 1 1 [.string X2, .string Y2, .bool z2] rfl rfl ?c1 ?c2 ?c3 ?c4 ?c5 ?_)
        case c1 =>
          intro j u hj
          match j, hj with
          | 0, hj => simp at hj; subst hj; simp [Addr.add]
          | 1, hj => simp at hj; subst hj; simp [Addr.add]
          | 2, hj => simp at hj; subst hj; simp [Addr.add]
        case c2 => intro u hu; simp at hu; rcases hu with rfl | rfl | rfl <;> rfl
        case c3 => rw [List.length_map]; have := hcl; unfold maxLen; omega
        case c4 => rw [List.length_map]; have := hcl; omega
        case c5 => simp; omega
        intro v4 w4 hown' hgrow _
        have HO4 : Hid (OwnI w4 W0.heap.size v4 (cur ++ [(t2, q2, z2)])) := Lib.hid (OwnI.app (x := (t2, q2, z2)) HX2.out HY2.out (by simpa using hown'))
        have HB4 : Hid (Below W0.heap.size W0 w4) := Lib.hid (OwnV.below HBV.out HOV.out hgrow (Nat.le_refl _) hszV)
        clear hown' hgrow
        go_wp2
        go_roundw
        case rel => exact ⟨k + 1, cur ++ [(t2, q2, z2)], true, by omega, rfl, by go_num, HK, HO4, Lib.hid (by simp; omega), HB4⟩
        case measure => simp [intOf]; omega
    · obtain rfl : k = n := by omega
      have HF : Hid (l.take k = l) := Lib.hid (List.take_of_length_le (by rw [HN.out]; omega))
      have hcl := HLC.out
      rw [HF.out] at HS
      rw [HS.out] at HFIN
      clear hlt LS
      cases db
      · have HZ : Hid (cur ++ [(t, q, z)] = Z) := Lib.hid (by have := HFIN.out; simpa using this)
        obtain ⟨b0, b1, b2⟩ := HK0.out
        rw [← HB.out.cell (p := ⟨w.heap.size, 0, none⟩) hB1] at b0
        rw [← HB.out.cell (p := ⟨w.heap.size, 1, none⟩) hB1] at b1
        rw [← HB.out.cell (p := ⟨w.heap.size, 2, none⟩) hB1] at b2
        go_wp2_with (at_builtin; refine wpList_append_own _ rfl _ _ 22 rfl W0.heap.size 53 i0 _ 3 40 Tryz.underlying22 hi hz0 hz1 hz2' rfl (by decide) _ _ _ rfl (World.ownsRow.alloc HO.out.2 _) ⟨wr.heap.size, 0, none⟩ 1 1 [.string X, .string Y, .bool z] rfl rfl ?c1 ?c2 ?c3 ?c4 ?c5 ?_)
        case c2 => exact ⟨rfl, rfl, rfl⟩
        case c3 => have := hcl; unfold maxLen; omega
        case c4 => have := hcl; omega
        case c5 => omega
        intro v4 w4 hown' hgrow _
        have HO4 : Hid (OwnI w4 W0.heap.size v4 (cur ++ [(t, q, z)])) := Lib.hid (OwnI.app (x := (t, q, z)) HX.out HY.out (by simpa using hown'))
        have HB4 : Hid (Below W0.heap.size W0 w4) := Lib.hid (OwnV.below HB.out HO.out hgrow (Nat.le_refl _) hsz)
        clear hown' hgrow
        go_wp2
        go_ret
        exact ⟨_, rfl, by rw [← HZ.out]; exact OwnV.mono HO4.out HB0.out.size, HB0.out.trans (HB4.out.mono HB0.out.size)⟩
      · have HZ : Hid (cur = Z) := Lib.hid (by have := HFIN.out; simpa using this)
        go_wp2
        go_ret
        exact ⟨_, rfl, by rw [← HZ.out]; exact OwnV.mono HO.out HB0.out.size, HB0.out.trans (HB.out.mono HB0.out.size)⟩
end Go.Proofs.YtceohgjfjndcmaaGreatDoor
namespace Go.Proofs.YtceohgjfjndcmaaGreatDoor
open Go.RowKit
theorem HoldV.pre {k : Nat} {w : World} {b o n c : Nat} {rows : List Rw} (h : HoldV k w (.slice (some ⟨b, o, none⟩) n c) rows) (j : Nat) (hj : j ≤ n) : HoldV k w (.slice (some ⟨b, o, none⟩) j c) (rows.take j) := by
  obtain ⟨a', c', b', o', e, hc, ha, hcell⟩ := h
  simp only [Value.slice.injEq] at e
  obtain ⟨e1, rfl, rfl⟩ := e
  refine ⟨some ⟨b, o, none⟩, c, b, o, by rw [List.length_take, Nat.min_eq_left hj], by rw [List.length_take]; omega, fun h0 => ?_, fun i r hr s y hs hy => ?_⟩
  · rw [List.length_take] at h0
    obtain ⟨h1, h2⟩ := ha (by omega)
    rw [← e1] at h1; cases h1
    exact ⟨rfl, h2⟩
  · rw [List.getElem?_take] at hr
    split at hr
    · have hl := (List.getElem?_eq_some_iff.1 hr).1
      obtain ⟨h1, h2⟩ := ha (by omega)
      rw [← e1] at h1; cases h1
      exact hcell i r hr s y hs hy
    · cases hr
theorem forR_len (K : ByteArray) (v : Value) (l : List It) (hl : l.length ≤ 90000) (w : World) (h : HoldI w v l) :
    Calls Tryz.prog 29 #[v, .string K] w fun e w' => ∃ a c, e = .returned (.slice a (forI l K.data.toList).length c) ∧ Below w.heap.size w w' :=
  (for_ref K v l hl w h).mono (fun e w' ⟨v', he, ho, hb⟩ => by
    obtain ⟨a, c, rfl⟩ := OwnV.form ho
    rw [List.length_map] at he
    exact ⟨a, c, he, hb⟩)
def RSetPost (l : List It) (p : Bs) (own : List It) (w : World) (e : Ending) (w' : World) : Prop := ∃ v, e = .returned v ∧ OwnI w' w.heap.size v (setI l p own) ∧ Below w.heap.size w w'
set_option maxRecDepth 100000 in
set_option maxHeartbeats 8000000 in
theorem set_ref (K : ByteArray) (v u : Value) (l own : List It) (hl : l.length ≤ 20000) (hm : own.length ≤ 20000) (w : World) (hv : HoldI w v l) (hu : HoldI w u own) :
    Calls Tryz.prog 25 #[v, .string K, u] w (RSetPost l K.data.toList own w) := by
  have HPOST : Hid (∀ v' w', OwnI w' w.heap.size v' (setI l K.data.toList own) → Below w.heap.size w w' → RSetPost l K.data.toList own w (.returned v') w') := Lib.hid (fun v' w' h1 h2 => ⟨v', rfl, h1, h2⟩)
  obtain ⟨p, hp⟩ : ∃ p, K.data.toList = p := ⟨_, rfl⟩
  have HKP : Hid (K.data.toList = p) := Lib.hid hp
  have HPK : Hid (bsT p = K) := Lib.hid (by rw [← hp])
  rw [hp] at HPOST ⊢
  clear hp
  have HPD : Hid (∀ t q z, pkgNot p (t, q, z) = (!(decide (q = K.data.toList)))) := Lib.hid (fun t q z => by rw [HKP.out]; first | done | rfl)
  have HRL : Hid (∀ k, (refI l p own k).length ≤ 40000) := Lib.hid (fun k => by have := ref_len (l := l) (p := p) (own := own) (k := k); omega)
  have HRA : Hid (refI l p own own.length = setI l p own) := Lib.hid (refI_all l p own)
  have HRZ : Hid (l.filter (pkgNot p) = refI l p own 0) := Lib.hid (by rw [refI_zero]; rfl)
  obtain ⟨a, c, b, o, rfl, hc, ha, hcell⟩ := HoldI.parts hv
  have HC := Lib.hid hcell
  have HU := Lib.hid hu
  obtain ⟨a2, c2, b2, o2, rfl, hc2, ha2, hcell2⟩ := hu.parts
  have HC2 := Lib.hid hcell2
  obtain ⟨i0, hi, hz0, hz1, hz2'⟩ := info_parts infoI
  obtain ⟨n, hN⟩ : ∃ n, l.length = n := ⟨_, rfl⟩
  obtain ⟨n2, hN2⟩ : ∃ n, own.length = n := ⟨_, rfl⟩
  rw [hN] at hc ha hl ⊢
  rw [hN2] at hc2 ha2 hm HRA HU ⊢
  have HN := Lib.hid hN
  have HN2 := Lib.hid hN2
  clear hcell hcell2 hN hN2 hv hu
  go_enter Tryz.func25, Tryz.ntmps25
  go_wp2
  go_loopw [7, 8] (fun u i wr => ∃ k : Nat, k ≤ n ∧ i = .int .i64 k ∧ Hid (OwnI wr w.heap.size u ((l.take k).filter (pkgNot p))) ∧ Hid (Below w.heap.size w wr)) (fun _ i _ => n - (intOf i).toNat)
  case atStart => exact ⟨0, by omega, rfl, Lib.hid (OwnV.nil _ _ _ _), Lib.hid (Below.refl _ _)⟩
  case round =>
    obtain ⟨k, hk, rfl, HO, HB⟩ := hrel
    have hsz := HB.out.size
    by_cases hlt : k < n
    · obtain ⟨rfl, hbw⟩ := ha (by omega)
      obtain ⟨⟨t, q, z⟩, hx⟩ : ∃ x, l[k]? = some x := ⟨_, List.getElem?_eq_getElem (by rw [HN.out]; exact hlt)⟩
      obtain ⟨c0, c1, c2⟩ := HC.out k (t, q, z) hx
      dsimp only at c0 c1 c2
      rw [← HB.out.cell (p := ⟨b, o + k * 3, none⟩) hbw] at c0
      rw [← HB.out.cell (p := ⟨b, o + k * 3 + 1, none⟩) hbw] at c1
      rw [← HB.out.cell (p := ⟨b, o + k * 3 + 2, none⟩) hbw] at c2
      have HFS := Lib.hid (filter_snoc (p := pkgNot p) hx)
      have hfl : ((l.take k).filter (pkgNot p)).length ≤ k := Nat.le_trans (List.length_filter_le _ _) (by rw [List.length_take]; omega)
      have HFL := Lib.hid hfl
      have HX : Hid ((bsT t).data.toList = t) := Lib.hid (by rw [bytesOf])
      have HY : Hid ((bsT q).data.toList = q) := Lib.hid (by rw [bytesOf])
      have q0 := eqT (bsT q) K
      rw [bytesOf] at q0
      cases hq : decide (q = K.data.toList)
      · have HK : Hid ((l.take (k + 1)).filter (pkgNot p) = (l.take k).filter (pkgNot p) ++ [(t, q, z)]) := Lib.hid (by rw [HFS.out, HPD.out, hq]; simp)
        rw [hq] at q0
        clear hx hq hfl HFS
        generalize bsT t = X at *
        generalize bsT q = Y at *
        go_wp2_with (at_builtin; refine wpList_append_own _ rfl _ _ 22 rfl w.heap.size 53 i0 _ 3 40 Tryz.underlying22 hi hz0 hz1 hz2' rfl (by decide) _ _ _ rfl (World.ownsRow.alloc HO.out.2 _) ⟨wr.heap.size, 0, none⟩ 1 1 [.string X, .string Y, .bool z] rfl rfl ?c1 ?c2 ?c3 ?c4 ?c5 ?_)
        case c2 => exact ⟨rfl, rfl, rfl⟩
        case c3 => have := HFL.out; unfold maxLen; omega
        case c4 => have := HFL.out; omega
        case c5 => omega
        intro v' w3 hown' hgrow _
        have HO4 : Hid (OwnI w3 w.heap.size v' ((l.take (k + 1)).filter (pkgNot p))) := Lib.hid (by rw [HK.out]; exact OwnI.app (x := (t, q, z)) HX.out HY.out (by simpa using hown'))
        have HB3 : Hid (Below w.heap.size w w3) := Lib.hid (OwnV.below HB.out HO.out hgrow (Nat.le_refl _) hsz)
        clear hown' hgrow
        go_wp2
        go_roundw
        case rel => exact ⟨k + 1, by omega, by go_num, HO4, HB3⟩
        case measure => simp [intOf]; omega
      · have HK : Hid ((l.take (k + 1)).filter (pkgNot p) = (l.take k).filter (pkgNot p)) := Lib.hid (by rw [HFS.out, HPD.out, hq]; simp)
        rw [hq] at q0
        clear hx hq hfl HFS
        generalize bsT t = X at *
        generalize bsT q = Y at *
        go_wp2
        go_roundw
        case rel => exact ⟨k + 1, by omega, by go_num, Lib.hid (by rw [HK.out]; exact HO.out), HB⟩
        case measure => simp [intOf]; omega
    · obtain rfl : k = n := by omega
      have HF : Hid (l.take k = l) := Lib.hid (List.take_of_length_le (by rw [HN.out]; omega))
      rw [HF.out, HRZ.out] at HO
      clear hlt
      go_wp2
      go_loopw [7, 9] (fun u i wr => ∃ k : Nat, k ≤ n2 ∧ i = .int .i64 k ∧ Hid (OwnI wr w.heap.size u (refI l p own k)) ∧ Hid (Below w.heap.size w wr)) (fun _ i _ => n2 - (intOf i).toNat)
      case atStart => exact ⟨0, by omega, rfl, HO, HB⟩
      case round =>
        obtain ⟨k2, hk2, rfl, HO2, HB2⟩ := hrel
        have hsz2 := HB2.out.size
        by_cases hlt : k2 < n2
        · obtain ⟨rfl, hbw⟩ := ha2 (by omega)
          obtain ⟨⟨t, q, z⟩, hx⟩ : ∃ x, own[k2]? = some x := ⟨_, List.getElem?_eq_getElem (by rw [HN2.out]; exact hlt)⟩
          obtain ⟨d0, d1, d2⟩ := HC2.out k2 (t, q, z) hx
          dsimp only at d0 d1 d2
          rw [← HB2.out.cell (p := ⟨b2, o2 + k2 * 3, none⟩) hbw] at d0
          rw [← HB2.out.cell (p := ⟨b2, o2 + k2 * 3 + 1, none⟩) hbw] at d1
          rw [← HB2.out.cell (p := ⟨b2, o2 + k2 * 3 + 2, none⟩) hbw] at d2
          have hpre := HoldV.pre HU.out k2 (by omega)
          rw [← List.map_take] at hpre
          have FO : ∀ W, Below wr.heap.size wr W → Calls Tryz.prog 29 #[.slice (some ⟨b2, o2, none⟩) k2 c2, .string (bsT t)] W fun e w' => ∃ a c, e = .returned (.slice a (forI (own.take k2) t).length c) ∧ Below W.heap.size W w' := fun W hb => forR_len (bsT t) _ (own.take k2) (by rw [List.length_take]; omega) W (HoldV.on hpre (HB2.out.trans (hb.mono hsz2)))
          obtain ⟨sa, sc, rfl⟩ := OwnV.form HO2.out
          have j0 : (0 : Int) ≤ (k2 : Int) := by omega
          have j1 : (k2 : Int) < (n2 : Int) := by omega
          have j2 : (k2 : Int) ≤ (c2 : Int) := by omega
          have j3 : k2 ≤ c2 := by omega
          by_cases hf : (forI (own.take k2) t).length = 0
          · simp only [hf] at FO
            have HK := Lib.hid (refI_new (l := l) (p := p) hx hf)
            have PU : ∀ u' W, HoldI W u' (refI l p own k2) → Calls Tryz.prog 56 #[u', .agg #[.string (bsT t), .string K, .bool z]] W fun e w' => ∃ v', e = .returned v' ∧ OwnI w' W.heap.size v' (putI (refI l p own k2) (t, p, z)) ∧ Below W.heap.size W w' := fun u' W h => by
              have := put_ref u' (refI l p own k2) (HRL.out k2) (t, p, z) W h
              unfold aggI at this
              dsimp only at this
              rwa [HPK.out] at this
            generalize ((refI l p own k2).map cellsI).length = nr at *
            clear hx hf hpre d1
            generalize bsT t = X at *
            have hs := And.intro d0 (And.intro d2 (Below.refl wr.heap.size wr))
            go_wp2
            have BE := fun (V : World) (h : V.cell? ⟨b2, o2 + k2 * 3, none⟩ = some (.string X) ∧ V.cell? ⟨b2, o2 + k2 * 3 + 2, none⟩ = some (.bool z) ∧ Below wr.heap.size wr V) => AtF.be (w := wr) (l := [(⟨b2, o2 + k2 * 3, none⟩, .string X), (⟨b2, o2 + k2 * 3 + 2, none⟩, .bool z)]) h
            refine wp_region_held_drew (S := (fun V => V.cell? ⟨b2, o2 + k2 * 3, none⟩ = some (.string X) ∧ V.cell? ⟨b2, o2 + k2 * 3 + 2, none⟩ = some (.bool z) ∧ Below wr.heap.size wr V)) (by kernel_rfl) ?_ (fun hHeld => ?_)
            · (try dsimp only); (first | assumption | exact hs | exact AtF.dr (w := wr) (l := [(⟨b2, o2 + k2 * 3, none⟩, .string X), (⟨b2, o2 + k2 * 3 + 2, none⟩, .bool z)]) hs | exact AtF.dr (w := wr) (l := [(⟨b2, o2 + k2 * 3, none⟩, .string X), (⟨b2, o2 + k2 * 3 + 2, none⟩, .bool z)]) (by assumption) | exact AtF.on (w := wr) (l := [(⟨b2, o2 + k2 * 3, none⟩, .string X), (⟨b2, o2 + k2 * 3 + 2, none⟩, .bool z)]) (by assumption) (by assumption) | exact AtF.al (w := wr) (l := [(⟨b2, o2 + k2 * 3, none⟩, .string X), (⟨b2, o2 + k2 * 3 + 2, none⟩, .bool z)]) (by assumption) _ | exact AtF.ald (w := wr) (l := [(⟨b2, o2 + k2 * 3, none⟩, .string X), (⟨b2, o2 + k2 * 3 + 2, none⟩, .bool z)]) (by assumption) _ | exact AtF.al (w := wr) (l := [(⟨b2, o2 + k2 * 3, none⟩, .string X), (⟨b2, o2 + k2 * 3 + 2, none⟩, .bool z)]) hs _ | exact AtF.ald (w := wr) (l := [(⟨b2, o2 + k2 * 3, none⟩, .string X), (⟨b2, o2 + k2 * 3 + 2, none⟩, .bool z)]) hs _)
            refine heldY 0 36 ?_ _ rfl rfl (by kernel_rfl) (by kernel_rfl) (by kernel_rfl) (fun _ _ _ h => h) rfl (by assumption) ?_ ?_
            rotate_left
            · (intro w hSw; (try dsimp only at hSw); go_simp; (try with_reducible rfl))
            simp only [List.setIfInBounds_toArray, List.set_cons_zero, List.set_cons_succ]
            refine heldY 1 37 ?_ _ rfl rfl (by kernel_rfl) (by kernel_rfl) (by kernel_rfl) (fun _ _ _ h => h) rfl (by assumption) ?_ ?_
            rotate_left
            · (intro w hSw; (try dsimp only at hSw); go_simp; (try with_reducible rfl))
            simp only [List.setIfInBounds_toArray, List.set_cons_zero, List.set_cons_succ]
            refine heldY 2 38 ?_ _ rfl rfl (by kernel_rfl) (by kernel_rfl) (by kernel_rfl) (fun _ _ _ h => h) rfl (by assumption) ?_ ?_
            rotate_left
            · (intro w hSw; (try dsimp only at hSw); go_simp; (try with_reducible rfl))
            simp only [List.setIfInBounds_toArray, List.set_cons_zero, List.set_cons_succ]
            refine heldY 3 39 ?_ _ rfl rfl (by kernel_rfl) (by kernel_rfl) (by kernel_rfl) (fun _ _ _ h => h) rfl (by assumption) ?_ ?_
            rotate_left
            · (intro w hSw; (try dsimp only at hSw); go_simp; (try with_reducible rfl))
            simp only [List.setIfInBounds_toArray, List.set_cons_zero, List.set_cons_succ]
            refine heldY 4 40 ?_ _ rfl rfl (by kernel_rfl) (by kernel_rfl) (by kernel_rfl) (fun _ _ _ h => h) rfl (by assumption) ?_ ?_
            rotate_left
            · (intro w hSw; (try dsimp only at hSw); go_simp; (try with_reducible rfl))
            simp only [List.setIfInBounds_toArray, List.set_cons_zero, List.set_cons_succ]
            refine heldY 5 41 ?_ _ rfl rfl (by kernel_rfl) (by kernel_rfl) (by kernel_rfl) (fun _ _ _ h => h) rfl (by assumption) ?_ ?_
            rotate_left
            · (intro w hSw; (try dsimp only at hSw); go_simp; (try with_reducible rfl))
            simp only [List.setIfInBounds_toArray, List.set_cons_zero, List.set_cons_succ]
            refine heldY 6 42 ?_ _ rfl rfl (by kernel_rfl) (by kernel_rfl) (by kernel_rfl) (fun _ _ _ h => h) rfl (by assumption) ?_ ?_
            rotate_left
            · (intro w hSw; (try dsimp only at hSw); go_simp; (try with_reducible rfl))
            simp only [List.setIfInBounds_toArray, List.set_cons_zero, List.set_cons_succ]
            refine heldY 7 43 ?_ _ rfl rfl (by kernel_rfl) (by kernel_rfl) (by kernel_rfl) (fun _ _ _ h => h) rfl (by assumption) ?_ ?_
            rotate_left
            · (intro w hSw; (try dsimp only at hSw); go_simp; (try with_reducible rfl))
            simp only [List.setIfInBounds_toArray, List.set_cons_zero, List.set_cons_succ]
            refine wpAnyH_ready (rs := [8]) (by kernel_rfl) (by simp) ?_
            refine AllReadyH.cons rfl (fun K hK => ?_) AllReadyH.nil
            go_simp
            go_at_call 29; (with_reducible refine (FO _ (BE _ (by assumption))).mono ?_); rintro e w3 ⟨fa, fc, rfl, hb⟩
            refine hK.out _ _ ?_ (fun hHeld => ?_)
            · (try dsimp only); (first | assumption | exact hs | exact AtF.dr (w := wr) (l := [(⟨b2, o2 + k2 * 3, none⟩, .string X), (⟨b2, o2 + k2 * 3 + 2, none⟩, .bool z)]) hs | exact AtF.dr (w := wr) (l := [(⟨b2, o2 + k2 * 3, none⟩, .string X), (⟨b2, o2 + k2 * 3 + 2, none⟩, .bool z)]) (by assumption) | exact AtF.on (w := wr) (l := [(⟨b2, o2 + k2 * 3, none⟩, .string X), (⟨b2, o2 + k2 * 3 + 2, none⟩, .bool z)]) (by assumption) (by assumption) | exact AtF.al (w := wr) (l := [(⟨b2, o2 + k2 * 3, none⟩, .string X), (⟨b2, o2 + k2 * 3 + 2, none⟩, .bool z)]) (by assumption) _ | exact AtF.ald (w := wr) (l := [(⟨b2, o2 + k2 * 3, none⟩, .string X), (⟨b2, o2 + k2 * 3 + 2, none⟩, .bool z)]) (by assumption) _ | exact AtF.al (w := wr) (l := [(⟨b2, o2 + k2 * 3, none⟩, .string X), (⟨b2, o2 + k2 * 3 + 2, none⟩, .bool z)]) hs _ | exact AtF.ald (w := wr) (l := [(⟨b2, o2 + k2 * 3, none⟩, .string X), (⟨b2, o2 + k2 * 3 + 2, none⟩, .bool z)]) hs _)
            clear hK K
            try simp only [Act.put, List.setIfInBounds_toArray, List.set_cons_zero, List.set_cons_succ]
            refine heldY 9 45 ?_ _ rfl rfl (by kernel_rfl) (by kernel_rfl) (by kernel_rfl) (fun _ _ _ h => h) rfl (by assumption) ?_ ?_
            rotate_left
            · (intro w hSw; (try dsimp only at hSw); go_simp; (try with_reducible rfl))
            simp only [List.setIfInBounds_toArray, List.set_cons_zero, List.set_cons_succ]
            refine heldY 10 46 ?_ _ rfl rfl (by kernel_rfl) (by kernel_rfl) (by kernel_rfl) (fun _ _ _ h => h) rfl (by assumption) ?_ ?_
            rotate_left
            · (intro w hSw; (try dsimp only at hSw); go_simp; (try with_reducible rfl))
            simp only [List.setIfInBounds_toArray, List.set_cons_zero, List.set_cons_succ]
            refine wpAnyH_done (by kernel_rfl) ?_ _
            obtain ⟨x0, x2, hBE⟩ := (show _ ∧ _ ∧ _ from hHeld)
            have HB3 := Lib.hid (HB2.out.trans (hBE.mono hsz2))
            have HO3 := Lib.hid (OwnV.on HO2.out hBE)
            clear hHeld hs d0 d2 FO hb BE hBE
            have PU2 := fun W (hb : Below w3.heap.size w3 W) => PU _ W (OwnV.on HO3.out hb).holds
            have hs := And.intro x0 (And.intro x2 (Below.refl w3.heap.size w3))
            clear PU
            go_wp2
            have BE := fun (V : World) (h : V.cell? ⟨b2, o2 + k2 * 3, none⟩ = some (.string X) ∧ V.cell? ⟨b2, o2 + k2 * 3 + 2, none⟩ = some (.bool z) ∧ Below w3.heap.size w3 V) => AtF.be (w := w3) (l := [(⟨b2, o2 + k2 * 3, none⟩, .string X), (⟨b2, o2 + k2 * 3 + 2, none⟩, .bool z)]) h
            refine wp_region_held_drew (S := (fun V => V.cell? ⟨b2, o2 + k2 * 3, none⟩ = some (.string X) ∧ V.cell? ⟨b2, o2 + k2 * 3 + 2, none⟩ = some (.bool z) ∧ Below w3.heap.size w3 V)) (by kernel_rfl) ?_ (fun hHeld => ?_)
            · (try dsimp only); (first | assumption | exact hs | exact AtF.dr (w := w3) (l := [(⟨b2, o2 + k2 * 3, none⟩, .string X), (⟨b2, o2 + k2 * 3 + 2, none⟩, .bool z)]) hs | exact AtF.dr (w := w3) (l := [(⟨b2, o2 + k2 * 3, none⟩, .string X), (⟨b2, o2 + k2 * 3 + 2, none⟩, .bool z)]) (by assumption) | exact AtF.on (w := w3) (l := [(⟨b2, o2 + k2 * 3, none⟩, .string X), (⟨b2, o2 + k2 * 3 + 2, none⟩, .bool z)]) (by assumption) (by assumption) | exact AtF.al (w := w3) (l := [(⟨b2, o2 + k2 * 3, none⟩, .string X), (⟨b2, o2 + k2 * 3 + 2, none⟩, .bool z)]) (by assumption) _ | exact AtF.ald (w := w3) (l := [(⟨b2, o2 + k2 * 3, none⟩, .string X), (⟨b2, o2 + k2 * 3 + 2, none⟩, .bool z)]) (by assumption) _ | exact AtF.al (w := w3) (l := [(⟨b2, o2 + k2 * 3, none⟩, .string X), (⟨b2, o2 + k2 * 3 + 2, none⟩, .bool z)]) hs _ | exact AtF.ald (w := w3) (l := [(⟨b2, o2 + k2 * 3, none⟩, .string X), (⟨b2, o2 + k2 * 3 + 2, none⟩, .bool z)]) hs _)
            refine heldY 0 47 ?_ _ rfl rfl (by kernel_rfl) (by kernel_rfl) (by kernel_rfl) (fun _ _ _ h => h) rfl (by assumption) ?_ ?_
            rotate_left
            · (intro w hSw; (try dsimp only at hSw); go_simp; (try with_reducible rfl))
            simp only [List.setIfInBounds_toArray, List.set_cons_zero, List.set_cons_succ]
            refine heldY 1 48 ?_ _ rfl rfl (by kernel_rfl) (by kernel_rfl) (by kernel_rfl) (fun _ _ _ h => h) rfl (by assumption) ?_ ?_
            rotate_left
            · (intro w hSw; (try dsimp only at hSw); go_simp; (try with_reducible rfl))
            simp only [List.setIfInBounds_toArray, List.set_cons_zero, List.set_cons_succ]
            refine heldY 2 49 ?_ _ rfl rfl (by kernel_rfl) (by kernel_rfl) (by kernel_rfl) (fun _ _ _ h => h) rfl (by assumption) ?_ ?_
            rotate_left
            · (intro w hSw; (try dsimp only at hSw); go_simp; (try with_reducible rfl))
            simp only [List.setIfInBounds_toArray, List.set_cons_zero, List.set_cons_succ]
            refine heldY 3 50 ?_ _ rfl rfl (by kernel_rfl) (by kernel_rfl) (by kernel_rfl) (fun _ _ _ h => h) rfl (by assumption) ?_ ?_
            rotate_left
            · (intro w hSw; (try dsimp only at hSw); go_simp; (try with_reducible rfl))
            simp only [List.setIfInBounds_toArray, List.set_cons_zero, List.set_cons_succ]
            refine heldY 4 51 ?_ _ rfl rfl (by kernel_rfl) (by kernel_rfl) (by kernel_rfl) (fun _ _ _ h => h) rfl (by assumption) ?_ ?_
            rotate_left
            · (intro w hSw; (try dsimp only at hSw); go_simp; (try with_reducible rfl))
            simp only [List.setIfInBounds_toArray, List.set_cons_zero, List.set_cons_succ]
            refine heldY 5 52 ?_ _ rfl rfl (by kernel_rfl) (by kernel_rfl) (by kernel_rfl) (fun _ _ _ h => h) rfl (by assumption) ?_ ?_
            rotate_left
            · (intro w hSw; (try dsimp only at hSw); go_simp; (try with_reducible rfl))
            simp only [List.setIfInBounds_toArray, List.set_cons_zero, List.set_cons_succ]
            refine heldY 6 53 ?_ _ rfl rfl (by kernel_rfl) (by kernel_rfl) (by kernel_rfl) (fun _ _ _ h => h) rfl (by assumption) ?_ ?_
            rotate_left
            · (intro w hSw; (try dsimp only at hSw); go_simp; (try with_reducible rfl))
            simp only [List.setIfInBounds_toArray, List.set_cons_zero, List.set_cons_succ]
            refine heldY 7 54 ?_ _ rfl rfl (by kernel_rfl) (by kernel_rfl) (by kernel_rfl) (fun _ _ _ h => h) rfl (by assumption) ?_ ?_
            rotate_left
            · (intro w hSw; (try dsimp only at hSw); go_simp; (try with_reducible rfl))
            simp only [List.setIfInBounds_toArray, List.set_cons_zero, List.set_cons_succ]
            refine heldY 8 55 ?_ _ rfl rfl (by kernel_rfl) (by kernel_rfl) (by kernel_rfl) (fun _ _ _ h => h) rfl (by assumption) ?_ ?_
            rotate_left
            · (intro w hSw; (try dsimp only at hSw); go_simp; (try with_reducible rfl))
            simp only [List.setIfInBounds_toArray, List.set_cons_zero, List.set_cons_succ]
            refine heldY 9 56 ?_ _ rfl rfl (by kernel_rfl) (by kernel_rfl) (by kernel_rfl) (fun _ _ _ h => h) rfl (by assumption) ?_ ?_
            rotate_left
            · (intro w hSw; (try dsimp only at hSw); go_simp; (try with_reducible rfl))
            simp only [List.setIfInBounds_toArray, List.set_cons_zero, List.set_cons_succ]
            refine heldY 10 57 ?_ _ rfl rfl (by kernel_rfl) (by kernel_rfl) (by kernel_rfl) (fun _ _ _ h => h) rfl (by assumption) ?_ ?_
            rotate_left
            · (intro w hSw; (try dsimp only at hSw); go_simp; (try with_reducible rfl))
            simp only [List.setIfInBounds_toArray, List.set_cons_zero, List.set_cons_succ]
            refine heldY 11 58 ?_ _ rfl rfl (by kernel_rfl) (by kernel_rfl) (by kernel_rfl) (fun _ _ _ h => h) rfl (by assumption) ?_ ?_
            rotate_left
            · (intro w hSw; (try dsimp only at hSw); go_simp; (try with_reducible rfl))
            simp only [List.setIfInBounds_toArray, List.set_cons_zero, List.set_cons_succ]
            refine heldY 12 59 ?_ _ rfl rfl (by kernel_rfl) (by kernel_rfl) (by kernel_rfl) (fun _ _ _ h => h) rfl (by assumption) ?_ ?_
            rotate_left
            · (intro w hSw; (try dsimp only at hSw); go_simp; (try with_reducible rfl))
            simp only [List.setIfInBounds_toArray, List.set_cons_zero, List.set_cons_succ]
            refine wpAnyH_ready (rs := [13]) (by kernel_rfl) (by simp) ?_
            refine AllReadyH.cons rfl (fun K hK => ?_) AllReadyH.nil
            go_simp
            go_at_call 56; have HBq := Lib.hid (HB3.out.trans ((BE _ (by assumption)).mono HB3.out.size)); (with_reducible refine (PU2 _ (BE _ (by assumption))).mono ?_); rintro e w4 ⟨v4, rfl, ho, hb2⟩; have HO4 := Lib.hid (OwnV.mono ho HBq.out.size); have HB4 := Lib.hid (HBq.out.trans (hb2.mono HBq.out.size))
            refine hK.out _ _ ?_ (fun hHeld => ?_)
            · (try dsimp only); (first | assumption | exact hs | exact AtF.dr (w := w3) (l := [(⟨b2, o2 + k2 * 3, none⟩, .string X), (⟨b2, o2 + k2 * 3 + 2, none⟩, .bool z)]) hs | exact AtF.dr (w := w3) (l := [(⟨b2, o2 + k2 * 3, none⟩, .string X), (⟨b2, o2 + k2 * 3 + 2, none⟩, .bool z)]) (by assumption) | exact AtF.on (w := w3) (l := [(⟨b2, o2 + k2 * 3, none⟩, .string X), (⟨b2, o2 + k2 * 3 + 2, none⟩, .bool z)]) (by assumption) (by assumption) | exact AtF.al (w := w3) (l := [(⟨b2, o2 + k2 * 3, none⟩, .string X), (⟨b2, o2 + k2 * 3 + 2, none⟩, .bool z)]) (by assumption) _ | exact AtF.ald (w := w3) (l := [(⟨b2, o2 + k2 * 3, none⟩, .string X), (⟨b2, o2 + k2 * 3 + 2, none⟩, .bool z)]) (by assumption) _ | exact AtF.al (w := w3) (l := [(⟨b2, o2 + k2 * 3, none⟩, .string X), (⟨b2, o2 + k2 * 3 + 2, none⟩, .bool z)]) hs _ | exact AtF.ald (w := w3) (l := [(⟨b2, o2 + k2 * 3, none⟩, .string X), (⟨b2, o2 + k2 * 3 + 2, none⟩, .bool z)]) hs _)
            clear hK K
            try simp only [Act.put, List.setIfInBounds_toArray, List.set_cons_zero, List.set_cons_succ]
            refine heldY 14 7 ?_ _ rfl rfl (by kernel_rfl) (by kernel_rfl) (by kernel_rfl) (fun _ _ _ h => h) rfl (by assumption) ?_ ?_
            rotate_left
            · (intro w hSw; (try dsimp only at hSw); go_simp; (try with_reducible rfl))
            simp only [List.setIfInBounds_toArray, List.set_cons_zero, List.set_cons_succ]
            refine wpAnyH_done (by kernel_rfl) ?_ _
            clear hHeld
            go_wp2
            go_roundw
            case rel => exact ⟨k2 + 1, by omega, by go_num, Lib.hid (by rw [HK.out]; exact HO4.out), HB4⟩
            case measure => simp [intOf]; omega
          · have HK := Lib.hid (refI_old (l := l) (p := p) hx hf)
            have hne : ¬ (((forI (own.take k2) t).length : Int) = 0) := by omega
            generalize (forI (own.take k2) t).length = nf at *
            clear hx hf hpre d1 d2
            generalize bsT t = X at *
            have hs := And.intro d0 (Below.refl wr.heap.size wr)
            go_wp2
            have BE := fun (V : World) (h : V.cell? ⟨b2, o2 + k2 * 3, none⟩ = some (.string X) ∧ Below wr.heap.size wr V) => AtF.be (w := wr) (l := [(⟨b2, o2 + k2 * 3, none⟩, .string X)]) h
            refine wp_region_held_drew (S := (fun V => V.cell? ⟨b2, o2 + k2 * 3, none⟩ = some (.string X) ∧ Below wr.heap.size wr V)) (by kernel_rfl) ?_ (fun hHeld => ?_)
            · (try dsimp only); (first | assumption | exact hs | exact AtF.dr (w := wr) (l := [(⟨b2, o2 + k2 * 3, none⟩, .string X)]) hs | exact AtF.dr (w := wr) (l := [(⟨b2, o2 + k2 * 3, none⟩, .string X)]) (by assumption) | exact AtF.on (w := wr) (l := [(⟨b2, o2 + k2 * 3, none⟩, .string X)]) (by assumption) (by assumption) | exact AtF.al (w := wr) (l := [(⟨b2, o2 + k2 * 3, none⟩, .string X)]) (by assumption) _ | exact AtF.ald (w := wr) (l := [(⟨b2, o2 + k2 * 3, none⟩, .string X)]) (by assumption) _ | exact AtF.al (w := wr) (l := [(⟨b2, o2 + k2 * 3, none⟩, .string X)]) hs _ | exact AtF.ald (w := wr) (l := [(⟨b2, o2 + k2 * 3, none⟩, .string X)]) hs _)
            refine heldY 0 36 ?_ _ rfl rfl (by kernel_rfl) (by kernel_rfl) (by kernel_rfl) (fun _ _ _ h => h) rfl (by assumption) ?_ ?_
            rotate_left
            · (intro w hSw; (try dsimp only at hSw); go_simp; (try with_reducible rfl))
            simp only [List.setIfInBounds_toArray, List.set_cons_zero, List.set_cons_succ]
            refine heldY 1 37 ?_ _ rfl rfl (by kernel_rfl) (by kernel_rfl) (by kernel_rfl) (fun _ _ _ h => h) rfl (by assumption) ?_ ?_
            rotate_left
            · (intro w hSw; (try dsimp only at hSw); go_simp; (try with_reducible rfl))
            simp only [List.setIfInBounds_toArray, List.set_cons_zero, List.set_cons_succ]
            refine heldY 2 38 ?_ _ rfl rfl (by kernel_rfl) (by kernel_rfl) (by kernel_rfl) (fun _ _ _ h => h) rfl (by assumption) ?_ ?_
            rotate_left
            · (intro w hSw; (try dsimp only at hSw); go_simp; (try with_reducible rfl))
            simp only [List.setIfInBounds_toArray, List.set_cons_zero, List.set_cons_succ]
            refine heldY 3 39 ?_ _ rfl rfl (by kernel_rfl) (by kernel_rfl) (by kernel_rfl) (fun _ _ _ h => h) rfl (by assumption) ?_ ?_
            rotate_left
            · (intro w hSw; (try dsimp only at hSw); go_simp; (try with_reducible rfl))
            simp only [List.setIfInBounds_toArray, List.set_cons_zero, List.set_cons_succ]
            refine heldY 4 40 ?_ _ rfl rfl (by kernel_rfl) (by kernel_rfl) (by kernel_rfl) (fun _ _ _ h => h) rfl (by assumption) ?_ ?_
            rotate_left
            · (intro w hSw; (try dsimp only at hSw); go_simp; (try with_reducible rfl))
            simp only [List.setIfInBounds_toArray, List.set_cons_zero, List.set_cons_succ]
            refine heldY 5 41 ?_ _ rfl rfl (by kernel_rfl) (by kernel_rfl) (by kernel_rfl) (fun _ _ _ h => h) rfl (by assumption) ?_ ?_
            rotate_left
            · (intro w hSw; (try dsimp only at hSw); go_simp; (try with_reducible rfl))
            simp only [List.setIfInBounds_toArray, List.set_cons_zero, List.set_cons_succ]
            refine heldY 6 42 ?_ _ rfl rfl (by kernel_rfl) (by kernel_rfl) (by kernel_rfl) (fun _ _ _ h => h) rfl (by assumption) ?_ ?_
            rotate_left
            · (intro w hSw; (try dsimp only at hSw); go_simp; (try with_reducible rfl))
            simp only [List.setIfInBounds_toArray, List.set_cons_zero, List.set_cons_succ]
            refine heldY 7 43 ?_ _ rfl rfl (by kernel_rfl) (by kernel_rfl) (by kernel_rfl) (fun _ _ _ h => h) rfl (by assumption) ?_ ?_
            rotate_left
            · (intro w hSw; (try dsimp only at hSw); go_simp; (try with_reducible rfl))
            simp only [List.setIfInBounds_toArray, List.set_cons_zero, List.set_cons_succ]
            refine wpAnyH_ready (rs := [8]) (by kernel_rfl) (by simp) ?_
            refine AllReadyH.cons rfl (fun K hK => ?_) AllReadyH.nil
            go_simp
            go_at_call 29; (with_reducible refine (FO _ (BE _ (by assumption))).mono ?_); rintro e w3 ⟨fa, fc, rfl, hb⟩
            refine hK.out _ _ ?_ (fun hHeld => ?_)
            · (try dsimp only); (first | assumption | exact hs | exact AtF.dr (w := wr) (l := [(⟨b2, o2 + k2 * 3, none⟩, .string X)]) hs | exact AtF.dr (w := wr) (l := [(⟨b2, o2 + k2 * 3, none⟩, .string X)]) (by assumption) | exact AtF.on (w := wr) (l := [(⟨b2, o2 + k2 * 3, none⟩, .string X)]) (by assumption) (by assumption) | exact AtF.al (w := wr) (l := [(⟨b2, o2 + k2 * 3, none⟩, .string X)]) (by assumption) _ | exact AtF.ald (w := wr) (l := [(⟨b2, o2 + k2 * 3, none⟩, .string X)]) (by assumption) _ | exact AtF.al (w := wr) (l := [(⟨b2, o2 + k2 * 3, none⟩, .string X)]) hs _ | exact AtF.ald (w := wr) (l := [(⟨b2, o2 + k2 * 3, none⟩, .string X)]) hs _)
            clear hK K
            try simp only [Act.put, List.setIfInBounds_toArray, List.set_cons_zero, List.set_cons_succ]
            refine heldY 9 45 ?_ _ rfl rfl (by kernel_rfl) (by kernel_rfl) (by kernel_rfl) (fun _ _ _ h => h) rfl (by assumption) ?_ ?_
            rotate_left
            · (intro w hSw; (try dsimp only at hSw); go_simp; (try with_reducible rfl))
            simp only [List.setIfInBounds_toArray, List.set_cons_zero, List.set_cons_succ]
            refine heldY 10 46 ?_ _ rfl rfl (by kernel_rfl) (by kernel_rfl) (by kernel_rfl) (fun _ _ _ h => h) rfl (by assumption) ?_ ?_
            rotate_left
            · (intro w hSw; (try dsimp only at hSw); go_simp; (try with_reducible rfl))
            simp only [List.setIfInBounds_toArray, List.set_cons_zero, List.set_cons_succ]
            refine wpAnyH_done (by kernel_rfl) ?_ _
            have hBE := BE _ hHeld
            have HB3 := Lib.hid (HB2.out.trans (hBE.mono hsz2))
            have HO3 := Lib.hid (OwnV.on HO2.out hBE)
            clear hHeld hBE
            go_wp2
            go_roundw
            case rel => exact ⟨k2 + 1, by omega, by go_num, Lib.hid (by rw [HK.out]; have := HO3.out; rw [List.length_map] at this; exact this), HB3⟩
            case measure => simp [intOf]; omega
        · obtain rfl : k2 = n2 := by omega
          rw [HRA.out] at HO2
          clear hlt
          go_wp2
          go_ret
          exact HPOST.out _ _ HO2.out HB2.out
end Go.Proofs.YtceohgjfjndcmaaGreatDoor
