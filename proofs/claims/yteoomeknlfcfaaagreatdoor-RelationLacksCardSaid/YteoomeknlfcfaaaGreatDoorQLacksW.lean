/-
  The law RelationLacks, walked: true; nothing old turns. Condition: LaidQ.
-/
import Derived.Test.YteoomeknlfcfaaaGreatDoorQLackE
namespace Go.Proofs.YteoomeknlfcfaaaGreatDoor.relationLacksw
open Go.RowKit
theorem int_cells {w : World} {B : Nat} {a : Option Addr} {n c : Nat} {K : List Nat} (h : OwnI w B (.slice a n c) K) : n = K.length ∧ ∃ (b o : Nat), (0 < n → a = some ⟨b, o, none⟩ ∧ b < w.heap.size) ∧ ∀ (j : Nat) x, K[j]? = some x → w.cell? ⟨b, o + j, none⟩ = some (.int .i64 (x : Int)) := by
  obtain ⟨a', c', b, o, e, hc, ha, hcell⟩ := OwnV.holds h
  rw [List.length_map] at e ha
  simp only [Value.slice.injEq] at e
  obtain ⟨rfl, rfl, rfl⟩ := e
  refine ⟨rfl, b, o, ha, fun j x hx => ?_⟩
  have := hcell j [Value.int .i64 (x : Int)] (by rw [List.getElem?_map, hx]; rfl) 0 _ (by omega) rfl
  simpa using this
set_option maxRecDepth 100000 in
set_option maxHeartbeats 16000000 in
theorem walk (v u : Value) (l : List Gv) (t : List Rl) (P Q Z : ByteArray) (w : World) (h : HoldGs w v l) (h2 : HoldQ w u t) (hL : LaidQ w) : Calls Tryz.prog 7 #[v, u, .agg #[.string P, .string Q, .string Z]] w fun e w' => e = .returned (.bool true) ∧ Below w.heap.size w w' := by
  have A7 := fun W h => awake7 W h
  have B0 := (Below.refl w.heap.size w).alloc (Nat.le_refl _) (.cells #[.string P, .string Q, .string Z] 23)
  have FW := few_any v l _ (h.on B0)
  obtain ⟨z0, z1, z2⟩ := boxV3 w (.string P) (.string Q) (.string Z) 23
  have hlt : w.heap.size < (w.alloc (.cells #[.string P, .string Q, .string Z] 23)).heap.size := by rw [World.size_alloc]; omega
  have HB0 := Lib.hid B0
  have HL := Lib.hid (hL.on B0)
  have HG := Lib.hid (h.on B0)
  have HT := Lib.hid (HoldV.on h2 B0)
  obtain ⟨a, c, b, o, rfl, hc, ha, hcell⟩ := (h.on B0).parts
  obtain ⟨ua, uc, ub, uo, rfl, huc, hua, hucell⟩ := HoldQ.parts HT.out
  have HUC := Lib.hid hucell
  have HBX : Hid (∀ W, Below (w.alloc (.cells #[.string P, .string Q, .string Z] 23)).heap.size (w.alloc (.cells #[.string P, .string Q, .string Z] 23)) W → W.cell? ⟨w.heap.size, 0, none⟩ = some (.string P) ∧ W.cell? ⟨w.heap.size, 1, none⟩ = some (.string Q) ∧ W.cell? ⟨w.heap.size, 2, none⟩ = some (.string Z)) := Lib.hid (fun W hW => ⟨(hW.cell (p := ⟨w.heap.size, 0, none⟩) hlt).trans z0, (hW.cell (p := ⟨w.heap.size, 1, none⟩) hlt).trans z1, (hW.cell (p := ⟨w.heap.size, 2, none⟩) hlt).trans z2⟩)
  have FW2 : Hid (∀ W, Below (w.alloc (.cells #[.string P, .string Q, .string Z] 23)).heap.size (w.alloc (.cells #[.string P, .string Q, .string Z] 23)) W → Calls Tryz.prog 8 #[.slice (some ⟨W.heap.size + 1, 0, none⟩) 2 2] ((W.alloc (.cells #[.string P, .string Q, .string Z] 23)).alloc (.cells #[.slice ua t.length uc, .slice (some ⟨W.heap.size, 0, none⟩) 1 1] 25)) (fun e w' => ∃ fb, e = .returned (.bool fb) ∧ (fb = true → t.length ≤ 70 ∧ SmallQ t ∧ Small1 (P.data.toList, Q.data.toList, Z.data.toList)) ∧ Below W.heap.size W w')) := Lib.hid (fun W hW => (few_any _ _ _ (hold_two W P Q Z _ t (HoldV.on HT.out hW))).mono (fun e w' hp => by
    obtain ⟨fb, he, hf, hb⟩ := hp
    have b1 := (Below.refl W.heap.size W).alloc (Nat.le_refl _) (.cells #[.string P, .string Q, .string Z] 23)
    have b2 := b1.alloc b1.size (.cells #[.slice ua t.length uc, .slice (some ⟨W.heap.size, 0, none⟩) 1 1] 25)
    exact ⟨fb, he, fun e => few_two (hf e), b2.trans (hb.mono b2.size)⟩))
  obtain ⟨n, hN⟩ : ∃ n, l.length = n := ⟨_, rfl⟩
  obtain ⟨tn, hTN⟩ : ∃ tn, t.length = tn := ⟨_, rfl⟩
  rw [hN] at hc ha FW HG ⊢
  rw [hTN] at huc hua FW2 HT ⊢
  have HN := Lib.hid hN
  have HTN := Lib.hid hTN
  clear hcell hucell h h2 hL hN hTN B0 z0 z1 z2
  go_enter Tryz.func7, Tryz.ntmps7
  go_wp2_with (first
    | (go_at_call 8; (with_reducible refine FW.mono ?_); rintro e w1 ⟨fb, rfl, hfb, hb⟩; have HB1 := Lib.hid hb; have HFB := Lib.hid hfb; have F2 := Lib.hid (FW2.out _ hb); obtain ⟨k0, k1, k2⟩ := HBX.out _ hb; clear hb FW hfb; cases fb)
    | (go_at_call 8; (with_reducible refine F2.out.mono ?_); rintro e w2 ⟨fb2, rfl, hfb2, hb⟩; have HB2 := Lib.hid (HB1.out.trans (hb.mono HB1.out.size)); have HFB2 := Lib.hid hfb2; clear hb F2 hfb2 k0 k1 k2; cases fb2)
    | (go_at_call 9; (with_reducible refine (A7 _ (HL.out.on HB2.out)).mono ?_); rintro e w3 ⟨rfl, hb⟩; have HB9 := Lib.hid (HB2.out.trans (hb.mono HB2.out.size)); clear hb)
    | (go_at_call 9; (with_reducible refine (A7 _ (HL.out.on HB1.out)).mono ?_); rintro e w3 ⟨rfl, hb⟩; have HB9 := Lib.hid (HB1.out.trans (hb.mono HB1.out.size)); clear hb))
  · go_ret
    exact ⟨rfl, HB0.out.trans (HB9.out.mono HB0.out.size)⟩
  · go_ret
    exact ⟨rfl, HB0.out.trans (HB9.out.mono HB0.out.size)⟩
  obtain ⟨w0, hw0⟩ : ∃ w0, w.alloc (.cells #[.string P, .string Q, .string Z] 23) = w0 := ⟨_, rfl⟩
  rw [hw0] at HB1 HB2 HB0 HL HG HT HBX HUC ha hua hlt
  clear hw0
  have hfew := HFB.out trivial
  obtain ⟨ht70, hts, hms⟩ := HFB2.out trivial
  have hn70 := hfew.n
  rw [HN.out] at hn70
  have HTS := Lib.hid hts
  have HMS := Lib.hid hms
  have hsz2 := HB2.out.size
  clear hts hms hfew HFB2
  clear FW2
  go_loopw [7] (fun i wr => ∃ k : Nat, k ≤ tn ∧ i = .int .i64 k ∧ Hid (Below w0.heap.size w0 wr)) (fun i _ => tn - (intOf i).toNat)
  case atStart => exact ⟨0, by omega, rfl, HB2⟩
  case round =>
    obtain ⟨k, hk, rfl, HBK⟩ := hrel
    obtain ⟨wz, rfl⟩ : ∃ wz : World, wz = wr := ⟨_, rfl⟩
    have hszk := HBK.out.size
    by_cases hltk : k < tn
    · obtain ⟨rfl, hub⟩ := hua (by omega)
      obtain ⟨⟨p', q', z'⟩, hy'⟩ : ∃ y, t[k]? = some y := ⟨_, List.getElem?_eq_getElem (by rw [HTN.out]; exact hltk)⟩
      have f := HUC.out k _ hy'
      dsimp only at f
      obtain ⟨f0, -, f2⟩ := f
      rw [← HBK.out.cell (p := ⟨ub, uo + k * 3, none⟩) hub] at f0
      rw [← HBK.out.cell (p := ⟨ub, uo + k * 3 + 2, none⟩) hub] at f2
      obtain ⟨e0, e1, e2⟩ := HBX.out _ HBK.out
      have hzs := (HTS.out _ (List.mem_of_getElem? hy')).2.2
      dsimp only at hzs
      have hms := HMS.out.2.2
      dsimp only at hms
      have FA := fun W (hL : LaidV W) => fits_any P Q Z (bsT p') (bsT z') (by rw [sizeOf]; exact hms) (by rw [sizeOf, bytesOf]; exact hzs) W hL
      have FR := fun W => fits_ref P Q Z (bsT p') (bsT z') (by rw [sizeOf]; exact hms) (by rw [sizeOf, bytesOf]; exact hzs) W
      rw [bytesOf, bytesOf] at FA FR
      generalize bsT p' = X' at *
      generalize bsT z' = Z' at *
      generalize fitsB (P.data.toList, Q.data.toList, Z.data.toList) p' z' = fb at *
      have HLK := Lib.hid (HL.out.on HBK.out)
      have hB := Below.refl wz.heap.size wz
      have hs := And.intro e0 (And.intro e1 (And.intro e2 (And.intro f0 (And.intro f2 hB))))
      have j0 : (0 : Int) ≤ (k : Int) := by omega
      have j1 : (k : Int) < (tn : Int) := by omega
      clear hy' hzs hms
      go_wp2
      have BE := fun (V : World) (h : V.cell? ⟨w.heap.size, 0, none⟩ = some (.string P) ∧ V.cell? ⟨w.heap.size, 1, none⟩ = some (.string Q) ∧ V.cell? ⟨w.heap.size, 2, none⟩ = some (.string Z) ∧ V.cell? ⟨ub, uo + k * 3, none⟩ = some (.string X') ∧ V.cell? ⟨ub, uo + k * 3 + 2, none⟩ = some (.string Z') ∧ Below wz.heap.size wz V) => AtF.be (w := wz) (l := [(⟨w.heap.size, 0, none⟩, .string P), (⟨w.heap.size, 1, none⟩, .string Q), (⟨w.heap.size, 2, none⟩, .string Z), (⟨ub, uo + k * 3, none⟩, .string X'), (⟨ub, uo + k * 3 + 2, none⟩, .string Z')]) h
      refine wp_region_held_drew (S := (fun V => V.cell? ⟨w.heap.size, 0, none⟩ = some (.string P) ∧ V.cell? ⟨w.heap.size, 1, none⟩ = some (.string Q) ∧ V.cell? ⟨w.heap.size, 2, none⟩ = some (.string Z) ∧ V.cell? ⟨ub, uo + k * 3, none⟩ = some (.string X') ∧ V.cell? ⟨ub, uo + k * 3 + 2, none⟩ = some (.string Z') ∧ Below wz.heap.size wz V)) (by kernel_rfl) ?_ (fun hHeld => ?_)
      · (try dsimp only); (first | assumption | exact hs | exact AtF.dr (w := wz) (l := [(⟨w.heap.size, 0, none⟩, .string P), (⟨w.heap.size, 1, none⟩, .string Q), (⟨w.heap.size, 2, none⟩, .string Z), (⟨ub, uo + k * 3, none⟩, .string X'), (⟨ub, uo + k * 3 + 2, none⟩, .string Z')]) hs | exact AtF.dr (w := wz) (l := [(⟨w.heap.size, 0, none⟩, .string P), (⟨w.heap.size, 1, none⟩, .string Q), (⟨w.heap.size, 2, none⟩, .string Z), (⟨ub, uo + k * 3, none⟩, .string X'), (⟨ub, uo + k * 3 + 2, none⟩, .string Z')]) (by assumption) | exact AtF.on (w := wz) (l := [(⟨w.heap.size, 0, none⟩, .string P), (⟨w.heap.size, 1, none⟩, .string Q), (⟨w.heap.size, 2, none⟩, .string Z), (⟨ub, uo + k * 3, none⟩, .string X'), (⟨ub, uo + k * 3 + 2, none⟩, .string Z')]) (by assumption) (by assumption) | exact AtF.al (w := wz) (l := [(⟨w.heap.size, 0, none⟩, .string P), (⟨w.heap.size, 1, none⟩, .string Q), (⟨w.heap.size, 2, none⟩, .string Z), (⟨ub, uo + k * 3, none⟩, .string X'), (⟨ub, uo + k * 3 + 2, none⟩, .string Z')]) (by assumption) _ | exact AtF.ald (w := wz) (l := [(⟨w.heap.size, 0, none⟩, .string P), (⟨w.heap.size, 1, none⟩, .string Q), (⟨w.heap.size, 2, none⟩, .string Z), (⟨ub, uo + k * 3, none⟩, .string X'), (⟨ub, uo + k * 3 + 2, none⟩, .string Z')]) (by assumption) _ | exact AtF.al (w := wz) (l := [(⟨w.heap.size, 0, none⟩, .string P), (⟨w.heap.size, 1, none⟩, .string Q), (⟨w.heap.size, 2, none⟩, .string Z), (⟨ub, uo + k * 3, none⟩, .string X'), (⟨ub, uo + k * 3 + 2, none⟩, .string Z')]) hs _ | exact AtF.ald (w := wz) (l := [(⟨w.heap.size, 0, none⟩, .string P), (⟨w.heap.size, 1, none⟩, .string Q), (⟨w.heap.size, 2, none⟩, .string Z), (⟨ub, uo + k * 3, none⟩, .string X'), (⟨ub, uo + k * 3 + 2, none⟩, .string Z')]) hs _)
      refine heldY 0 34 ?_ _ rfl rfl (by kernel_rfl) (by kernel_rfl) (by kernel_rfl) (fun _ _ _ h => h) rfl (by assumption) ?_ ?_
      rotate_left
      · (intro w hSw; (try dsimp only at hSw); go_simp; (try with_reducible rfl))
      simp only [List.setIfInBounds_toArray, List.set_cons_zero, List.set_cons_succ]
      refine heldY 1 35 ?_ _ rfl rfl (by kernel_rfl) (by kernel_rfl) (by kernel_rfl) (fun _ _ _ h => h) rfl (by assumption) ?_ ?_
      rotate_left
      · (intro w hSw; (try dsimp only at hSw); go_simp; (try with_reducible rfl))
      simp only [List.setIfInBounds_toArray, List.set_cons_zero, List.set_cons_succ]
      refine heldY 2 36 ?_ _ rfl rfl (by kernel_rfl) (by kernel_rfl) (by kernel_rfl) (fun _ _ _ h => h) rfl (by assumption) ?_ ?_
      rotate_left
      · (intro w hSw; (try dsimp only at hSw); go_simp; (try with_reducible rfl))
      simp only [List.setIfInBounds_toArray, List.set_cons_zero, List.set_cons_succ]
      refine heldY 3 37 ?_ _ rfl rfl (by kernel_rfl) (by kernel_rfl) (by kernel_rfl) (fun _ _ _ h => h) rfl (by assumption) ?_ ?_
      rotate_left
      · (intro w hSw; (try dsimp only at hSw); go_simp; (try with_reducible rfl))
      simp only [List.setIfInBounds_toArray, List.set_cons_zero, List.set_cons_succ]
      refine heldY 4 38 ?_ _ rfl rfl (by kernel_rfl) (by kernel_rfl) (by kernel_rfl) (fun _ _ _ h => h) rfl (by assumption) ?_ ?_
      rotate_left
      · (intro w hSw; (try dsimp only at hSw); go_simp; (try with_reducible rfl))
      simp only [List.setIfInBounds_toArray, List.set_cons_zero, List.set_cons_succ]
      refine heldY 5 39 ?_ _ rfl rfl (by kernel_rfl) (by kernel_rfl) (by kernel_rfl) (fun _ _ _ h => h) rfl (by assumption) ?_ ?_
      rotate_left
      · (intro w hSw; (try dsimp only at hSw); go_simp; (try with_reducible rfl))
      simp only [List.setIfInBounds_toArray, List.set_cons_zero, List.set_cons_succ]
      refine heldY 6 40 ?_ _ rfl rfl (by kernel_rfl) (by kernel_rfl) (by kernel_rfl) (fun _ _ _ h => h) rfl (by assumption) ?_ ?_
      rotate_left
      · (intro w hSw; (try dsimp only at hSw); go_simp; (try with_reducible rfl))
      simp only [List.setIfInBounds_toArray, List.set_cons_zero, List.set_cons_succ]
      refine heldY 7 41 ?_ _ rfl rfl (by kernel_rfl) (by kernel_rfl) (by kernel_rfl) (fun _ _ _ h => h) rfl (by assumption) ?_ ?_
      rotate_left
      · (intro w hSw; (try dsimp only at hSw); go_simp; (try with_reducible rfl))
      simp only [List.setIfInBounds_toArray, List.set_cons_zero, List.set_cons_succ]
      refine heldY 8 42 ?_ _ rfl rfl (by kernel_rfl) (by kernel_rfl) (by kernel_rfl) (fun _ _ _ h => h) rfl (by assumption) ?_ ?_
      rotate_left
      · (intro w hSw; (try dsimp only at hSw); go_simp; (try with_reducible rfl))
      simp only [List.setIfInBounds_toArray, List.set_cons_zero, List.set_cons_succ]
      refine heldY 9 43 ?_ _ rfl rfl (by kernel_rfl) (by kernel_rfl) (by kernel_rfl) (fun _ _ _ h => h) rfl (by assumption) ?_ ?_
      rotate_left
      · (intro w hSw; (try dsimp only at hSw); go_simp; (try with_reducible rfl))
      simp only [List.setIfInBounds_toArray, List.set_cons_zero, List.set_cons_succ]
      refine heldY 10 44 ?_ _ rfl rfl (by kernel_rfl) (by kernel_rfl) (by kernel_rfl) (fun _ _ _ h => h) rfl (by assumption) ?_ ?_
      rotate_left
      · (intro w hSw; (try dsimp only at hSw); go_simp; (try with_reducible rfl))
      simp only [List.setIfInBounds_toArray, List.set_cons_zero, List.set_cons_succ]
      refine heldY 12 46 ?_ _ rfl rfl (by kernel_rfl) (by kernel_rfl) (by kernel_rfl) (fun _ _ _ h => h) rfl (by assumption) ?_ ?_
      rotate_left
      · (intro w hSw; (try dsimp only at hSw); go_simp; (try with_reducible rfl))
      simp only [List.setIfInBounds_toArray, List.set_cons_zero, List.set_cons_succ]
      refine heldY 13 47 ?_ _ rfl rfl (by kernel_rfl) (by kernel_rfl) (by kernel_rfl) (fun _ _ _ h => h) rfl (by assumption) ?_ ?_
      rotate_left
      · (intro w hSw; (try dsimp only at hSw); go_simp; (try with_reducible rfl))
      simp only [List.setIfInBounds_toArray, List.set_cons_zero, List.set_cons_succ]
      refine heldY 14 48 ?_ _ rfl rfl (by kernel_rfl) (by kernel_rfl) (by kernel_rfl) (fun _ _ _ h => h) rfl (by assumption) ?_ ?_
      rotate_left
      · (intro w hSw; (try dsimp only at hSw); go_simp; (try with_reducible rfl))
      simp only [List.setIfInBounds_toArray, List.set_cons_zero, List.set_cons_succ]
      refine heldY 15 49 ?_ _ rfl rfl (by kernel_rfl) (by kernel_rfl) (by kernel_rfl) (fun _ _ _ h => h) rfl (by assumption) ?_ ?_
      rotate_left
      · (intro w hSw; (try dsimp only at hSw); go_simp; (try with_reducible rfl))
      simp only [List.setIfInBounds_toArray, List.set_cons_zero, List.set_cons_succ]
      refine heldY 16 50 ?_ _ rfl rfl (by kernel_rfl) (by kernel_rfl) (by kernel_rfl) (fun _ _ _ h => h) rfl (by assumption) ?_ ?_
      rotate_left
      · (intro w hSw; (try dsimp only at hSw); go_simp; (try with_reducible rfl))
      simp only [List.setIfInBounds_toArray, List.set_cons_zero, List.set_cons_succ]
      refine heldY 17 51 ?_ _ rfl rfl (by kernel_rfl) (by kernel_rfl) (by kernel_rfl) (fun _ _ _ h => h) rfl (by assumption) ?_ ?_
      rotate_left
      · (intro w hSw; (try dsimp only at hSw); go_simp; (try with_reducible rfl))
      simp only [List.setIfInBounds_toArray, List.set_cons_zero, List.set_cons_succ]
      refine heldY 18 52 ?_ _ rfl rfl (by kernel_rfl) (by kernel_rfl) (by kernel_rfl) (fun _ _ _ h => h) rfl (by assumption) ?_ ?_
      rotate_left
      · (intro w hSw; (try dsimp only at hSw); go_simp; (try with_reducible rfl))
      simp only [List.setIfInBounds_toArray, List.set_cons_zero, List.set_cons_succ]
      refine heldY 19 53 ?_ _ rfl rfl (by kernel_rfl) (by kernel_rfl) (by kernel_rfl) (fun _ _ _ h => h) rfl (by assumption) ?_ ?_
      rotate_left
      · (intro w hSw; (try dsimp only at hSw); go_simp; (try with_reducible rfl))
      simp only [List.setIfInBounds_toArray, List.set_cons_zero, List.set_cons_succ]
      refine heldY 20 54 ?_ _ rfl rfl (by kernel_rfl) (by kernel_rfl) (by kernel_rfl) (fun _ _ _ h => h) rfl (by assumption) ?_ ?_
      rotate_left
      · (intro w hSw; (try dsimp only at hSw); go_simp; (try with_reducible rfl))
      simp only [List.setIfInBounds_toArray, List.set_cons_zero, List.set_cons_succ]
      refine heldY 21 55 ?_ _ rfl rfl (by kernel_rfl) (by kernel_rfl) (by kernel_rfl) (fun _ _ _ h => h) rfl (by assumption) ?_ ?_
      rotate_left
      · (intro w hSw; (try dsimp only at hSw); go_simp; (try with_reducible rfl))
      simp only [List.setIfInBounds_toArray, List.set_cons_zero, List.set_cons_succ]
      refine heldY 22 56 ?_ _ rfl rfl (by kernel_rfl) (by kernel_rfl) (by kernel_rfl) (fun _ _ _ h => h) rfl (by assumption) ?_ ?_
      rotate_left
      · (intro w hSw; (try dsimp only at hSw); go_simp; (try with_reducible rfl))
      simp only [List.setIfInBounds_toArray, List.set_cons_zero, List.set_cons_succ]
      refine wpAnyH_ready (rs := [11]) (by kernel_rfl) (by simp) ?_
      refine AllReadyH.cons rfl (fun K hK => ?_) AllReadyH.nil
      go_simp
      first | (go_at_call 27; (with_reducible refine (FA _ (HLK.out.on (BE _ (by assumption))).v).mono ?_); rintro e w3 ⟨rfl, hb⟩) | (go_at_call 28; (with_reducible refine (FR _).mono ?_); rintro e w3 ⟨rfl, hb⟩)
      refine hK.out _ _ ?_ (fun hHeld => ?_)
      · (try dsimp only); (first | assumption | exact hs | exact AtF.dr (w := wz) (l := [(⟨w.heap.size, 0, none⟩, .string P), (⟨w.heap.size, 1, none⟩, .string Q), (⟨w.heap.size, 2, none⟩, .string Z), (⟨ub, uo + k * 3, none⟩, .string X'), (⟨ub, uo + k * 3 + 2, none⟩, .string Z')]) hs | exact AtF.dr (w := wz) (l := [(⟨w.heap.size, 0, none⟩, .string P), (⟨w.heap.size, 1, none⟩, .string Q), (⟨w.heap.size, 2, none⟩, .string Z), (⟨ub, uo + k * 3, none⟩, .string X'), (⟨ub, uo + k * 3 + 2, none⟩, .string Z')]) (by assumption) | exact AtF.on (w := wz) (l := [(⟨w.heap.size, 0, none⟩, .string P), (⟨w.heap.size, 1, none⟩, .string Q), (⟨w.heap.size, 2, none⟩, .string Z), (⟨ub, uo + k * 3, none⟩, .string X'), (⟨ub, uo + k * 3 + 2, none⟩, .string Z')]) (by assumption) (by assumption) | exact AtF.al (w := wz) (l := [(⟨w.heap.size, 0, none⟩, .string P), (⟨w.heap.size, 1, none⟩, .string Q), (⟨w.heap.size, 2, none⟩, .string Z), (⟨ub, uo + k * 3, none⟩, .string X'), (⟨ub, uo + k * 3 + 2, none⟩, .string Z')]) (by assumption) _ | exact AtF.ald (w := wz) (l := [(⟨w.heap.size, 0, none⟩, .string P), (⟨w.heap.size, 1, none⟩, .string Q), (⟨w.heap.size, 2, none⟩, .string Z), (⟨ub, uo + k * 3, none⟩, .string X'), (⟨ub, uo + k * 3 + 2, none⟩, .string Z')]) (by assumption) _ | exact AtF.al (w := wz) (l := [(⟨w.heap.size, 0, none⟩, .string P), (⟨w.heap.size, 1, none⟩, .string Q), (⟨w.heap.size, 2, none⟩, .string Z), (⟨ub, uo + k * 3, none⟩, .string X'), (⟨ub, uo + k * 3 + 2, none⟩, .string Z')]) hs _ | exact AtF.ald (w := wz) (l := [(⟨w.heap.size, 0, none⟩, .string P), (⟨w.heap.size, 1, none⟩, .string Q), (⟨w.heap.size, 2, none⟩, .string Z), (⟨ub, uo + k * 3, none⟩, .string X'), (⟨ub, uo + k * 3 + 2, none⟩, .string Z')]) hs _)
      clear hK K
      try simp only [Act.put, List.setIfInBounds_toArray, List.set_cons_zero, List.set_cons_succ]
      refine wpAnyH_ready (rs := [23]) (by kernel_rfl) (by simp) ?_
      refine AllReadyH.cons rfl (fun K hK => ?_) AllReadyH.nil
      go_simp
      first | (go_at_call 27; (with_reducible refine (FA _ (HLK.out.on (BE _ (by assumption))).v).mono ?_); rintro e w3 ⟨rfl, hb⟩) | (go_at_call 28; (with_reducible refine (FR _).mono ?_); rintro e w3 ⟨rfl, hb⟩)
      refine hK.out _ _ ?_ (fun hHeld => ?_)
      · (try dsimp only); (first | assumption | exact hs | exact AtF.dr (w := wz) (l := [(⟨w.heap.size, 0, none⟩, .string P), (⟨w.heap.size, 1, none⟩, .string Q), (⟨w.heap.size, 2, none⟩, .string Z), (⟨ub, uo + k * 3, none⟩, .string X'), (⟨ub, uo + k * 3 + 2, none⟩, .string Z')]) hs | exact AtF.dr (w := wz) (l := [(⟨w.heap.size, 0, none⟩, .string P), (⟨w.heap.size, 1, none⟩, .string Q), (⟨w.heap.size, 2, none⟩, .string Z), (⟨ub, uo + k * 3, none⟩, .string X'), (⟨ub, uo + k * 3 + 2, none⟩, .string Z')]) (by assumption) | exact AtF.on (w := wz) (l := [(⟨w.heap.size, 0, none⟩, .string P), (⟨w.heap.size, 1, none⟩, .string Q), (⟨w.heap.size, 2, none⟩, .string Z), (⟨ub, uo + k * 3, none⟩, .string X'), (⟨ub, uo + k * 3 + 2, none⟩, .string Z')]) (by assumption) (by assumption) | exact AtF.al (w := wz) (l := [(⟨w.heap.size, 0, none⟩, .string P), (⟨w.heap.size, 1, none⟩, .string Q), (⟨w.heap.size, 2, none⟩, .string Z), (⟨ub, uo + k * 3, none⟩, .string X'), (⟨ub, uo + k * 3 + 2, none⟩, .string Z')]) (by assumption) _ | exact AtF.ald (w := wz) (l := [(⟨w.heap.size, 0, none⟩, .string P), (⟨w.heap.size, 1, none⟩, .string Q), (⟨w.heap.size, 2, none⟩, .string Z), (⟨ub, uo + k * 3, none⟩, .string X'), (⟨ub, uo + k * 3 + 2, none⟩, .string Z')]) (by assumption) _ | exact AtF.al (w := wz) (l := [(⟨w.heap.size, 0, none⟩, .string P), (⟨w.heap.size, 1, none⟩, .string Q), (⟨w.heap.size, 2, none⟩, .string Z), (⟨ub, uo + k * 3, none⟩, .string X'), (⟨ub, uo + k * 3 + 2, none⟩, .string Z')]) hs _ | exact AtF.ald (w := wz) (l := [(⟨w.heap.size, 0, none⟩, .string P), (⟨w.heap.size, 1, none⟩, .string Q), (⟨w.heap.size, 2, none⟩, .string Z), (⟨ub, uo + k * 3, none⟩, .string X'), (⟨ub, uo + k * 3 + 2, none⟩, .string Z')]) hs _)
      clear hK K
      try simp only [Act.put, List.setIfInBounds_toArray, List.set_cons_zero, List.set_cons_succ]
      refine heldY 24 58 ?_ _ rfl rfl (by kernel_rfl) (by kernel_rfl) (by kernel_rfl) (fun _ _ _ h => h) rfl (by assumption) ?_ ?_
      rotate_left
      · (intro w hSw; (try dsimp only at hSw); go_simp; (try with_reducible rfl))
      simp only [List.setIfInBounds_toArray, List.set_cons_zero, List.set_cons_succ]
      refine wpAnyH_done (by kernel_rfl) ?_ _
      have HW3 := Lib.hid (BE _ hHeld)
      clear hHeld
      have hff : (fb == fb) = true := by simp
      go_wp2
      go_roundw
      case rel => exact ⟨k + 1, by omega, by go_num, Lib.hid (HBK.out.trans (HW3.out.mono hszk))⟩
      case measure => simp [intOf]; omega
    · obtain rfl : k = tn := by omega
      clear hltk
      obtain ⟨K, hK⟩ : ∃ K, lackL t 0 (fsts l) = K := ⟨_, rfl⟩
      have HK := Lib.hid hK
      obtain ⟨kn, hkn⟩ : ∃ kn, K.length = kn := ⟨_, rfl⟩
      have HKN := Lib.hid hkn
      have hkl : kn ≤ 70 := by rw [← hkn, ← hK]; have := lackL_len t (fsts l) 0; rw [show (fsts l).length = l.length from List.length_map .., HN.out] at this; omega
      have HSG := Lib.hid (HFB.out trivial).small
      have LA : Hid (∀ W, Below w0.heap.size w0 W → Calls Tryz.prog 29 #[.slice a n c, .slice ua k uc] W fun e w' => ∃ ga gc, e = .returned (.slice ga kn gc) ∧ OwnI w' W.heap.size (.slice ga kn gc) K ∧ Below W.heap.size W w') := Lib.hid (fun W hW => (lacks_any _ _ l (by rw [HN.out]; omega) HSG.out t (by rw [HTN.out]; omega) HTS.out W (HG.out.on hW) (HoldV.on HT.out hW) (HL.out.on hW).v).mono (fun e w' hp => by
        obtain ⟨r, he, ho, hb⟩ := hp
        rw [HK.out] at ho
        obtain ⟨ga, gc, hv⟩ := OwnV.form ho
        rw [List.length_map, HKN.out] at hv
        subst hv
        exact ⟨ga, gc, he, ho, hb⟩))
      have LB : Hid (∀ W, Below w0.heap.size w0 W → Calls Tryz.prog 30 #[.slice a n c, .slice ua k uc] W fun e w' => ∃ ga gc, e = .returned (.slice ga kn gc) ∧ OwnI w' W.heap.size (.slice ga kn gc) K ∧ Below W.heap.size W w') := Lib.hid (fun W hW => (lacks_ref _ _ l (by rw [HN.out]; omega) HSG.out t (by rw [HTN.out]; omega) HTS.out W (HG.out.on hW) (HoldV.on HT.out hW)).mono (fun e w' hp => by
        obtain ⟨r, he, ho, hb⟩ := hp
        rw [HK.out] at ho
        obtain ⟨ga, gc, hv⟩ := OwnV.form ho
        rw [List.length_map, HKN.out] at hv
        subst hv
        exact ⟨ga, gc, he, ho, hb⟩))
      clear hK hkn
      go_wp2_with (first
        | (go_at_call 29; (with_reducible refine (LA.out _ HBK.out).mono ?_); rintro e w4 ⟨ga, gc, rfl, ho, hb⟩; have HI4 := Lib.hid ho; have HB4 := Lib.hid (HBK.out.trans (hb.mono HBK.out.size)); have hz4 := HB4.out.size; clear ho hb)
        | (go_at_call 30; (with_reducible refine (LB.out _ HB4.out).mono ?_); rintro e w5 ⟨ha5, hc5, rfl, ho, hb⟩; have HI5 := Lib.hid ho; have HJ5 := Lib.hid (OwnV.on HI4.out hb); have HB5 := Lib.hid (HB4.out.trans (hb.mono hz4)); have hz5 := HB5.out.size; clear ho hb))
      obtain ⟨-, b5, o5, hl5, hcc5⟩ := int_cells HI5.out
      obtain ⟨-, b6, o6, hl6, hcc6⟩ := int_cells HJ5.out
      have HC5 := Lib.hid hcc5
      have HC6 := Lib.hid hcc6
      clear hcc5 hcc6
      go_loopw [10] (fun i wr => ∃ q : Nat, q ≤ kn ∧ i = .int .i64 q ∧ Hid (Below w5.heap.size w5 wr)) (fun i _ => kn - (intOf i).toNat)
      case atStart => exact ⟨0, by omega, rfl, Lib.hid (Below.refl _ _)⟩
      case round =>
        obtain ⟨q, hq, rfl, HBQ⟩ := hrel
        obtain ⟨wq, rfl⟩ : ∃ wq : World, wq = wr := ⟨_, rfl⟩
        have hszq := HBQ.out.size
        by_cases hqt : q < kn
        · obtain ⟨rfl, hb5⟩ := hl5 (by omega)
          obtain ⟨rfl, hb6⟩ := hl6 (by omega)
          obtain ⟨x, hx⟩ : ∃ x, K[q]? = some x := ⟨_, List.getElem?_eq_getElem (by rw [HKN.out]; exact hqt)⟩
          have d5 := HC5.out q x hx
          have d6 := HC6.out q x hx
          rw [← HBQ.out.cell (p := ⟨b5, o5 + q, none⟩) hb5] at d5
          rw [← HBQ.out.cell (p := ⟨b6, o6 + q, none⟩) hb6] at d6
          have HQD : Hid (∀ m', Below w5.heap.size w5 (wq.drewN m')) := Lib.hid (fun m' => belowQ HBQ.out m')
          have j0 : (0 : Int) ≤ (q : Int) := by omega
          have j1 : (q : Int) < (kn : Int) := by omega
          have hxx : ((x : Int) == (x : Int)) = true := by simp
          clear hx
          go_wp2
          go_quiet (fail)
          go_wp2
          go_roundw
          case rel => exact ⟨q + 1, by omega, by go_num, Lib.hid (HQD.out _)⟩
          case measure => simp [intOf]; omega
        · obtain rfl : q = kn := by omega
          clear hqt
          have HBW := Lib.hid (HB5.out.trans (HBQ.out.mono hz5))
          have hszw := HBW.out.size
          obtain ⟨i0, hi, hz0, hz1, hz2'⟩ := info_parts infoQ
          have HXX : Hid (∀ W, Below wq.heap.size wq W → W.cell? ⟨w.heap.size, 0, none⟩ = some (.string P) ∧ W.cell? ⟨w.heap.size, 1, none⟩ = some (.string Q) ∧ W.cell? ⟨w.heap.size, 2, none⟩ = some (.string Z)) := Lib.hid (fun W hW => HBX.out W (HBW.out.trans (hW.mono hszw)))
          obtain ⟨e0, e1, e2⟩ := HXX.out _ (Below.refl _ _)
          obtain ⟨f0, f1, f2⟩ := HXX.out _ (Below.refl _ _).drew
          have hft : (t.map cellsQ).flatten.length = k * 3 := by rw [flat_len 3 _ (cellsQ_len t), List.length_map, HTN.out]
          have HFT := Lib.hid hft
          have HN1 : Hid (∀ (W : World) (B : Nat), W.cell? ⟨B, 0, none⟩ = some (.string P) → W.cell? ⟨B, 1, none⟩ = some (.string Q) → W.cell? ⟨B, 2, none⟩ = some (.string Z) → ∀ (j : Nat) y, [Value.string P, Value.string Q, Value.string Z][j]? = some y → W.cell? ((⟨B, 0, none⟩ : Addr).add j) = some y) := Lib.hid (fun W B h0 h1 h2 j y hj => by
            rw [Addr.add_lit, Nat.zero_add]
            match j, hj with
            | 0, hj => simp at hj; subst hj; exact h0
            | 1, hj => simp at hj; subst hj; exact h1
            | 2, hj => simp at hj; subst hj; exact h2)
          have HBOX : Hid (∀ W : World, ∀ (j : Nat) y, [Value.string P, Value.string Q, Value.string Z][j]? = some y → (W.alloc (.cells #[.string P, .string Q, .string Z] 23)).cell? ((⟨W.heap.size, 0, none⟩ : Addr).add j) = some y) := Lib.hid (fun W => by
            obtain ⟨x0, x1, x2⟩ := boxV3 W (.string P) (.string Q) (.string Z) 23
            exact HN1.out _ _ x0 x1 x2)
          have HONE : Hid (∀ y ∈ (t.map cellsQ).flatten, y.oneCell' = true) := Lib.hid (OwnQ.one t)
          have HNIL : Hid (∀ W : World, W.ownsRow wq.heap.size 23 3 (.slice none 0 0) 0 []) := Lib.hid (fun W => (OwnV.nil 23 3 W wq.heap.size).2)
          have HBA := Lib.hid ((Below.refl wq.heap.size wq).alloc (Nat.le_refl _) (.cells #[.string P, .string Q, .string Z] 23))
          have HBAD := Lib.hid HBA.out.drew
          have HBD := Lib.hid (Below.refl wq.heap.size wq).drew
          -- what is there, with more
          have HMORE : Hid (∀ (W : World) v, W.ownsRow wq.heap.size 23 3 v (k + 1) ((t.map cellsQ).flatten ++ [.string P, .string Q, .string Z]) → HoldQ W v (t ++ [(P.data.toList, Q.data.toList, Z.data.toList)])) := Lib.hid (fun W v h => by
            exact (OwnQ.app (x := (P.data.toList, Q.data.toList, Z.data.toList)) rfl rfl rfl (by rw [HTN.out]; exact h)).holds)
          have HSMORE : Hid (SmallQ (t ++ [(P.data.toList, Q.data.toList, Z.data.toList)])) := Lib.hid (fun y hy => by
            rcases List.mem_append.1 hy with g | g
            · exact HTS.out y g
            · rw [List.mem_singleton] at g; subst g; exact HMS.out)
          obtain ⟨M, hM⟩ : ∃ M, lackL (t ++ [(P.data.toList, Q.data.toList, Z.data.toList)]) 0 (fsts l) = M := ⟨_, rfl⟩
          obtain ⟨mn, hmn⟩ : ∃ mn, M.length = mn := ⟨_, rfl⟩
          have HMN := Lib.hid hmn
          have hml : mn ≤ 70 := by rw [← hmn, ← hM]; have := lackL_len (t ++ [(P.data.toList, Q.data.toList, Z.data.toList)]) (fsts l) 0; rw [show (fsts l).length = l.length from List.length_map .., HN.out] at this; omega
          have HSUB : Hid (∀ x ∈ M, x ∈ K) := Lib.hid (fun x hx => by rw [← hM] at hx; rw [← HK.out]; exact lackL_more _ _ _ _ _ hx)
          have HLM : Hid (∀ W v, Below wq.heap.size wq W → W.ownsRow wq.heap.size 23 3 v (k + 1) ((t.map cellsQ).flatten ++ [.string P, .string Q, .string Z]) → Calls Tryz.prog 29 #[.slice a n c, v] W fun e w' => ∃ ma mc, e = .returned (.slice ma mn mc) ∧ OwnI w' W.heap.size (.slice ma mn mc) M ∧ Below W.heap.size W w') := Lib.hid (fun W v hW ho => (lacks_any _ _ l (by rw [HN.out]; omega) HSG.out _ (by rw [List.length_append, HTN.out]; simp; omega) HSMORE.out W (HG.out.on (HBW.out.trans (hW.mono hszw))) (HMORE.out W v ho) (HL.out.on (HBW.out.trans (hW.mono hszw))).v).mono (fun e w' hp => by
            obtain ⟨r, he, ho, hb⟩ := hp
            rw [hM] at ho
            obtain ⟨ga, gc, hv⟩ := OwnV.form ho
            rw [List.length_map, hmn] at hv
            subst hv
            exact ⟨ga, gc, he, ho, hb⟩))
          clear hft HK LA LB hM hmn
          by_cases hk0 : 0 < k
          · obtain ⟨rfl, hub⟩ := hua hk0
            have HNW : Hid (∀ W, Below wq.heap.size wq W → ∀ (j : Nat) y, (t.map cellsQ).flatten[j]? = some y → W.cell? ((⟨ub, uo, none⟩ : Addr).add j) = some y) := Lib.hid (fun W hW j y hj => by
              rw [Addr.add_lit]
              have hBW := HBW.out.trans (hW.mono hszw)
              obtain ⟨a', c', b', o', e, -, ha', hcl'⟩ := HoldV.on HT.out hBW
              rw [List.length_map, HTN.out] at e ha'
              simp only [Value.slice.injEq] at e
              obtain ⟨rfl, -, -⟩ := e
              obtain ⟨e', -⟩ := ha' hk0
              simp only [Option.some.injEq, Addr.mk.injEq] at e'
              obtain ⟨rfl, rfl, -⟩ := e'
              obtain ⟨j', i', r, rfl, hi', hr, hy⟩ := flat_get 3 (by omega) _ (cellsQ_len t) j y hj
              rw [← Nat.add_assoc]
              exact hcl' j' r hr i' y hi' hy)
            go_wp2
            go_region_law (first
              | (refine step_append_lies _ rfl _ _ 25 rfl wq.heap.size 23 i0 (.agg #[.string ⟨#[]⟩, .string ⟨#[]⟩, .string ⟨#[]⟩]) 3 48 Tryz.underlying25 hi hz0 hz1 hz2' rfl (by decide) (.slice none 0 0) 0 [] rfl (HNIL.out _) ⟨ub, uo, none⟩ k uc _ rfl HFT.out (HNW.out _ HBD.out) HONE.out hk0 (by unfold maxLen; omega) (by omega) HBD.out.size _ rfl ?_; intro g cap w6 hown' hgrow h4 h5; have HX6 : Hid (w6.ownsRow wq.heap.size 23 3 (.slice (some ⟨g, 0, none⟩) k cap) k (t.map cellsQ).flatten) := Lib.hid (by simpa using hown'); have HB6 := Lib.hid (HBD.out.grown hgrow HBD.out.size (fun k hk => by simp [Value.ownBlock] at hk)); obtain ⟨g0, g1, g2⟩ := HXX.out _ HB6.out; have HN6 := Lib.hid (HBOX.out w6); have hz6 := HB6.out.size; clear hown' hgrow h4 h5)
              | (refine step_append_lies _ rfl _ _ 25 rfl wq.heap.size 23 i0 (.agg #[.string ⟨#[]⟩, .string ⟨#[]⟩, .string ⟨#[]⟩]) 3 48 Tryz.underlying25 hi hz0 hz1 hz2' rfl (by decide) (.slice none 0 0) 0 [] rfl (HNIL.out _) ⟨ub, uo, none⟩ k uc _ rfl HFT.out (HNW.out _ HBAD.out) HONE.out hk0 (by unfold maxLen; omega) (by omega) HBAD.out.size _ rfl ?_; intro g cap w6 hown' hgrow h4 h5; have HX6 : Hid (w6.ownsRow wq.heap.size 23 3 (.slice (some ⟨g, 0, none⟩) k cap) k (t.map cellsQ).flatten) := Lib.hid (by simpa using hown'); have HB6 := Lib.hid (HBAD.out.grown hgrow HBAD.out.size (fun k hk => by simp [Value.ownBlock] at hk)); have HNC : Hid (∀ (j : Nat) y, [Value.string P, Value.string Q, Value.string Z][j]? = some y → w6.cell? ((⟨wq.heap.size, 0, none⟩ : Addr).add j) = some y) := Lib.hid (fun j y hj => (hgrow.cell_far _ (by rw [Addr.add_lit]; show wq.heap.size < _; rw [show ((wq.alloc (.cells #[.string P, .string Q, .string Z] 23)).drew).heap.size = wq.heap.size + 1 from World.size_alloc _ _]; omega) (by simp [Value.ownBlock])).trans (HBOX.out wq j y hj)); have hz6 := HB6.out.size; clear hown' hgrow h4 h5)
              | (refine step_append_lies _ rfl _ _ 25 rfl wq.heap.size 23 i0 (.agg #[.string ⟨#[]⟩, .string ⟨#[]⟩, .string ⟨#[]⟩]) 3 48 Tryz.underlying25 hi hz0 hz1 hz2' rfl (by decide) _ k _ rfl (World.ownsRow.alloc HX6.out _) ⟨w6.heap.size, 0, none⟩ 1 1 [.string P, .string Q, .string Z] rfl rfl HN6.out (by simp [Value.oneCell']) (by decide) (by unfold maxLen; omega) (by omega) (by simp; omega) _ rfl ?_; intro g2 cap2 w7 hown' hgrow h4 h5; have HX7 : Hid (w7.ownsRow wq.heap.size 23 3 (.slice (some ⟨g2, 0, none⟩) (k + 1) cap2) (k + 1) ((t.map cellsQ).flatten ++ [.string P, .string Q, .string Z])) := Lib.hid (by simpa using hown'); have HB7 := Lib.hid ((HB6.out.alloc hz6 _).grown hgrow (by simp; omega) (fun k hk => by have := (World.ownsRow.lt HX6.out k hk).1; omega)); clear hown' hgrow h4 h5)
              | (refine step_append_lies _ rfl _ _ 25 rfl wq.heap.size 23 i0 (.agg #[.string ⟨#[]⟩, .string ⟨#[]⟩, .string ⟨#[]⟩]) 3 48 Tryz.underlying25 hi hz0 hz1 hz2' rfl (by decide) _ k _ rfl HX6.out ⟨wq.heap.size, 0, none⟩ 1 1 [.string P, .string Q, .string Z] rfl rfl HNC.out (by simp [Value.oneCell']) (by decide) (by unfold maxLen; omega) (by omega) hz6 _ rfl ?_; intro g2 cap2 w7 hown' hgrow h4 h5; have HX7 : Hid (w7.ownsRow wq.heap.size 23 3 (.slice (some ⟨g2, 0, none⟩) (k + 1) cap2) (k + 1) ((t.map cellsQ).flatten ++ [.string P, .string Q, .string Z])) := Lib.hid (by simpa using hown'); have HB7 := Lib.hid (HB6.out.grown hgrow hz6 (fun k hk => by have := (World.ownsRow.lt HX6.out k hk).1; omega)); clear hown' hgrow h4 h5))
            all_goals
              have HLK := Lib.hid (HLM.out w7 _ HB7.out HX7.out)
              have HB57 := Lib.hid (HBQ.out.trans (HB7.out.mono hszq))
              clear HLM HX7
              go_wp2_with (go_at_call 29; (with_reducible refine HLK.out.mono ?_); rintro e w8 ⟨ma, mc, rfl, ho, hb⟩; have HI8 := Lib.hid ho; have HB8 := Lib.hid (HB57.out.trans (hb.mono HB57.out.size)); clear ho hb)
              have hz8 := HB8.out.size
              obtain ⟨-, b8, o8, hl8, hcc8⟩ := int_cells HI8.out
              have HC8 := Lib.hid hcc8
              clear hcc8
              go_loopw [13] (fun i wr => ∃ r : Nat, r ≤ mn ∧ i = .int .i64 r ∧ Hid (Below w8.heap.size w8 wr)) (fun i _ => mn - (intOf i).toNat)
              case atStart => exact ⟨0, by omega, rfl, Lib.hid (Below.refl _ _)⟩
              case round =>
                obtain ⟨r, hr, rfl, HBR⟩ := hrel
                obtain ⟨ws, rfl⟩ : ∃ ws : World, ws = wr := ⟨_, rfl⟩
                have hszr := HBR.out.size
                by_cases hrm : r < mn
                · obtain ⟨rfl, hb8⟩ := hl8 (by omega)
                  obtain ⟨x, hx⟩ : ∃ x, M[r]? = some x := ⟨_, List.getElem?_eq_getElem (by rw [HMN.out]; exact hrm)⟩
                  have d8 := HC8.out r x hx
                  rw [← HBR.out.cell (p := ⟨b8, o8 + r, none⟩) hb8] at d8
                  have hxK := HSUB.out x (List.mem_of_getElem? hx)
                  have HXK : Hid ((K.any fun y => y == x) = true) := Lib.hid (List.any_eq_true.2 ⟨x, hxK, by simp⟩)
                  clear hx hxK
                  go_wp2
                  go_loopw [14, 15] (fun m i wr => ∃ j : Nat, j ≤ q ∧ i = .int .i64 j ∧ Hid (m = .bool ((K.take j).any fun y => y == x)) ∧ Hid (Below ws.heap.size ws wr)) (fun _ i _ => q - (intOf i).toNat)
                  case atStart => exact ⟨0, by omega, rfl, Lib.hid rfl, Lib.hid (Below.refl _ _)⟩
                  case round =>
                    obtain ⟨j, hj, rfl, HM, HBJ⟩ := hrel
                    obtain ⟨wz, rfl⟩ : ∃ wz : World, wz = wr := ⟨_, rfl⟩
                    have hszj := HBJ.out.size
                    obtain ⟨mb, hmb⟩ : ∃ mb, ((K.take j).any fun y => y == x) = mb := ⟨_, rfl⟩
                    have hm := HM.out
                    rw [hmb] at hm
                    subst hm
                    by_cases hjq : j < q
                    · obtain ⟨rfl, hb6⟩ := hl6 (by omega)
                      obtain ⟨y, hy⟩ : ∃ y, K[j]? = some y := ⟨_, List.getElem?_eq_getElem (by rw [HKN.out]; exact hjq)⟩
                      have d6 := HC6.out j y hy
                      have B6 := HB8.out.trans (HBR.out.mono hz8)
                      have B6' := B6.trans (HBJ.out.mono (Nat.le_trans hz8 hszr))
                      rw [← B6'.cell (p := ⟨b6, o6 + j, none⟩) hb6] at d6
                      have d8' := (HBJ.out.cell (p := ⟨b8, o8 + r, none⟩) (Nat.lt_of_lt_of_le hb8 hszr)).trans d8
                      have HNX : Hid (((K.take (j + 1)).any fun y => y == x) = (mb || (y == x))) := Lib.hid (by rw [any_snoc hy, hmb])
                      have hq : ((y : Int) == (x : Int)) = (y == x) := by
                        by_cases e : y = x
                        · subst e; simp
                        · rw [beq_eq_false_iff_ne.2 e, beq_eq_false_iff_ne]; omega
                      generalize (y == x) = bb at *
                      have hB := Below.refl wz.heap.size wz
                      have hs := And.intro d6 (And.intro d8' hB)
                      have j0 : (0 : Int) ≤ (j : Int) := by omega
                      have j1 : (j : Int) < (q : Int) := by omega
                      have j2 : (0 : Int) ≤ (r : Int) := by omega
                      have j3 : (r : Int) < (mn : Int) := by omega
                      clear hmb hy HM B6 B6' d8
                      cases mb
                      · go_wp2
                        have BE := fun (V : World) (h : V.cell? ⟨b6, o6 + j, none⟩ = some (.int .i64 (y : Int)) ∧ V.cell? ⟨b8, o8 + r, none⟩ = some (.int .i64 (x : Int)) ∧ Below wz.heap.size wz V) => AtF.be (w := wz) (l := [(⟨b6, o6 + j, none⟩, .int .i64 (y : Int)), (⟨b8, o8 + r, none⟩, .int .i64 (x : Int))]) h
                        refine wp_region_held_drew (S := (fun V => V.cell? ⟨b6, o6 + j, none⟩ = some (.int .i64 (y : Int)) ∧ V.cell? ⟨b8, o8 + r, none⟩ = some (.int .i64 (x : Int)) ∧ Below wz.heap.size wz V)) (by kernel_rfl) ?_ (fun hHeld => ?_)
                        · (try dsimp only); (first | assumption | exact hs | exact AtF.dr (w := wz) (l := [(⟨b6, o6 + j, none⟩, .int .i64 (y : Int)), (⟨b8, o8 + r, none⟩, .int .i64 (x : Int))]) hs | exact AtF.dr (w := wz) (l := [(⟨b6, o6 + j, none⟩, .int .i64 (y : Int)), (⟨b8, o8 + r, none⟩, .int .i64 (x : Int))]) (by assumption) | exact AtF.on (w := wz) (l := [(⟨b6, o6 + j, none⟩, .int .i64 (y : Int)), (⟨b8, o8 + r, none⟩, .int .i64 (x : Int))]) (by assumption) (by assumption) | exact AtF.al (w := wz) (l := [(⟨b6, o6 + j, none⟩, .int .i64 (y : Int)), (⟨b8, o8 + r, none⟩, .int .i64 (x : Int))]) (by assumption) _ | exact AtF.ald (w := wz) (l := [(⟨b6, o6 + j, none⟩, .int .i64 (y : Int)), (⟨b8, o8 + r, none⟩, .int .i64 (x : Int))]) (by assumption) _ | exact AtF.al (w := wz) (l := [(⟨b6, o6 + j, none⟩, .int .i64 (y : Int)), (⟨b8, o8 + r, none⟩, .int .i64 (x : Int))]) hs _ | exact AtF.ald (w := wz) (l := [(⟨b6, o6 + j, none⟩, .int .i64 (y : Int)), (⟨b8, o8 + r, none⟩, .int .i64 (x : Int))]) hs _)
                        refine heldY 0 106 ?_ _ rfl rfl (by kernel_rfl) (by kernel_rfl) (by kernel_rfl) (fun _ _ _ h => h) rfl (by assumption) ?_ ?_
                        rotate_left
                        · (intro w hSw; (try dsimp only at hSw); go_simp; (try with_reducible rfl))
                        simp only [List.setIfInBounds_toArray, List.set_cons_zero, List.set_cons_succ]
                        refine heldY 1 107 ?_ _ rfl rfl (by kernel_rfl) (by kernel_rfl) (by kernel_rfl) (fun _ _ _ h => h) rfl (by assumption) ?_ ?_
                        rotate_left
                        · (intro w hSw; (try dsimp only at hSw); go_simp; (try with_reducible rfl))
                        simp only [List.setIfInBounds_toArray, List.set_cons_zero, List.set_cons_succ]
                        refine heldY 2 108 ?_ _ rfl rfl (by kernel_rfl) (by kernel_rfl) (by kernel_rfl) (fun _ _ _ h => h) rfl (by assumption) ?_ ?_
                        rotate_left
                        · (intro w hSw; (try dsimp only at hSw); go_simp; (try with_reducible rfl))
                        simp only [List.setIfInBounds_toArray, List.set_cons_zero, List.set_cons_succ]
                        refine heldY 3 109 ?_ _ rfl rfl (by kernel_rfl) (by kernel_rfl) (by kernel_rfl) (fun _ _ _ h => h) rfl (by assumption) ?_ ?_
                        rotate_left
                        · (intro w hSw; (try dsimp only at hSw); go_simp; (try with_reducible rfl))
                        simp only [List.setIfInBounds_toArray, List.set_cons_zero, List.set_cons_succ]
                        refine heldY 4 110 ?_ _ rfl rfl (by kernel_rfl) (by kernel_rfl) (by kernel_rfl) (fun _ _ _ h => h) rfl (by assumption) ?_ ?_
                        rotate_left
                        · (intro w hSw; (try dsimp only at hSw); go_simp; (try with_reducible rfl))
                        simp only [List.setIfInBounds_toArray, List.set_cons_zero, List.set_cons_succ]
                        refine heldY 5 111 ?_ _ rfl rfl (by kernel_rfl) (by kernel_rfl) (by kernel_rfl) (fun _ _ _ h => h) rfl (by assumption) ?_ ?_
                        rotate_left
                        · (intro w hSw; (try dsimp only at hSw); go_simp; (try with_reducible rfl))
                        simp only [List.setIfInBounds_toArray, List.set_cons_zero, List.set_cons_succ]
                        refine heldY 6 112 ?_ _ rfl rfl (by kernel_rfl) (by kernel_rfl) (by kernel_rfl) (fun _ _ _ h => h) rfl (by assumption) ?_ ?_
                        rotate_left
                        · (intro w hSw; (try dsimp only at hSw); go_simp; (try with_reducible rfl))
                        simp only [List.setIfInBounds_toArray, List.set_cons_zero, List.set_cons_succ]
                        refine heldY 7 113 ?_ _ rfl rfl (by kernel_rfl) (by kernel_rfl) (by kernel_rfl) (fun _ _ _ h => h) rfl (by assumption) ?_ ?_
                        rotate_left
                        · (intro w hSw; (try dsimp only at hSw); go_simp; (try with_reducible rfl))
                        simp only [List.setIfInBounds_toArray, List.set_cons_zero, List.set_cons_succ]
                        refine heldY 8 114 ?_ _ rfl rfl (by kernel_rfl) (by kernel_rfl) (by kernel_rfl) (fun _ _ _ h => h) rfl (by assumption) ?_ ?_
                        rotate_left
                        · (intro w hSw; (try dsimp only at hSw); go_simp; (try with_reducible rfl))
                        simp only [List.setIfInBounds_toArray, List.set_cons_zero, List.set_cons_succ]
                        refine heldY 9 115 ?_ _ rfl rfl (by kernel_rfl) (by kernel_rfl) (by kernel_rfl) (fun _ _ _ h => h) rfl (by assumption) ?_ ?_
                        rotate_left
                        · (intro w hSw; (try dsimp only at hSw); go_simp; (try with_reducible rfl))
                        simp only [List.setIfInBounds_toArray, List.set_cons_zero, List.set_cons_succ]
                        refine heldY 10 116 ?_ _ rfl rfl (by kernel_rfl) (by kernel_rfl) (by kernel_rfl) (fun _ _ _ h => h) rfl (by assumption) ?_ ?_
                        rotate_left
                        · (intro w hSw; (try dsimp only at hSw); go_simp; (try with_reducible rfl))
                        simp only [List.setIfInBounds_toArray, List.set_cons_zero, List.set_cons_succ]
                        refine heldY 11 117 ?_ _ rfl rfl (by kernel_rfl) (by kernel_rfl) (by kernel_rfl) (fun _ _ _ h => h) rfl (by assumption) ?_ ?_
                        rotate_left
                        · (intro w hSw; (try dsimp only at hSw); go_simp; (try with_reducible rfl))
                        simp only [List.setIfInBounds_toArray, List.set_cons_zero, List.set_cons_succ]
                        refine heldY 12 14 ?_ _ rfl rfl (by kernel_rfl) (by kernel_rfl) (by kernel_rfl) (fun _ _ _ h => h) rfl (by assumption) ?_ ?_
                        rotate_left
                        · (intro w hSw; (try dsimp only at hSw); go_simp; (try with_reducible rfl))
                        simp only [List.setIfInBounds_toArray, List.set_cons_zero, List.set_cons_succ]
                        refine wpAnyH_done (by kernel_rfl) ?_ _
                        have HW3 := Lib.hid (BE _ hHeld)
                        clear hHeld
                        go_wp2
                        go_roundw
                        case rel => exact ⟨j + 1, by omega, by go_num, Lib.hid (by rw [HNX.out]; first | rfl | simp | (rw [hq]; simp)), Lib.hid (HBJ.out.trans (HW3.out.mono hszj))⟩
                        case measure => simp [intOf]; omega
                      · go_wp2
                        have BE := fun (V : World) (h : Below wz.heap.size wz V) => AtF.be (w := wz) (l := []) h
                        refine wp_region_held_drew (S := (fun V => Below wz.heap.size wz V)) (by kernel_rfl) ?_ (fun hHeld => ?_)
                        · (try dsimp only); (first | assumption | exact hs | exact AtF.dr (w := wz) (l := []) hs | exact AtF.dr (w := wz) (l := []) (by assumption) | exact AtF.on (w := wz) (l := []) (by assumption) (by assumption) | exact AtF.al (w := wz) (l := []) (by assumption) _ | exact AtF.ald (w := wz) (l := []) (by assumption) _ | exact AtF.al (w := wz) (l := []) hs _ | exact AtF.ald (w := wz) (l := []) hs _)
                        refine heldY 0 106 ?_ _ rfl rfl (by kernel_rfl) (by kernel_rfl) (by kernel_rfl) (fun _ _ _ h => h) rfl (by assumption) ?_ ?_
                        rotate_left
                        · (intro w hSw; (try dsimp only at hSw); go_simp; (try with_reducible rfl))
                        simp only [List.setIfInBounds_toArray, List.set_cons_zero, List.set_cons_succ]
                        refine heldY 1 107 ?_ _ rfl rfl (by kernel_rfl) (by kernel_rfl) (by kernel_rfl) (fun _ _ _ h => h) rfl (by assumption) ?_ ?_
                        rotate_left
                        · (intro w hSw; (try dsimp only at hSw); go_simp; (try with_reducible rfl))
                        simp only [List.setIfInBounds_toArray, List.set_cons_zero, List.set_cons_succ]
                        refine heldNo 2 108 rfl (by kernel_rfl) (by kernel_rfl) (by kernel_rfl) (fun _ _ _ h => h) rfl (by assumption) ?_
                        simp only [List.setIfInBounds_toArray, List.set_cons_zero, List.set_cons_succ]
                        refine heldNo 3 109 rfl (by kernel_rfl) (by kernel_rfl) (by kernel_rfl) (fun _ _ _ h => h) rfl (by assumption) ?_
                        simp only [List.setIfInBounds_toArray, List.set_cons_zero, List.set_cons_succ]
                        refine heldNo 4 110 rfl (by kernel_rfl) (by kernel_rfl) (by kernel_rfl) (fun _ _ _ h => h) rfl (by assumption) ?_
                        simp only [List.setIfInBounds_toArray, List.set_cons_zero, List.set_cons_succ]
                        refine heldNo 5 111 rfl (by kernel_rfl) (by kernel_rfl) (by kernel_rfl) (fun _ _ _ h => h) rfl (by assumption) ?_
                        simp only [List.setIfInBounds_toArray, List.set_cons_zero, List.set_cons_succ]
                        refine heldNo 6 112 rfl (by kernel_rfl) (by kernel_rfl) (by kernel_rfl) (fun _ _ _ h => h) rfl (by assumption) ?_
                        simp only [List.setIfInBounds_toArray, List.set_cons_zero, List.set_cons_succ]
                        refine heldNo 7 113 rfl (by kernel_rfl) (by kernel_rfl) (by kernel_rfl) (fun _ _ _ h => h) rfl (by assumption) ?_
                        simp only [List.setIfInBounds_toArray, List.set_cons_zero, List.set_cons_succ]
                        refine heldNo 8 114 rfl (by kernel_rfl) (by kernel_rfl) (by kernel_rfl) (fun _ _ _ h => h) rfl (by assumption) ?_
                        simp only [List.setIfInBounds_toArray, List.set_cons_zero, List.set_cons_succ]
                        refine heldNo 9 115 rfl (by kernel_rfl) (by kernel_rfl) (by kernel_rfl) (fun _ _ _ h => h) rfl (by assumption) ?_
                        simp only [List.setIfInBounds_toArray, List.set_cons_zero, List.set_cons_succ]
                        refine heldNo 10 116 rfl (by kernel_rfl) (by kernel_rfl) (by kernel_rfl) (fun _ _ _ h => h) rfl (by assumption) ?_
                        simp only [List.setIfInBounds_toArray, List.set_cons_zero, List.set_cons_succ]
                        refine heldY 11 117 ?_ _ rfl rfl (by kernel_rfl) (by kernel_rfl) (by kernel_rfl) (fun _ _ _ h => h) rfl (by assumption) ?_ ?_
                        rotate_left
                        · (intro w hSw; (try dsimp only at hSw); go_simp; (try with_reducible rfl))
                        simp only [List.setIfInBounds_toArray, List.set_cons_zero, List.set_cons_succ]
                        refine heldY 12 14 ?_ _ rfl rfl (by kernel_rfl) (by kernel_rfl) (by kernel_rfl) (fun _ _ _ h => h) rfl (by assumption) ?_ ?_
                        rotate_left
                        · (intro w hSw; (try dsimp only at hSw); go_simp; (try with_reducible rfl))
                        simp only [List.setIfInBounds_toArray, List.set_cons_zero, List.set_cons_succ]
                        refine wpAnyH_done (by kernel_rfl) ?_ _
                        have HW3 := Lib.hid (show Below wz.heap.size wz _ from hHeld)
                        clear hHeld
                        go_wp2
                        go_roundw
                        case rel => exact ⟨j + 1, by omega, by go_num, Lib.hid (by rw [HNX.out]; simp), Lib.hid (HBJ.out.trans (HW3.out.mono hszj))⟩
                        case measure => simp [intOf]; omega
                    · obtain rfl : j = q := by omega
                      have hmt : mb = true := by rw [← hmb, List.take_of_length_le (by rw [HKN.out]; omega)]; exact HXK.out
                      subst hmt
                      clear hmb hjq HM
                      go_wp2
                      go_roundw
                      case rel => exact ⟨r + 1, by omega, by go_num, Lib.hid (HBR.out.trans (HBJ.out.mono hszr))⟩
                      case measure => simp [intOf]; omega
                · obtain rfl : r = mn := by omega
                  clear hrm
                  have HBE := Lib.hid (HB5.out.trans ((HB8.out.trans (HBR.out.mono hz8)).mono hz5))
                  have AW := A7 _ (HL.out.on HBE.out)
                  go_wp2_with (go_at_call 9; (with_reducible refine AW.mono ?_); rintro e w9 ⟨rfl, hb⟩; have HB9 := Lib.hid (HBE.out.trans (hb.mono HBE.out.size)); clear hb)
                  go_ret
                  exact ⟨rfl, HB0.out.trans (HB9.out.mono HB0.out.size)⟩
          · obtain rfl : k = 0 := by omega
            have hfl : (t.map cellsQ).flatten = [] := List.eq_nil_of_length_eq_zero (by rw [HFT.out])
            have HFL0 := Lib.hid hfl
            clear hfl
            go_wp2
            go_region_law (first
              | (refine emptyStep rfl _ _ 25 23 i0 Tryz.underlying25 hi rfl ua uc rfl rfl ?_)
              | (refine step_append_lies _ rfl _ _ 25 rfl wq.heap.size 23 i0 (.agg #[.string ⟨#[]⟩, .string ⟨#[]⟩, .string ⟨#[]⟩]) 3 48 Tryz.underlying25 hi hz0 hz1 hz2' rfl (by decide) (.slice none 0 0) 0 [] rfl (HNIL.out _) ⟨wq.heap.size, 0, none⟩ 1 1 [.string P, .string Q, .string Z] rfl rfl (fun j y hj => HBOX.out wq j y hj) (by simp [Value.oneCell']) (by decide) (by unfold maxLen; omega) (by omega) HBAD.out.size _ rfl ?_; intro g2 cap2 w7 hown' hgrow h4 h5; have HX7 : Hid (w7.ownsRow wq.heap.size 23 3 (.slice (some ⟨g2, 0, none⟩) 1 cap2) 1 ((t.map cellsQ).flatten ++ [.string P, .string Q, .string Z])) := Lib.hid (by rw [HFL0.out]; simpa using hown'); have HB7 := Lib.hid (HBAD.out.grown hgrow HBAD.out.size (fun k hk => by simp [Value.ownBlock] at hk)); clear hown' hgrow h4 h5))
            all_goals
              have HLK := Lib.hid (HLM.out w7 _ HB7.out HX7.out)
              have HB57 := Lib.hid (HBQ.out.trans (HB7.out.mono hszq))
              clear HLM HX7
              go_wp2_with (go_at_call 29; (with_reducible refine HLK.out.mono ?_); rintro e w8 ⟨ma, mc, rfl, ho, hb⟩; have HI8 := Lib.hid ho; have HB8 := Lib.hid (HB57.out.trans (hb.mono HB57.out.size)); clear ho hb)
              have hz8 := HB8.out.size
              obtain ⟨-, b8, o8, hl8, hcc8⟩ := int_cells HI8.out
              have HC8 := Lib.hid hcc8
              clear hcc8
              go_loopw [13] (fun i wr => ∃ r : Nat, r ≤ mn ∧ i = .int .i64 r ∧ Hid (Below w8.heap.size w8 wr)) (fun i _ => mn - (intOf i).toNat)
              case atStart => exact ⟨0, by omega, rfl, Lib.hid (Below.refl _ _)⟩
              case round =>
                obtain ⟨r, hr, rfl, HBR⟩ := hrel
                obtain ⟨ws, rfl⟩ : ∃ ws : World, ws = wr := ⟨_, rfl⟩
                have hszr := HBR.out.size
                by_cases hrm : r < mn
                · obtain ⟨rfl, hb8⟩ := hl8 (by omega)
                  obtain ⟨x, hx⟩ : ∃ x, M[r]? = some x := ⟨_, List.getElem?_eq_getElem (by rw [HMN.out]; exact hrm)⟩
                  have d8 := HC8.out r x hx
                  rw [← HBR.out.cell (p := ⟨b8, o8 + r, none⟩) hb8] at d8
                  have hxK := HSUB.out x (List.mem_of_getElem? hx)
                  have HXK : Hid ((K.any fun y => y == x) = true) := Lib.hid (List.any_eq_true.2 ⟨x, hxK, by simp⟩)
                  clear hx hxK
                  go_wp2
                  go_loopw [14, 15] (fun m i wr => ∃ j : Nat, j ≤ q ∧ i = .int .i64 j ∧ Hid (m = .bool ((K.take j).any fun y => y == x)) ∧ Hid (Below ws.heap.size ws wr)) (fun _ i _ => q - (intOf i).toNat)
                  case atStart => exact ⟨0, by omega, rfl, Lib.hid rfl, Lib.hid (Below.refl _ _)⟩
                  case round =>
                    obtain ⟨j, hj, rfl, HM, HBJ⟩ := hrel
                    obtain ⟨wz, rfl⟩ : ∃ wz : World, wz = wr := ⟨_, rfl⟩
                    have hszj := HBJ.out.size
                    obtain ⟨mb, hmb⟩ : ∃ mb, ((K.take j).any fun y => y == x) = mb := ⟨_, rfl⟩
                    have hm := HM.out
                    rw [hmb] at hm
                    subst hm
                    by_cases hjq : j < q
                    · obtain ⟨rfl, hb6⟩ := hl6 (by omega)
                      obtain ⟨y, hy⟩ : ∃ y, K[j]? = some y := ⟨_, List.getElem?_eq_getElem (by rw [HKN.out]; exact hjq)⟩
                      have d6 := HC6.out j y hy
                      have B6 := HB8.out.trans (HBR.out.mono hz8)
                      have B6' := B6.trans (HBJ.out.mono (Nat.le_trans hz8 hszr))
                      rw [← B6'.cell (p := ⟨b6, o6 + j, none⟩) hb6] at d6
                      have d8' := (HBJ.out.cell (p := ⟨b8, o8 + r, none⟩) (Nat.lt_of_lt_of_le hb8 hszr)).trans d8
                      have HNX : Hid (((K.take (j + 1)).any fun y => y == x) = (mb || (y == x))) := Lib.hid (by rw [any_snoc hy, hmb])
                      have hq : ((y : Int) == (x : Int)) = (y == x) := by
                        by_cases e : y = x
                        · subst e; simp
                        · rw [beq_eq_false_iff_ne.2 e, beq_eq_false_iff_ne]; omega
                      generalize (y == x) = bb at *
                      have hB := Below.refl wz.heap.size wz
                      have hs := And.intro d6 (And.intro d8' hB)
                      have j0 : (0 : Int) ≤ (j : Int) := by omega
                      have j1 : (j : Int) < (q : Int) := by omega
                      have j2 : (0 : Int) ≤ (r : Int) := by omega
                      have j3 : (r : Int) < (mn : Int) := by omega
                      clear hmb hy HM B6 B6' d8
                      cases mb
                      · go_wp2
                        have BE := fun (V : World) (h : V.cell? ⟨b6, o6 + j, none⟩ = some (.int .i64 (y : Int)) ∧ V.cell? ⟨b8, o8 + r, none⟩ = some (.int .i64 (x : Int)) ∧ Below wz.heap.size wz V) => AtF.be (w := wz) (l := [(⟨b6, o6 + j, none⟩, .int .i64 (y : Int)), (⟨b8, o8 + r, none⟩, .int .i64 (x : Int))]) h
                        refine wp_region_held_drew (S := (fun V => V.cell? ⟨b6, o6 + j, none⟩ = some (.int .i64 (y : Int)) ∧ V.cell? ⟨b8, o8 + r, none⟩ = some (.int .i64 (x : Int)) ∧ Below wz.heap.size wz V)) (by kernel_rfl) ?_ (fun hHeld => ?_)
                        · (try dsimp only); (first | assumption | exact hs | exact AtF.dr (w := wz) (l := [(⟨b6, o6 + j, none⟩, .int .i64 (y : Int)), (⟨b8, o8 + r, none⟩, .int .i64 (x : Int))]) hs | exact AtF.dr (w := wz) (l := [(⟨b6, o6 + j, none⟩, .int .i64 (y : Int)), (⟨b8, o8 + r, none⟩, .int .i64 (x : Int))]) (by assumption) | exact AtF.on (w := wz) (l := [(⟨b6, o6 + j, none⟩, .int .i64 (y : Int)), (⟨b8, o8 + r, none⟩, .int .i64 (x : Int))]) (by assumption) (by assumption) | exact AtF.al (w := wz) (l := [(⟨b6, o6 + j, none⟩, .int .i64 (y : Int)), (⟨b8, o8 + r, none⟩, .int .i64 (x : Int))]) (by assumption) _ | exact AtF.ald (w := wz) (l := [(⟨b6, o6 + j, none⟩, .int .i64 (y : Int)), (⟨b8, o8 + r, none⟩, .int .i64 (x : Int))]) (by assumption) _ | exact AtF.al (w := wz) (l := [(⟨b6, o6 + j, none⟩, .int .i64 (y : Int)), (⟨b8, o8 + r, none⟩, .int .i64 (x : Int))]) hs _ | exact AtF.ald (w := wz) (l := [(⟨b6, o6 + j, none⟩, .int .i64 (y : Int)), (⟨b8, o8 + r, none⟩, .int .i64 (x : Int))]) hs _)
                        refine heldY 0 106 ?_ _ rfl rfl (by kernel_rfl) (by kernel_rfl) (by kernel_rfl) (fun _ _ _ h => h) rfl (by assumption) ?_ ?_
                        rotate_left
                        · (intro w hSw; (try dsimp only at hSw); go_simp; (try with_reducible rfl))
                        simp only [List.setIfInBounds_toArray, List.set_cons_zero, List.set_cons_succ]
                        refine heldY 1 107 ?_ _ rfl rfl (by kernel_rfl) (by kernel_rfl) (by kernel_rfl) (fun _ _ _ h => h) rfl (by assumption) ?_ ?_
                        rotate_left
                        · (intro w hSw; (try dsimp only at hSw); go_simp; (try with_reducible rfl))
                        simp only [List.setIfInBounds_toArray, List.set_cons_zero, List.set_cons_succ]
                        refine heldY 2 108 ?_ _ rfl rfl (by kernel_rfl) (by kernel_rfl) (by kernel_rfl) (fun _ _ _ h => h) rfl (by assumption) ?_ ?_
                        rotate_left
                        · (intro w hSw; (try dsimp only at hSw); go_simp; (try with_reducible rfl))
                        simp only [List.setIfInBounds_toArray, List.set_cons_zero, List.set_cons_succ]
                        refine heldY 3 109 ?_ _ rfl rfl (by kernel_rfl) (by kernel_rfl) (by kernel_rfl) (fun _ _ _ h => h) rfl (by assumption) ?_ ?_
                        rotate_left
                        · (intro w hSw; (try dsimp only at hSw); go_simp; (try with_reducible rfl))
                        simp only [List.setIfInBounds_toArray, List.set_cons_zero, List.set_cons_succ]
                        refine heldY 4 110 ?_ _ rfl rfl (by kernel_rfl) (by kernel_rfl) (by kernel_rfl) (fun _ _ _ h => h) rfl (by assumption) ?_ ?_
                        rotate_left
                        · (intro w hSw; (try dsimp only at hSw); go_simp; (try with_reducible rfl))
                        simp only [List.setIfInBounds_toArray, List.set_cons_zero, List.set_cons_succ]
                        refine heldY 5 111 ?_ _ rfl rfl (by kernel_rfl) (by kernel_rfl) (by kernel_rfl) (fun _ _ _ h => h) rfl (by assumption) ?_ ?_
                        rotate_left
                        · (intro w hSw; (try dsimp only at hSw); go_simp; (try with_reducible rfl))
                        simp only [List.setIfInBounds_toArray, List.set_cons_zero, List.set_cons_succ]
                        refine heldY 6 112 ?_ _ rfl rfl (by kernel_rfl) (by kernel_rfl) (by kernel_rfl) (fun _ _ _ h => h) rfl (by assumption) ?_ ?_
                        rotate_left
                        · (intro w hSw; (try dsimp only at hSw); go_simp; (try with_reducible rfl))
                        simp only [List.setIfInBounds_toArray, List.set_cons_zero, List.set_cons_succ]
                        refine heldY 7 113 ?_ _ rfl rfl (by kernel_rfl) (by kernel_rfl) (by kernel_rfl) (fun _ _ _ h => h) rfl (by assumption) ?_ ?_
                        rotate_left
                        · (intro w hSw; (try dsimp only at hSw); go_simp; (try with_reducible rfl))
                        simp only [List.setIfInBounds_toArray, List.set_cons_zero, List.set_cons_succ]
                        refine heldY 8 114 ?_ _ rfl rfl (by kernel_rfl) (by kernel_rfl) (by kernel_rfl) (fun _ _ _ h => h) rfl (by assumption) ?_ ?_
                        rotate_left
                        · (intro w hSw; (try dsimp only at hSw); go_simp; (try with_reducible rfl))
                        simp only [List.setIfInBounds_toArray, List.set_cons_zero, List.set_cons_succ]
                        refine heldY 9 115 ?_ _ rfl rfl (by kernel_rfl) (by kernel_rfl) (by kernel_rfl) (fun _ _ _ h => h) rfl (by assumption) ?_ ?_
                        rotate_left
                        · (intro w hSw; (try dsimp only at hSw); go_simp; (try with_reducible rfl))
                        simp only [List.setIfInBounds_toArray, List.set_cons_zero, List.set_cons_succ]
                        refine heldY 10 116 ?_ _ rfl rfl (by kernel_rfl) (by kernel_rfl) (by kernel_rfl) (fun _ _ _ h => h) rfl (by assumption) ?_ ?_
                        rotate_left
                        · (intro w hSw; (try dsimp only at hSw); go_simp; (try with_reducible rfl))
                        simp only [List.setIfInBounds_toArray, List.set_cons_zero, List.set_cons_succ]
                        refine heldY 11 117 ?_ _ rfl rfl (by kernel_rfl) (by kernel_rfl) (by kernel_rfl) (fun _ _ _ h => h) rfl (by assumption) ?_ ?_
                        rotate_left
                        · (intro w hSw; (try dsimp only at hSw); go_simp; (try with_reducible rfl))
                        simp only [List.setIfInBounds_toArray, List.set_cons_zero, List.set_cons_succ]
                        refine heldY 12 14 ?_ _ rfl rfl (by kernel_rfl) (by kernel_rfl) (by kernel_rfl) (fun _ _ _ h => h) rfl (by assumption) ?_ ?_
                        rotate_left
                        · (intro w hSw; (try dsimp only at hSw); go_simp; (try with_reducible rfl))
                        simp only [List.setIfInBounds_toArray, List.set_cons_zero, List.set_cons_succ]
                        refine wpAnyH_done (by kernel_rfl) ?_ _
                        have HW3 := Lib.hid (BE _ hHeld)
                        clear hHeld
                        go_wp2
                        go_roundw
                        case rel => exact ⟨j + 1, by omega, by go_num, Lib.hid (by rw [HNX.out]; first | rfl | simp | (rw [hq]; simp)), Lib.hid (HBJ.out.trans (HW3.out.mono hszj))⟩
                        case measure => simp [intOf]; omega
                      · go_wp2
                        have BE := fun (V : World) (h : Below wz.heap.size wz V) => AtF.be (w := wz) (l := []) h
                        refine wp_region_held_drew (S := (fun V => Below wz.heap.size wz V)) (by kernel_rfl) ?_ (fun hHeld => ?_)
                        · (try dsimp only); (first | assumption | exact hs | exact AtF.dr (w := wz) (l := []) hs | exact AtF.dr (w := wz) (l := []) (by assumption) | exact AtF.on (w := wz) (l := []) (by assumption) (by assumption) | exact AtF.al (w := wz) (l := []) (by assumption) _ | exact AtF.ald (w := wz) (l := []) (by assumption) _ | exact AtF.al (w := wz) (l := []) hs _ | exact AtF.ald (w := wz) (l := []) hs _)
                        refine heldY 0 106 ?_ _ rfl rfl (by kernel_rfl) (by kernel_rfl) (by kernel_rfl) (fun _ _ _ h => h) rfl (by assumption) ?_ ?_
                        rotate_left
                        · (intro w hSw; (try dsimp only at hSw); go_simp; (try with_reducible rfl))
                        simp only [List.setIfInBounds_toArray, List.set_cons_zero, List.set_cons_succ]
                        refine heldY 1 107 ?_ _ rfl rfl (by kernel_rfl) (by kernel_rfl) (by kernel_rfl) (fun _ _ _ h => h) rfl (by assumption) ?_ ?_
                        rotate_left
                        · (intro w hSw; (try dsimp only at hSw); go_simp; (try with_reducible rfl))
                        simp only [List.setIfInBounds_toArray, List.set_cons_zero, List.set_cons_succ]
                        refine heldNo 2 108 rfl (by kernel_rfl) (by kernel_rfl) (by kernel_rfl) (fun _ _ _ h => h) rfl (by assumption) ?_
                        simp only [List.setIfInBounds_toArray, List.set_cons_zero, List.set_cons_succ]
                        refine heldNo 3 109 rfl (by kernel_rfl) (by kernel_rfl) (by kernel_rfl) (fun _ _ _ h => h) rfl (by assumption) ?_
                        simp only [List.setIfInBounds_toArray, List.set_cons_zero, List.set_cons_succ]
                        refine heldNo 4 110 rfl (by kernel_rfl) (by kernel_rfl) (by kernel_rfl) (fun _ _ _ h => h) rfl (by assumption) ?_
                        simp only [List.setIfInBounds_toArray, List.set_cons_zero, List.set_cons_succ]
                        refine heldNo 5 111 rfl (by kernel_rfl) (by kernel_rfl) (by kernel_rfl) (fun _ _ _ h => h) rfl (by assumption) ?_
                        simp only [List.setIfInBounds_toArray, List.set_cons_zero, List.set_cons_succ]
                        refine heldNo 6 112 rfl (by kernel_rfl) (by kernel_rfl) (by kernel_rfl) (fun _ _ _ h => h) rfl (by assumption) ?_
                        simp only [List.setIfInBounds_toArray, List.set_cons_zero, List.set_cons_succ]
                        refine heldNo 7 113 rfl (by kernel_rfl) (by kernel_rfl) (by kernel_rfl) (fun _ _ _ h => h) rfl (by assumption) ?_
                        simp only [List.setIfInBounds_toArray, List.set_cons_zero, List.set_cons_succ]
                        refine heldNo 8 114 rfl (by kernel_rfl) (by kernel_rfl) (by kernel_rfl) (fun _ _ _ h => h) rfl (by assumption) ?_
                        simp only [List.setIfInBounds_toArray, List.set_cons_zero, List.set_cons_succ]
                        refine heldNo 9 115 rfl (by kernel_rfl) (by kernel_rfl) (by kernel_rfl) (fun _ _ _ h => h) rfl (by assumption) ?_
                        simp only [List.setIfInBounds_toArray, List.set_cons_zero, List.set_cons_succ]
                        refine heldNo 10 116 rfl (by kernel_rfl) (by kernel_rfl) (by kernel_rfl) (fun _ _ _ h => h) rfl (by assumption) ?_
                        simp only [List.setIfInBounds_toArray, List.set_cons_zero, List.set_cons_succ]
                        refine heldY 11 117 ?_ _ rfl rfl (by kernel_rfl) (by kernel_rfl) (by kernel_rfl) (fun _ _ _ h => h) rfl (by assumption) ?_ ?_
                        rotate_left
                        · (intro w hSw; (try dsimp only at hSw); go_simp; (try with_reducible rfl))
                        simp only [List.setIfInBounds_toArray, List.set_cons_zero, List.set_cons_succ]
                        refine heldY 12 14 ?_ _ rfl rfl (by kernel_rfl) (by kernel_rfl) (by kernel_rfl) (fun _ _ _ h => h) rfl (by assumption) ?_ ?_
                        rotate_left
                        · (intro w hSw; (try dsimp only at hSw); go_simp; (try with_reducible rfl))
                        simp only [List.setIfInBounds_toArray, List.set_cons_zero, List.set_cons_succ]
                        refine wpAnyH_done (by kernel_rfl) ?_ _
                        have HW3 := Lib.hid (show Below wz.heap.size wz _ from hHeld)
                        clear hHeld
                        go_wp2
                        go_roundw
                        case rel => exact ⟨j + 1, by omega, by go_num, Lib.hid (by rw [HNX.out]; simp), Lib.hid (HBJ.out.trans (HW3.out.mono hszj))⟩
                        case measure => simp [intOf]; omega
                    · obtain rfl : j = q := by omega
                      have hmt : mb = true := by rw [← hmb, List.take_of_length_le (by rw [HKN.out]; omega)]; exact HXK.out
                      subst hmt
                      clear hmb hjq HM
                      go_wp2
                      go_roundw
                      case rel => exact ⟨r + 1, by omega, by go_num, Lib.hid (HBR.out.trans (HBJ.out.mono hszr))⟩
                      case measure => simp [intOf]; omega
                · obtain rfl : r = mn := by omega
                  clear hrm
                  have HBE := Lib.hid (HB5.out.trans ((HB8.out.trans (HBR.out.mono hz8)).mono hz5))
                  have AW := A7 _ (HL.out.on HBE.out)
                  go_wp2_with (go_at_call 9; (with_reducible refine AW.mono ?_); rintro e w9 ⟨rfl, hb⟩; have HB9 := Lib.hid (HBE.out.trans (hb.mono HBE.out.size)); clear hb)
                  go_ret
                  exact ⟨rfl, HB0.out.trans (HB9.out.mono HB0.out.size)⟩
end Go.Proofs.YteoomeknlfcfaaaGreatDoor.relationLacksw
