/-
  A command of a script, by the reference: its Act: what it returns; nothing old turns.
-/
import Derived.Test.YtolpcnhgmmnmcaaGreatDoorKRefAct5
namespace Go.Proofs.YtolpcnhgmmnmcaaGreatDoor
open Go.RowKit Go.Shelf
set_option maxRecDepth 100000 in
set_option maxHeartbeats 16000000 in
theorem actK_ref (x : Kv) (hs : SmK x) (w : World) (hh : InK w x) : Calls Tryz.prog 7 #[aggK x] w fun e w' => e = .returned (.bool (actB x)) ∧ Below w.heap.size w w' := by
  by_cases h5 : x.kd = 5
  · exact act5_ref x h5 hs w hh
  have B0 := (Below.refl w.heap.size w).alloc (Nat.le_refl _) (.cells (cellsK x) 27)
  have NN : ∀ W, Calls Tryz.prog 20 #[.string (⟨x.nm.toArray⟩ : ByteArray)] W fun e w' => e = .returned (.bool (nameB x.nm)) ∧ W = w' := fun W => by
    have := name_ref ⟨x.nm.toArray⟩ (by rw [sizeOf, bytesOf]; exact hs.nm) W
    rwa [bytesOf] at this
  have PD : ∀ W, Calls Tryz.prog 21 #[.string (⟨x.ds.toArray⟩ : ByteArray)] W fun e w' => e = .returned (.bool (plK x.ds)) ∧ Below W.heap.size W w' := fun W => by
    have := placeK_ref ⟨x.ds.toArray⟩ (by rw [sizeOf, bytesOf]; exact hs.ds) W
    rwa [bytesOf] at this
  have PP : ∀ W, Calls Tryz.prog 21 #[.string (⟨x.pt.toArray⟩ : ByteArray)] W fun e w' => e = .returned (.bool (plK x.pt)) ∧ Below W.heap.size W w' := fun W => by
    have := placeK_ref ⟨x.pt.toArray⟩ (by rw [sizeOf, bytesOf]; exact hs.pt) W
    rwa [bytesOf] at this
  have LK : ∀ W, Calls Tryz.prog 24 #[.string (⟨x.ds.toArray⟩ : ByteArray)] W fun e w' => e = .returned (.bool (lkK x.ds)) ∧ Below W.heap.size W w' := fun W => by
    have := linkK_ref ⟨x.ds.toArray⟩ (by rw [sizeOf, bytesOf]; exact hs.ds) W
    rwa [bytesOf] at this
  have NM : ∀ W, Calls Tryz.prog 23 #[.string (⟨x.nm.toArray⟩ : ByteArray)] W fun e w' => e = .returned (.bool (nmK x.nm)) ∧ W = w' := fun W => by
    have := nameK_ref ⟨x.nm.toArray⟩ (by rw [sizeOf, bytesOf]; exact hs.nm) W
    rwa [bytesOf] at this
  have TG : ∀ W, Calls Tryz.prog 25 #[.string (⟨x.nm.toArray⟩ : ByteArray)] W fun e w' => e = .returned (.bool (trgK x.nm)) ∧ Below W.heap.size W w' := fun W => by
    have := trgK_ref ⟨x.nm.toArray⟩ (by rw [sizeOf, bytesOf]; exact hs.nm) W
    rwa [bytesOf] at this
  have RM := fun W => rightM_ref x.mm x.uu x.gg W
  have HX := Lib.hid (fun W hW => celK x w W hW)
  have HB0 := Lib.hid B0
  have HQ := Lib.hid (Below.refl (w.alloc (.cells (cellsK x) 27)).heap.size (w.alloc (.cells (cellsK x) 27)))
  have en : decide ((⟨x.nm.toArray⟩ : ByteArray).size = 0) = decide (x.nm = []) := by rw [sizeOf, bytesOf]; cases x.nm <;> simp
  have ed : decide ((⟨x.ds.toArray⟩ : ByteArray).size = 0) = decide (x.ds = []) := by rw [sizeOf, bytesOf]; cases x.ds <;> simp
  have qn := eqTL (⟨x.nm.toArray⟩ : ByteArray) []
  have qd := eqTL (⟨x.ds.toArray⟩ : ByteArray) []
  rw [bytesOf] at qn qd
  have gn := emptyT (⟨x.nm.toArray⟩ : ByteArray)
  have gd := emptyT (⟨x.ds.toArray⟩ : ByteArray)
  rw [en] at gn
  rw [ed] at gd
  clear en ed
  have HSS := Lib.hid hs.ss
  have HQS := Lib.hid hs.qs
  have l1 := hs.sl
  have l2 := hs.ps
  obtain ⟨kd, nm, pt, ds, mm, uu, gg, pr, fl, fo, sl, ps, sv, pv⟩ := x
  obtain ⟨sa, sc, sb, so, hsv, hsc, hsa, hscell⟩ := HoldS.parts hh.1
  obtain ⟨pa, pc, pb, po, hpv, hpc, hpa, hpcell⟩ := hh.2
  have HSC := Lib.hid hscell
  have HPC := Lib.hid hpcell
  dsimp only at hsv hpv hsc hsa hpc hpa l1 l2
  subst hsv
  subst hpv
  obtain ⟨AB, hAB⟩ : ∃ AB, actB ⟨kd, nm, pt, ds, mm, uu, gg, pr, fl, fo, sl, ps, .slice sa sl.length sc, .slice pa ps.length pc⟩ = AB := ⟨_, rfl⟩
  rw [hAB]
  unfold actB orK at hAB
  have HAB := Lib.hid hAB
  clear hAB hs hh B0 hscell hpcell
  unfold aggK cellsK CelK at *
  dsimp only at *
  obtain ⟨a0, a1, a2, a3, a4, a5, a6, a7, a8, a9, a10, a11⟩ := HX.out _ (Below.refl _ _)
  generalize decide (nm = []) = eN at *
  generalize decide (ds = []) = eD at *
  generalize nameB nm = bN at *
  generalize plK ds = pD at *
  generalize plK pt = pP at *
  generalize lkK ds = lD at *
  generalize nmK nm = nN at *
  generalize trgK nm = tN at *
  generalize rightM mm uu gg = rM at *
  obtain ⟨sS, hS⟩ : ∃ b, slvK sl ps = b := ⟨_, rfl⟩
  have HS := Lib.hid hS
  rw [hS] at HAB
  clear hS
  obtain ⟨n, hN⟩ : ∃ n, sl.length = n := ⟨_, rfl⟩
  obtain ⟨m, hM⟩ : ∃ m, ps.length = m := ⟨_, rfl⟩
  simp only [hN] at hsc hsa l1 HX a10 HB0 HQ ⊢
  simp only [hM] at hpc hpa l2 HX a11 HB0 HQ ⊢
  have HN := Lib.hid hN
  have HM := Lib.hid hM
  clear hN hM
  generalize (⟨nm.toArray⟩ : ByteArray) = N at *
  generalize (⟨pt.toArray⟩ : ByteArray) = P at *
  generalize (⟨ds.toArray⟩ : ByteArray) = T at *
  try dsimp only at h5
  by_cases h1 : kd = 1
  · subst h1
    cases eN <;> cases bN <;> cases pP <;> cases eD
    all_goals
      go_enter Tryz.func7, Tryz.ntmps7
      go_wp2_with (first
        | (go_at_call 20; (with_reducible refine (NN _).mono ?_); rintro e w1 ⟨rfl, rfl⟩)
        | (go_at_call 21; first | ((with_reducible refine (PP _).mono ?_); rintro e w1 ⟨rfl, hb⟩; have HQ := Lib.hid (HQ.out.trans (hb.mono HQ.out.size)); obtain ⟨a0, a1, a2, a3, a4, a5, a6, a7, a8, a9, a10, a11⟩ := HX.out _ HQ.out; clear hb) | ((with_reducible refine (PD _).mono ?_); rintro e w1 ⟨rfl, hb⟩; have HQ := Lib.hid (HQ.out.trans (hb.mono HQ.out.size)); obtain ⟨a0, a1, a2, a3, a4, a5, a6, a7, a8, a9, a10, a11⟩ := HX.out _ HQ.out; clear hb))
        | (go_at_call 24; (with_reducible refine (LK _).mono ?_); rintro e w1 ⟨rfl, hb⟩; have HQ := Lib.hid (HQ.out.trans (hb.mono HQ.out.size)); obtain ⟨a0, a1, a2, a3, a4, a5, a6, a7, a8, a9, a10, a11⟩ := HX.out _ HQ.out; clear hb)
        | (go_at_call 23; (with_reducible refine (NM _).mono ?_); rintro e w1 ⟨rfl, rfl⟩)
        | (go_at_call 22; (with_reducible refine (RM _).mono ?_); rintro e w1 ⟨rfl, hb⟩; have HQ := Lib.hid (HQ.out.trans (hb.mono HQ.out.size)); obtain ⟨a0, a1, a2, a3, a4, a5, a6, a7, a8, a9, a10, a11⟩ := HX.out _ HQ.out; clear hb)
        | (go_at_call 25; (with_reducible refine (TG _).mono ?_); rintro e w1 ⟨rfl, hb⟩; have HQ := Lib.hid (HQ.out.trans (hb.mono HQ.out.size)); obtain ⟨a0, a1, a2, a3, a4, a5, a6, a7, a8, a9, a10, a11⟩ := HX.out _ HQ.out; clear hb))
      go_ret
      exact ⟨retb (by rw [← HAB.out]; simp), HB0.out.trans (HQ.out.mono HB0.out.size)⟩
  by_cases h2 : kd = 2
  · subst h2
    cases eN <;> cases pP <;> cases bN
    all_goals
      go_enter Tryz.func7, Tryz.ntmps7
      go_wp2_with (first
        | (go_at_call 20; (with_reducible refine (NN _).mono ?_); rintro e w1 ⟨rfl, rfl⟩)
        | (go_at_call 21; first | ((with_reducible refine (PP _).mono ?_); rintro e w1 ⟨rfl, hb⟩; have HQ := Lib.hid (HQ.out.trans (hb.mono HQ.out.size)); obtain ⟨a0, a1, a2, a3, a4, a5, a6, a7, a8, a9, a10, a11⟩ := HX.out _ HQ.out; clear hb) | ((with_reducible refine (PD _).mono ?_); rintro e w1 ⟨rfl, hb⟩; have HQ := Lib.hid (HQ.out.trans (hb.mono HQ.out.size)); obtain ⟨a0, a1, a2, a3, a4, a5, a6, a7, a8, a9, a10, a11⟩ := HX.out _ HQ.out; clear hb))
        | (go_at_call 24; (with_reducible refine (LK _).mono ?_); rintro e w1 ⟨rfl, hb⟩; have HQ := Lib.hid (HQ.out.trans (hb.mono HQ.out.size)); obtain ⟨a0, a1, a2, a3, a4, a5, a6, a7, a8, a9, a10, a11⟩ := HX.out _ HQ.out; clear hb)
        | (go_at_call 23; (with_reducible refine (NM _).mono ?_); rintro e w1 ⟨rfl, rfl⟩)
        | (go_at_call 22; (with_reducible refine (RM _).mono ?_); rintro e w1 ⟨rfl, hb⟩; have HQ := Lib.hid (HQ.out.trans (hb.mono HQ.out.size)); obtain ⟨a0, a1, a2, a3, a4, a5, a6, a7, a8, a9, a10, a11⟩ := HX.out _ HQ.out; clear hb)
        | (go_at_call 25; (with_reducible refine (TG _).mono ?_); rintro e w1 ⟨rfl, hb⟩; have HQ := Lib.hid (HQ.out.trans (hb.mono HQ.out.size)); obtain ⟨a0, a1, a2, a3, a4, a5, a6, a7, a8, a9, a10, a11⟩ := HX.out _ HQ.out; clear hb))
      go_ret
      exact ⟨retb (by rw [← HAB.out]; simp), HB0.out.trans (HQ.out.mono HB0.out.size)⟩
  by_cases h3 : kd = 3
  · subst h3
    cases eN <;> cases pP
    all_goals
      go_enter Tryz.func7, Tryz.ntmps7
      go_wp2_with (first
        | (go_at_call 20; (with_reducible refine (NN _).mono ?_); rintro e w1 ⟨rfl, rfl⟩)
        | (go_at_call 21; first | ((with_reducible refine (PP _).mono ?_); rintro e w1 ⟨rfl, hb⟩; have HQ := Lib.hid (HQ.out.trans (hb.mono HQ.out.size)); obtain ⟨a0, a1, a2, a3, a4, a5, a6, a7, a8, a9, a10, a11⟩ := HX.out _ HQ.out; clear hb) | ((with_reducible refine (PD _).mono ?_); rintro e w1 ⟨rfl, hb⟩; have HQ := Lib.hid (HQ.out.trans (hb.mono HQ.out.size)); obtain ⟨a0, a1, a2, a3, a4, a5, a6, a7, a8, a9, a10, a11⟩ := HX.out _ HQ.out; clear hb))
        | (go_at_call 24; (with_reducible refine (LK _).mono ?_); rintro e w1 ⟨rfl, hb⟩; have HQ := Lib.hid (HQ.out.trans (hb.mono HQ.out.size)); obtain ⟨a0, a1, a2, a3, a4, a5, a6, a7, a8, a9, a10, a11⟩ := HX.out _ HQ.out; clear hb)
        | (go_at_call 23; (with_reducible refine (NM _).mono ?_); rintro e w1 ⟨rfl, rfl⟩)
        | (go_at_call 22; (with_reducible refine (RM _).mono ?_); rintro e w1 ⟨rfl, hb⟩; have HQ := Lib.hid (HQ.out.trans (hb.mono HQ.out.size)); obtain ⟨a0, a1, a2, a3, a4, a5, a6, a7, a8, a9, a10, a11⟩ := HX.out _ HQ.out; clear hb)
        | (go_at_call 25; (with_reducible refine (TG _).mono ?_); rintro e w1 ⟨rfl, hb⟩; have HQ := Lib.hid (HQ.out.trans (hb.mono HQ.out.size)); obtain ⟨a0, a1, a2, a3, a4, a5, a6, a7, a8, a9, a10, a11⟩ := HX.out _ HQ.out; clear hb))
      go_ret
      exact ⟨retb (by rw [← HAB.out]; simp), HB0.out.trans (HQ.out.mono HB0.out.size)⟩
  by_cases h4 : kd = 4
  · subst h4
    cases eN
    all_goals
      go_enter Tryz.func7, Tryz.ntmps7
      go_wp2_with (first
        | (go_at_call 20; (with_reducible refine (NN _).mono ?_); rintro e w1 ⟨rfl, rfl⟩)
        | (go_at_call 21; first | ((with_reducible refine (PP _).mono ?_); rintro e w1 ⟨rfl, hb⟩; have HQ := Lib.hid (HQ.out.trans (hb.mono HQ.out.size)); obtain ⟨a0, a1, a2, a3, a4, a5, a6, a7, a8, a9, a10, a11⟩ := HX.out _ HQ.out; clear hb) | ((with_reducible refine (PD _).mono ?_); rintro e w1 ⟨rfl, hb⟩; have HQ := Lib.hid (HQ.out.trans (hb.mono HQ.out.size)); obtain ⟨a0, a1, a2, a3, a4, a5, a6, a7, a8, a9, a10, a11⟩ := HX.out _ HQ.out; clear hb))
        | (go_at_call 24; (with_reducible refine (LK _).mono ?_); rintro e w1 ⟨rfl, hb⟩; have HQ := Lib.hid (HQ.out.trans (hb.mono HQ.out.size)); obtain ⟨a0, a1, a2, a3, a4, a5, a6, a7, a8, a9, a10, a11⟩ := HX.out _ HQ.out; clear hb)
        | (go_at_call 23; (with_reducible refine (NM _).mono ?_); rintro e w1 ⟨rfl, rfl⟩)
        | (go_at_call 22; (with_reducible refine (RM _).mono ?_); rintro e w1 ⟨rfl, hb⟩; have HQ := Lib.hid (HQ.out.trans (hb.mono HQ.out.size)); obtain ⟨a0, a1, a2, a3, a4, a5, a6, a7, a8, a9, a10, a11⟩ := HX.out _ HQ.out; clear hb)
        | (go_at_call 25; (with_reducible refine (TG _).mono ?_); rintro e w1 ⟨rfl, hb⟩; have HQ := Lib.hid (HQ.out.trans (hb.mono HQ.out.size)); obtain ⟨a0, a1, a2, a3, a4, a5, a6, a7, a8, a9, a10, a11⟩ := HX.out _ HQ.out; clear hb))
      go_ret
      exact ⟨retb (by rw [← HAB.out]; simp), HB0.out.trans (HQ.out.mono HB0.out.size)⟩
  by_cases h6 : kd = 6
  · subst h6
    cases eN <;> cases nN
    all_goals
      go_enter Tryz.func7, Tryz.ntmps7
      go_wp2_with (first
        | (go_at_call 20; (with_reducible refine (NN _).mono ?_); rintro e w1 ⟨rfl, rfl⟩)
        | (go_at_call 21; first | ((with_reducible refine (PP _).mono ?_); rintro e w1 ⟨rfl, hb⟩; have HQ := Lib.hid (HQ.out.trans (hb.mono HQ.out.size)); obtain ⟨a0, a1, a2, a3, a4, a5, a6, a7, a8, a9, a10, a11⟩ := HX.out _ HQ.out; clear hb) | ((with_reducible refine (PD _).mono ?_); rintro e w1 ⟨rfl, hb⟩; have HQ := Lib.hid (HQ.out.trans (hb.mono HQ.out.size)); obtain ⟨a0, a1, a2, a3, a4, a5, a6, a7, a8, a9, a10, a11⟩ := HX.out _ HQ.out; clear hb))
        | (go_at_call 24; (with_reducible refine (LK _).mono ?_); rintro e w1 ⟨rfl, hb⟩; have HQ := Lib.hid (HQ.out.trans (hb.mono HQ.out.size)); obtain ⟨a0, a1, a2, a3, a4, a5, a6, a7, a8, a9, a10, a11⟩ := HX.out _ HQ.out; clear hb)
        | (go_at_call 23; (with_reducible refine (NM _).mono ?_); rintro e w1 ⟨rfl, rfl⟩)
        | (go_at_call 22; (with_reducible refine (RM _).mono ?_); rintro e w1 ⟨rfl, hb⟩; have HQ := Lib.hid (HQ.out.trans (hb.mono HQ.out.size)); obtain ⟨a0, a1, a2, a3, a4, a5, a6, a7, a8, a9, a10, a11⟩ := HX.out _ HQ.out; clear hb)
        | (go_at_call 25; (with_reducible refine (TG _).mono ?_); rintro e w1 ⟨rfl, hb⟩; have HQ := Lib.hid (HQ.out.trans (hb.mono HQ.out.size)); obtain ⟨a0, a1, a2, a3, a4, a5, a6, a7, a8, a9, a10, a11⟩ := HX.out _ HQ.out; clear hb))
      go_ret
      exact ⟨retb (by rw [← HAB.out]; simp), HB0.out.trans (HQ.out.mono HB0.out.size)⟩
  by_cases h8 : kd = 8
  · subst h8
    cases eN <;> cases nN
    all_goals
      go_enter Tryz.func7, Tryz.ntmps7
      go_wp2_with (first
        | (go_at_call 20; (with_reducible refine (NN _).mono ?_); rintro e w1 ⟨rfl, rfl⟩)
        | (go_at_call 21; first | ((with_reducible refine (PP _).mono ?_); rintro e w1 ⟨rfl, hb⟩; have HQ := Lib.hid (HQ.out.trans (hb.mono HQ.out.size)); obtain ⟨a0, a1, a2, a3, a4, a5, a6, a7, a8, a9, a10, a11⟩ := HX.out _ HQ.out; clear hb) | ((with_reducible refine (PD _).mono ?_); rintro e w1 ⟨rfl, hb⟩; have HQ := Lib.hid (HQ.out.trans (hb.mono HQ.out.size)); obtain ⟨a0, a1, a2, a3, a4, a5, a6, a7, a8, a9, a10, a11⟩ := HX.out _ HQ.out; clear hb))
        | (go_at_call 24; (with_reducible refine (LK _).mono ?_); rintro e w1 ⟨rfl, hb⟩; have HQ := Lib.hid (HQ.out.trans (hb.mono HQ.out.size)); obtain ⟨a0, a1, a2, a3, a4, a5, a6, a7, a8, a9, a10, a11⟩ := HX.out _ HQ.out; clear hb)
        | (go_at_call 23; (with_reducible refine (NM _).mono ?_); rintro e w1 ⟨rfl, rfl⟩)
        | (go_at_call 22; (with_reducible refine (RM _).mono ?_); rintro e w1 ⟨rfl, hb⟩; have HQ := Lib.hid (HQ.out.trans (hb.mono HQ.out.size)); obtain ⟨a0, a1, a2, a3, a4, a5, a6, a7, a8, a9, a10, a11⟩ := HX.out _ HQ.out; clear hb)
        | (go_at_call 25; (with_reducible refine (TG _).mono ?_); rintro e w1 ⟨rfl, hb⟩; have HQ := Lib.hid (HQ.out.trans (hb.mono HQ.out.size)); obtain ⟨a0, a1, a2, a3, a4, a5, a6, a7, a8, a9, a10, a11⟩ := HX.out _ HQ.out; clear hb))
      go_ret
      exact ⟨retb (by rw [← HAB.out]; simp), HB0.out.trans (HQ.out.mono HB0.out.size)⟩
  by_cases h7 : kd = 7
  · subst h7
    cases eN
    all_goals
      go_enter Tryz.func7, Tryz.ntmps7
      go_wp2_with (first
        | (go_at_call 20; (with_reducible refine (NN _).mono ?_); rintro e w1 ⟨rfl, rfl⟩)
        | (go_at_call 21; first | ((with_reducible refine (PP _).mono ?_); rintro e w1 ⟨rfl, hb⟩; have HQ := Lib.hid (HQ.out.trans (hb.mono HQ.out.size)); obtain ⟨a0, a1, a2, a3, a4, a5, a6, a7, a8, a9, a10, a11⟩ := HX.out _ HQ.out; clear hb) | ((with_reducible refine (PD _).mono ?_); rintro e w1 ⟨rfl, hb⟩; have HQ := Lib.hid (HQ.out.trans (hb.mono HQ.out.size)); obtain ⟨a0, a1, a2, a3, a4, a5, a6, a7, a8, a9, a10, a11⟩ := HX.out _ HQ.out; clear hb))
        | (go_at_call 24; (with_reducible refine (LK _).mono ?_); rintro e w1 ⟨rfl, hb⟩; have HQ := Lib.hid (HQ.out.trans (hb.mono HQ.out.size)); obtain ⟨a0, a1, a2, a3, a4, a5, a6, a7, a8, a9, a10, a11⟩ := HX.out _ HQ.out; clear hb)
        | (go_at_call 23; (with_reducible refine (NM _).mono ?_); rintro e w1 ⟨rfl, rfl⟩)
        | (go_at_call 22; (with_reducible refine (RM _).mono ?_); rintro e w1 ⟨rfl, hb⟩; have HQ := Lib.hid (HQ.out.trans (hb.mono HQ.out.size)); obtain ⟨a0, a1, a2, a3, a4, a5, a6, a7, a8, a9, a10, a11⟩ := HX.out _ HQ.out; clear hb)
        | (go_at_call 25; (with_reducible refine (TG _).mono ?_); rintro e w1 ⟨rfl, hb⟩; have HQ := Lib.hid (HQ.out.trans (hb.mono HQ.out.size)); obtain ⟨a0, a1, a2, a3, a4, a5, a6, a7, a8, a9, a10, a11⟩ := HX.out _ HQ.out; clear hb))
      go_ret
      exact ⟨retb (by rw [← HAB.out]; simp), HB0.out.trans (HQ.out.mono HB0.out.size)⟩
  by_cases h9 : kd = 9
  · subst h9
    cases eN
    all_goals
      go_enter Tryz.func7, Tryz.ntmps7
      go_wp2_with (first
        | (go_at_call 20; (with_reducible refine (NN _).mono ?_); rintro e w1 ⟨rfl, rfl⟩)
        | (go_at_call 21; first | ((with_reducible refine (PP _).mono ?_); rintro e w1 ⟨rfl, hb⟩; have HQ := Lib.hid (HQ.out.trans (hb.mono HQ.out.size)); obtain ⟨a0, a1, a2, a3, a4, a5, a6, a7, a8, a9, a10, a11⟩ := HX.out _ HQ.out; clear hb) | ((with_reducible refine (PD _).mono ?_); rintro e w1 ⟨rfl, hb⟩; have HQ := Lib.hid (HQ.out.trans (hb.mono HQ.out.size)); obtain ⟨a0, a1, a2, a3, a4, a5, a6, a7, a8, a9, a10, a11⟩ := HX.out _ HQ.out; clear hb))
        | (go_at_call 24; (with_reducible refine (LK _).mono ?_); rintro e w1 ⟨rfl, hb⟩; have HQ := Lib.hid (HQ.out.trans (hb.mono HQ.out.size)); obtain ⟨a0, a1, a2, a3, a4, a5, a6, a7, a8, a9, a10, a11⟩ := HX.out _ HQ.out; clear hb)
        | (go_at_call 23; (with_reducible refine (NM _).mono ?_); rintro e w1 ⟨rfl, rfl⟩)
        | (go_at_call 22; (with_reducible refine (RM _).mono ?_); rintro e w1 ⟨rfl, hb⟩; have HQ := Lib.hid (HQ.out.trans (hb.mono HQ.out.size)); obtain ⟨a0, a1, a2, a3, a4, a5, a6, a7, a8, a9, a10, a11⟩ := HX.out _ HQ.out; clear hb)
        | (go_at_call 25; (with_reducible refine (TG _).mono ?_); rintro e w1 ⟨rfl, hb⟩; have HQ := Lib.hid (HQ.out.trans (hb.mono HQ.out.size)); obtain ⟨a0, a1, a2, a3, a4, a5, a6, a7, a8, a9, a10, a11⟩ := HX.out _ HQ.out; clear hb))
      go_ret
      exact ⟨retb (by rw [← HAB.out]; simp), HB0.out.trans (HQ.out.mono HB0.out.size)⟩
  by_cases h10 : kd = 10
  · subst h10
    cases eN
    all_goals
      go_enter Tryz.func7, Tryz.ntmps7
      go_wp2_with (first
        | (go_at_call 20; (with_reducible refine (NN _).mono ?_); rintro e w1 ⟨rfl, rfl⟩)
        | (go_at_call 21; first | ((with_reducible refine (PP _).mono ?_); rintro e w1 ⟨rfl, hb⟩; have HQ := Lib.hid (HQ.out.trans (hb.mono HQ.out.size)); obtain ⟨a0, a1, a2, a3, a4, a5, a6, a7, a8, a9, a10, a11⟩ := HX.out _ HQ.out; clear hb) | ((with_reducible refine (PD _).mono ?_); rintro e w1 ⟨rfl, hb⟩; have HQ := Lib.hid (HQ.out.trans (hb.mono HQ.out.size)); obtain ⟨a0, a1, a2, a3, a4, a5, a6, a7, a8, a9, a10, a11⟩ := HX.out _ HQ.out; clear hb))
        | (go_at_call 24; (with_reducible refine (LK _).mono ?_); rintro e w1 ⟨rfl, hb⟩; have HQ := Lib.hid (HQ.out.trans (hb.mono HQ.out.size)); obtain ⟨a0, a1, a2, a3, a4, a5, a6, a7, a8, a9, a10, a11⟩ := HX.out _ HQ.out; clear hb)
        | (go_at_call 23; (with_reducible refine (NM _).mono ?_); rintro e w1 ⟨rfl, rfl⟩)
        | (go_at_call 22; (with_reducible refine (RM _).mono ?_); rintro e w1 ⟨rfl, hb⟩; have HQ := Lib.hid (HQ.out.trans (hb.mono HQ.out.size)); obtain ⟨a0, a1, a2, a3, a4, a5, a6, a7, a8, a9, a10, a11⟩ := HX.out _ HQ.out; clear hb)
        | (go_at_call 25; (with_reducible refine (TG _).mono ?_); rintro e w1 ⟨rfl, hb⟩; have HQ := Lib.hid (HQ.out.trans (hb.mono HQ.out.size)); obtain ⟨a0, a1, a2, a3, a4, a5, a6, a7, a8, a9, a10, a11⟩ := HX.out _ HQ.out; clear hb))
      go_ret
      exact ⟨retb (by rw [← HAB.out]; simp), HB0.out.trans (HQ.out.mono HB0.out.size)⟩
  have n1 : (kd == 1) = false := by rw [beq_eq_false_iff_ne]; exact h1
  have n2 : (kd == 2) = false := by rw [beq_eq_false_iff_ne]; exact h2
  have n3 : (kd == 3) = false := by rw [beq_eq_false_iff_ne]; exact h3
  have n4 : (kd == 4) = false := by rw [beq_eq_false_iff_ne]; exact h4
  have n5 : (kd == 5) = false := by rw [beq_eq_false_iff_ne]; exact h5
  have n6 : (kd == 6) = false := by rw [beq_eq_false_iff_ne]; exact h6
  have n7 : (kd == 7) = false := by rw [beq_eq_false_iff_ne]; exact h7
  have n8 : (kd == 8) = false := by rw [beq_eq_false_iff_ne]; exact h8
  have n9 : (kd == 9) = false := by rw [beq_eq_false_iff_ne]; exact h9
  have n10 : (kd == 10) = false := by rw [beq_eq_false_iff_ne]; exact h10
  have HF : Hid (false = AB) := Lib.hid (by rw [← HAB.out, if_neg h1, if_neg h2, if_neg h3, if_neg h4, if_neg h5, if_neg (fun g => g.elim h6 h8), if_neg (fun g => g.elim h7 h9), if_neg h10])
  clear h1 h2 h3 h4 h5 h6 h7 h8 h9 h10
  cases eN
  all_goals
    go_enter Tryz.func7, Tryz.ntmps7
    go_wp2_with (first
      | (go_at_call 20; (with_reducible refine (NN _).mono ?_); rintro e w1 ⟨rfl, rfl⟩)
      | (go_at_call 21; first | ((with_reducible refine (PP _).mono ?_); rintro e w1 ⟨rfl, hb⟩; have HQ := Lib.hid (HQ.out.trans (hb.mono HQ.out.size)); obtain ⟨a0, a1, a2, a3, a4, a5, a6, a7, a8, a9, a10, a11⟩ := HX.out _ HQ.out; clear hb) | ((with_reducible refine (PD _).mono ?_); rintro e w1 ⟨rfl, hb⟩; have HQ := Lib.hid (HQ.out.trans (hb.mono HQ.out.size)); obtain ⟨a0, a1, a2, a3, a4, a5, a6, a7, a8, a9, a10, a11⟩ := HX.out _ HQ.out; clear hb))
      | (go_at_call 24; (with_reducible refine (LK _).mono ?_); rintro e w1 ⟨rfl, hb⟩; have HQ := Lib.hid (HQ.out.trans (hb.mono HQ.out.size)); obtain ⟨a0, a1, a2, a3, a4, a5, a6, a7, a8, a9, a10, a11⟩ := HX.out _ HQ.out; clear hb)
      | (go_at_call 23; (with_reducible refine (NM _).mono ?_); rintro e w1 ⟨rfl, rfl⟩)
      | (go_at_call 22; (with_reducible refine (RM _).mono ?_); rintro e w1 ⟨rfl, hb⟩; have HQ := Lib.hid (HQ.out.trans (hb.mono HQ.out.size)); obtain ⟨a0, a1, a2, a3, a4, a5, a6, a7, a8, a9, a10, a11⟩ := HX.out _ HQ.out; clear hb)
      | (go_at_call 25; (with_reducible refine (TG _).mono ?_); rintro e w1 ⟨rfl, hb⟩; have HQ := Lib.hid (HQ.out.trans (hb.mono HQ.out.size)); obtain ⟨a0, a1, a2, a3, a4, a5, a6, a7, a8, a9, a10, a11⟩ := HX.out _ HQ.out; clear hb))
    go_ret
    exact ⟨retb HF.out, HB0.out.trans (HQ.out.mono HB0.out.size)⟩
end Go.Proofs.YtolpcnhgmmnmcaaGreatDoor
