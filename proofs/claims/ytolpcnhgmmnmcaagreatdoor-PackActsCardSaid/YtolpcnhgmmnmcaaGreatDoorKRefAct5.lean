/-
  A command of a script, by the reference: its Act of the fifth kind: what it returns; nothing old turns.
-/
import Derived.Test.YtolpcnhgmmnmcaaGreatDoorKRefSm
namespace Go.Proofs.YtolpcnhgmmnmcaaGreatDoor
open Go.RowKit Go.Shelf
theorem allS (n : Nat) (sl : List Sv) (ps : List Bs) (h1 : sl.length = n) (h2 : ps.length = n) (h : ∀ (j : Nat) s q, j < n → sl[j]? = some s → ps[j]? = some q → slK s = true ∧ orK plK q = true) : sl.all slK = true ∧ ps.all (orK plK) = true := by
  refine ⟨List.all_eq_true.2 fun s hs => ?_, List.all_eq_true.2 fun q hq => ?_⟩
  · obtain ⟨j, hj, rfl⟩ := List.mem_iff_getElem.1 hs
    exact (h j _ (ps[j]'(by omega)) (by omega) (List.getElem?_eq_getElem hj) (List.getElem?_eq_getElem (by omega))).1
  · obtain ⟨j, hj, rfl⟩ := List.mem_iff_getElem.1 hq
    exact (h j (sl[j]'(by omega)) _ (by omega) (List.getElem?_eq_getElem (by omega)) (List.getElem?_eq_getElem hj)).2
theorem notS (sl : List Sv) (ps : List Bs) (k : Nat) (s : Sv) (q : Bs) (h1 : sl[k]? = some s) (h2 : ps[k]? = some q) (h : slK s = true → orK plK q = true → False) : slvK sl ps = false := by
  unfold slvK
  by_cases a : slK s = true
  · have : ps.all (orK plK) = false := by
      rw [Bool.eq_false_iff]; intro g
      exact h a (List.all_eq_true.1 g q (List.mem_of_getElem? h2))
    rw [this, Bool.and_false, Bool.and_false]
  · have : sl.all slK = false := by
      rw [Bool.eq_false_iff]; intro g
      exact a (List.all_eq_true.1 g s (List.mem_of_getElem? h1))
    rw [this, Bool.false_and, Bool.and_false]
set_option maxRecDepth 100000 in
set_option maxHeartbeats 16000000 in
theorem act5_ref (x : Kv) (h5 : x.kd = 5) (hs : SmK x) (w : World) (hh : InK w x) : Calls Tryz.prog 7 #[aggK x] w fun e w' => e = .returned (.bool (actB x)) ∧ Below w.heap.size w w' := by
  have B0 := (Below.refl w.heap.size w).alloc (Nat.le_refl _) (.cells (cellsK x) 27)
  have NN : ∀ W, Calls Tryz.prog 20 #[.string (⟨x.nm.toArray⟩ : ByteArray)] W fun e w' => e = .returned (.bool (nameB x.nm)) ∧ W = w' := fun W => by
    have := name_ref ⟨x.nm.toArray⟩ (by rw [sizeOf, bytesOf]; exact hs.nm) W
    rwa [bytesOf] at this
  have PD : ∀ W, Calls Tryz.prog 21 #[.string (⟨x.ds.toArray⟩ : ByteArray)] W fun e w' => e = .returned (.bool (plK x.ds)) ∧ Below W.heap.size W w' := fun W => by
    have := placeK_ref ⟨x.ds.toArray⟩ (by rw [sizeOf, bytesOf]; exact hs.ds) W
    rwa [bytesOf] at this
  have PP : ∀ W, Calls Tryz.prog 21 #[.string (⟨x.pt.toArray⟩ : ByteArray)] W fun e w' => e = .returned (.bool (plK x.pt)) ∧ Below W.heap.size W w' := fun W => by
    have := placeK_ref ⟨x.pt.toArray⟩ (by rw [sizeOf, bytesOf]; exact hs.pt) W
    rwa [bytesOf] at this
  have LK : ∀ W, Calls Tryz.prog 24 #[.string (⟨x.ds.toArray⟩ : ByteArray)] W fun e w' => e = .returned (.bool (lkK x.ds)) ∧ Below W.heap.size W w' := fun W => by
    have := linkK_ref ⟨x.ds.toArray⟩ (by rw [sizeOf, bytesOf]; exact hs.ds) W
    rwa [bytesOf] at this
  have NM : ∀ W, Calls Tryz.prog 23 #[.string (⟨x.nm.toArray⟩ : ByteArray)] W fun e w' => e = .returned (.bool (nmK x.nm)) ∧ W = w' := fun W => by
    have := nameK_ref ⟨x.nm.toArray⟩ (by rw [sizeOf, bytesOf]; exact hs.nm) W
    rwa [bytesOf] at this
  have TG : ∀ W, Calls Tryz.prog 25 #[.string (⟨x.nm.toArray⟩ : ByteArray)] W fun e w' => e = .returned (.bool (trgK x.nm)) ∧ Below W.heap.size W w' := fun W => by
    have := trgK_ref ⟨x.nm.toArray⟩ (by rw [sizeOf, bytesOf]; exact hs.nm) W
    rwa [bytesOf] at this
  have RM := fun W => rightM_ref x.mm x.uu x.gg W
  have HX := Lib.hid (fun W hW => celK x w W hW)
  have HB0 := Lib.hid B0
  have HQ := Lib.hid (Below.refl (w.alloc (.cells (cellsK x) 27)).heap.size (w.alloc (.cells (cellsK x) 27)))
  have en : decide ((⟨x.nm.toArray⟩ : ByteArray).size = 0) = decide (x.nm = []) := by rw [sizeOf, bytesOf]; cases x.nm <;> simp
  have ed : decide ((⟨x.ds.toArray⟩ : ByteArray).size = 0) = decide (x.ds = []) := by rw [sizeOf, bytesOf]; cases x.ds <;> simp
  have qn := eqTL (⟨x.nm.toArray⟩ : ByteArray) []
  have qd := eqTL (⟨x.ds.toArray⟩ : ByteArray) []
  rw [bytesOf] at qn qd
  have gn := emptyT (⟨x.nm.toArray⟩ : ByteArray)
  have gd := emptyT (⟨x.ds.toArray⟩ : ByteArray)
  rw [en] at gn
  rw [ed] at gd
  clear en ed
  have HSS := Lib.hid hs.ss
  have HQS := Lib.hid hs.qs
  have l1 := hs.sl
  have l2 := hs.ps
  obtain ⟨kd, nm, pt, ds, mm, uu, gg, pr, fl, fo, sl, ps, sv, pv⟩ := x
  obtain ⟨sa, sc, sb, so, hsv, hsc, hsa, hscell⟩ := HoldS.parts hh.1
  obtain ⟨pa, pc, pb, po, hpv, hpc, hpa, hpcell⟩ := hh.2
  have HSC := Lib.hid hscell
  have HPC := Lib.hid hpcell
  dsimp only at hsv hpv hsc hsa hpc hpa l1 l2
  subst hsv
  subst hpv
  obtain ⟨AB, hAB⟩ : ∃ AB, actB ⟨kd, nm, pt, ds, mm, uu, gg, pr, fl, fo, sl, ps, .slice sa sl.length sc, .slice pa ps.length pc⟩ = AB := ⟨_, rfl⟩
  rw [hAB]
  unfold actB orK at hAB
  have HAB := Lib.hid hAB
  clear hAB hs hh B0 hscell hpcell
  unfold aggK cellsK CelK at *
  dsimp only at *
  obtain ⟨a0, a1, a2, a3, a4, a5, a6, a7, a8, a9, a10, a11⟩ := HX.out _ (Below.refl _ _)
  generalize decide (nm = []) = eN at *
  generalize decide (ds = []) = eD at *
  generalize nameB nm = bN at *
  generalize plK ds = pD at *
  generalize plK pt = pP at *
  generalize lkK ds = lD at *
  generalize nmK nm = nN at *
  generalize trgK nm = tN at *
  generalize rightM mm uu gg = rM at *
  obtain ⟨sS, hS⟩ : ∃ b, slvK sl ps = b := ⟨_, rfl⟩
  have HS := Lib.hid hS
  rw [hS] at HAB
  clear hS
  obtain ⟨n, hN⟩ : ∃ n, sl.length = n := ⟨_, rfl⟩
  obtain ⟨m, hM⟩ : ∃ m, ps.length = m := ⟨_, rfl⟩
  simp only [hN] at hsc hsa l1 HX a10 HB0 HQ ⊢
  simp only [hM] at hpc hpa l2 HX a11 HB0 HQ ⊢
  have HN := Lib.hid hN
  have HM := Lib.hid hM
  clear hN hM
  generalize (⟨nm.toArray⟩ : ByteArray) = N at *
  generalize (⟨pt.toArray⟩ : ByteArray) = P at *
  generalize (⟨ds.toArray⟩ : ByteArray) = T at *
  try dsimp only at h5
  subst h5

  have HEQ : Hid ((((lD && prK pr) && sS) && (pP && nN)) = AB) := Lib.hid (by rw [← HAB.out]; simp)
  have HFL : Hid (∀ _ : (((lD && prK pr) && sS) && (pP && nN)) = false, false = AB) := Lib.hid (fun g => by rw [← HEQ.out]; exact g.symm)
  clear HAB
  cases nN
  case false =>
    have HF : Hid (false = AB) := Lib.hid (HFL.out (by simp))
    cases eN
    all_goals
      go_enter Tryz.func7, Tryz.ntmps7
      go_wp2_with (first
        | (go_at_call 20; (with_reducible refine (NN _).mono ?_); rintro e w1 ⟨rfl, rfl⟩)
        | (go_at_call 21; first | ((with_reducible refine (PP _).mono ?_); rintro e w1 ⟨rfl, hb⟩; have HQ := Lib.hid (HQ.out.trans (hb.mono HQ.out.size)); obtain ⟨a0, a1, a2, a3, a4, a5, a6, a7, a8, a9, a10, a11⟩ := HX.out _ HQ.out; clear hb) | ((with_reducible refine (PD _).mono ?_); rintro e w1 ⟨rfl, hb⟩; have HQ := Lib.hid (HQ.out.trans (hb.mono HQ.out.size)); obtain ⟨a0, a1, a2, a3, a4, a5, a6, a7, a8, a9, a10, a11⟩ := HX.out _ HQ.out; clear hb))
        | (go_at_call 24; (with_reducible refine (LK _).mono ?_); rintro e w1 ⟨rfl, hb⟩; have HQ := Lib.hid (HQ.out.trans (hb.mono HQ.out.size)); obtain ⟨a0, a1, a2, a3, a4, a5, a6, a7, a8, a9, a10, a11⟩ := HX.out _ HQ.out; clear hb)
        | (go_at_call 23; (with_reducible refine (NM _).mono ?_); rintro e w1 ⟨rfl, rfl⟩)
        | (go_at_call 22; (with_reducible refine (RM _).mono ?_); rintro e w1 ⟨rfl, hb⟩; have HQ := Lib.hid (HQ.out.trans (hb.mono HQ.out.size)); obtain ⟨a0, a1, a2, a3, a4, a5, a6, a7, a8, a9, a10, a11⟩ := HX.out _ HQ.out; clear hb)
        | (go_at_call 25; (with_reducible refine (TG _).mono ?_); rintro e w1 ⟨rfl, hb⟩; have HQ := Lib.hid (HQ.out.trans (hb.mono HQ.out.size)); obtain ⟨a0, a1, a2, a3, a4, a5, a6, a7, a8, a9, a10, a11⟩ := HX.out _ HQ.out; clear hb))
      go_ret
      exact ⟨retb HF.out, HB0.out.trans (HQ.out.mono HB0.out.size)⟩
  cases lD
  case false =>
    have HF : Hid (false = AB) := Lib.hid (HFL.out (by simp))
    cases eN
    all_goals
      go_enter Tryz.func7, Tryz.ntmps7
      go_wp2_with (first
        | (go_at_call 20; (with_reducible refine (NN _).mono ?_); rintro e w1 ⟨rfl, rfl⟩)
        | (go_at_call 21; first | ((with_reducible refine (PP _).mono ?_); rintro e w1 ⟨rfl, hb⟩; have HQ := Lib.hid (HQ.out.trans (hb.mono HQ.out.size)); obtain ⟨a0, a1, a2, a3, a4, a5, a6, a7, a8, a9, a10, a11⟩ := HX.out _ HQ.out; clear hb) | ((with_reducible refine (PD _).mono ?_); rintro e w1 ⟨rfl, hb⟩; have HQ := Lib.hid (HQ.out.trans (hb.mono HQ.out.size)); obtain ⟨a0, a1, a2, a3, a4, a5, a6, a7, a8, a9, a10, a11⟩ := HX.out _ HQ.out; clear hb))
        | (go_at_call 24; (with_reducible refine (LK _).mono ?_); rintro e w1 ⟨rfl, hb⟩; have HQ := Lib.hid (HQ.out.trans (hb.mono HQ.out.size)); obtain ⟨a0, a1, a2, a3, a4, a5, a6, a7, a8, a9, a10, a11⟩ := HX.out _ HQ.out; clear hb)
        | (go_at_call 23; (with_reducible refine (NM _).mono ?_); rintro e w1 ⟨rfl, rfl⟩)
        | (go_at_call 22; (with_reducible refine (RM _).mono ?_); rintro e w1 ⟨rfl, hb⟩; have HQ := Lib.hid (HQ.out.trans (hb.mono HQ.out.size)); obtain ⟨a0, a1, a2, a3, a4, a5, a6, a7, a8, a9, a10, a11⟩ := HX.out _ HQ.out; clear hb)
        | (go_at_call 25; (with_reducible refine (TG _).mono ?_); rintro e w1 ⟨rfl, hb⟩; have HQ := Lib.hid (HQ.out.trans (hb.mono HQ.out.size)); obtain ⟨a0, a1, a2, a3, a4, a5, a6, a7, a8, a9, a10, a11⟩ := HX.out _ HQ.out; clear hb))
      go_ret
      exact ⟨retb HF.out, HB0.out.trans (HQ.out.mono HB0.out.size)⟩
  cases pP
  case false =>
    have HF : Hid (false = AB) := Lib.hid (HFL.out (by simp))
    cases eN
    all_goals
      go_enter Tryz.func7, Tryz.ntmps7
      go_wp2_with (first
        | (go_at_call 20; (with_reducible refine (NN _).mono ?_); rintro e w1 ⟨rfl, rfl⟩)
        | (go_at_call 21; first | ((with_reducible refine (PP _).mono ?_); rintro e w1 ⟨rfl, hb⟩; have HQ := Lib.hid (HQ.out.trans (hb.mono HQ.out.size)); obtain ⟨a0, a1, a2, a3, a4, a5, a6, a7, a8, a9, a10, a11⟩ := HX.out _ HQ.out; clear hb) | ((with_reducible refine (PD _).mono ?_); rintro e w1 ⟨rfl, hb⟩; have HQ := Lib.hid (HQ.out.trans (hb.mono HQ.out.size)); obtain ⟨a0, a1, a2, a3, a4, a5, a6, a7, a8, a9, a10, a11⟩ := HX.out _ HQ.out; clear hb))
        | (go_at_call 24; (with_reducible refine (LK _).mono ?_); rintro e w1 ⟨rfl, hb⟩; have HQ := Lib.hid (HQ.out.trans (hb.mono HQ.out.size)); obtain ⟨a0, a1, a2, a3, a4, a5, a6, a7, a8, a9, a10, a11⟩ := HX.out _ HQ.out; clear hb)
        | (go_at_call 23; (with_reducible refine (NM _).mono ?_); rintro e w1 ⟨rfl, rfl⟩)
        | (go_at_call 22; (with_reducible refine (RM _).mono ?_); rintro e w1 ⟨rfl, hb⟩; have HQ := Lib.hid (HQ.out.trans (hb.mono HQ.out.size)); obtain ⟨a0, a1, a2, a3, a4, a5, a6, a7, a8, a9, a10, a11⟩ := HX.out _ HQ.out; clear hb)
        | (go_at_call 25; (with_reducible refine (TG _).mono ?_); rintro e w1 ⟨rfl, hb⟩; have HQ := Lib.hid (HQ.out.trans (hb.mono HQ.out.size)); obtain ⟨a0, a1, a2, a3, a4, a5, a6, a7, a8, a9, a10, a11⟩ := HX.out _ HQ.out; clear hb))
      go_ret
      exact ⟨retb HF.out, HB0.out.trans (HQ.out.mono HB0.out.size)⟩
  by_cases p1 : -2147483648 ≤ pr
  case neg =>
    have HF : Hid (false = AB) := Lib.hid (HFL.out (by have : prK pr = false := (by unfold prK; rw [decide_eq_false p1]; rfl); simp [this]))
    cases eN
    all_goals
      go_enter Tryz.func7, Tryz.ntmps7
      go_wp2_with (first
        | (go_at_call 20; (with_reducible refine (NN _).mono ?_); rintro e w1 ⟨rfl, rfl⟩)
        | (go_at_call 21; first | ((with_reducible refine (PP _).mono ?_); rintro e w1 ⟨rfl, hb⟩; have HQ := Lib.hid (HQ.out.trans (hb.mono HQ.out.size)); obtain ⟨a0, a1, a2, a3, a4, a5, a6, a7, a8, a9, a10, a11⟩ := HX.out _ HQ.out; clear hb) | ((with_reducible refine (PD _).mono ?_); rintro e w1 ⟨rfl, hb⟩; have HQ := Lib.hid (HQ.out.trans (hb.mono HQ.out.size)); obtain ⟨a0, a1, a2, a3, a4, a5, a6, a7, a8, a9, a10, a11⟩ := HX.out _ HQ.out; clear hb))
        | (go_at_call 24; (with_reducible refine (LK _).mono ?_); rintro e w1 ⟨rfl, hb⟩; have HQ := Lib.hid (HQ.out.trans (hb.mono HQ.out.size)); obtain ⟨a0, a1, a2, a3, a4, a5, a6, a7, a8, a9, a10, a11⟩ := HX.out _ HQ.out; clear hb)
        | (go_at_call 23; (with_reducible refine (NM _).mono ?_); rintro e w1 ⟨rfl, rfl⟩)
        | (go_at_call 22; (with_reducible refine (RM _).mono ?_); rintro e w1 ⟨rfl, hb⟩; have HQ := Lib.hid (HQ.out.trans (hb.mono HQ.out.size)); obtain ⟨a0, a1, a2, a3, a4, a5, a6, a7, a8, a9, a10, a11⟩ := HX.out _ HQ.out; clear hb)
        | (go_at_call 25; (with_reducible refine (TG _).mono ?_); rintro e w1 ⟨rfl, hb⟩; have HQ := Lib.hid (HQ.out.trans (hb.mono HQ.out.size)); obtain ⟨a0, a1, a2, a3, a4, a5, a6, a7, a8, a9, a10, a11⟩ := HX.out _ HQ.out; clear hb))
      go_ret
      exact ⟨retb HF.out, HB0.out.trans (HQ.out.mono HB0.out.size)⟩
  by_cases p2 : pr ≤ 2147483647
  case neg =>
    have HF : Hid (false = AB) := Lib.hid (HFL.out (by have : prK pr = false := (by unfold prK; rw [decide_eq_false p2, Bool.and_false]); simp [this]))
    cases eN
    all_goals
      go_enter Tryz.func7, Tryz.ntmps7
      go_wp2_with (first
        | (go_at_call 20; (with_reducible refine (NN _).mono ?_); rintro e w1 ⟨rfl, rfl⟩)
        | (go_at_call 21; first | ((with_reducible refine (PP _).mono ?_); rintro e w1 ⟨rfl, hb⟩; have HQ := Lib.hid (HQ.out.trans (hb.mono HQ.out.size)); obtain ⟨a0, a1, a2, a3, a4, a5, a6, a7, a8, a9, a10, a11⟩ := HX.out _ HQ.out; clear hb) | ((with_reducible refine (PD _).mono ?_); rintro e w1 ⟨rfl, hb⟩; have HQ := Lib.hid (HQ.out.trans (hb.mono HQ.out.size)); obtain ⟨a0, a1, a2, a3, a4, a5, a6, a7, a8, a9, a10, a11⟩ := HX.out _ HQ.out; clear hb))
        | (go_at_call 24; (with_reducible refine (LK _).mono ?_); rintro e w1 ⟨rfl, hb⟩; have HQ := Lib.hid (HQ.out.trans (hb.mono HQ.out.size)); obtain ⟨a0, a1, a2, a3, a4, a5, a6, a7, a8, a9, a10, a11⟩ := HX.out _ HQ.out; clear hb)
        | (go_at_call 23; (with_reducible refine (NM _).mono ?_); rintro e w1 ⟨rfl, rfl⟩)
        | (go_at_call 22; (with_reducible refine (RM _).mono ?_); rintro e w1 ⟨rfl, hb⟩; have HQ := Lib.hid (HQ.out.trans (hb.mono HQ.out.size)); obtain ⟨a0, a1, a2, a3, a4, a5, a6, a7, a8, a9, a10, a11⟩ := HX.out _ HQ.out; clear hb)
        | (go_at_call 25; (with_reducible refine (TG _).mono ?_); rintro e w1 ⟨rfl, hb⟩; have HQ := Lib.hid (HQ.out.trans (hb.mono HQ.out.size)); obtain ⟨a0, a1, a2, a3, a4, a5, a6, a7, a8, a9, a10, a11⟩ := HX.out _ HQ.out; clear hb))
      go_ret
      exact ⟨retb HF.out, HB0.out.trans (HQ.out.mono HB0.out.size)⟩
  by_cases hmn : m = n
  case neg =>
    have HF : Hid (false = AB) := Lib.hid (HFL.out (by have : sS = false := (by rw [← HS.out]; unfold slvK; rw [HN.out, HM.out, decide_eq_false hmn, Bool.and_false, Bool.false_and]); simp [this]))
    cases eN
    all_goals
      go_enter Tryz.func7, Tryz.ntmps7
      go_wp2_with (first
        | (go_at_call 20; (with_reducible refine (NN _).mono ?_); rintro e w1 ⟨rfl, rfl⟩)
        | (go_at_call 21; first | ((with_reducible refine (PP _).mono ?_); rintro e w1 ⟨rfl, hb⟩; have HQ := Lib.hid (HQ.out.trans (hb.mono HQ.out.size)); obtain ⟨a0, a1, a2, a3, a4, a5, a6, a7, a8, a9, a10, a11⟩ := HX.out _ HQ.out; clear hb) | ((with_reducible refine (PD _).mono ?_); rintro e w1 ⟨rfl, hb⟩; have HQ := Lib.hid (HQ.out.trans (hb.mono HQ.out.size)); obtain ⟨a0, a1, a2, a3, a4, a5, a6, a7, a8, a9, a10, a11⟩ := HX.out _ HQ.out; clear hb))
        | (go_at_call 24; (with_reducible refine (LK _).mono ?_); rintro e w1 ⟨rfl, hb⟩; have HQ := Lib.hid (HQ.out.trans (hb.mono HQ.out.size)); obtain ⟨a0, a1, a2, a3, a4, a5, a6, a7, a8, a9, a10, a11⟩ := HX.out _ HQ.out; clear hb)
        | (go_at_call 23; (with_reducible refine (NM _).mono ?_); rintro e w1 ⟨rfl, rfl⟩)
        | (go_at_call 22; (with_reducible refine (RM _).mono ?_); rintro e w1 ⟨rfl, hb⟩; have HQ := Lib.hid (HQ.out.trans (hb.mono HQ.out.size)); obtain ⟨a0, a1, a2, a3, a4, a5, a6, a7, a8, a9, a10, a11⟩ := HX.out _ HQ.out; clear hb)
        | (go_at_call 25; (with_reducible refine (TG _).mono ?_); rintro e w1 ⟨rfl, hb⟩; have HQ := Lib.hid (HQ.out.trans (hb.mono HQ.out.size)); obtain ⟨a0, a1, a2, a3, a4, a5, a6, a7, a8, a9, a10, a11⟩ := HX.out _ HQ.out; clear hb))
      go_ret
      exact ⟨retb HF.out, HB0.out.trans (HQ.out.mono HB0.out.size)⟩
  subst hmn
  by_cases h8 : m ≤ 8
  case neg =>
    have HF : Hid (false = AB) := Lib.hid (HFL.out (by have : sS = false := (by rw [← HS.out]; unfold slvK; rw [HN.out, HM.out, decide_eq_false h8, Bool.false_and, Bool.false_and]); simp [this]))
    cases eN
    all_goals
      go_enter Tryz.func7, Tryz.ntmps7
      go_wp2_with (first
        | (go_at_call 20; (with_reducible refine (NN _).mono ?_); rintro e w1 ⟨rfl, rfl⟩)
        | (go_at_call 21; first | ((with_reducible refine (PP _).mono ?_); rintro e w1 ⟨rfl, hb⟩; have HQ := Lib.hid (HQ.out.trans (hb.mono HQ.out.size)); obtain ⟨a0, a1, a2, a3, a4, a5, a6, a7, a8, a9, a10, a11⟩ := HX.out _ HQ.out; clear hb) | ((with_reducible refine (PD _).mono ?_); rintro e w1 ⟨rfl, hb⟩; have HQ := Lib.hid (HQ.out.trans (hb.mono HQ.out.size)); obtain ⟨a0, a1, a2, a3, a4, a5, a6, a7, a8, a9, a10, a11⟩ := HX.out _ HQ.out; clear hb))
        | (go_at_call 24; (with_reducible refine (LK _).mono ?_); rintro e w1 ⟨rfl, hb⟩; have HQ := Lib.hid (HQ.out.trans (hb.mono HQ.out.size)); obtain ⟨a0, a1, a2, a3, a4, a5, a6, a7, a8, a9, a10, a11⟩ := HX.out _ HQ.out; clear hb)
        | (go_at_call 23; (with_reducible refine (NM _).mono ?_); rintro e w1 ⟨rfl, rfl⟩)
        | (go_at_call 22; (with_reducible refine (RM _).mono ?_); rintro e w1 ⟨rfl, hb⟩; have HQ := Lib.hid (HQ.out.trans (hb.mono HQ.out.size)); obtain ⟨a0, a1, a2, a3, a4, a5, a6, a7, a8, a9, a10, a11⟩ := HX.out _ HQ.out; clear hb)
        | (go_at_call 25; (with_reducible refine (TG _).mono ?_); rintro e w1 ⟨rfl, hb⟩; have HQ := Lib.hid (HQ.out.trans (hb.mono HQ.out.size)); obtain ⟨a0, a1, a2, a3, a4, a5, a6, a7, a8, a9, a10, a11⟩ := HX.out _ HQ.out; clear hb))
      go_ret
      exact ⟨retb HF.out, HB0.out.trans (HQ.out.mono HB0.out.size)⟩
  have HT : Hid ((sl.all slK = true ∧ ps.all (orK plK) = true) → true = AB) := Lib.hid (fun g => by
    have e : sS = true := by (rw [← HS.out]; unfold slvK; rw [HN.out, HM.out, g.1, g.2, decide_eq_true h8]; simp)
    rw [← HEQ.out, e]; unfold prK; rw [decide_eq_true p1, decide_eq_true p2]; rfl)
  have HF : Hid (sS = false → false = AB) := Lib.hid (fun g => HFL.out (by rw [g]; simp))
  clear HEQ HFL
  cases eN
  all_goals
    go_enter Tryz.func7, Tryz.ntmps7
    go_wp2_with (first
      | (go_at_call 20; (with_reducible refine (NN _).mono ?_); rintro e w1 ⟨rfl, rfl⟩)
      | (go_at_call 21; first | ((with_reducible refine (PP _).mono ?_); rintro e w1 ⟨rfl, hb⟩; have HQ := Lib.hid (HQ.out.trans (hb.mono HQ.out.size)); obtain ⟨a0, a1, a2, a3, a4, a5, a6, a7, a8, a9, a10, a11⟩ := HX.out _ HQ.out; clear hb) | ((with_reducible refine (PD _).mono ?_); rintro e w1 ⟨rfl, hb⟩; have HQ := Lib.hid (HQ.out.trans (hb.mono HQ.out.size)); obtain ⟨a0, a1, a2, a3, a4, a5, a6, a7, a8, a9, a10, a11⟩ := HX.out _ HQ.out; clear hb))
      | (go_at_call 24; (with_reducible refine (LK _).mono ?_); rintro e w1 ⟨rfl, hb⟩; have HQ := Lib.hid (HQ.out.trans (hb.mono HQ.out.size)); obtain ⟨a0, a1, a2, a3, a4, a5, a6, a7, a8, a9, a10, a11⟩ := HX.out _ HQ.out; clear hb)
      | (go_at_call 23; (with_reducible refine (NM _).mono ?_); rintro e w1 ⟨rfl, rfl⟩)
      | (go_at_call 22; (with_reducible refine (RM _).mono ?_); rintro e w1 ⟨rfl, hb⟩; have HQ := Lib.hid (HQ.out.trans (hb.mono HQ.out.size)); obtain ⟨a0, a1, a2, a3, a4, a5, a6, a7, a8, a9, a10, a11⟩ := HX.out _ HQ.out; clear hb)
      | (go_at_call 25; (with_reducible refine (TG _).mono ?_); rintro e w1 ⟨rfl, hb⟩; have HQ := Lib.hid (HQ.out.trans (hb.mono HQ.out.size)); obtain ⟨a0, a1, a2, a3, a4, a5, a6, a7, a8, a9, a10, a11⟩ := HX.out _ HQ.out; clear hb))
    clear a0 a1 a2 a3 a4 a5 a6 a7 a8 a9 a10 a11
    go_loopw [4] (fun i wr => ∃ k : Nat, k ≤ m ∧ i = .int .i64 k ∧ Hid (∀ (j : Nat) s q, j < k → sl[j]? = some s → ps[j]? = some q → slK s = true ∧ orK plK q = true) ∧ Hid (Below (w.alloc (.cells #[.int .i64 5, .string N, .string P, .string T, .int .i64 mm, .int .i64 uu, .int .i64 gg, .int .i64 pr, .bool fl, .bool fo, .slice sa m sc, .slice pa m pc] 27)).heap.size (w.alloc (.cells #[.int .i64 5, .string N, .string P, .string T, .int .i64 mm, .int .i64 uu, .int .i64 gg, .int .i64 pr, .bool fl, .bool fo, .slice sa m sc, .slice pa m pc] 27)) wr)) (fun i _ => m - (intOf i).toNat)
    case atStart => exact ⟨0, by omega, rfl, Lib.hid (fun j s q hj => by omega), HQ⟩
    case round =>
      obtain ⟨k, hk, rfl, HK, HB⟩ := hrel
      have hsz := HB.out.size
      obtain ⟨a0, a1, a2, a3, a4, a5, a6, a7, a8, a9, a10, a11⟩ := HX.out _ HB.out
      by_cases hlt : k < m
      · obtain ⟨rfl, hsb⟩ := hsa (by omega)
        obtain ⟨rfl, hpb⟩ := hpa (by omega)
        obtain ⟨⟨s1, s2⟩, hx⟩ : ∃ s, sl[k]? = some s := ⟨_, List.getElem?_eq_getElem (by rw [HN.out]; exact hlt)⟩
        obtain ⟨q, hq⟩ : ∃ q, ps[k]? = some q := ⟨_, List.getElem?_eq_getElem (by rw [HM.out]; exact hlt)⟩
        have c0 := (HSC.out k _ hx).1
        have c1 := (HSC.out k _ hx).2
        have c2 := HPC.out k _ hq
        dsimp only at c0 c1
        have z := HSS.out _ (List.mem_of_getElem? hx)
        have zq := HQS.out _ (List.mem_of_getElem? hq)
        dsimp only at z
        have HY := Lib.hid (fun W (hW : Below (w.alloc (.cells #[.int .i64 5, .string N, .string P, .string T, .int .i64 mm, .int .i64 uu, .int .i64 gg, .int .i64 pr, .bool fl, .bool fo, .slice (some ⟨sb, so, none⟩) m sc, .slice (some ⟨pb, po, none⟩) m pc] 27)).heap.size (w.alloc (.cells #[.int .i64 5, .string N, .string P, .string T, .int .i64 mm, .int .i64 uu, .int .i64 gg, .int .i64 pr, .bool fl, .bool fo, .slice (some ⟨sb, so, none⟩) m sc, .slice (some ⟨pb, po, none⟩) m pc] 27)) W) => And.intro (((HB0.out.trans (hW.mono HB0.out.size)).cell (p := ⟨sb, so + k * 2, none⟩) hsb).trans c0) (And.intro (((HB0.out.trans (hW.mono HB0.out.size)).cell (p := ⟨sb, so + k * 2 + 1, none⟩) hsb).trans c1) (((HB0.out.trans (hW.mono HB0.out.size)).cell (p := ⟨pb, po + k, none⟩) hpb).trans c2)))
        have NS : ∀ W, Calls Tryz.prog 23 #[.string (⟨s1.toArray⟩ : ByteArray)] W fun e w' => e = .returned (.bool (nmK s1)) ∧ W = w' := fun W => by
          have := nameK_ref ⟨s1.toArray⟩ (by rw [sizeOf, bytesOf]; exact z.1) W
          rwa [bytesOf] at this
        have LS : ∀ W, Calls Tryz.prog 24 #[.string (⟨s2.toArray⟩ : ByteArray)] W fun e w' => e = .returned (.bool (lkK s2)) ∧ Below W.heap.size W w' := fun W => by
          have := linkK_ref ⟨s2.toArray⟩ (by rw [sizeOf, bytesOf]; exact z.2) W
          rwa [bytesOf] at this
        have PQ : ∀ W, Calls Tryz.prog 21 #[.string (⟨q.toArray⟩ : ByteArray)] W fun e w' => e = .returned (.bool (plK q)) ∧ Below W.heap.size W w' := fun W => by
          have := placeK_ref ⟨q.toArray⟩ (by rw [sizeOf, bytesOf]; exact zq) W
          rwa [bytesOf] at this
        have eq : decide ((⟨q.toArray⟩ : ByteArray).size = 0) = decide (q = []) := by rw [sizeOf, bytesOf]; cases q <;> simp
        have qq := eqTL (⟨q.toArray⟩ : ByteArray) []
        rw [bytesOf] at qq
        have gq := emptyT (⟨q.toArray⟩ : ByteArray)
        rw [eq] at gq
        clear eq c0 c1 c2 z zq
        have HNO : Hid ((((nmK s1 && lkK s2) && (decide (q = []) || plK q)) = false) → false = AB) := Lib.hid (fun g => HF.out (by
          rw [← HS.out]
          refine notS sl ps k _ q hx hq (fun g1 g2 => ?_)
          have e : ((nmK s1 && lkK s2) && (decide (q = []) || plK q)) = true := by
            rw [show (nmK s1 && lkK s2) = true from g1, show (decide (q = []) || plK q) = true from g2]; rfl
          rw [e] at g; cases g))
        have HOK : Hid ((((nmK s1 && lkK s2) && (decide (q = []) || plK q)) = true) → ∀ (j : Nat) s q, j < k + 1 → sl[j]? = some s → ps[j]? = some q → slK s = true ∧ orK plK q = true) := Lib.hid (fun g j s q' hj h1 h2 => by
          by_cases e : j = k
          · subst e
            rw [hx] at h1; cases h1
            rw [hq] at h2; cases h2
            rw [Bool.and_eq_true] at g
            exact g
          · exact HK.out j s q' (by omega) h1 h2)
        clear hx hq HK HT
        generalize decide (q = []) = eQ at *
        generalize nmK s1 = n1 at *
        generalize lkK s2 = l1' at *
        generalize plK q = pQ at *
        generalize (⟨s1.toArray⟩ : ByteArray) = S1 at *
        generalize (⟨s2.toArray⟩ : ByteArray) = S2 at *
        generalize (⟨q.toArray⟩ : ByteArray) = Q at *
        have HQ := HB
        obtain ⟨d0, d1, d2⟩ := HY.out _ HQ.out
        clear HB
        cases n1 <;> cases l1' <;> cases eQ <;> cases pQ
        all_goals
          go_wp2_with (first
            | (go_at_call 23; (with_reducible refine (NS _).mono ?_); rintro e w1 ⟨rfl, rfl⟩)
            | (go_at_call 24; (with_reducible refine (LS _).mono ?_); rintro e w1 ⟨rfl, hb⟩; have HQ := Lib.hid (HQ.out.trans (hb.mono HQ.out.size)); obtain ⟨a0, a1, a2, a3, a4, a5, a6, a7, a8, a9, a10, a11⟩ := HX.out _ HQ.out; clear hb; obtain ⟨d0, d1, d2⟩ := HY.out _ HQ.out)
            | (go_at_call 21; (with_reducible refine (PQ _).mono ?_); rintro e w1 ⟨rfl, hb⟩; have HQ := Lib.hid (HQ.out.trans (hb.mono HQ.out.size)); obtain ⟨a0, a1, a2, a3, a4, a5, a6, a7, a8, a9, a10, a11⟩ := HX.out _ HQ.out; clear hb; obtain ⟨d0, d1, d2⟩ := HY.out _ HQ.out))
          first
            | (go_ret; exact ⟨retb (HNO.out rfl), HB0.out.trans (HQ.out.mono HB0.out.size)⟩)
            | exact ⟨⟨k + 1, by omega, rfl, Lib.hid (HOK.out rfl), HQ⟩, by show m - ((k : Int) + 1).toNat < m - (k : Int).toNat; omega⟩
      · obtain rfl : k = m := by omega
        have HW : Hid (true = AB) := Lib.hid (HT.out (allS k sl ps HN.out HM.out HK.out))
        clear HT HK
        go_wp2
        go_ret
        exact ⟨retb HW.out, HB0.out.trans (HB.out.mono HB0.out.size)⟩
end Go.Proofs.YtolpcnhgmmnmcaaGreatDoor
