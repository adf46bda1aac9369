/-
  How an argument that is a package, or a state, lies in memory.
-/
import Derived.Test.YtkcamfcjkjiijaaGreatDoorPEpOpenA
namespace Go.Proofs.YtkcamfcjkjiijaaGreatDoor
open Go.ChangeShapes Go.WideShapes Go.ChangeAt Go.RowKit Go.Shelf
instance : Inhabited Kv := ⟨⟨0, [], [], [], 0, 0, 0, 0, false, false, [], [], .slice none 0 0, .slice none 0 0⟩⟩
set_option maxRecDepth 100000 in
theorem cellsOfEp : Tryz.prog.cellsOf 56 = 7 ∧ Tryz.prog.cellsOf 38 = 11 ∧ Tryz.prog.cellsOf 34 = 1 ∧ Tryz.prog.cellsOf 26 = 1 ∧ Tryz.prog.cellsOf 36 = 4 ∧ Tryz.prog.cellsOf 35 = 1 := ⟨by kernel_rfl, by kernel_rfl, by kernel_rfl, by kernel_rfl, by kernel_rfl, by kernel_rfl⟩
set_option maxRecDepth 100000 in
theorem fieldsFl : ∃ f0 f1 f2 f3 f4 : Field, Tryz.prog.underlying 56 = some (.struct #[f0, f1, f2, f3, f4]) ∧ (f0.offset = 0 ∧ f1.offset = 1 ∧ f2.offset = 2 ∧ f3.offset = 5 ∧ f4.offset = 6) ∧ f0.type = 9 ∧ f1.type = 3 ∧ f2.type = 54 ∧ f3.type = 9 ∧ f4.type = 4 := ⟨_, _, _, _, _, Tryz.underlying56, ⟨rfl, rfl, rfl, rfl, rfl⟩, rfl, rfl, rfl, rfl, rfl⟩
set_option maxRecDepth 100000 in
theorem fieldsPk : ∃ f0 f1 f2 f3 f4 f5 f6 f7 : Field, Tryz.prog.underlying 38 = some (.struct #[f0, f1, f2, f3, f4, f5, f6, f7]) ∧ (f0.offset = 0 ∧ f1.offset = 1 ∧ f2.offset = 2 ∧ f3.offset = 3 ∧ f4.offset = 4 ∧ f5.offset = 5 ∧ f6.offset = 6 ∧ f7.offset = 7) ∧ f0.type = 9 ∧ f1.type = 9 ∧ f2.type = 31 ∧ f3.type = 32 ∧ f4.type = 33 ∧ f5.type = 34 ∧ f6.type = 26 ∧ f7.type = 36 := ⟨_, _, _, _, _, _, _, _, Tryz.underlying38, ⟨rfl, rfl, rfl, rfl, rfl, rfl, rfl, rfl⟩, rfl, rfl, rfl, rfl, rfl, rfl, rfl, rfl⟩
set_option maxRecDepth 100000 in
theorem one_file {H : Type} {enc : TypeId × Value → H} {W : World} (fuel : Nat) (cs : List Value) (x : DataW H × List MemPlace) (h : DataW.trod enc Tryz.prog W 0 (fun _ => true) true fuel 56 cs = some x) :
    ∃ y : Fv, cs = cellsFv y ∧ (y.pt.length ≤ maxLen ∧ y.tx.length ≤ maxLen) := by
  obtain ⟨f0, f1, f2, f3, f4, hs, ⟨o0, o1, o2, o3, o4⟩, e0, e1, e2, e3, e4⟩ := fieldsFl
  obtain ⟨xs, n, _, _, hlen, hxl, hf⟩ := DataW.trod_struct hs h
  rw [cellsOfEp.1] at hlen
  match xs, hxl, cs, hlen with
  | [y0, y1, y2, y3, y4], _, [v0, v1, v2, v3, v4, v5, v6], _ =>
    have g0 := hf 0 f0 rfl
    have g1 := hf 1 f1 rfl
    have g2 := hf 2 f2 rfl
    have g3 := hf 3 f3 rfl
    have g4 := hf 4 f4 rfl
    rw [e0, o0, cellsOfT] at g0
    rw [e1, o1, cellsOfMt.2.1] at g1
    rw [e2, o2, cellsOfMt.1] at g2
    rw [e3, o3, cellsOfT] at g3
    rw [e4, o4, cellsOfMt.2.2] at g4
    obtain ⟨X, hX, _, bX⟩ := DataW.trod_string Tryz.underlying9 g0
    obtain ⟨kd, hkd, _, _⟩ := DataW.trod_int Tryz.underlying3 g1
    obtain ⟨m, u, g, hM⟩ := one_meta _ _ _ g2
    obtain ⟨Y, hY, _, bY⟩ := DataW.trod_string Tryz.underlying9 g3
    obtain ⟨fl, hfl, _⟩ := DataW.trod_bool Tryz.underlying4 g4
    simp at hX hkd hM hY hfl
    obtain ⟨rfl, rfl, rfl⟩ := hM
    subst hX hkd hY hfl
    exact ⟨⟨X.data.toList, kd, m, u, g, Y.data.toList, fl⟩, by simp, by rw [← Lib.size_eq]; exact bX, by rw [← Lib.size_eq]; exact bY⟩
set_option maxRecDepth 100000 in
/-- The four scripts. -/
theorem one_scripts {H : Type} {enc : TypeId × Value → H} {W : World} (fuel : Nat) (cs : List Value) (x : DataW H × List MemPlace) (h : DataW.trod enc Tryz.prog W 0 (fun _ => true) true fuel 36 cs = some x) :
    ∃ (v0 v1 v2 v3 : Value) (s0 s1 s2 s3 : List Kv), cs = [v0, v1, v2, v3] ∧ ((s0.length ≤ maxLen ∧ ∀ k ∈ s0, FitK k) ∧ HoldAc W v0 s0) ∧ ((s1.length ≤ maxLen ∧ ∀ k ∈ s1, FitK k) ∧ HoldAc W v1 s1) ∧ ((s2.length ≤ maxLen ∧ ∀ k ∈ s2, FitK k) ∧ HoldAc W v2 s2) ∧ ((s3.length ≤ maxLen ∧ ∀ k ∈ s3, FitK k) ∧ HoldAc W v3 s3) := by
  obtain ⟨xs, m, _, _, hlen, hxl, hf⟩ := DataW.trod_array Tryz.underlying36 h
  rw [cellsOfEp.2.2.2.2.1] at hlen
  rw [cellsOfEp.2.2.2.2.2] at hf
  match xs, hxl, cs, hlen with
  | [y0, y1, y2, y3], _, [v0, v1, v2, v3], _ =>
    have op : ∀ (v : Value) (y : DataW H × List MemPlace), DataW.trod enc Tryz.prog W 0 (fun _ => true) true m 35 [v] = some y → ∃ l : List Kv, (l.length ≤ maxLen ∧ ∀ k ∈ l, FitK k) ∧ HoldAc W v l := fun v y hy => by
      obtain ⟨sv, l, h1, h2, h3, h4⟩ := open_rowsT (α := Kv) Tryz.underlying35 cellsOfAct.1 (by omega) (fun k => (cellsK k).toList) (fun k => FitK k ∧ InK W k) (fun _ => rfl) one_act hy
      simp only [List.cons.injEq, and_true] at h1
      subst h1
      exact ⟨l, ⟨h2, fun k hk => (h3 k hk).1⟩, h4, fun k hk => (h3 k hk).2⟩
    obtain ⟨s0, f0, g0⟩ := op v0 y0 (by simpa using hf 0 (by omega))
    obtain ⟨s1, f1, g1⟩ := op v1 y1 (by simpa using hf 1 (by omega))
    obtain ⟨s2, f2, g2⟩ := op v2 y2 (by simpa using hf 2 (by omega))
    obtain ⟨s3, f3, g3⟩ := op v3 y3 (by simpa using hf 3 (by omega))
    exact ⟨v0, v1, v2, v3, s0, s1, s2, s3, rfl, ⟨f0, g0⟩, ⟨f1, g1⟩, ⟨f2, g2⟩, ⟨f3, g3⟩⟩
instance : Inhabited It := ⟨([], [], false)⟩
set_option maxRecDepth 100000 in
theorem one_pkg {H : Type} {enc : TypeId × Value → H} {W : World} (fuel : Nat) (cs : List Value) (x : DataW H × List MemPlace) (h : DataW.trod enc Tryz.prog W 0 (fun _ => true) true fuel 38 cs = some x) :
    ∃ y : Pv, cs = cellsP y ∧ FitP y ∧ InP W y := by
  obtain ⟨f0, f1, f2, f3, f4, f5, f6, f7, hs, ⟨o0, o1, o2, o3, o4, o5, o6, o7⟩, e0, e1, e2, e3, e4, e5, e6, e7⟩ := fieldsPk
  obtain ⟨xs, n, _, _, hlen, hxl, hf⟩ := DataW.trod_struct hs h
  rw [cellsOfEp.2.1] at hlen
  match xs, hxl, cs, hlen with
  | [y0, y1, y2, y3, y4, y5, y6, y7], _, [v0, v1, v2, v3, v4, v5, v6, v7, v8, v9, v10], _ =>
    have g0 := hf 0 f0 rfl
    have g1 := hf 1 f1 rfl
    have g2 := hf 2 f2 rfl
    have g3 := hf 3 f3 rfl
    have g4 := hf 4 f4 rfl
    have g5 := hf 5 f5 rfl
    have g6 := hf 6 f6 rfl
    have g7 := hf 7 f7 rfl
    rw [e0, o0, cellsOfT] at g0
    rw [e1, o1, cellsOfT] at g1
    rw [e2, o2, cellsOfU2.2.2.2.1] at g2
    rw [e3, o3, cellsOfU2.2.2.1] at g3
    rw [e4, o4, cellsOfTs] at g4
    rw [e5, o5, cellsOfEp.2.2.1] at g5
    rw [e6, o6, cellsOfEp.2.2.2.1] at g6
    rw [e7, o7, cellsOfEp.2.2.2.2.1] at g7
    obtain ⟨X, hX, _, bX⟩ := DataW.trod_string Tryz.underlying9 g0
    obtain ⟨Y, hY, _, bY⟩ := DataW.trod_string Tryz.underlying9 g1
    obtain ⟨dv, dp, hd1, hd2, hd3, hd4⟩ := open_rowsT (α := Gv) Tryz.underlying31 cellsOfU2.2.2.1 (by omega) (fun y => [y.2]) (fun y => (BigQ y.1 ∧ y.1.length ≤ maxLen) ∧ HoldQ W y.2 y.1) (fun _ => rfl) one_relsU g2
    obtain ⟨cv, cn, hc1, hc2, hc3, hc4⟩ := open_rowsT (α := Rl) Tryz.underlying32 cellsOfU2.2.1 (by omega) cellsQ (fun y => y.1.length ≤ maxLen ∧ y.2.1.length ≤ maxLen ∧ y.2.2.length ≤ maxLen) (fun _ => rfl) one_relU g3
    obtain ⟨rp, hr2, hr3, hr4⟩ := open_paths (V := v4) (by simpa using g4)
    obtain ⟨fv, fl, hf1, hf2, hf3, hf4⟩ := open_rowsT (α := Fv) Tryz.underlying34 cellsOfEp.1 (by omega) cellsFv (fun y => y.pt.length ≤ maxLen ∧ y.tx.length ≤ maxLen) (fun _ => rfl) one_file g5
    obtain ⟨iv, it, hi1, hi2, hi3, hi4⟩ := open_rowsT (α := It) Tryz.underlying26 cellsOfI.1 (by omega) cellsI (fun y => y.1.length ≤ maxLen ∧ y.2.1.length ≤ maxLen) (fun _ => rfl) one_interest g6
    obtain ⟨w0, w1, w2, w3, s0, s1, s2, s3, hs1, ⟨p0, q0⟩, ⟨p1, q1⟩, ⟨p2, q2⟩, ⟨p3, q3⟩⟩ := one_scripts _ _ _ g7
    simp at hX hY hd1 hc1 hf1 hi1 hs1
    obtain ⟨rfl, rfl, rfl, rfl⟩ := hs1
    subst hX hY hd1 hc1 hf1 hi1
    exact ⟨⟨X.data.toList, Y.data.toList, dp, cn, rp, fl, it, s0, s1, s2, s3, v2, v3, v4, v5, v6, v7, v8, v9, v10⟩, by simp, ⟨by rw [← Lib.size_eq]; exact bX, by rw [← Lib.size_eq]; exact bY, hd2, fun g hg => (hd3 g hg).1, hc2, hc3, hr2, hr3, hf2, hf3, hi2, hi3, p0.1, p0.2, p1.1, p1.2, p2.1, p2.2, p3.1, p3.2⟩, ⟨⟨hd4, fun g hg => (hd3 g hg).2⟩, hc4, hr4, hf4, hi4, q0, q1, q2, q3⟩⟩
set_option maxRecDepth 100000 in
theorem open_Kpkg {H : Type} {enc : TypeId × Value → H} {W : World} {b0 : Nat} {v : Value} {d : DataW H} {ps : List MemPlace} (hval : Value.okWide Tryz.prog W .any b0 38 v) (hd : DataW.Trod enc Tryz.prog W 0 (fun _ => true) true 38 v d ps) :
    ∃ x : Pv, v = agP x ∧ FitP x ∧ InP W x := by
  obtain ⟨f0, f1, f2, f3, f4, f5, f6, f7, hs, -⟩ := fieldsPk
  obtain ⟨cs, rfl, hsz⟩ := okWide_struct hs hval
  obtain ⟨fuel, hf⟩ := hd
  obtain ⟨y, hy, hfit⟩ := one_pkg fuel cs.toList _ hf
  exact ⟨y, by rw [agP]; congr 1; apply Array.ext'; rw [hy], hfit⟩
set_option maxRecDepth 100000 in
theorem cellsOfSt : Tryz.prog.cellsOf 30 = 7 ∧ Tryz.prog.cellsOf 22 = 1 ∧ Tryz.prog.cellsOf 23 = 1 ∧ Tryz.prog.cellsOf 24 = 1 ∧ Tryz.prog.cellsOf 25 = 1 ∧ Tryz.prog.cellsOf 27 = 1 ∧ Tryz.prog.cellsOf 28 = 1 := ⟨by kernel_rfl, by kernel_rfl, by kernel_rfl, by kernel_rfl, by kernel_rfl, by kernel_rfl, by kernel_rfl⟩
set_option maxRecDepth 100000 in
theorem fieldsSt : ∃ f0 f1 f2 f3 f4 f5 f6 : Field, Tryz.prog.underlying 30 = some (.struct #[f0, f1, f2, f3, f4, f5, f6]) ∧ (f0.offset = 0 ∧ f1.offset = 1 ∧ f2.offset = 2 ∧ f3.offset = 3 ∧ f4.offset = 4 ∧ f5.offset = 5 ∧ f6.offset = 6) ∧ f0.type = 22 ∧ f1.type = 23 ∧ f2.type = 24 ∧ f3.type = 25 ∧ f4.type = 26 ∧ f5.type = 27 ∧ f6.type = 28 := ⟨_, _, _, _, _, _, _, Tryz.underlying30, ⟨rfl, rfl, rfl, rfl, rfl, rfl, rfl⟩, rfl, rfl, rfl, rfl, rfl, rfl, rfl⟩
theorem slice_form {H : Type} {enc : TypeId × Value → H} {P : Program} {W : World} {t e : TypeId} {fuel : Nat} {v : Value} {x : DataW H × List MemPlace} (ht : P.underlying t = some (.slice e)) (h : DataW.trod enc P W 0 (fun _ => true) true fuel t [v] = some x) : ∃ a n c, v = .slice a n c := by
  rcases Deep.open_slice ht h with ⟨hcs, _⟩ | ⟨a, len, cap, m, n, D, Pl, hcs, _⟩
  · simp only [List.cons.injEq, and_true] at hcs; exact ⟨_, _, _, hcs⟩
  · simp only [List.cons.injEq, and_true] at hcs; exact ⟨_, _, _, hcs⟩
abbrev cellsDv (x : Dv) : Rw := [.string (⟨x.1.toArray⟩ : ByteArray), .string (⟨x.2.1.toArray⟩ : ByteArray), .string (⟨x.2.2.toArray⟩ : ByteArray)]
theorem holdD_of {w : World} {v : Value} {l : List Dv} (h : HoldV 3 w v (l.map cellsDv)) : HoldD w v l := by
  obtain ⟨a, c, b, o, e, hc, ha, hcell⟩ := h
  rw [List.length_map] at e hc ha
  refine ⟨a, c, b, o, by rw [List.length_map]; exact e, by rw [List.length_map]; exact hc, fun h0 => ha (by rw [List.length_map] at h0; exact h0), fun j r hj i x hi hx => ?_⟩
  rw [List.getElem?_map] at hj
  obtain ⟨y, hy, rfl⟩ := Option.map_eq_some_iff.1 hj
  refine hcell j (cellsDv y) (by rw [List.getElem?_map, hy]; rfl) i _ hi ?_
  obtain ⟨p, q, r⟩ := y
  match i, hi, hx with
  | 0, _, hx | 1, _, hx | 2, _, hx => cases hx; rfl
theorem holdL_of {w : World} {v : Value} {L : List Lp} (h : HoldV 2 w v (L.map fun p => [.string (⟨p.1.1.toArray⟩ : ByteArray), p.2])) (hi : ∀ p ∈ L, HoldT w p.2 p.1.2) : HoldL w v L := by
  obtain ⟨a, c, b, o, e, hc, ha, hcell⟩ := h
  rw [List.length_map] at e hc ha
  refine ⟨hi, a, c, b, o, e, hc, ha, fun j p hj => ?_⟩
  have hr := hcell j [.string (⟨p.1.1.toArray⟩ : ByteArray), p.2] (by rw [List.getElem?_map, hj]; rfl)
  exact ⟨hr 0 _ (by omega) rfl, hr 1 _ (by omega) rfl⟩
instance : Inhabited Lp := ⟨(([], []), .slice none 0 0)⟩
set_option maxRecDepth 100000 in
theorem one_state {H : Type} {enc : TypeId × Value → H} {W : World} (fuel : Nat) (cs : List Value) (x : DataW H × List MemPlace) (h : DataW.trod enc Tryz.prog W 0 (fun _ => true) true fuel 30 cs = some x) :
    ∃ y : Stv, cs = [y.rv, y.dv, y.ov, y.av, y.iv, y.fv, y.lv] ∧ FitSt y ∧ InSt W y := by
  obtain ⟨f0, f1, f2, f3, f4, f5, f6, hs, ⟨o0, o1, o2, o3, o4, o5, o6⟩, e0, e1, e2, e3, e4, e5, e6⟩ := fieldsSt
  obtain ⟨xs, n, _, _, hlen, hxl, hf⟩ := DataW.trod_struct hs h
  rw [cellsOfSt.1] at hlen
  match xs, hxl, cs, hlen with
  | [y0, y1, y2, y3, y4, y5, y6], _, [v0, v1, v2, v3, v4, v5, v6], _ =>
    have g0 := hf 0 f0 rfl
    have g1 := hf 1 f1 rfl
    have g2 := hf 2 f2 rfl
    have g3 := hf 3 f3 rfl
    have g4 := hf 4 f4 rfl
    have g5 := hf 5 f5 rfl
    have g6 := hf 6 f6 rfl
    rw [e0, o0, cellsOfSt.2.1] at g0
    rw [e1, o1, cellsOfSt.2.2.1] at g1
    rw [e2, o2, cellsOfSt.2.2.2.1] at g2
    rw [e3, o3, cellsOfSt.2.2.2.2.1] at g3
    rw [e4, o4, cellsOfEp.2.2.2.1] at g4
    rw [e5, o5, cellsOfSt.2.2.2.2.2.1] at g5
    rw [e6, o6, cellsOfSt.2.2.2.2.2.2] at g6
    obtain ⟨rv, rs, r1, r2, r3, r4⟩ := open_rowsT (α := Uv) Tryz.underlying22 cellsOfU2.2.2.2.2.2.2 (by omega) cellsU (fun x => FitU x ∧ InU W x) (fun _ => rfl) one_rec g0
    obtain ⟨dv, ds, d1, d2, d3, d4⟩ := open_rowsT (α := Dv) Tryz.underlying23 cellsD.1 (by omega) cellsDv (fun x => x.1.length ≤ maxLen ∧ x.2.1.length ≤ maxLen ∧ x.2.2.length ≤ maxLen) (fun _ => rfl) (fun fuel cs x h => by
      obtain ⟨X, Y, Z, e, bX, bY, bZ⟩ := one_divert h
      exact ⟨(X.data.toList, Y.data.toList, Z.data.toList), by simp [e], by rw [← Lib.size_eq]; exact bX, by rw [← Lib.size_eq]; exact bY, by rw [← Lib.size_eq]; exact bZ⟩) g1
    obtain ⟨lv, ls, l1, l2, l3, l4⟩ := open_rowsT (α := Lp) Tryz.underlying28 cellsL.1 (by omega) (fun p => [.string (⟨p.1.1.toArray⟩ : ByteArray), p.2]) (fun p => FitL p ∧ HoldT W p.2 p.1.2) (fun _ => rfl) (fun fuel cs x h => one_list h) g6
    obtain ⟨oa, on, oc, rfl⟩ := slice_form Tryz.underlying24 (by simpa using g2)
    obtain ⟨aa, an, ac, rfl⟩ := slice_form Tryz.underlying25 (by simpa using g3)
    obtain ⟨ia, im, ic, rfl⟩ := slice_form Tryz.underlying26 (by simpa using g4)
    obtain ⟨fa, fn, fc, rfl⟩ := slice_form Tryz.underlying27 (by simpa using g5)
    simp at r1 d1 l1
    subst r1 d1 l1
    exact ⟨⟨rs, ds, ls, v0, v1, _, _, _, _, v6⟩, rfl, ⟨r2, fun r hr => (r3 r hr).1, d2, d3, l2, fun p hp => (l3 p hp).1⟩, ⟨⟨r4, fun r hr => (r3 r hr).2⟩, holdD_of d4, holdL_of l4 (fun p hp => (l3 p hp).2), ⟨_, _, _, rfl⟩, ⟨_, _, _, rfl⟩, ⟨_, _, _, rfl⟩, ⟨_, _, _, rfl⟩⟩⟩
set_option maxRecDepth 100000 in
theorem open_Kstate {H : Type} {enc : TypeId × Value → H} {W : World} {b0 : Nat} {v : Value} {d : DataW H} {ps : List MemPlace} (hval : Value.okWide Tryz.prog W .any b0 30 v) (hd : DataW.Trod enc Tryz.prog W 0 (fun _ => true) true 30 v d ps) :
    ∃ x : Stv, v = agS x ∧ FitSt x ∧ InSt W x := by
  obtain ⟨f0, f1, f2, f3, f4, f5, f6, hs, -⟩ := fieldsSt
  obtain ⟨cs, rfl, hsz⟩ := okWide_struct hs hval
  obtain ⟨fuel, hf⟩ := hd
  obtain ⟨y, hy, hfit⟩ := one_state fuel cs.toList _ hf
  exact ⟨y, by rw [agS]; congr 1; apply Array.ext'; rw [hy], hfit⟩
end Go.Proofs.YtkcamfcjkjiijaaGreatDoor
