/-
  How arguments lie in memory: rows of structs, and each of the structs; nothing of the laid variables.
-/
import Derived.Test.YtkcamfcjkjiijaaGreatDoorPEpHold
import Derived.Test.YtkcamfcjkjiijaaGreatDoorPShFrame
import Derived.Test.YtkcamfcjkjiijaaGreatDoorPOdMath
import Derived.Laws.IdiomArrays
import Derived.FnData
import Derived.Lib.SmallJoins
import Derived.Lay
import Derived.LaidOnce
import Derived.MakeChecks
import Derived.Handed
import Derived.Deep.Strs
import Derived.ChangeArms
import Derived.Deep.Slices
namespace Go.Proofs.YtkcamfcjkjiijaaGreatDoor
open Go.ChangeShapes Go.WideShapes Go.ChangeAt Go.RowKit
theorem spotNone {w : World} {a : Addr} {v : Value} (h : w.cell? a = some v) : a.spot = none := by
  unfold World.cell? at h
  split at h
  · split at h
    · cases h
    · rename_i hs; simpa using hs
  · cases h
theorem litAddr {W : World} {a : Addr} {u : Value} (h : W.cell? (a.add 0) = some u) : ∃ b o, a = ⟨b, o, none⟩ ∧ b < W.heap.size := by
  have h2 : W.cell? a = some u := by simpa [Addr.add] using h
  have hs := spotNone h2
  refine ⟨a.block, a.off, by cases a; simp_all, ?_⟩
  unfold World.cell? at h2
  split at h2
  · rename_i hq; exact (Array.getElem?_eq_some_iff.1 hq).1
  · cases h2
set_option maxRecDepth 100000 in
theorem open_rowsT {H : Type} {enc : TypeId × Value → H} {P : Program} {W : World} {fuel : Nat} {cs : List Value} {x : DataW H × List MemPlace} {α : Type} [Inhabited α] {TS TE : TypeId} {k : Nat} (hS : P.underlying TS = some (.slice TE)) (hk : P.cellsOf TE = k) (h1 : 0 < k) (row : α → Rw) (fit : α → Prop) (hrow : ∀ y, (row y).length = k)
    (one : ∀ fuel cs x, DataW.trod enc P W 0 (fun _ => true) true fuel TE cs = some x → ∃ y : α, cs = row y ∧ fit y)
    (h : DataW.trod enc P W 0 (fun _ => true) true fuel TS cs = some x) :
    ∃ (v : Value) (l : List α), cs = [v] ∧ l.length ≤ maxLen ∧ (∀ x ∈ l, fit x) ∧ HoldV k W v (l.map row) := by
  rcases Deep.open_slice hS h with ⟨hcs, _⟩ | ⟨a, len, cap, m, n, D, Pl, hcs, _, hl, hm, hmm, _, hx⟩
  · subst hcs
    exact ⟨_, [], rfl, Nat.zero_le _, (fun x hx => by simp at hx), HoldV.nil k W⟩
  · subst hcs
    simp only [if_true] at hmm
    subst hmm
    rw [hk] at hx
    have each : ∀ i, i < m → ∃ y : α, (∀ (j : Nat) u, (row y)[j]? = some u → W.cell? (a.add (i * k + j)) = some u) ∧ fit y := fun i hi => by
      obtain ⟨cs', g1, g2⟩ := hx i hi
      obtain ⟨_, _, hcell⟩ := World.cells?_some g1
      obtain ⟨y, rfl, hy⟩ := one _ _ _ g2
      refine ⟨y, fun j u hj => ?_, hy⟩
      have hjk : j < k := by have := (List.getElem?_eq_some_iff.1 hj).1; rw [hrow] at this; exact this
      have g0 := hcell j hjk
      rw [Deep.add_add] at g0
      rw [g0]; simpa using hj
    rcases Nat.eq_zero_or_pos len with h0 | h0
    · subst h0
      exact ⟨_, [], rfl, Nat.zero_le _, (fun x hx => by simp at hx), ⟨some a, m, 0, 0, rfl, Nat.zero_le _, (fun h => absurd h (by simp)), (fun j l hj => by simp at hj)⟩⟩
    · obtain ⟨y0, q0, _⟩ := each 0 (by omega)
      obtain ⟨u0, hu0⟩ : ∃ u, (row y0)[0]? = some u := ⟨_, List.getElem?_eq_getElem (by rw [hrow]; exact h1)⟩
      have q1 := q0 0 u0 hu0
      rw [Nat.zero_mul] at q1
      obtain ⟨b, o, rfl, hb⟩ := litAddr q1
      simp only [Addr.add_lit] at each
      obtain ⟨fx, hfx⟩ : ∃ fx : Nat → α, ∀ i, i < m → (∀ (j : Nat) u, (row (fx i))[j]? = some u → W.cell? ⟨b, o + (i * k + j), none⟩ = some u) ∧ fit (fx i) := by
        refine ⟨fun i => if hi : i < m then (each i hi).choose else default, fun i hi => ?_⟩
        simp only [dif_pos hi]
        exact (each i hi).choose_spec
      refine ⟨_, (List.range len).map fx, rfl, by simp; omega, fun x hx => ?_, some ⟨b, o, none⟩, m, b, o, by simp, by simpa using hl, fun _ => ⟨rfl, hb⟩, fun j r hj i y hi hy => ?_⟩
      · obtain ⟨i, hi, rfl⟩ := List.mem_map.1 hx
        exact (hfx i (by have := List.mem_range.1 hi; omega)).2
      · have hjl : j < len := by have := (List.getElem?_eq_some_iff.1 hj).1; simpa using this
        rw [List.getElem?_map, List.getElem?_map, List.getElem?_range hjl] at hj
        simp only [Option.map_some, Option.some.injEq] at hj
        subst hj
        rw [Nat.add_assoc]
        exact (hfx j (by omega)).1 i y hy
theorem cellsOfT : Tryz.prog.cellsOf 9 = 1 := by kernel_rfl
theorem cellsOfTs : Tryz.prog.cellsOf 33 = 1 := by kernel_rfl
set_option maxRecDepth 100000 in
theorem open_paths {H : Type} {enc : TypeId × Value → H} {W : World} {fuel : Nat} {V : Value} {x : DataW H × List MemPlace} (h : DataW.trod enc Tryz.prog W 0 (fun _ => true) true fuel 33 [V] = some x) : ∃ ls : List Bs, ls.length ≤ maxLen ∧ (∀ q ∈ ls, q.length ≤ maxLen) ∧ HoldT W V ls := by
  rcases Deep.open_strs Tryz.underlying33 Tryz.underlying9 cellsOfT h with ⟨hcs, _⟩ | ⟨a, n, c, m, Sx, hcs, _, hl, hm, hmm, _, hcell⟩
  · simp only [List.cons.injEq, and_true] at hcs
    subst hcs
    exact ⟨[], by simp, (fun x h => by cases h), ⟨none, 0, 0, 0, rfl, Nat.le_refl _, (fun h => absurd h (by simp)), (fun j l hj => by cases hj)⟩⟩
  · simp only [List.cons.injEq, and_true] at hcs
    subst hcs
    simp only [if_true] at hmm
    subst hmm
    rcases Nat.eq_zero_or_pos n with h0 | h0
    · subst h0
      exact ⟨[], by simp, (fun x h => by cases h), ⟨some a, m, 0, 0, rfl, Nat.zero_le _, (fun h => absurd h (by simp)), (fun j l hj => by cases hj)⟩⟩
    · have q0 := (hcell 0 (by omega)).1
      obtain ⟨b, o, rfl, hb⟩ := litAddr (by simpa [Addr.add] using q0)
      simp only [Addr.add_lit] at hcell
      have hlen : ((List.range n).map fun i => (Sx i).data.toList).length = n := by simp
      refine ⟨(List.range n).map fun i => (Sx i).data.toList, by rw [hlen]; omega, fun x hx => ?_, ⟨some ⟨b, o, none⟩, m, b, o, by rw [hlen], by rw [hlen]; exact hl, fun _ => ⟨rfl, hb⟩, fun j l hj => ?_⟩⟩
      · obtain ⟨i, hi, rfl⟩ := List.mem_map.1 hx
        have := (hcell i (by have := List.mem_range.1 hi; omega)).2
        rw [← Lib.size_eq]; exact this
      · have hjl := (List.getElem?_eq_some_iff.1 hj).1
        rw [hlen] at hjl
        rw [List.getElem?_map, List.getElem?_range hjl] at hj
        obtain rfl := Option.some.inj hj
        rw [(hcell j (by omega)).1]
theorem cellsOfU2 : Tryz.prog.cellsOf 104 = 2 ∧ Tryz.prog.cellsOf 75 = 3 ∧ Tryz.prog.cellsOf 32 = 1 ∧ Tryz.prog.cellsOf 31 = 1 ∧ Tryz.prog.cellsOf 69 = 1 ∧ Tryz.prog.cellsOf 3 = 1 ∧ Tryz.prog.cellsOf 71 = 9 := ⟨by kernel_rfl, by kernel_rfl, by kernel_rfl, by kernel_rfl, by kernel_rfl, by kernel_rfl, by kernel_rfl⟩
theorem fieldsCf : ∃ f0 f1 : Field, Tryz.prog.underlying 104 = some (.struct #[f0, f1]) ∧ f0.offset = 0 ∧ f1.offset = 1 ∧ f0.type = 9 ∧ f1.type = 9 := ⟨_, _, Tryz.underlying104, rfl, rfl, rfl, rfl⟩
theorem fieldsRl : ∃ f0 f1 f2 : Field, Tryz.prog.underlying 75 = some (.struct #[f0, f1, f2]) ∧ f0.offset = 0 ∧ f1.offset = 1 ∧ f2.offset = 2 ∧ f0.type = 9 ∧ f1.type = 9 ∧ f2.type = 9 := ⟨_, _, _, Tryz.underlying75, rfl, rfl, rfl, rfl, rfl, rfl⟩
theorem fieldsRc : ∃ f0 f1 f2 f3 f4 f5 f6 f7 f8 : Field, Tryz.prog.underlying 71 = some (.struct #[f0, f1, f2, f3, f4, f5, f6, f7, f8]) ∧ (f0.offset = 0 ∧ f1.offset = 1 ∧ f2.offset = 2 ∧ f3.offset = 3 ∧ f4.offset = 4 ∧ f5.offset = 5 ∧ f6.offset = 6 ∧ f7.offset = 7 ∧ f8.offset = 8) ∧ f0.type = 9 ∧ f1.type = 9 ∧ f2.type = 3 ∧ f3.type = 31 ∧ f4.type = 32 ∧ f5.type = 33 ∧ f6.type = 69 ∧ f7.type = 33 ∧ f8.type = 33 := ⟨_, _, _, _, _, _, _, _, _, Tryz.underlying71, ⟨rfl, rfl, rfl, rfl, rfl, rfl, rfl, rfl, rfl⟩, rfl, rfl, rfl, rfl, rfl, rfl, rfl, rfl, rfl⟩
set_option maxRecDepth 100000 in
theorem one_conf {H : Type} {enc : TypeId × Value → H} {W : World} (fuel : Nat) (cs : List Value) (x : DataW H × List MemPlace) (h : DataW.trod enc Tryz.prog W 0 (fun _ => true) true fuel 104 cs = some x) :
    ∃ y : Bs × Bs, cs = cellsW2 y ∧ (y.1.length ≤ maxLen ∧ y.2.length ≤ maxLen) := by
  obtain ⟨f0, f1, hs, o0, o1, e0, e1⟩ := fieldsCf
  obtain ⟨xs, n, _, _, hlen, hxl, hf⟩ := DataW.trod_struct hs h
  rw [cellsOfU2.1] at hlen
  match xs, hxl, cs, hlen with
  | [y0, y1], _, [v0, v1], _ =>
    have g0 := hf 0 f0 rfl
    have g1 := hf 1 f1 rfl
    rw [e0, o0, cellsOfT] at g0
    rw [e1, o1, cellsOfT] at g1
    obtain ⟨X, hX, _, bX⟩ := DataW.trod_string Tryz.underlying9 g0
    obtain ⟨Y, hY, _, bY⟩ := DataW.trod_string Tryz.underlying9 g1
    simp at hX hY
    subst hX hY
    exact ⟨(X.data.toList, Y.data.toList), by simp [cellsW2], ⟨by rw [← Lib.size_eq]; exact bX, by rw [← Lib.size_eq]; exact bY⟩⟩
set_option maxRecDepth 100000 in
theorem one_relU {H : Type} {enc : TypeId × Value → H} {W : World} (fuel : Nat) (cs : List Value) (x : DataW H × List MemPlace) (h : DataW.trod enc Tryz.prog W 0 (fun _ => true) true fuel 75 cs = some x) :
    ∃ y : Rl, cs = cellsQ y ∧ (y.1.length ≤ maxLen ∧ y.2.1.length ≤ maxLen ∧ y.2.2.length ≤ maxLen) := by
  obtain ⟨f0, f1, f2, hs, o0, o1, o2, e0, e1, e2⟩ := fieldsRl
  obtain ⟨xs, n, _, _, hlen, hxl, hf⟩ := DataW.trod_struct hs h
  rw [cellsOfU2.2.1] at hlen
  match xs, hxl, cs, hlen with
  | [y0, y1, y2], _, [v0, v1, v2], _ =>
    have g0 := hf 0 f0 rfl
    have g1 := hf 1 f1 rfl
    have g2 := hf 2 f2 rfl
    rw [e0, o0, cellsOfT] at g0
    rw [e1, o1, cellsOfT] at g1
    rw [e2, o2, cellsOfT] at g2
    obtain ⟨X, hX, _, bX⟩ := DataW.trod_string Tryz.underlying9 g0
    obtain ⟨Y, hY, _, bY⟩ := DataW.trod_string Tryz.underlying9 g1
    obtain ⟨Z, hZ, _, bZ⟩ := DataW.trod_string Tryz.underlying9 g2
    simp at hX hY hZ
    subst hX hY hZ
    exact ⟨(X.data.toList, Y.data.toList, Z.data.toList), by simp [cellsQ], ⟨by rw [← Lib.size_eq]; exact bX, by rw [← Lib.size_eq]; exact bY, by rw [← Lib.size_eq]; exact bZ⟩⟩
set_option maxRecDepth 100000 in
theorem one_relsU {H : Type} {enc : TypeId × Value → H} {W : World} (fuel : Nat) (cs : List Value) (x : DataW H × List MemPlace) (h : DataW.trod enc Tryz.prog W 0 (fun _ => true) true fuel 32 cs = some x) :
    ∃ y : Gv, cs = [y.2] ∧ (BigQ y.1 ∧ y.1.length ≤ maxLen) ∧ HoldQ W y.2 y.1 := by
  obtain ⟨v, l, h1, h2, h3, h4⟩ := open_rowsT (α := Rl) Tryz.underlying32 cellsOfU2.2.1 (by omega) cellsQ (fun y => y.1.length ≤ maxLen ∧ y.2.1.length ≤ maxLen ∧ y.2.2.length ≤ maxLen) (fun _ => rfl) one_relU h
  exact ⟨(l, v), h1, ⟨h3, h2⟩, h4⟩
instance : Inhabited Uv := ⟨⟨[], [], 0, [], [], [], [], [], [], .slice none 0 0, .slice none 0 0, .slice none 0 0, .slice none 0 0, .slice none 0 0, .slice none 0 0⟩⟩
instance : Inhabited Gv := ⟨([], .slice none 0 0)⟩
set_option maxRecDepth 100000 in
theorem one_rec {H : Type} {enc : TypeId × Value → H} {W : World} (fuel : Nat) (cs : List Value) (x : DataW H × List MemPlace) (h : DataW.trod enc Tryz.prog W 0 (fun _ => true) true fuel 71 cs = some x) :
    ∃ y : Uv, cs = cellsU y ∧ FitU y ∧ InU W y := by
  obtain ⟨f0, f1, f2, f3, f4, f5, f6, f7, f8, hs, ⟨o0, o1, o2, o3, o4, o5, o6, o7, o8⟩, e0, e1, e2, e3, e4, e5, e6, e7, e8⟩ := fieldsRc
  obtain ⟨xs, n, _, _, hlen, hxl, hf⟩ := DataW.trod_struct hs h
  rw [cellsOfU2.2.2.2.2.2.2] at hlen
  match xs, hxl, cs, hlen with
  | [y0, y1, y2, y3, y4, y5, y6, y7, y8], _, [v0, v1, v2, v3, v4, v5, v6, v7, v8], _ =>
    have g0 := hf 0 f0 rfl
    have g1 := hf 1 f1 rfl
    have g2 := hf 2 f2 rfl
    have g3 := hf 3 f3 rfl
    have g4 := hf 4 f4 rfl
    have g5 := hf 5 f5 rfl
    have g6 := hf 6 f6 rfl
    have g7 := hf 7 f7 rfl
    have g8 := hf 8 f8 rfl
    rw [e0, o0, cellsOfT] at g0
    rw [e1, o1, cellsOfT] at g1
    rw [e2, o2, cellsOfU2.2.2.2.2.2.1] at g2
    rw [e3, o3, cellsOfU2.2.2.2.1] at g3
    rw [e4, o4, cellsOfU2.2.2.1] at g4
    rw [e5, o5, cellsOfTs] at g5
    rw [e6, o6, cellsOfU2.2.2.2.2.1] at g6
    rw [e7, o7, cellsOfTs] at g7
    rw [e8, o8, cellsOfTs] at g8
    obtain ⟨X, hX, _, bX⟩ := DataW.trod_string Tryz.underlying9 g0
    obtain ⟨Y, hY, _, bY⟩ := DataW.trod_string Tryz.underlying9 g1
    obtain ⟨m, hM, _, _⟩ := DataW.trod_int Tryz.underlying3 g2
    obtain ⟨dv, dp, hd1, hd2, hd3, hd4⟩ := open_rowsT (α := Gv) Tryz.underlying31 cellsOfU2.2.2.1 (by omega) (fun y => [y.2]) (fun y => (BigQ y.1 ∧ y.1.length ≤ maxLen) ∧ HoldQ W y.2 y.1) (fun _ => rfl) one_relsU g3
    obtain ⟨cv, cn, hc1, hc2, hc3, hc4⟩ := open_rowsT (α := Rl) Tryz.underlying32 cellsOfU2.2.1 (by omega) cellsQ (fun y => y.1.length ≤ maxLen ∧ y.2.1.length ≤ maxLen ∧ y.2.2.length ≤ maxLen) (fun _ => rfl) one_relU g4
    obtain ⟨rp, hr2, hr3, hr4⟩ := open_paths (V := v5) (by simpa using g5)
    obtain ⟨fv, cf, hf1, hf2, hf3, hf4⟩ := open_rowsT (α := Bs × Bs) Tryz.underlying69 cellsOfU2.1 (by omega) cellsW2 (fun y => y.1.length ≤ maxLen ∧ y.2.length ≤ maxLen) (fun _ => rfl) one_conf g6
    obtain ⟨pd, hp2, hp3, hp4⟩ := open_paths (V := v7) (by simpa using g7)
    obtain ⟨aw, ha2, ha3, ha4⟩ := open_paths (V := v8) (by simpa using g8)
    simp at hX hY hM hd1 hc1 hf1
    subst hX hY hM hd1 hc1 hf1
    exact ⟨⟨X.data.toList, Y.data.toList, m, dp, cn, rp, cf, pd, aw, v3, v4, v5, v6, v7, v8⟩, by simp [cellsU], ⟨by rw [← Lib.size_eq]; exact bX, by rw [← Lib.size_eq]; exact bY, hd2, fun g hg => (hd3 g hg).1, hc2, hc3, hr2, hr3, hf2, hf3, hp2, hp3, ha2, ha3⟩, ⟨hd4, fun g hg => (hd3 g hg).2⟩, hc4, hr4, hf4, hp4, ha4⟩
theorem cellsOfS : Tryz.prog.cellsOf 134 = 2 := by kernel_rfl
theorem fieldsS : ∃ f0 f1 : Field, Tryz.prog.underlying 134 = some (.struct #[f0, f1]) ∧ f0.offset = 0 ∧ f1.offset = 1 ∧ f0.type = 9 ∧ f1.type = 9 := ⟨_, _, Tryz.underlying134, rfl, rfl, rfl, rfl⟩
set_option maxRecDepth 100000 in
theorem one_slave {H : Type} {enc : TypeId × Value → H} {W : World} (fuel : Nat) (cs : List Value) (x : DataW H × List MemPlace) (h : DataW.trod enc Tryz.prog W 0 (fun _ => true) true fuel 134 cs = some x) :
    ∃ y : Sv, cs = cellsS y ∧ FitS y := by
  obtain ⟨f0, f1, hs, o0, o1, e0, e1⟩ := fieldsS
  obtain ⟨xs, n, _, _, hlen, hxl, hf⟩ := DataW.trod_struct hs h
  rw [cellsOfS] at hlen
  match xs, hxl, cs, hlen with
  | [y0, y1], _, [v0, v1], _ =>
    have g0 := hf 0 f0 rfl
    have g1 := hf 1 f1 rfl
    rw [e0, o0, cellsOfT] at g0
    rw [e1, o1, cellsOfT] at g1
    obtain ⟨X, hX, _, bX⟩ := DataW.trod_string Tryz.underlying9 g0
    obtain ⟨Y, hY, _, bY⟩ := DataW.trod_string Tryz.underlying9 g1
    simp at hX hY
    subst hX hY
    exact ⟨(X.data.toList, Y.data.toList), by simp [cellsS], ⟨by rw [← Lib.size_eq]; exact bX, by rw [← Lib.size_eq]; exact bY⟩⟩
theorem fieldsMt : ∃ f0 f1 f2 : Field, Tryz.prog.underlying 54 = some (.struct #[f0, f1, f2]) ∧ f0.offset = 0 ∧ f1.offset = 1 ∧ f2.offset = 2 ∧ f0.type = 3 ∧ f1.type = 3 ∧ f2.type = 3 := ⟨_, _, _, Tryz.underlying54, rfl, rfl, rfl, rfl, rfl, rfl⟩
theorem cellsOfMt : Tryz.prog.cellsOf 54 = 3 ∧ Tryz.prog.cellsOf 3 = 1 ∧ Tryz.prog.cellsOf 4 = 1 := ⟨by kernel_rfl, by kernel_rfl, by kernel_rfl⟩
theorem cellsOfAct : Tryz.prog.cellsOf 109 = 12 ∧ Tryz.prog.cellsOf 107 = 1 := ⟨by kernel_rfl, by kernel_rfl⟩
theorem fieldsAct : ∃ f0 f1 f2 f3 f4 f5 f6 f7 f8 f9 : Field, Tryz.prog.underlying 109 = some (.struct #[f0, f1, f2, f3, f4, f5, f6, f7, f8, f9]) ∧ (f0.offset = 0 ∧ f1.offset = 1 ∧ f2.offset = 2 ∧ f3.offset = 3 ∧ f4.offset = 4 ∧ f5.offset = 7 ∧ f6.offset = 8 ∧ f7.offset = 9 ∧ f8.offset = 10 ∧ f9.offset = 11) ∧ f0.type = 3 ∧ f1.type = 9 ∧ f2.type = 9 ∧ f3.type = 9 ∧ f4.type = 54 ∧ f5.type = 3 ∧ f6.type = 4 ∧ f7.type = 4 ∧ f8.type = 107 ∧ f9.type = 33 := ⟨_, _, _, _, _, _, _, _, _, _, Tryz.underlying109, ⟨rfl, rfl, rfl, rfl, rfl, rfl, rfl, rfl, rfl, rfl⟩, rfl, rfl, rfl, rfl, rfl, rfl, rfl, rfl, rfl, rfl⟩
set_option maxRecDepth 100000 in
theorem one_meta {H : Type} {enc : TypeId × Value → H} {W : World} (fuel : Nat) (cs : List Value) (x : DataW H × List MemPlace) (h : DataW.trod enc Tryz.prog W 0 (fun _ => true) true fuel 54 cs = some x) :
    ∃ m u g : Int, cs = [.int .i64 m, .int .i64 u, .int .i64 g] := by
  obtain ⟨f0, f1, f2, hs, o0, o1, o2, e0, e1, e2⟩ := fieldsMt
  obtain ⟨xs, n, _, _, hlen, hxl, hf⟩ := DataW.trod_struct hs h
  rw [cellsOfMt.1] at hlen
  match xs, hxl, cs, hlen with
  | [y0, y1, y2], _, [v0, v1, v2], _ =>
    have g0 := hf 0 f0 rfl
    have g1 := hf 1 f1 rfl
    have g2 := hf 2 f2 rfl
    rw [e0, o0, cellsOfMt.2.1] at g0
    rw [e1, o1, cellsOfMt.2.1] at g1
    rw [e2, o2, cellsOfMt.2.1] at g2
    obtain ⟨m, hm, _, _⟩ := DataW.trod_int Tryz.underlying3 g0
    obtain ⟨u, hu, _, _⟩ := DataW.trod_int Tryz.underlying3 g1
    obtain ⟨g, hg, _, _⟩ := DataW.trod_int Tryz.underlying3 g2
    simp at hm hu hg
    subst hm hu hg
    exact ⟨m, u, g, rfl⟩
set_option maxRecDepth 100000 in
theorem one_act {H : Type} {enc : TypeId × Value → H} {W : World} (fuel : Nat) (cs : List Value) (x : DataW H × List MemPlace) (h : DataW.trod enc Tryz.prog W 0 (fun _ => true) true fuel 109 cs = some x) :
    ∃ y : Kv, cs = (cellsK y).toList ∧ FitK y ∧ InK W y := by
  obtain ⟨f0, f1, f2, f3, f4, f5, f6, f7, f8, f9, hs, ⟨o0, o1, o2, o3, o4, o5, o6, o7, o8, o9⟩, e0, e1, e2, e3, e4, e5, e6, e7, e8, e9⟩ := fieldsAct
  obtain ⟨xs, n, _, _, hlen, hxl, hf⟩ := DataW.trod_struct hs h
  rw [cellsOfAct.1] at hlen
  match xs, hxl, cs, hlen with
  | [y0, y1, y2, y3, y4, y5, y6, y7, y8, y9], _, [v0, v1, v2, v3, v4, v5, v6, v7, v8, v9, v10, v11], _ =>
    have g0 := hf 0 f0 rfl
    have g1 := hf 1 f1 rfl
    have g2 := hf 2 f2 rfl
    have g3 := hf 3 f3 rfl
    have g4 := hf 4 f4 rfl
    have g5 := hf 5 f5 rfl
    have g6 := hf 6 f6 rfl
    have g7 := hf 7 f7 rfl
    have g8 := hf 8 f8 rfl
    have g9 := hf 9 f9 rfl
    rw [e0, o0, cellsOfMt.2.1] at g0
    rw [e1, o1, cellsOfT] at g1
    rw [e2, o2, cellsOfT] at g2
    rw [e3, o3, cellsOfT] at g3
    rw [e4, o4, cellsOfMt.1] at g4
    rw [e5, o5, cellsOfMt.2.1] at g5
    rw [e6, o6, cellsOfMt.2.2] at g6
    rw [e7, o7, cellsOfMt.2.2] at g7
    rw [e8, o8, cellsOfAct.2] at g8
    rw [e9, o9, cellsOfTs] at g9
    obtain ⟨kd, hkd, _, _⟩ := DataW.trod_int Tryz.underlying3 g0
    obtain ⟨X, hX, _, bX⟩ := DataW.trod_string Tryz.underlying9 g1
    obtain ⟨Y, hY, _, bY⟩ := DataW.trod_string Tryz.underlying9 g2
    obtain ⟨U, hU, _, bU⟩ := DataW.trod_string Tryz.underlying9 g3
    obtain ⟨m, u, g, hM⟩ := one_meta _ _ _ g4
    obtain ⟨pr, hpr, _, _⟩ := DataW.trod_int Tryz.underlying3 g5
    obtain ⟨fl, hfl, _⟩ := DataW.trod_bool Tryz.underlying4 g6
    obtain ⟨fo, hfo, _⟩ := DataW.trod_bool Tryz.underlying4 g7
    obtain ⟨sv, sl, hs1, hs2, hs3, hs4⟩ := open_rowsT Tryz.underlying107 cellsOfS (by omega) cellsS FitS (fun _ => rfl) one_slave g8
    obtain ⟨ls, h1, h2, h3⟩ := open_paths (V := v11) (by simpa using g9)
    simp at hkd hX hY hU hM hpr hfl hfo hs1
    obtain ⟨rfl, rfl, rfl⟩ := hM
    subst hkd hX hY hU hpr hfl hfo hs1
    exact ⟨⟨kd, X.data.toList, Y.data.toList, U.data.toList, m, u, g, pr, fl, fo, sl, ls, v10, v11⟩, by simp, ⟨by rw [← Lib.size_eq]; exact bX, by rw [← Lib.size_eq]; exact bY, by rw [← Lib.size_eq]; exact bU, hs2, h1, hs3, h2⟩, hs4, h3⟩
theorem fieldsI : ∃ f0 f1 f2 : Field, Tryz.prog.underlying 106 = some (.struct #[f0, f1, f2]) ∧ f0.offset = 0 ∧ f1.offset = 1 ∧ f2.offset = 2 ∧ f0.type = 9 ∧ f1.type = 9 ∧ f2.type = 4 := ⟨_, _, _, Tryz.underlying106, rfl, rfl, rfl, rfl, rfl, rfl⟩
theorem cellsOfI : Tryz.prog.cellsOf 106 = 3 ∧ Tryz.prog.cellsOf 9 = 1 ∧ Tryz.prog.cellsOf 4 = 1 := ⟨by kernel_rfl, by kernel_rfl, by kernel_rfl⟩
abbrev FitI (x : It) : Prop := x.1.length ≤ maxLen ∧ x.2.1.length ≤ maxLen
set_option maxRecDepth 100000 in
theorem one_interest {H : Type} {enc : TypeId × Value → H} {W : World} (fuel : Nat) (cs : List Value) (x : DataW H × List MemPlace) (h : DataW.trod enc Tryz.prog W 0 (fun _ => true) true fuel 106 cs = some x) :
    ∃ y : It, cs = cellsI y ∧ FitI y := by
  obtain ⟨f0, f1, f2, hs, o0, o1, o2, e0, e1, e2⟩ := fieldsI
  obtain ⟨xs, n, _, _, hlen, hxl, hf⟩ := DataW.trod_struct hs h
  rw [cellsOfI.1] at hlen
  match xs, hxl, cs, hlen with
  | [y0, y1, y2], _, [v0, v1, v2], _ =>
    have g0 := hf 0 f0 rfl
    have g1 := hf 1 f1 rfl
    have g2 := hf 2 f2 rfl
    rw [e0, o0, cellsOfI.2.1] at g0
    rw [e1, o1, cellsOfI.2.1] at g1
    rw [e2, o2, cellsOfI.2.2] at g2
    obtain ⟨X, hX, _, bX⟩ := DataW.trod_string Tryz.underlying9 g0
    obtain ⟨Y, hY, _, bY⟩ := DataW.trod_string Tryz.underlying9 g1
    obtain ⟨z, hZ, _⟩ := DataW.trod_bool Tryz.underlying4 g2
    simp at hX hY hZ
    subst hX hY hZ
    exact ⟨(X.data.toList, Y.data.toList, z), by simp [cellsI, bsT], ⟨by rw [← Lib.size_eq]; exact bX, by rw [← Lib.size_eq]; exact bY⟩⟩
abbrev FitL (p : Lp) : Prop := p.1.1.length ≤ maxLen ∧ p.1.2.length ≤ maxLen ∧ ∀ q ∈ p.1.2, q.length ≤ maxLen
theorem fieldsL : ∃ f0 f1 : Field, Tryz.prog.underlying 63 = some (.struct #[f0, f1]) ∧ f0.offset = 0 ∧ f1.offset = 1 ∧ f0.type = 9 ∧ f1.type = 33 ∧ Deep.oneCellFields Tryz.prog #[f0, f1] = true := ⟨_, _, Tryz.underlying63, rfl, rfl, rfl, rfl, by kernel_rfl⟩
theorem cellsL : Tryz.prog.cellsOf 63 = 2 ∧ Tryz.prog.cellsOf 9 = 1 ∧ Tryz.prog.cellsOf 33 = 1 := ⟨by kernel_rfl, by kernel_rfl, by kernel_rfl⟩
set_option maxRecDepth 100000 in
theorem one_list {H : Type} {enc : TypeId × Value → H} {W : World} {fuel : Nat} {cs : List Value} {x : DataW H × List MemPlace} (h : DataW.trod enc Tryz.prog W 0 (fun _ => true) true fuel 63 cs = some x) :
    ∃ p : Lp, cs = [.string (bsT p.1.1), p.2] ∧ FitL p ∧ HoldT W p.2 p.1.2 := by
  obtain ⟨f0, f1, hs, o0, o1, e0, e1, -⟩ := fieldsL
  obtain ⟨xs, n, _, _, hlen, hxl, hf⟩ := DataW.trod_struct hs h
  rw [cellsL.1] at hlen
  match xs, hxl, cs, hlen with
  | [y0, y1], _, [v0, v1], _ =>
    have g0 := hf 0 f0 rfl
    have g1 := hf 1 f1 rfl
    rw [e0, o0, cellsL.2.1] at g0
    rw [e1, o1, cellsL.2.2] at g1
    obtain ⟨X, hX, _, bX⟩ := DataW.trod_string Tryz.underlying9 g0
    simp at hX
    subst hX
    obtain ⟨ls, h1, h2, h3⟩ := open_paths (V := v1) (by simpa using g1)
    exact ⟨((X.data.toList, ls), v1), by simp [bsT], ⟨by rw [← Lib.size_eq]; exact bX, h1, h2⟩, h3⟩
theorem fieldsD : ∃ f0 f1 f2 : Field, Tryz.prog.underlying 100 = some (.struct #[f0, f1, f2]) ∧ f0.offset = 0 ∧ f1.offset = 1 ∧ f2.offset = 2 ∧ f0.type = 9 ∧ f1.type = 9 ∧ f2.type = 9 := ⟨_, _, _, Tryz.underlying100, rfl, rfl, rfl, rfl, rfl, rfl⟩
theorem cellsD : Tryz.prog.cellsOf 100 = 3 ∧ Tryz.prog.cellsOf 9 = 1 := ⟨by kernel_rfl, by kernel_rfl⟩
set_option maxRecDepth 100000 in
theorem one_divert {H : Type} {enc : TypeId × Value → H} {W : World} {base fuel : Nat} {sp : Nat → Bool} {hl : Bool} {cs : List Value} {x : DataW H × List MemPlace} (h : DataW.trod enc Tryz.prog W base sp hl fuel 100 cs = some x) :
    ∃ X Y Z : ByteArray, cs = [.string X, .string Y, .string Z] ∧ X.size ≤ maxLen ∧ Y.size ≤ maxLen ∧ Z.size ≤ maxLen := by
  obtain ⟨f0, f1, f2, hs, o0, o1, o2, e0, e1, e2⟩ := fieldsD
  obtain ⟨xs, n, _, _, hlen, hxl, hf⟩ := DataW.trod_struct hs h
  rw [cellsD.1] at hlen
  match xs, hxl, cs, hlen with
  | [y0, y1, y2], _, [v0, v1, v2], _ =>
    have g0 := hf 0 f0 rfl
    have g1 := hf 1 f1 rfl
    have g2 := hf 2 f2 rfl
    rw [e0, o0, cellsD.2] at g0
    rw [e1, o1, cellsD.2] at g1
    rw [e2, o2, cellsD.2] at g2
    obtain ⟨X, hX, _, bX⟩ := DataW.trod_string Tryz.underlying9 g0
    obtain ⟨Y, hY, _, bY⟩ := DataW.trod_string Tryz.underlying9 g1
    obtain ⟨Z, hZ, _, bZ⟩ := DataW.trod_string Tryz.underlying9 g2
    simp at hX hY hZ
    subst hX hY hZ
    exact ⟨X, Y, Z, rfl, bX, bY, bZ⟩
end Go.Proofs.YtkcamfcjkjiijaaGreatDoor
