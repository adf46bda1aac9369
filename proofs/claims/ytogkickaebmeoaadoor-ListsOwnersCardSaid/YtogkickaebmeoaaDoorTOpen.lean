/-
  Arguments that are a list of paths, or a slice of such lists, opened.
-/
import Derived.Test.YtogkickaebmeoaaDoorTFrame
import Derived.Test.YtogkickaebmeoaaDoorTHold
import Derived.Lib.SmallJoins
import Derived.Deep.Strs
import Derived.Deep.Slices
namespace Go.Proofs.YtogkickaebmeoaaDoor
open Go.ChangeShapes Go.WideShapes Go.ChangeAt Go.RowKit
abbrev FitL (p : Lp) : Prop := p.1.1.length ≤ maxLen ∧ p.1.2.length ≤ maxLen ∧ ∀ q ∈ p.1.2, q.length ≤ maxLen
theorem fieldsL : ∃ f0 f1 : Field, Tryd.prog.underlying 24 = some (.struct #[f0, f1]) ∧ f0.offset = 0 ∧ f1.offset = 1 ∧ f0.type = 9 ∧ f1.type = 22 ∧ Deep.oneCellFields Tryd.prog #[f0, f1] = true := ⟨_, _, Tryd.underlying24, rfl, rfl, rfl, rfl, by kernel_rfl⟩
theorem cellsL : Tryd.prog.cellsOf 24 = 2 ∧ Tryd.prog.cellsOf 9 = 1 ∧ Tryd.prog.cellsOf 22 = 1 := ⟨by kernel_rfl, by kernel_rfl, by kernel_rfl⟩
set_option maxRecDepth 100000 in
theorem open_paths {H : Type} {enc : TypeId × Value → H} {W : World} {fuel : Nat} {V : Value} {x : DataW H × List MemPlace} (h : DataW.trod enc Tryd.prog W 0 (fun _ => true) true fuel 22 [V] = some x) : ∃ ls : List Bs, ls.length ≤ maxLen ∧ (∀ q ∈ ls, q.length ≤ maxLen) ∧ HoldT W V ls := by
  rcases Deep.open_strs Tryd.underlying22 Tryd.underlying9 cellsL.2.1 h with ⟨hcs, _⟩ | ⟨a, n, c, m, Sx, hcs, _, hl, hm, hmm, _, hcell⟩
  · simp only [List.cons.injEq, and_true] at hcs
    subst hcs
    exact ⟨[], by simp, (fun x h => by cases h), ⟨none, 0, 0, 0, rfl, Nat.le_refl _, (fun h => absurd h (by simp)), (fun j l hj => by cases hj)⟩⟩
  · simp only [List.cons.injEq, and_true] at hcs
    subst hcs
    simp only [if_true] at hmm
    subst hmm
    rcases Nat.eq_zero_or_pos n with h0 | h0
    · subst h0
      exact ⟨[], by simp, (fun x h => by cases h), ⟨some a, m, 0, 0, rfl, Nat.zero_le _, (fun h => absurd h (by simp)), (fun j l hj => by cases hj)⟩⟩
    · have q0 := (hcell 0 (by omega)).1
      obtain ⟨b, o, rfl, hb⟩ := litAddr (by simpa [Addr.add] using q0)
      simp only [Addr.add_lit] at hcell
      have hlen : ((List.range n).map fun i => (Sx i).data.toList).length = n := by simp
      refine ⟨(List.range n).map fun i => (Sx i).data.toList, by rw [hlen]; omega, fun x hx => ?_, ⟨some ⟨b, o, none⟩, m, b, o, by rw [hlen], by rw [hlen]; exact hl, fun _ => ⟨rfl, hb⟩, fun j l hj => ?_⟩⟩
      · obtain ⟨i, hi, rfl⟩ := List.mem_map.1 hx
        have := (hcell i (by have := List.mem_range.1 hi; omega)).2
        rw [← Lib.size_eq]; exact this
      · have hjl := (List.getElem?_eq_some_iff.1 hj).1
        rw [hlen] at hjl
        rw [List.getElem?_map, List.getElem?_range hjl] at hj
        obtain rfl := Option.some.inj hj
        rw [(hcell j (by omega)).1]
set_option maxRecDepth 100000 in
theorem one_list {H : Type} {enc : TypeId × Value → H} {W : World} {fuel : Nat} {cs : List Value} {x : DataW H × List MemPlace} (h : DataW.trod enc Tryd.prog W 0 (fun _ => true) true fuel 24 cs = some x) :
    ∃ p : Lp, cs = [.string (bsT p.1.1), p.2] ∧ FitL p ∧ HoldT W p.2 p.1.2 := by
  obtain ⟨f0, f1, hs, o0, o1, e0, e1, -⟩ := fieldsL
  obtain ⟨xs, n, _, _, hlen, hxl, hf⟩ := DataW.trod_struct hs h
  rw [cellsL.1] at hlen
  match xs, hxl, cs, hlen with
  | [y0, y1], _, [v0, v1], _ =>
    have g0 := hf 0 f0 rfl
    have g1 := hf 1 f1 rfl
    rw [e0, o0, cellsL.2.1] at g0
    rw [e1, o1, cellsL.2.2] at g1
    obtain ⟨X, hX, _, bX⟩ := DataW.trod_string Tryd.underlying9 g0
    simp at hX
    subst hX
    obtain ⟨ls, h1, h2, h3⟩ := open_paths (V := v1) (by simpa using g1)
    exact ⟨((X.data.toList, ls), v1), by simp [bsT], ⟨by rw [← Lib.size_eq]; exact bX, h1, h2⟩, h3⟩
set_option maxRecDepth 100000 in
theorem open_Klists {H : Type} {enc : TypeId × Value → H} {W : World} {b0 : Nat} {v : Value} {d : DataW H} {ps : List MemPlace} (hval : Value.okWide Tryd.prog W .any b0 25 v) (hd : DataW.Trod enc Tryd.prog W 0 (fun _ => true) true 25 v d ps) :
    ∃ L : List Lp, L.length ≤ maxLen ∧ (∀ p ∈ L, FitL p) ∧ HoldL W v L := by
  obtain ⟨fuel, hf⟩ := hd
  obtain ⟨a0, n0, c0, rfl⟩ := okWide_slice Tryd.underlying25 hval
  rcases Deep.open_slice Tryd.underlying25 hf with ⟨hcs, _⟩ | ⟨a, len, cap, m, n, D, Pl, hcs, _, hl, hm, hmm, _, hx⟩
  · simp only [Value.cells, List.cons.injEq, and_true] at hcs
    rw [hcs]
    exact ⟨[], Nat.zero_le _, (fun x hx => by simp at hx), (fun x hx => by simp at hx), none, 0, 0, 0, rfl, Nat.le_refl _, (fun h => absurd h (by simp)), (fun j l hj => by simp at hj)⟩
  · simp only [Value.cells, List.cons.injEq, and_true] at hcs
    rw [hcs]
    simp only [if_true] at hmm
    subst hmm
    have each : ∀ i, i < m → ∃ p : Lp, (W.cell? (a.add (i * 2)) = some (.string (bsT p.1.1)) ∧ W.cell? (a.add (i * 2 + 1)) = some p.2) ∧ FitL p ∧ HoldT W p.2 p.1.2 := fun i hi => by
      obtain ⟨cs', h1, h2⟩ := hx i hi
      rw [cellsL.1] at h1
      obtain ⟨_, _, hcell⟩ := World.cells?_some h1
      obtain ⟨p, rfl, hp⟩ := one_list h2
      have g0 := hcell 0 (by omega)
      have g1 := hcell 1 (by omega)
      rw [Deep.add_add] at g0 g1
      exact ⟨p, ⟨g0, g1⟩, hp⟩
    rcases Nat.eq_zero_or_pos len with h0 | h0
    · subst h0
      exact ⟨[], Nat.zero_le _, (fun x hx => by simp at hx), (fun x hx => by simp at hx), some a, m, 0, 0, rfl, Nat.zero_le _, (fun h => absurd h (by simp)), (fun j l hj => by simp at hj)⟩
    · obtain ⟨p0, ⟨q0, _⟩, _⟩ := each 0 (by omega)
      rw [Nat.zero_mul] at q0
      obtain ⟨b, o, rfl, hb⟩ := litAddr q0
      simp only [Addr.add_lit] at each
      obtain ⟨fx, hfx⟩ : ∃ fx : Nat → Lp, ∀ i, i < m → (W.cell? ⟨b, o + i * 2, none⟩ = some (.string (bsT (fx i).1.1)) ∧ W.cell? ⟨b, o + (i * 2 + 1), none⟩ = some (fx i).2) ∧ FitL (fx i) ∧ HoldT W (fx i).2 (fx i).1.2 := by
        refine ⟨fun i => if hi : i < m then (each i hi).choose else (([], []), .slice none 0 0), fun i hi => ?_⟩
        simp only [dif_pos hi]
        exact (each i hi).choose_spec
      have hat : ∀ j p, ((List.range len).map fx)[j]? = some p → j < len ∧ p = fx j := fun j p hj => by
        have hjl : j < len := by have := (List.getElem?_eq_some_iff.1 hj).1; simpa using this
        rw [List.getElem?_map, List.getElem?_range hjl] at hj
        exact ⟨hjl, (Option.some.inj hj).symm⟩
      refine ⟨(List.range len).map fx, by simp; omega, fun p hp => ?_, fun p hp => ?_, some ⟨b, o, none⟩, m, b, o, by simp, by simpa using hl, fun _ => ⟨rfl, hb⟩, fun j p hj => ?_⟩
      · obtain ⟨j, hj⟩ := List.mem_iff_getElem?.1 hp
        obtain ⟨h1, rfl⟩ := hat j p hj
        exact (hfx j (by omega)).2.1
      · obtain ⟨j, hj⟩ := List.mem_iff_getElem?.1 hp
        obtain ⟨h1, rfl⟩ := hat j p hj
        exact (hfx j (by omega)).2.2
      · obtain ⟨h1, rfl⟩ := hat j p hj
        exact (hfx j (by omega)).1
set_option maxRecDepth 100000 in
theorem open_Klist {H : Type} {enc : TypeId × Value → H} {W : World} {b0 : Nat} {v : Value} {d : DataW H} {ps : List MemPlace} (hval : Value.okWide Tryd.prog W .any b0 24 v) (hd : DataW.Trod enc Tryd.prog W 0 (fun _ => true) true 24 v d ps) :
    ∃ p : Lp, v = aggT p ∧ FitL p ∧ HoldT W p.2 p.1.2 := by
  obtain ⟨f0, f1, hs, _, _, e0, e1, hone⟩ := fieldsL
  obtain ⟨c0, c1, y0, y1, n, rfl, _, _, h0, h1⟩ := Joins.open_agg2 hs hone cellsL.1 hval hd
  rw [e0] at h0
  rw [e1] at h1
  obtain ⟨X, g0, _, bX⟩ := DataW.trod_string Tryd.underlying9 h0
  simp only [List.cons.injEq, and_true] at g0
  subst g0
  obtain ⟨ls, k1, k2, k3⟩ := open_paths h1
  exact ⟨((X.data.toList, ls), c1), by simp, ⟨by rw [← Lib.size_eq]; exact bX, k1, k2⟩, k3⟩
end Go.Proofs.YtogkickaebmeoaaDoor
