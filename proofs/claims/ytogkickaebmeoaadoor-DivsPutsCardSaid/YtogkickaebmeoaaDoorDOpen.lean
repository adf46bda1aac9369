/-
  The frame of the diversions' cards: LaidP out of the world's shape; the argument that is a list of diversions, opened.
-/
import Derived.Test.YtogkickaebmeoaaDoorShFrame
import Derived.Test.YtogkickaebmeoaaDoorDAwake
import Derived.Deep.Slices
namespace Go.Proofs.YtogkickaebmeoaaDoor
open Go.ChangeShapes Go.WideShapes Go.ChangeAt Go.RowKit
theorem maxlen_zero : ((begin Tryd.prog (fun _ _ => 0) default).world.heap[0]?).bind Obj.row? = some (#[.int .i64 0], 3) := by kernel_rfl
theorem laidP_of {w : World} (h : w.ShapedOpen Tryd.prog) (hs : 0 < w.heap.size) : LaidP w :=
  ⟨cell_of_shapedOpen_int h (of_decide_eq_true (by kernel_rfl)) maxlen_zero rfl (by kernel_rfl) (by kernel_rfl) Tryd.underlying3, hs⟩
theorem laidP_shaped {w : World} (h : w.ShapedOpen Tryd.prog) : LaidP w := by
  refine laidP_of h ?_
  obtain ⟨cs, hc, _⟩ := h.1 0 _ _ (of_decide_eq_true (by kernel_rfl)) maxlen_zero
  exact (Array.getElem?_eq_some_iff.1 hc).1
theorem spotNone {w : World} {a : Addr} {v : Value} (h : w.cell? a = some v) : a.spot = none := by
  unfold World.cell? at h
  split at h
  · split at h
    · cases h
    · rename_i hs; simpa using hs
  · cases h
theorem litAddr {W : World} {a : Addr} {u : Value} (h : W.cell? (a.add 0) = some u) : ∃ b o, a = ⟨b, o, none⟩ ∧ b < W.heap.size := by
  have h2 : W.cell? a = some u := by simpa [Addr.add] using h
  have hs := spotNone h2
  refine ⟨a.block, a.off, by cases a; simp_all, ?_⟩
  unfold World.cell? at h2
  split at h2
  · rename_i hq; exact (Array.getElem?_eq_some_iff.1 hq).1
  · cases h2
theorem fieldsD : ∃ f0 f1 f2 : Field, Tryd.prog.underlying 54 = some (.struct #[f0, f1, f2]) ∧ f0.offset = 0 ∧ f1.offset = 1 ∧ f2.offset = 2 ∧ f0.type = 9 ∧ f1.type = 9 ∧ f2.type = 9 := ⟨_, _, _, Tryd.underlying54, rfl, rfl, rfl, rfl, rfl, rfl⟩
theorem cellsD : Tryd.prog.cellsOf 54 = 3 ∧ Tryd.prog.cellsOf 9 = 1 := ⟨by kernel_rfl, by kernel_rfl⟩
set_option maxRecDepth 100000 in
theorem one_divert {H : Type} {enc : TypeId × Value → H} {W : World} {base fuel : Nat} {sp : Nat → Bool} {hl : Bool} {cs : List Value} {x : DataW H × List MemPlace} (h : DataW.trod enc Tryd.prog W base sp hl fuel 54 cs = some x) :
    ∃ X Y Z : ByteArray, cs = [.string X, .string Y, .string Z] ∧ X.size ≤ maxLen ∧ Y.size ≤ maxLen ∧ Z.size ≤ maxLen := by
  obtain ⟨f0, f1, f2, hs, o0, o1, o2, e0, e1, e2⟩ := fieldsD
  obtain ⟨xs, n, _, _, hlen, hxl, hf⟩ := DataW.trod_struct hs h
  rw [cellsD.1] at hlen
  match xs, hxl, cs, hlen with
  | [y0, y1, y2], _, [v0, v1, v2], _ =>
    have g0 := hf 0 f0 rfl
    have g1 := hf 1 f1 rfl
    have g2 := hf 2 f2 rfl
    rw [e0, o0, cellsD.2] at g0
    rw [e1, o1, cellsD.2] at g1
    rw [e2, o2, cellsD.2] at g2
    obtain ⟨X, hX, _, bX⟩ := DataW.trod_string Tryd.underlying9 g0
    obtain ⟨Y, hY, _, bY⟩ := DataW.trod_string Tryd.underlying9 g1
    obtain ⟨Z, hZ, _, bZ⟩ := DataW.trod_string Tryd.underlying9 g2
    simp at hX hY hZ
    subst hX hY hZ
    exact ⟨X, Y, Z, rfl, bX, bY, bZ⟩
set_option maxRecDepth 100000 in
theorem open_Kdivs {H : Type} {enc : TypeId × Value → H} {W : World} {b0 : Nat} {v : Value} {d : DataW H} {ps : List MemPlace} (hval : Value.okWide Tryd.prog W .any b0 52 v) (hd : DataW.Trod enc Tryd.prog W 0 (fun _ => true) true 52 v d ps) :
    ∃ l : List Dv, l.length ≤ maxLen ∧ (∀ x ∈ l, x.1.length ≤ maxLen ∧ x.2.1.length ≤ maxLen ∧ x.2.2.length ≤ maxLen) ∧ HoldD W v l := by
  obtain ⟨fuel, hf⟩ := hd
  obtain ⟨a0, n0, c0, rfl⟩ := okWide_slice Tryd.underlying52 hval
  rcases Deep.open_slice Tryd.underlying52 hf with ⟨hcs, _⟩ | ⟨a, len, cap, m, n, D, Pl, hcs, _, hl, hm, hmm, _, hx⟩
  · simp only [Value.cells, List.cons.injEq, and_true] at hcs
    rw [hcs]
    exact ⟨[], Nat.zero_le _, (fun x hx => by simp at hx), none, 0, 0, 0, rfl, Nat.le_refl _, (fun h => absurd h (by simp)), (fun j l hj => by simp at hj)⟩
  · simp only [Value.cells, List.cons.injEq, and_true] at hcs
    rw [hcs]
    simp only [if_true] at hmm
    subst hmm
    have each : ∀ i, i < m → ∃ X Y Z : ByteArray, W.cell? (a.add (i * 3)) = some (.string X) ∧ W.cell? (a.add (i * 3 + 1)) = some (.string Y) ∧ W.cell? (a.add (i * 3 + 2)) = some (.string Z) ∧ X.size ≤ maxLen ∧ Y.size ≤ maxLen ∧ Z.size ≤ maxLen := fun i hi => by
      obtain ⟨cs', h1, h2⟩ := hx i hi
      rw [cellsD.1] at h1
      obtain ⟨_, _, hcell⟩ := World.cells?_some h1
      obtain ⟨X, Y, Z, rfl, bX, bY, bZ⟩ := one_divert h2
      have g0 := hcell 0 (by omega)
      have g1 := hcell 1 (by omega)
      have g2 := hcell 2 (by omega)
      rw [Deep.add_add] at g0 g1 g2
      exact ⟨X, Y, Z, g0, g1, g2, bX, bY, bZ⟩
    rcases Nat.eq_zero_or_pos len with h0 | h0
    · subst h0
      exact ⟨[], Nat.zero_le _, (fun x hx => by simp at hx), some a, m, 0, 0, rfl, Nat.zero_le _, (fun h => absurd h (by simp)), (fun j l hj => by simp at hj)⟩
    · obtain ⟨X0, Y0, Z0, q0, _⟩ := each 0 (by omega)
      rw [Nat.zero_mul] at q0
      obtain ⟨b, o, rfl, hb⟩ := litAddr q0
      simp only [Addr.add_lit] at each
      obtain ⟨fx, hfx⟩ : ∃ fx : Nat → Dv, ∀ i, i < m → (W.cell? ⟨b, o + i * 3, none⟩ = some (.string (bsA (fx i).1)) ∧ W.cell? ⟨b, o + (i * 3 + 1), none⟩ = some (.string (bsA (fx i).2.1)) ∧ W.cell? ⟨b, o + (i * 3 + 2), none⟩ = some (.string (bsA (fx i).2.2))) ∧ (fx i).1.length ≤ maxLen ∧ (fx i).2.1.length ≤ maxLen ∧ (fx i).2.2.length ≤ maxLen := by
        refine ⟨fun i => if hi : i < m then ((each i hi).choose.data.toList, (each i hi).choose_spec.choose.data.toList, (each i hi).choose_spec.choose_spec.choose.data.toList) else ([], [], []), fun i hi => ?_⟩
        have hs := (each i hi).choose_spec.choose_spec.choose_spec
        simp only [dif_pos hi, ← sizeOf]
        exact ⟨⟨hs.1, hs.2.1, hs.2.2.1⟩, hs.2.2.2⟩
      refine ⟨(List.range len).map fx, by simp; omega, fun x hx => ?_, some ⟨b, o, none⟩, m, b, o, by simp, by simpa using hl, fun _ => ⟨rfl, hb⟩, fun j r hj i y hi hy => ?_⟩
      · obtain ⟨i, hi, rfl⟩ := List.mem_map.1 hx
        exact (hfx i (by have := List.mem_range.1 hi; omega)).2
      · have hjl : j < len := by have := (List.getElem?_eq_some_iff.1 hj).1; simpa using this
        rw [List.getElem?_map, List.getElem?_map, List.getElem?_range hjl] at hj
        simp only [Option.map_some, Option.some.injEq] at hj
        subst hj
        obtain ⟨⟨g0, g1, g2⟩, _⟩ := hfx j (by omega)
        match i, hi with
        | 0, _ => simp [rowD] at hy; subst hy; exact g0
        | 1, _ => simp [rowD] at hy; subst hy; exact g1
        | 2, _ => simp [rowD] at hy; subst hy; exact g2
end Go.Proofs.YtogkickaebmeoaaDoor
