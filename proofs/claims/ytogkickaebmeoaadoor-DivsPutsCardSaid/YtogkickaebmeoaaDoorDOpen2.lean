/-
  An argument that is a diversion, opened.
-/
import Derived.Test.YtogkickaebmeoaaDoorDOpen
import Derived.Lib.SmallJoins
namespace Go.Proofs.YtogkickaebmeoaaDoor
open Go.ChangeShapes Go.WideShapes Go.ChangeAt Go.RowKit
theorem divF : ∃ f0 f1 f2 : Field, Tryd.prog.underlying 54 = some (.struct #[f0, f1, f2]) ∧ Deep.oneCellFields Tryd.prog #[f0, f1, f2] = true ∧ f0.type = 9 ∧ f1.type = 9 ∧ f2.type = 9 := ⟨_, _, _, Tryd.underlying54, by kernel_rfl, rfl, rfl, rfl⟩
set_option maxRecDepth 100000 in
theorem open_Kdiv {H : Type} {enc : TypeId × Value → H} {W : World} {b0 : Nat} {v : Value} {d : DataW H} {ps : List MemPlace} (hval : Value.okWide Tryd.prog W .any b0 54 v) (hd : DataW.Trod enc Tryd.prog W 0 (fun _ => true) true 54 v d ps) :
    ∃ x : Dv, v = aggX x ∧ x.1.length ≤ maxLen ∧ x.2.1.length ≤ maxLen ∧ x.2.2.length ≤ maxLen := by
  obtain ⟨f0, f1, f2, hs, hone, e0, e1, e2⟩ := divF
  obtain ⟨c0, c1, c2, y0, y1, y2, n, rfl, _, _, h0, h1, h2⟩ := Joins.open_agg3 hs hone cellsD.1 hval hd
  rw [e0] at h0
  rw [e1] at h1
  rw [e2] at h2
  obtain ⟨a, g0, _, w0⟩ := DataW.trod_string Tryd.underlying9 h0
  obtain ⟨b, g1, _, w1⟩ := DataW.trod_string Tryd.underlying9 h1
  obtain ⟨c, g2, _, w2⟩ := DataW.trod_string Tryd.underlying9 h2
  simp only [List.cons.injEq, and_true] at g0 g1 g2
  subst g0 g1 g2
  refine ⟨(a.data.toList, b.data.toList, c.data.toList), ?_, by rw [← sizeOf]; exact w0, by rw [← sizeOf]; exact w1, by rw [← sizeOf]; exact w2⟩
  simp [aggX, aggD, bsA]
end Go.Proofs.YtogkickaebmeoaaDoor
