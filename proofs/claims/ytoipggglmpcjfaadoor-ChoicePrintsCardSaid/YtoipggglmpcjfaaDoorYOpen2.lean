/-
  Lists of selections as arguments: opened.
-/
import Derived.Test.YtoipggglmpcjfaaDoorZOpen
import Derived.Test.YtoipggglmpcjfaaDoorYHold
namespace Go.Proofs.YtoipggglmpcjfaaDoor
open Go.ChangeShapes Go.WideShapes Go.ChangeAt Go.RowKit
def FitY (x : Sl) : Prop := x.1.length ≤ maxLen ∧ x.2.2.length ≤ maxLen
theorem cellsOfY : Tryd.prog.cellsOf 44 = 3 := by kernel_rfl
theorem fieldsY : ∃ f0 f1 f2 : Field, Tryd.prog.underlying 44 = some (.struct #[f0, f1, f2]) ∧ f0.offset = 0 ∧ f1.offset = 1 ∧ f2.offset = 2 ∧ f0.type = 9 ∧ f1.type = 4 ∧ f2.type = 9 := ⟨_, _, _, Tryd.underlying44, rfl, rfl, rfl, rfl, rfl, rfl⟩
set_option maxRecDepth 100000 in
theorem one_sel {H : Type} {enc : TypeId × Value → H} {W : World} (fuel : Nat) (cs : List Value) (x : DataW H × List MemPlace) (h : DataW.trod enc Tryd.prog W 0 (fun _ => true) true fuel 44 cs = some x) :
    ∃ y : Sl, cs = cellsY y ∧ FitY y := by
  obtain ⟨f0, f1, f2, hs, o0, o1, o2, e0, e1, e2⟩ := fieldsY
  obtain ⟨xs, n, _, _, hlen, hxl, hf⟩ := DataW.trod_struct hs h
  rw [cellsOfY] at hlen
  match xs, hxl, cs, hlen with
  | [y0, y1, y2], _, [v0, v1, v2], _ =>
    have g0 := hf 0 f0 rfl
    have g1 := hf 1 f1 rfl
    have g2 := hf 2 f2 rfl
    rw [e0, o0, cellsOfT] at g0
    rw [e1, o1, cellsOfA.2.1] at g1
    rw [e2, o2, cellsOfT] at g2
    obtain ⟨X, hX, _, bX⟩ := DataW.trod_string Tryd.underlying9 g0
    obtain ⟨m, hM, _⟩ := DataW.trod_bool Tryd.underlying4 g1
    obtain ⟨U, hU, _, bU⟩ := DataW.trod_string Tryd.underlying9 g2
    simp at hX hM hU
    subst hX hM hU
    exact ⟨(X.data.toList, m, U.data.toList), by simp [cellsY, bsT], ⟨by rw [← Lib.size_eq]; exact bX, by rw [← Lib.size_eq]; exact bU⟩⟩
set_option maxRecDepth 100000 in
theorem open_Ksels {H : Type} {enc : TypeId × Value → H} {W : World} {b0 : Nat} {v : Value} {d : DataW H} {ps : List MemPlace} (hval : Value.okWide Tryd.prog W .any b0 22 v) (hd : DataW.Trod enc Tryd.prog W 0 (fun _ => true) true 22 v d ps) :
    ∃ l : List Sl, l.length ≤ maxLen ∧ (∀ x ∈ l, FitY x) ∧ HoldY W v l :=
  open_rows Tryd.underlying22 cellsOfY (by omega) cellsY FitY (fun _ => rfl) one_sel hval hd
end Go.Proofs.YtoipggglmpcjfaaDoor
