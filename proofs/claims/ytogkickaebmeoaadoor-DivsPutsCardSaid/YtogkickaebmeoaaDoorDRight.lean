/-
  Which diversion may be: the program's pathOf, place and Right, the reference's Right: what each returns; nothing old turns. Condition: bytealg's MaxLen is laid (LaidP).
-/
import Derived.Test.YtogkickaebmeoaaDoorDMath
import Derived.Test.YtogkickaebmeoaaDoorPClean
import Derived.Test.YtogkickaebmeoaaDoorPCleanRef
import Derived.Test.YtogkickaebmeoaaDoorPNameRef
import Derived.Test.YtogkickaebmeoaaDoorRows3
namespace Go.Proofs.YtogkickaebmeoaaDoor
open Go.RowKit
abbrev aggD (a b c : ByteArray) : Value := .agg #[.string a, .string b, .string c]
theorem pathOf_any (a b c : ByteArray) (w : World) : Calls Tryd.prog 69 #[aggD a b c] w fun e w' => e = .returned (.string a) ∧ Below w.heap.size w w' := by
  go_enter Tryd.func69, Tryd.ntmps69
  go_wp2
  go_ret
  exact ⟨rfl, (Below.refl _ _).alloc (Nat.le_refl _) _⟩
theorem neRoot (x : ByteArray) : (!x.toList == [47]) = decide (x.data.toList ≠ [47]) := ne_text x [47]
theorem place_any (s : ByteArray) (hs : s.size ≤ 4000) (w : World) (h : LaidP w) : Calls Tryd.prog 72 #[.string s] w fun e w' => e = .returned (.bool (plB s.data.toList)) ∧ Below w.heap.size w w' := by
  have C := right_any s hs w h
  have hq := neRoot s
  obtain ⟨R, HR⟩ : ∃ R, Hid (plB s.data.toList = R) := ⟨_, rfl⟩
  rw [HR.out]
  unfold plB at HR
  cases hr : right s.data.toList
  · rw [hr] at C HR
    have HF : Hid (false = R) := Lib.hid (by rw [← HR.out]; rfl)
    clear hr HR hq
    go_enter Tryd.func72, Tryd.ntmps72
    go_wp2_with (go_at_call 47; refine C.mono ?_; rintro e w1 ⟨rfl, hb⟩; have HB := Lib.hid hb; clear hb)
    go_ret
    exact ⟨retb HF.out, HB.out⟩
  · rw [hr] at C HR
    have HF : Hid (decide (s.data.toList ≠ [47]) = R) := Lib.hid (by rw [← HR.out]; rfl)
    generalize decide (s.data.toList ≠ [47]) = q at *
    clear hr HR
    go_enter Tryd.func72, Tryd.ntmps72
    go_wp2_with (go_at_call 47; refine C.mono ?_; rintro e w1 ⟨rfl, hb⟩; have HB := Lib.hid hb; clear hb)
    go_ret
    exact ⟨retb HF.out, HB.out⟩
end Go.Proofs.YtogkickaebmeoaaDoor
