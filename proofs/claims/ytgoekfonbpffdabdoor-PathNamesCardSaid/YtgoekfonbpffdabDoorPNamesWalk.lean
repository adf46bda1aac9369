/-
  The walk of PathNames: for every text it returns true; of what was there nothing has turned. Condition: LaidP.
-/
import Derived.Test.YtgoekfonbpffdabDoorPNameRef
import Derived.Test.YtgoekfonbpffdabDoorPAwake
namespace Go.Proofs.YtgoekfonbpffdabDoor.pathNamesw
open Go.RowKit Go.Sort
set_option maxHeartbeats 1000000 in
theorem walk (s : ByteArray) (_ : s.size ≤ 9223372036854775807) (w : World) (h : LaidP w) :
    Calls Tryd.prog 4 #[.string s] w fun e w' => e = .returned (.bool true) ∧ Below w.heap.size w w' := by
  have A := awake_any w h
  by_cases hs : s.size ≤ 2000
  · have C1 := fun w => name_any s (by omega) w
    have C2 := fun w => name_ref s (by omega) w
    generalize nameB s.data.toList = B at *
    clear h
    cases B
    all_goals
      go_enter Tryd.func4, Tryd.ntmps4
      go_wp2_with (first | (go_at_call 14; refine (C1 _).mono ?_; rintro e w1 ⟨rfl, rfl⟩) | (go_at_call 15; refine (C2 _).mono ?_; rintro e w1 ⟨rfl, rfl⟩) | (go_at_call 9; refine A.mono ?_; rintro e w1 ⟨rfl, hb⟩; have HB := Lib.hid hb; clear hb))
      go_ret
      exact ⟨rfl, HB.out⟩
  · clear h
    have hs' : 2000 < s.size := by omega
    go_enter Tryd.func4, Tryd.ntmps4
    go_wp2_with (go_at_call 9; refine A.mono ?_; rintro e w1 ⟨rfl, hb⟩; have HB := Lib.hid hb; clear hb)
    go_ret
    exact ⟨rfl, HB.out⟩
end Go.Proofs.YtgoekfonbpffdabDoor.pathNamesw
