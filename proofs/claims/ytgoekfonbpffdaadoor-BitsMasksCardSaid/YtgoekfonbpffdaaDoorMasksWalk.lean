/-
  The walk of BitsMasks: for every two ints it returns true; of what was there nothing has turned. Condition: Laid.
-/
import Derived.Test.YtgoekfonbpffdaaDoorLaid
namespace Go.Proofs.YtgoekfonbpffdaaDoor.bitsMasksw
open Go.RowKit Go.Sort

set_option maxHeartbeats 1000000 in
theorem walk (m : Int) (_ : -9223372036854775808 ≤ m ∧ m ≤ 9223372036854775807) (k : Int) (_ : -9223372036854775808 ≤ k ∧ k ≤ 9223372036854775807) (w : World) (h : Laid w) :
    Calls Tryd.prog 6 #[.int .i64 m, .int .i64 k] w fun e w' => e = .returned (.bool true) ∧ Below w.heap.size w w' := by
  have hbd := umask_bd m k
  have htw := umask_twice m k
  have hno := umask_none m k
  have C1 := fun w => umask_any m k w
  have C2 := fun w => umask_ref m k w
  have C3 := fun w => umask_any (umaskI m k) k w
  rw [htw] at C3
  generalize umaskI m k = u at *
  obtain ⟨hu0, hu1⟩ := hbd
  have HA := Lib.hid (awake_any w h)
  clear htw h
  go_enter Tryd.func6, Tryd.ntmps6
  go_wp2_with (first | (go_at_call 27; first | ((with_reducible refine (C1 _).mono ?_); rintro e w1 ⟨rfl, rfl⟩) | ((with_reducible refine (C3 _).mono ?_); rintro e w1 ⟨rfl, rfl⟩)) | (go_at_call 28; (with_reducible refine (C2 _).mono ?_); rintro e w1 ⟨rfl, rfl⟩) | (go_at_call 10; refine HA.out.mono ?_; rintro e w1 ⟨rfl, hb⟩))
  go_ret
  exact ⟨rfl, hb⟩

end Go.Proofs.YtgoekfonbpffdaaDoor.bitsMasksw
