/-
  The walk of PathUnder: for every two texts it returns true; of what was there nothing has turned. Condition: LaidP.
-/
import Derived.Test.YtgoekfonbpffdabDoorPAwake
namespace Go.Proofs.YtgoekfonbpffdabDoor.pathUnderw
open Go.RowKit Go.Sort
set_option maxHeartbeats 1000000 in
theorem walk (d : ByteArray) (_ : d.size ≤ 9223372036854775807) (s : ByteArray) (_ : s.size ≤ 9223372036854775807) (w : World) (h : LaidP w) :
    Calls Tryd.prog 7 #[.string d, .string s] w fun e w' => e = .returned (.bool true) ∧ Below w.heap.size w w' := by
  have A := awake_any w h
  by_cases hs : s.size ≤ 2000
  · by_cases hd : d.size ≤ 2000
    · have C1 := fun w => under_any d s (by omega) w
      have C2 := fun w => under_ref d s (by omega) w
      have C3 := fun w => under_any s s (by omega) w
      have C4 := fun w => under_any s d (by omega) w
      simp only [under_self] at C3
      have h4 := fun h => under_one (d := d.data.toList) (s := s.data.toList) h
      generalize under d.data.toList s.data.toList = u at *
      generalize under s.data.toList d.data.toList = v at *
      clear h
      cases u
      · clear h4
        go_enter Tryd.func7, Tryd.ntmps7
        go_wp2_with (first | (go_at_call 25; first | ((with_reducible refine (C1 _).mono ?_); rintro e w1 ⟨rfl, rfl⟩) | ((with_reducible refine (C3 _).mono ?_); rintro e w1 ⟨rfl, rfl⟩)) | (go_at_call 27; refine (C2 _).mono ?_; rintro e w1 ⟨rfl, rfl⟩) | (go_at_call 9; refine A.mono ?_; rintro e w1 ⟨rfl, hb⟩; have HB := Lib.hid hb; clear hb))
        go_ret
        exact ⟨rfl, HB.out⟩
      · have hv := h4 rfl
        clear h4
        subst hv
        go_enter Tryd.func7, Tryd.ntmps7
        go_wp2_with (first | (go_at_call 25; first | ((with_reducible refine (C1 _).mono ?_); rintro e w1 ⟨rfl, rfl⟩) | ((with_reducible refine (C3 _).mono ?_); rintro e w1 ⟨rfl, rfl⟩) | ((with_reducible refine (C4 _).mono ?_); rintro e w1 ⟨rfl, rfl⟩)) | (go_at_call 27; refine (C2 _).mono ?_; rintro e w1 ⟨rfl, rfl⟩) | (go_at_call 9; refine A.mono ?_; rintro e w1 ⟨rfl, hb⟩; have HB := Lib.hid hb; clear hb))
        go_ret
        exact ⟨rfl, HB.out⟩
    · clear h
      have hs' : 2000 < d.size := by omega
      go_enter Tryd.func7, Tryd.ntmps7
      go_wp2_with (go_at_call 9; refine A.mono ?_; rintro e w1 ⟨rfl, hb⟩; have HB := Lib.hid hb; clear hb)
      go_ret
      exact ⟨rfl, HB.out⟩
  · clear h
    have hs' : 2000 < s.size := by omega
    go_enter Tryd.func7, Tryd.ntmps7
    go_wp2_with (go_at_call 9; refine A.mono ?_; rintro e w1 ⟨rfl, hb⟩; have HB := Lib.hid hb; clear hb)
    go_ret
    exact ⟨rfl, HB.out⟩
end Go.Proofs.YtgoekfonbpffdabDoor.pathUnderw
