/-
  The walk of PathSplits: for every three texts it returns true; of what was there nothing has turned. Condition: LaidP.
-/
import Derived.Test.YtgoekfonbpffdabDoorPSplit
import Derived.Test.YtgoekfonbpffdabDoorPCleansWalk
namespace Go.Proofs.YtgoekfonbpffdabDoor
open Go.RowKit Go.Sort
theorem split_ok (s : ByteArray) : ∃ A B : ByteArray, splitV s = .tuple #[.string A, .string B] ∧ A.size ≤ s.size ∧ B.size ≤ s.size ∧ (right s.data.toList = true → s = ⟨(ended A.data.toList ++ B.data.toList).toArray⟩) := by
  unfold splitV
  by_cases h1 : lastS s.data.toList < 0
  · rw [if_pos h1]
    exact ⟨_, _, rfl, Nat.zero_le _, Nat.le_refl _, fun h => by obtain ⟨i, hi, _⟩ := right_last h; omega⟩
  · rw [if_neg h1]
    have hl := Lib.size_eq s
    have hlast : ∃ (i : Nat) (h : i < s.data.toList.length), lastS s.data.toList = i := by
      rcases last_cases s.data.toList with ⟨e, _⟩ | ⟨i, hi, e, _⟩
      · omega
      · exact ⟨i, hi, e⟩
    obtain ⟨i, hi, he⟩ := hlast
    have ex : ∀ a b : Nat, (s.extract a b).size ≤ s.size := fun a b => by rw [ByteArray.size_extract]; omega
    have e0 : ∀ a, (s.extract 0 a).data.toList = s.data.toList.take a := fun a => Lib.extract_from_zero s a
    have e1 : ∀ a, (s.extract a s.size).data.toList = s.data.toList.drop a := fun a => Lib.extract_to_end s a
    by_cases h2 : lastS s.data.toList = 0
    · rw [if_pos h2]
      refine ⟨_, _, rfl, ex _ _, ex _ _, fun h => ?_⟩
      obtain ⟨j, hj, hjj⟩ := right_last h
      have : j = 0 := by omega
      subst this
      refine str_of ?_
      rw [e0, e1]
      exact hjj.symm
    · rw [if_neg h2]
      refine ⟨_, _, rfl, ex _ _, ex _ _, fun h => ?_⟩
      obtain ⟨j, hj, hjj⟩ := right_last h
      refine str_of ?_
      rw [hj, Int.toNat_natCast, e0, e1]
      rw [Nat.max_eq_left (by omega)] at hjj
      exact hjj.symm
namespace pathSplitsw
set_option maxHeartbeats 2000000 in
theorem walk (s : ByteArray) (_ : s.size ≤ 9223372036854775807) (d : ByteArray) (_ : d.size ≤ 9223372036854775807) (n : ByteArray) (_ : n.size ≤ 9223372036854775807) (w : World) (h : LaidP w) :
    Calls Tryd.prog 5 #[.string s, .string d, .string n] w fun e w' => e = .returned (.bool true) ∧ Below w.heap.size w w' := by
  by_cases hs : s.size ≤ 2000
  · by_cases hd : d.size ≤ 2000
    · by_cases hn : n.size ≤ 2000
      · obtain ⟨A, B, hV, hA, hB, hr⟩ := split_ok s
        have C1 := split_any s (by omega) w
        have C2 := fun w => split_ref s (by omega) w
        have C3 := fun w => join_any d n (by omega) (by omega) w
        have C4 := fun w => join_ref d n (by omega) (by omega) w
        have C5 := fun w => join_any A B (by omega) (by omega) w
        have C6 := fun w h => right_any s hs w h
        rw [hV] at C1
        simp only [hV] at C2
        generalize ByteArray.mk (ended d.data.toList ++ n.data.toList).toArray = J at C3 C4
        generalize ByteArray.mk (ended A.data.toList ++ B.data.toList).toArray = S2 at C5 hr
        have HA := Lib.hid awake_any
        have HC6 := Lib.hid C6
        have HL := Lib.hid h
        clear C6 h hV
        generalize right s.data.toList = R at *
        cases R
        · clear hr C5
          go_enter Tryd.func5, Tryd.ntmps5
          go_wp2_with (go_at_call 16; refine C1.mono ?_; rintro e w1 ⟨rfl, hb⟩; have HB1 := Lib.hid hb; clear hb; refine Hid.out ?_)
          refine Lib.hid ?_
          go_wp2_with (go_at_call 17; refine (C2 _).mono ?_; rintro e w2 ⟨rfl, hb⟩; have HB2 := Lib.hid (bfin HB1.out hb); clear hb; refine Hid.out ?_)
          have A6 := HC6.out w2 (HL.out.on HB2.out)
          refine Lib.hid ?_
          go_wp2_with (first | (go_at_call 18; refine (C3 _).mono ?_; rintro e w3 ⟨rfl, rfl⟩) | (go_at_call 19; refine (C4 _).mono ?_; rintro e w3 ⟨rfl, rfl⟩) | (go_at_call 12; refine A6.mono ?_; rintro e w3 ⟨rfl, hb⟩; have HB3 := Lib.hid (bfin HB2.out hb); clear hb; refine Hid.out ?_))
          have A7 := HA.out w3 (HL.out.on HB3.out)
          refine Lib.hid ?_
          clear A6
          go_wp2_with (go_at_call 9; refine A7.mono ?_; rintro e w4 ⟨rfl, hb⟩; have HB4 := Lib.hid (bfin HB3.out hb); clear hb)
          go_ret
          exact ⟨rfl, HB4.out⟩
        · obtain rfl := hr rfl
          clear hr
          go_enter Tryd.func5, Tryd.ntmps5
          go_wp2_with (go_at_call 16; refine C1.mono ?_; rintro e w1 ⟨rfl, hb⟩; have HB1 := Lib.hid hb; clear hb; refine Hid.out ?_)
          refine Lib.hid ?_
          go_wp2_with (go_at_call 17; refine (C2 _).mono ?_; rintro e w2 ⟨rfl, hb⟩; have HB2 := Lib.hid (bfin HB1.out hb); clear hb; refine Hid.out ?_)
          have A6 := HC6.out w2 (HL.out.on HB2.out)
          refine Lib.hid ?_
          go_wp2_with (first | (go_at_call 18; (with_reducible refine (C3 _).mono ?_); rintro e w3 ⟨rfl, rfl⟩) | (go_at_call 19; refine (C4 _).mono ?_; rintro e w3 ⟨rfl, rfl⟩) | (go_at_call 12; refine A6.mono ?_; rintro e w3 ⟨rfl, hb⟩; have HB3 := Lib.hid (bfin HB2.out hb); clear hb; refine Hid.out ?_))
          have A7 := HA.out w3 (HL.out.on HB3.out)
          refine Lib.hid ?_
          clear A6
          go_wp2_with (first | (go_at_call 18; (with_reducible refine (C5 _).mono ?_); rintro e w3 ⟨rfl, rfl⟩) | (go_at_call 9; refine A7.mono ?_; rintro e w4 ⟨rfl, hb⟩; have HB4 := Lib.hid (bfin HB3.out hb); clear hb))
          go_ret
          exact ⟨rfl, HB4.out⟩
      · have A := awake_any w h
        clear h
        have hs' : 2000 < n.size := by omega
        go_enter Tryd.func5, Tryd.ntmps5
        go_wp2_with (go_at_call 9; refine A.mono ?_; rintro e w1 ⟨rfl, hb⟩; have HB := Lib.hid hb; clear hb)
        go_ret
        exact ⟨rfl, HB.out⟩
    · have A := awake_any w h
      clear h
      have hs' : 2000 < d.size := by omega
      go_enter Tryd.func5, Tryd.ntmps5
      go_wp2_with (go_at_call 9; refine A.mono ?_; rintro e w1 ⟨rfl, hb⟩; have HB := Lib.hid hb; clear hb)
      go_ret
      exact ⟨rfl, HB.out⟩
  · have A := awake_any w h
    clear h
    have hs' : 2000 < s.size := by omega
    go_enter Tryd.func5, Tryd.ntmps5
    go_wp2_with (go_at_call 9; refine A.mono ?_; rintro e w1 ⟨rfl, hb⟩; have HB := Lib.hid hb; clear hb)
    go_ret
    exact ⟨rfl, HB.out⟩
end pathSplitsw
end Go.Proofs.YtgoekfonbpffdabDoor
