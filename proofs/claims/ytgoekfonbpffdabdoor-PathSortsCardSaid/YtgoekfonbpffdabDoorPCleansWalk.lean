/-
  The walk of PathCleans: for every text it returns true; of what was there nothing has turned. Condition: LaidP.
-/
import Derived.Test.YtgoekfonbpffdabDoorPCleanRef
import Derived.Test.YtgoekfonbpffdabDoorPAwake
namespace Go.Proofs.YtgoekfonbpffdabDoor
open Go.RowKit Go.Sort
theorem bfin {w w1 w2 : World} (h1 : Below w.heap.size w w1) (h2 : Below w1.heap.size w1 w2) : Below w.heap.size w w2 := h1.trans (h2.mono h1.size)
namespace pathCleansw
set_option maxHeartbeats 2000000 in
theorem walk (s : ByteArray) (_ : s.size ≤ 9223372036854775807) (w : World) (h : LaidP w) :
    Calls Tryd.prog 3 #[.string s] w fun e w' => e = .returned (.bool true) ∧ Below w.heap.size w w' := by
  by_cases hs : s.size ≤ 2000
  · obtain ⟨F, n, hV, hF, hn⟩ : ∃ (F : ByteArray) (n : Int), cleanV s.data.toList = .tuple #[.string F, .int .i64 n] ∧ F.data.toList = (cleanE s.data.toList).1 ∧ n = (cleanE s.data.toList).2 := ⟨⟨(cleanE s.data.toList).1.toArray⟩, _, rfl, by simp, rfl⟩
    have C1 := clean_any s hs w h
    have C2 := fun w => clean_ref s hs w
    have C3 := fun w h => right_any s hs w h
    have C4 := fun w => right_ref s hs w
    rw [hV] at C1
    simp only [hV] at C2
    generalize hB : right s.data.toList = B at C3 C4
    have HA := Lib.hid awake_any
    have hor : n ≠ 0 ∨ n = 0 ∧ right F.data.toList = true ∧ F.size ≤ 2000 := by
      by_cases h0 : n = 0
      · have e : cleanE s.data.toList = (F.data.toList, 0) := by rw [hF, ← h0, hn]
        exact .inr ⟨h0, clean_right e, by have := (cleanE_zero e).2.2; rw [Lib.size_eq]; omega⟩
      · exact .inl h0
    have C5 := fun (hf : F.size ≤ 2000) w h => right_any F hf w h
    have HC3 := Lib.hid C3
    have HC5 := Lib.hid C5
    have HL := Lib.hid h
    clear C3 C5 h hB hV hF hn
    rcases hor with h0 | ⟨h0, hr, hfs⟩
    · have hn0 : (n != 0) = true := by rw [bne_iff_ne]; exact h0
      clear HC5 h0
      go_enter Tryd.func3, Tryd.ntmps3
      go_wp2_with (go_at_call 10; refine C1.mono ?_; rintro e w1 ⟨rfl, hb⟩; have HB1 := Lib.hid hb; clear hb; refine Hid.out ?_)
      refine Lib.hid ?_
      go_wp2_with (go_at_call 11; refine (C2 _).mono ?_; rintro e w2 ⟨rfl, hb⟩; have HB2 := Lib.hid (bfin HB1.out hb); clear hb; refine Hid.out ?_)
      have A3 := HC3.out w2 (HL.out.on HB2.out)
      refine Lib.hid ?_
      go_wp2_with (go_at_call 12; refine A3.mono ?_; rintro e w3 ⟨rfl, hb⟩; have HB3 := Lib.hid (bfin HB2.out hb); clear hb; refine Hid.out ?_)
      refine Lib.hid ?_
      clear A3
      go_wp2_with (go_at_call 13; refine (C4 _).mono ?_; rintro e w4 ⟨rfl, hb⟩; have HB4 := Lib.hid (bfin HB3.out hb); clear hb; refine Hid.out ?_)
      have A5 := HA.out w4 (HL.out.on HB4.out)
      refine Lib.hid ?_
      go_wp2_with (go_at_call 9; refine A5.mono ?_; rintro e w5 ⟨rfl, hb⟩; have HB5 := Lib.hid (bfin HB4.out hb); clear hb)
      go_ret
      exact ⟨rfl, HB5.out⟩
    · subst h0
      go_enter Tryd.func3, Tryd.ntmps3
      go_wp2_with (go_at_call 10; refine C1.mono ?_; rintro e w1 ⟨rfl, hb⟩; have HB1 := Lib.hid hb; clear hb; refine Hid.out ?_)
      refine Lib.hid ?_
      go_wp2_with (go_at_call 11; refine (C2 _).mono ?_; rintro e w2 ⟨rfl, hb⟩; have HB2 := Lib.hid (bfin HB1.out hb); clear hb; refine Hid.out ?_)
      have A3 := HC3.out w2 (HL.out.on HB2.out)
      refine Lib.hid ?_
      go_wp2_with (go_at_call 12; refine A3.mono ?_; rintro e w3 ⟨rfl, hb⟩; have HB3 := Lib.hid (bfin HB2.out hb); clear hb; refine Hid.out ?_)
      refine Lib.hid ?_
      clear A3
      go_wp2_with (go_at_call 13; refine (C4 _).mono ?_; rintro e w4 ⟨rfl, hb⟩; have HB4 := Lib.hid (bfin HB3.out hb); clear hb; refine Hid.out ?_)
      have A5 := HC5.out hfs w4 (HL.out.on HB4.out)
      rw [hr] at A5
      refine Lib.hid ?_
      go_wp2_with (go_at_call 12; refine A5.mono ?_; rintro e w5 ⟨rfl, hb⟩; have HB5 := Lib.hid (bfin HB4.out hb); clear hb; refine Hid.out ?_)
      have A6 := HA.out w5 (HL.out.on HB5.out)
      clear A5
      refine Lib.hid ?_
      go_wp2_with (go_at_call 9; refine A6.mono ?_; rintro e w6 ⟨rfl, hb⟩; have HB6 := Lib.hid (bfin HB5.out hb); clear hb)
      go_ret
      exact ⟨rfl, HB6.out⟩
  · have A := awake_any w h
    clear h
    have hs' : 2000 < s.size := by omega
    go_enter Tryd.func3, Tryd.ntmps3
    go_wp2_with (go_at_call 9; refine A.mono ?_; rintro e w1 ⟨rfl, hb⟩; have HB := Lib.hid hb; clear hb)
    go_ret
    exact ⟨rfl, HB.out⟩
end pathCleansw
end Go.Proofs.YtgoekfonbpffdabDoor
