/-
  The walk of StanzaLines: for every text it returns true; nothing old turns.
-/
import Derived.Test.YtomplnncbfdldaaDoorSAwake
import Derived.Test.YtomplnncbfdldaaDoorSLProg
import Derived.Test.YtomplnncbfdldaaDoorSWordsB
namespace Go.Proofs.YtomplnncbfdldaaDoor.stanzaLinesw
open Go.RowKit
theorem words_len (s : ByteArray) : (wordsL s.data.toList).length ≤ s.size + 1 := by
  unfold wordsL
  have h1 := spl_len 32 s.data.toList
  have h2 := List.length_filter_le (fun p : Bs => decide (p ≠ [])) (spl 32 s.data.toList)
  rw [sizeOf]; omega
theorem nil_len {w : World} {v : Value} (h : HoldT w v []) : ∃ a c, v = .slice a 0 c := by
  obtain ⟨a, c, b, o, rfl, _⟩ := h
  exact ⟨a, c, rfl⟩
theorem drew1 {w0 w w' : World} {B : Nat} (hb : Below B w0 w) (h : ∃ q, w' = w.drewN q) : Below B w0 w' := by
  obtain ⟨q, rfl⟩ := h; exact belowQ hb q
set_option maxRecDepth 100000 in
set_option maxHeartbeats 8000000 in
theorem walk (s : ByteArray) (_ : s.size ≤ 9223372036854775807) (w : World) :
    Calls Tryd.prog 3 #[.string s] w fun e' w' => e' = .returned (.bool true) ∧ Below w.heap.size w w' := by
  have AW := fun w => sawake w
  by_cases h : 2000 < s.size
  · go_enter Tryd.func3, Tryd.ntmps3
    go_wp2_with (first | (go_at_call 4; refine (AW _).mono ?_; rintro e w1 ⟨rfl, hb⟩; have HB := Lib.hid hb; clear hb))
    go_ret
    exact ⟨rfl, HB.out⟩
  · have hs : s.size ≤ 2000 := by omega
    have L1 := fun w => lines_any s (by omega) w
    have L2 := fun w => lines_ref s (by omega) w
    have W1 := fun w => words_any s (by omega) w
    have W2 := fun w => words_ref6 s (by omega) w
    unfold LinesPost at L2
    have hdl : (spl 10 s.data.toList).dropLast.length ≤ 1000000 := by
      have := spl_len 10 s.data.toList
      rw [List.length_dropLast]; rw [← sizeOf] at this; omega
    have hwl := words_len s
    have SD := fun u v w => same_ref2 u v (spl 10 s.data.toList).dropLast w hdl
    have SW := fun u v w => same_ref2 u v (wordsL s.data.toList) w (by omega)
    clear h hdl hwl
    by_cases hend : (spl 10 s.data.toList).getLast? = some []
    · rw [decide_eq_true hend] at L2
      have HEND := Lib.hid hend
      clear hend
      go_enter Tryd.func3, Tryd.ntmps3
      go_wp2_with (first
        | (go_at_call 5; (with_reducible refine (L1 _).mono ?_); rintro e w1 ⟨v1, z1, rfl, h1, -, hb⟩; obtain ⟨rfl, hh⟩ := h1 HEND.out; have HH1 := Lib.hid hh; have HB1 := Lib.hid hb; clear hb hh h1 L1)
        | (go_at_call 6; (with_reducible refine (L2 _).mono ?_); rintro e w2 ⟨v2, rfl, hh, hb⟩; have HH2 := Lib.hid (And.intro (HH1.out.on hb) hh); have HB2 := Lib.hid (HB1.out.trans (hb.mono HB1.out.size)); clear hb hh L2)
        | (go_at_call 7; first | ((with_reducible refine (SD _ _ _ HH2.out.1 HH2.out.2).mono ?_); rintro e w3 ⟨rfl, hq⟩; have HB3 := Lib.hid (drew1 HB2.out hq); clear hq SD) | ((with_reducible refine (SW _ _ _ HH5.out.1 HH5.out.2).mono ?_); rintro e w6 ⟨rfl, hq⟩; have HB6 := Lib.hid (drew1 HB5.out hq); clear hq SW))
        | (go_at_call 8; (with_reducible refine (W1 _).mono ?_); rintro e w4 ⟨v4, rfl, hh, hb⟩; have HH4 := Lib.hid hh; have HB4 := Lib.hid (HB3.out.trans (hb.mono HB3.out.size)); clear hb hh W1)
        | (go_at_call 9; (with_reducible refine (W2 _).mono ?_); rintro e w5 ⟨v5, rfl, hh, hb⟩; have HH5 := Lib.hid (And.intro (HH4.out.on hb) hh); have HB5 := Lib.hid (HB4.out.trans (hb.mono HB4.out.size)); clear hb hh W2)
        | (go_at_call 4; (with_reducible refine (AW _).mono ?_); rintro e w7 ⟨rfl, hb⟩; have HB7 := Lib.hid (HB6.out.trans (hb.mono HB6.out.size)); clear hb))
      go_ret
      exact ⟨rfl, HB7.out⟩
    · rw [decide_eq_false hend] at L2
      have HEND := Lib.hid hend
      clear hend SD
      go_enter Tryd.func3, Tryd.ntmps3
      go_wp2_with (first
        | (go_at_call 5; (with_reducible refine (L1 _).mono ?_); rintro e w1 ⟨v1, z1, rfl, -, h1, hb⟩; obtain ⟨rfl, hh⟩ := h1 HEND.out; obtain ⟨a1, c1, rfl⟩ := nil_len hh; have HB1 := Lib.hid hb; clear hb hh h1 L1)
        | (go_at_call 6; (with_reducible refine (L2 _).mono ?_); rintro e w2 ⟨v2, rfl, -, hb⟩; have HB3 := Lib.hid (HB1.out.trans (hb.mono HB1.out.size)); clear hb L2)
        | (go_at_call 7; ((with_reducible refine (SW _ _ _ HH5.out.1 HH5.out.2).mono ?_); rintro e w6 ⟨rfl, hq⟩; have HB6 := Lib.hid (drew1 HB5.out hq); clear hq SW))
        | (go_at_call 8; (with_reducible refine (W1 _).mono ?_); rintro e w4 ⟨v4, rfl, hh, hb⟩; have HH4 := Lib.hid hh; have HB4 := Lib.hid (HB3.out.trans (hb.mono HB3.out.size)); clear hb hh W1)
        | (go_at_call 9; (with_reducible refine (W2 _).mono ?_); rintro e w5 ⟨v5, rfl, hh, hb⟩; have HH5 := Lib.hid (And.intro (HH4.out.on hb) hh); have HB5 := Lib.hid (HB4.out.trans (hb.mono HB4.out.size)); clear hb hh W2)
        | (go_at_call 4; (with_reducible refine (AW _).mono ?_); rintro e w7 ⟨rfl, hb⟩; have HB7 := Lib.hid (HB6.out.trans (hb.mono HB6.out.size)); clear hb))
      go_ret
      exact ⟨rfl, HB7.out⟩
end Go.Proofs.YtomplnncbfdldaaDoor.stanzaLinesw
