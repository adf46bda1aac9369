/-
  The walk of StanzaFields: for every name and text it returns true; nothing old turns.
-/
import Derived.Test.YtiikdphilbibnaaSAwake
namespace Go.Proofs.Ytiikdphilbibnaa.stanzaFieldsw
open Go.RowKit
set_option maxRecDepth 100000 in
set_option maxHeartbeats 4000000 in
theorem walk (n t : ByteArray) (_ : n.size ≤ 9223372036854775807) (_ : t.size ≤ 9223372036854775807) (w : World) :
    Calls Try.prog 3 #[.string n, .string t] w fun e' w' => e' = .returned (.bool true) ∧ Below w.heap.size w w' := by
  have AW := fun w => sawake w
  by_cases h : 500 < n.size ∨ 2000 < t.size
  · by_cases hn : 500 < n.size
    · go_enter Try.func3, Try.ntmps3
      go_wp2_with (first | (go_at_call 6; refine (AW _).mono ?_; rintro e w1 ⟨rfl, hb⟩; have HB := Lib.hid hb; clear hb))
      go_ret
      exact ⟨rfl, HB.out⟩
    · have ht : 2000 < t.size := by omega
      clear h
      go_enter Try.func3, Try.ntmps3
      go_wp2_with (first | (go_at_call 6; refine (AW _).mono ?_; rintro e w1 ⟨rfl, hb⟩; have HB := Lib.hid hb; clear hb))
      go_ret
      exact ⟨rfl, HB.out⟩
  · have hn : n.size ≤ 500 := by omega
    have ht : t.size ≤ 2000 := by omega
    have F1 := fun w => field_any n t (by omega) (by omega) w
    have F2 := fun w => field_ref n t (by omega) (by omega) w
    obtain ⟨fb, hfb⟩ : ∃ fb, fieldB (n.data.toList, t.data.toList) = fb := ⟨_, rfl⟩
    simp only [hfb] at F1 F2
    have hbb : (fb == fb) = true := by simp
    clear h hfb
    go_enter Try.func3, Try.ntmps3
    go_wp2_with (first
      | (go_at_call 7; (with_reducible refine (F1 _).mono ?_); rintro e w1 ⟨rfl, hb⟩; have HB1 := Lib.hid hb; clear hb)
      | (go_at_call 8; (with_reducible refine (F2 _).mono ?_); rintro e w2 ⟨rfl, hb⟩; have HB2 := Lib.hid (HB1.out.trans (hb.mono HB1.out.size)); clear hb)
      | (go_at_call 6; (with_reducible refine (AW _).mono ?_); rintro e w3 ⟨rfl, hb⟩; have HB3 := Lib.hid (HB2.out.trans (hb.mono HB2.out.size)); clear hb))
    go_ret
    exact ⟨rfl, HB3.out⟩
end Go.Proofs.Ytiikdphilbibnaa.stanzaFieldsw
