/-
  The walk of VersionOrders: for every two texts it returns true; nothing old turns.
-/
import Derived.Test.YtldmlcgdolfidaaDoorVAwake
namespace Go.Proofs.YtldmlcgdolfidaaDoor.versionOrdersw
open Go.RowKit
set_option maxRecDepth 100000 in
set_option maxHeartbeats 4000000 in
theorem walk (a : ByteArray) (_ : a.size ≤ 9223372036854775807) (b : ByteArray) (_ : b.size ≤ 9223372036854775807) (w : World) (hlv : LaidV w) :
    Calls Tryd.prog 5 #[.string a, .string b] w fun e w' => e = .returned (.bool true) ∧ Below w.heap.size w w' := by
  have HLW := Lib.hid hlv
  clear hlv
  have AW := fun (w : World) (hw : LaidV w) => vawake w hw
  by_cases h1 : 500 < a.size
  · go_enter Tryd.func5, Tryd.ntmps5
    go_wp2_with (first | (go_at_call 9; refine (AW _ (by first | exact Hid.out (by assumption) | exact LaidV.al (by assumption) _ | exact LaidV.dr (by assumption) _ | exact HLW.out.on (Hid.out (by assumption)) | exact HLW.out.on (belowQ (Hid.out (by assumption)) _) | exact HLW.out.on (Hid.out (by assumption)).drew)).mono ?_; rintro e w1 ⟨rfl, hb⟩; have HLX := Lib.hid (LaidV.on (by first | exact Hid.out (by assumption) | exact LaidV.al (by assumption) _ | exact LaidV.dr (by assumption) _ | exact HLW.out.on (Hid.out (by assumption)) | exact HLW.out.on (belowQ (Hid.out (by assumption)) _) | exact HLW.out.on (Hid.out (by assumption)).drew) hb); have HB := Lib.hid hb; clear hb))
    go_ret
    exact ⟨rfl, HB.out⟩
  · by_cases h2 : 500 < b.size
    · go_enter Tryd.func5, Tryd.ntmps5
      go_wp2_with (first | (go_at_call 9; refine (AW _ (by first | exact Hid.out (by assumption) | exact LaidV.al (by assumption) _ | exact LaidV.dr (by assumption) _ | exact HLW.out.on (Hid.out (by assumption)) | exact HLW.out.on (belowQ (Hid.out (by assumption)) _) | exact HLW.out.on (Hid.out (by assumption)).drew)).mono ?_; rintro e w1 ⟨rfl, hb⟩; have HLX := Lib.hid (LaidV.on (by first | exact Hid.out (by assumption) | exact LaidV.al (by assumption) _ | exact LaidV.dr (by assumption) _ | exact HLW.out.on (Hid.out (by assumption)) | exact HLW.out.on (belowQ (Hid.out (by assumption)) _) | exact HLW.out.on (Hid.out (by assumption)).drew) hb); have HB := Lib.hid hb; clear hb))
      go_ret
      exact ⟨rfl, HB.out⟩
    · have O1 := fun w => order_any a b (by omega) (by omega) w
      have O2 := fun w => order_ref a b (by omega) (by omega) w
      have O3 := fun w => order_any b a (by omega) (by omega) w
      have O4 := fun w => order_any a a (by omega) (by omega) w
      have v := order_good.vals a.data.toList b.data.toList
      rw [order_good.anti a.data.toList b.data.toList] at O3
      rw [order_good.self] at O4
      generalize order a.data.toList b.data.toList = c at *
      have hc : -1 ≤ c ∧ c ≤ 1 := by omega
      obtain ⟨hc1, hc2⟩ := hc
      clear v
      go_enter Tryd.func5, Tryd.ntmps5
      go_wp2_with (first | (go_at_call 9; refine (AW _ (by first | exact Hid.out (by assumption) | exact LaidV.al (by assumption) _ | exact LaidV.dr (by assumption) _ | exact HLW.out.on (Hid.out (by assumption)) | exact HLW.out.on (belowQ (Hid.out (by assumption)) _) | exact HLW.out.on (Hid.out (by assumption)).drew)).mono ?_; rintro e w1 ⟨rfl, hb⟩; have HLX := Lib.hid (LaidV.on (by first | exact Hid.out (by assumption) | exact LaidV.al (by assumption) _ | exact LaidV.dr (by assumption) _ | exact HLW.out.on (Hid.out (by assumption)) | exact HLW.out.on (belowQ (Hid.out (by assumption)) _) | exact HLW.out.on (Hid.out (by assumption)).drew) hb); have HB5 := Lib.hid hb; clear hb) | (go_at_call 16; refine (O2 _).mono ?_; rintro e w2 ⟨rfl, q, rfl⟩) | (go_at_call 15; first | ((with_reducible refine (O1 _).mono ?_); clear O1; rintro e w3 ⟨rfl, hb⟩; have HLX := Lib.hid (LaidV.on (by first | exact Hid.out (by assumption) | exact LaidV.al (by assumption) _ | exact LaidV.dr (by assumption) _ | exact HLW.out.on (Hid.out (by assumption)) | exact HLW.out.on (belowQ (Hid.out (by assumption)) _) | exact HLW.out.on (Hid.out (by assumption)).drew) hb); have HB1 := Lib.hid hb; clear hb) | ((with_reducible refine (O3 _).mono ?_); clear O3; rintro e w4 ⟨rfl, hb⟩; have HLX := Lib.hid (LaidV.on (by first | exact Hid.out (by assumption) | exact LaidV.al (by assumption) _ | exact LaidV.dr (by assumption) _ | exact HLW.out.on (Hid.out (by assumption)) | exact HLW.out.on (belowQ (Hid.out (by assumption)) _) | exact HLW.out.on (Hid.out (by assumption)).drew) hb); have HB3 := Lib.hid hb; clear hb) | ((with_reducible refine (O4 _).mono ?_); clear O4; rintro e w5 ⟨rfl, hb⟩; have HLX := Lib.hid (LaidV.on (by first | exact Hid.out (by assumption) | exact LaidV.al (by assumption) _ | exact LaidV.dr (by assumption) _ | exact HLW.out.on (Hid.out (by assumption)) | exact HLW.out.on (belowQ (Hid.out (by assumption)) _) | exact HLW.out.on (Hid.out (by assumption)).drew) hb); have HB4 := Lib.hid hb; clear hb)))
      go_ret
      refine ⟨rfl, ?_⟩
      have g1 := belowQ HB1.out q
      have g3 := g1.trans (HB3.out.mono g1.size)
      have g4 := g3.trans (HB4.out.mono g3.size)
      exact g4.trans (HB5.out.mono g4.size)
end Go.Proofs.YtldmlcgdolfidaaDoor.versionOrdersw
