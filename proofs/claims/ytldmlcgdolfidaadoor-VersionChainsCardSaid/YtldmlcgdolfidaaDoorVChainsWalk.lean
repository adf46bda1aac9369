/-
  The walk of VersionChains: for every three texts it returns true; nothing old turns.
-/
import Derived.Test.YtldmlcgdolfidaaDoorVAwake
namespace Go.Proofs.YtldmlcgdolfidaaDoor.versionChainsw
open Go.RowKit
set_option maxRecDepth 100000 in
set_option maxHeartbeats 8000000 in
theorem walk (a : ByteArray) (_ : a.size ≤ 9223372036854775807) (b : ByteArray) (_ : b.size ≤ 9223372036854775807) (c : ByteArray) (_ : c.size ≤ 9223372036854775807) (w : World) (hlv : LaidV w) :
    Calls Tryd.prog 7 #[.string a, .string b, .string c] w fun e w' => e = .returned (.bool true) ∧ Below w.heap.size w w' := by
  have HLW := Lib.hid hlv
  clear hlv
  have AW := fun (w : World) (hw : LaidV w) => vawake w hw
  by_cases h : 300 < a.size ∨ 300 < b.size ∨ 300 < c.size
  · have h' : 300 < a.size ∨ (¬ 300 < a.size ∧ 300 < b.size) ∨ (¬ 300 < a.size ∧ ¬ 300 < b.size ∧ 300 < c.size) := by omega
    clear h
    rcases h' with h | ⟨h1, h⟩ | ⟨h1, h2, h⟩
    all_goals
      go_enter Tryd.func7, Tryd.ntmps7
      go_wp2_with (first | (go_at_call 9; refine (AW _ (by first | exact Hid.out (by assumption) | exact LaidV.al (by assumption) _ | exact LaidV.dr (by assumption) _ | exact HLW.out.on (Hid.out (by assumption)) | exact HLW.out.on (belowQ (Hid.out (by assumption)) _) | exact HLW.out.on (Hid.out (by assumption)).drew)).mono ?_; rintro e w1 ⟨rfl, hb⟩; have HLX := Lib.hid (LaidV.on (by first | exact Hid.out (by assumption) | exact LaidV.al (by assumption) _ | exact LaidV.dr (by assumption) _ | exact HLW.out.on (Hid.out (by assumption)) | exact HLW.out.on (belowQ (Hid.out (by assumption)) _) | exact HLW.out.on (Hid.out (by assumption)).drew) hb); have HB := Lib.hid hb; clear hb))
      go_ret
      exact ⟨rfl, HB.out⟩
  · have h1 : a.size ≤ 300 := by omega
    have h2 : b.size ≤ 300 := by omega
    have h3 : c.size ≤ 300 := by omega
    clear h
    have O1 := fun (w : World) (hw : LaidV w) => compare_any a b (by omega) (by omega) w hw
    have O2 := fun (w : World) (hw : LaidV w) => compare_any b c (by omega) (by omega) w hw
    have O3 := fun (w : World) (hw : LaidV w) => compare_any a c (by omega) (by omega) w hw
    have vx := compareV_good.vals a.data.toList b.data.toList
    have vy := compareV_good.vals b.data.toList c.data.toList
    have vz := compareV_good.vals a.data.toList c.data.toList
    have t1 := compareV_good.trans a.data.toList b.data.toList c.data.toList
    have t2 := fun h => compareV_good.same (x := a.data.toList) (y := b.data.toList) c.data.toList h
    have t3 := compareV_good.less (x := a.data.toList) (y := b.data.toList) (z := c.data.toList)
    have t4 := compareV_good.less' (x := a.data.toList) (y := b.data.toList) (z := c.data.toList)
    generalize compareV a.data.toList b.data.toList = x at *
    generalize compareV b.data.toList c.data.toList = y at *
    generalize compareV a.data.toList c.data.toList = z at *
    have key : (x = -1 ∧ y = -1 ∧ z = -1) ∨ (x = -1 ∧ y = 0 ∧ z = -1) ∨ (x = -1 ∧ y = 1 ∧ (z = -1 ∨ z = 0 ∨ z = 1)) ∨ (x = 0 ∧ y = -1 ∧ z = -1) ∨ (x = 0 ∧ y = 0 ∧ z = 0) ∨ (x = 0 ∧ y = 1 ∧ z = 1) ∨ (x = 1 ∧ (y = -1 ∨ y = 0 ∨ y = 1) ∧ (z = -1 ∨ z = 0 ∨ z = 1)) := by
      rcases vx with rfl | rfl | rfl <;> rcases vy with rfl | rfl | rfl <;> simp at t1 t2 t3 t4 ⊢ <;> omega
    clear t1 t2 t3 t4 vx vy vz
    rcases key with ⟨rfl, rfl, rfl⟩ | ⟨rfl, rfl, rfl⟩ | ⟨rfl, rfl, rfl | rfl | rfl⟩ | ⟨rfl, rfl, rfl⟩ | ⟨rfl, rfl, rfl⟩ | ⟨rfl, rfl, rfl⟩ | ⟨rfl, rfl | rfl | rfl, rfl | rfl | rfl⟩
    all_goals
      go_enter Tryd.func7, Tryd.ntmps7
      go_wp2_with (first | (go_at_call 9; refine (AW _ (by first | exact Hid.out (by assumption) | exact LaidV.al (by assumption) _ | exact LaidV.dr (by assumption) _ | exact HLW.out.on (Hid.out (by assumption)) | exact HLW.out.on (belowQ (Hid.out (by assumption)) _) | exact HLW.out.on (Hid.out (by assumption)).drew)).mono ?_; rintro e w1 ⟨rfl, hb⟩; have HLX := Lib.hid (LaidV.on (by first | exact Hid.out (by assumption) | exact LaidV.al (by assumption) _ | exact LaidV.dr (by assumption) _ | exact HLW.out.on (Hid.out (by assumption)) | exact HLW.out.on (belowQ (Hid.out (by assumption)) _) | exact HLW.out.on (Hid.out (by assumption)).drew) hb); have HB4 := Lib.hid hb; clear hb) | (go_at_call 13; first | ((with_reducible refine (O1 _ (by first | exact Hid.out (by assumption) | exact LaidV.al (by assumption) _ | exact LaidV.dr (by assumption) _ | exact HLW.out.on (Hid.out (by assumption)) | exact HLW.out.on (belowQ (Hid.out (by assumption)) _) | exact HLW.out.on (Hid.out (by assumption)).drew)).mono ?_); clear O1; rintro e w3 ⟨rfl, hb⟩; have HLX := Lib.hid (LaidV.on (by first | exact Hid.out (by assumption) | exact LaidV.al (by assumption) _ | exact LaidV.dr (by assumption) _ | exact HLW.out.on (Hid.out (by assumption)) | exact HLW.out.on (belowQ (Hid.out (by assumption)) _) | exact HLW.out.on (Hid.out (by assumption)).drew) hb); have HB1 := Lib.hid hb; clear hb) | ((with_reducible refine (O2 _ (by first | exact Hid.out (by assumption) | exact LaidV.al (by assumption) _ | exact LaidV.dr (by assumption) _ | exact HLW.out.on (Hid.out (by assumption)) | exact HLW.out.on (belowQ (Hid.out (by assumption)) _) | exact HLW.out.on (Hid.out (by assumption)).drew)).mono ?_); clear O2; rintro e w4 ⟨rfl, hb⟩; have HLX := Lib.hid (LaidV.on (by first | exact Hid.out (by assumption) | exact LaidV.al (by assumption) _ | exact LaidV.dr (by assumption) _ | exact HLW.out.on (Hid.out (by assumption)) | exact HLW.out.on (belowQ (Hid.out (by assumption)) _) | exact HLW.out.on (Hid.out (by assumption)).drew) hb); have HB2 := Lib.hid hb; clear hb) | ((with_reducible refine (O3 _ (by first | exact Hid.out (by assumption) | exact LaidV.al (by assumption) _ | exact LaidV.dr (by assumption) _ | exact HLW.out.on (Hid.out (by assumption)) | exact HLW.out.on (belowQ (Hid.out (by assumption)) _) | exact HLW.out.on (Hid.out (by assumption)).drew)).mono ?_); clear O3; rintro e w4 ⟨rfl, hb⟩; have HLX := Lib.hid (LaidV.on (by first | exact Hid.out (by assumption) | exact LaidV.al (by assumption) _ | exact LaidV.dr (by assumption) _ | exact HLW.out.on (Hid.out (by assumption)) | exact HLW.out.on (belowQ (Hid.out (by assumption)) _) | exact HLW.out.on (Hid.out (by assumption)).drew) hb); have HB3 := Lib.hid hb; clear hb)))
      go_ret
      refine ⟨rfl, ?_⟩
      have g1 := HB1.out
      have g2 := g1.trans (HB2.out.mono g1.size)
      have g3 := g2.trans (HB3.out.mono g2.size)
      exact g3.trans (HB4.out.mono g3.size)
end Go.Proofs.YtldmlcgdolfidaaDoor.versionChainsw
