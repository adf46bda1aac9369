/-
  cellarerlaw02's awake: true in every world that is LaidP; nothing old turns.
-/
import Derived.Test.YtgoekfonbpffdabDoorPClean
namespace Go.Proofs.YtgoekfonbpffdabDoor
open Go.RowKit Go.Sort
theorem clean_ex : cleanV [47, 97, 47, 47, 98, 47, 46, 46, 47, 99, 47, 46] = .tuple #[.string ⟨#[47, 97, 47, 99]⟩, .int .i64 0] := by
  have h : cleanE [47, 97, 47, 47, 98, 47, 46, 46, 47, 99, 47, 46] = ([47, 97, 47, 99], 0) := by decide +kernel
  unfold cleanV; rw [h]
theorem right_ex : right [47, 97, 47, 99] = true := by decide +kernel
theorem name_ex : nameB [97] = true := by decide +kernel
theorem under_ex : under [47] [47, 97] = true := by decide +kernel
set_option maxHeartbeats 1000000 in
theorem awake_any (w : World) (h : LaidP w) : Calls Tryd.prog 9 #[] w fun e w' => e = .returned (.bool true) ∧ Below w.heap.size w w' := by
  have C1 := clean_any ⟨#[47, 97, 47, 47, 98, 47, 46, 46, 47, 99, 47, 46]⟩ (by decide) w h
  have C2 := fun w h => right_any ⟨#[47, 97, 47, 99]⟩ (by decide) w h
  have C3 := fun w => name_any ⟨#[97]⟩ (by decide) w
  have C4 := fun w => under_any ⟨#[47]⟩ ⟨#[47, 97]⟩ (by decide) w
  simp only [clean_ex] at C1
  simp only [right_ex] at C2
  simp only [name_ex] at C3
  simp only [under_ex] at C4
  have HC := Lib.hid C2
  have HL := Lib.hid h
  clear C2 h
  go_enter Tryd.func9, Tryd.ntmps9
  go_wp2_with (go_at_call 10; refine C1.mono ?_; rintro e w1 ⟨rfl, hb⟩; have HB1 := Lib.hid hb; clear hb; refine Hid.out ?_)
  have R := HC.out w1 (HL.out.on HB1.out)
  refine Lib.hid ?_
  go_wp2_with (first | (go_at_call 12; refine R.mono ?_; rintro e w2 ⟨rfl, hb⟩; have HB2 := Lib.hid hb; clear hb) | (go_at_call 14; refine (C3 _).mono ?_; rintro e w1 ⟨rfl, rfl⟩) | (go_at_call 25; refine (C4 _).mono ?_; rintro e w1 ⟨rfl, rfl⟩))
  go_ret
  exact ⟨rfl, HB1.out.trans (HB2.out.mono HB1.out.size)⟩
end Go.Proofs.YtgoekfonbpffdabDoor
