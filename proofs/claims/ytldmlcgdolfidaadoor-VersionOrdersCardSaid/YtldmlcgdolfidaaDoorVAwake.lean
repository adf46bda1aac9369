/-
  cellarerlaw05's awake: true; nothing old turns.
-/
import Derived.Test.YtldmlcgdolfidaaDoorVPHolds
namespace Go.Proofs.YtldmlcgdolfidaaDoor
open Go.RowKit
theorem ex_parse : parseV [50, 58, 49, 45, 51] = .tuple #[.agg #[.int .i64 2, .string ⟨#[49]⟩, .string ⟨#[51]⟩], .int .i64 0] := by
  have h : parseE [50, 58, 49, 45, 51] = ((2, [49], [51]), 0) := by decide +kernel
  unfold parseV verV; rw [h]
theorem ex_text : verText (2, [49], [51]) = [50, 58, 49, 45, 51] := by
  have h : Lib.itoa (max 2 0) = [50] := by
    show Lib.itoa 2 = [50]
    rw [itoa_nat 2 (by decide)]; show Lib.decDigits 2 = [50]; rw [dec1 2 (by decide)]; rfl
  unfold verText; rw [h]; decide
theorem ex_c1 : compareV [49, 46, 48, 126, 114, 99, 49] [49, 46, 48] = -1 := by decide +kernel
theorem ex_c2 : compareV [49, 46, 48] [49, 46, 48, 45, 49] = -1 := by decide +kernel
theorem ex_c3 : compareV [50, 58, 49] [49, 48] = 1 := by decide +kernel
theorem ex_c4 : compareV [49, 46, 57] [49, 46, 49, 48] = -1 := by decide +kernel
set_option maxRecDepth 100000 in
set_option maxHeartbeats 4000000 in
theorem vawake (w : World) (hlv : LaidV w) : Calls Tryd.prog 9 #[] w fun e w' => e = .returned (.bool true) ∧ Below w.heap.size w w' := by
  have P := fun (w : World) (hw : LaidV w) => parse_any ⟨#[50, 58, 49, 45, 51]⟩ (by decide) w hw
  have T := fun (w : World) (hw : LaidV w) => vtext_any 2 (by decide) (by decide) ⟨#[49]⟩ ⟨#[51]⟩ (by decide) (by decide) w hw
  have C1 := fun (w : World) (hw : LaidV w) => compare_any ⟨#[49, 46, 48, 126, 114, 99, 49]⟩ ⟨#[49, 46, 48]⟩ (by decide) (by decide) w hw
  have C2 := fun (w : World) (hw : LaidV w) => compare_any ⟨#[49, 46, 48]⟩ ⟨#[49, 46, 48, 45, 49]⟩ (by decide) (by decide) w hw
  have C3 := fun (w : World) (hw : LaidV w) => compare_any ⟨#[50, 58, 49]⟩ ⟨#[49, 48]⟩ (by decide) (by decide) w hw
  have C4 := fun (w : World) (hw : LaidV w) => compare_any ⟨#[49, 46, 57]⟩ ⟨#[49, 46, 49, 48]⟩ (by decide) (by decide) w hw
  have HLW := Lib.hid hlv
  clear hlv
  unfold ParsePost at P
  simp only [ex_parse] at P
  simp only [ex_text] at T
  simp only [ex_c1] at C1
  simp only [ex_c2] at C2
  simp only [ex_c3] at C3
  simp only [ex_c4] at C4
  go_enter Tryd.func9, Tryd.ntmps9
  go_wp2_with (first | (go_at_call 10; refine (P _ (by first | exact Hid.out (by assumption) | exact LaidV.al (by assumption) _ | exact LaidV.dr (by assumption) _ | exact HLW.out.on (Hid.out (by assumption)) | exact HLW.out.on (belowQ (Hid.out (by assumption)) _) | exact HLW.out.on (Hid.out (by assumption)).drew)).mono ?_; rintro e w1 ⟨rfl, hb⟩; have HLX := Lib.hid (LaidV.on (by first | exact Hid.out (by assumption) | exact LaidV.al (by assumption) _ | exact LaidV.dr (by assumption) _ | exact HLW.out.on (Hid.out (by assumption)) | exact HLW.out.on (belowQ (Hid.out (by assumption)) _) | exact HLW.out.on (Hid.out (by assumption)).drew) hb); have HB1 := Lib.hid hb; clear hb P) | (go_at_call 12; refine (T _ (by first | exact Hid.out (by assumption) | exact LaidV.al (by assumption) _ | exact LaidV.dr (by assumption) _ | exact HLW.out.on (Hid.out (by assumption)) | exact HLW.out.on (belowQ (Hid.out (by assumption)) _) | exact HLW.out.on (Hid.out (by assumption)).drew)).mono ?_; rintro e w2 ⟨rfl, hb⟩; have HLX := Lib.hid (LaidV.on (by first | exact Hid.out (by assumption) | exact LaidV.al (by assumption) _ | exact LaidV.dr (by assumption) _ | exact HLW.out.on (Hid.out (by assumption)) | exact HLW.out.on (belowQ (Hid.out (by assumption)) _) | exact HLW.out.on (Hid.out (by assumption)).drew) hb); have HB2 := Lib.hid hb; clear hb T) | (go_at_call 13; first | ((with_reducible refine (C1 _ (by first | exact Hid.out (by assumption) | exact LaidV.al (by assumption) _ | exact LaidV.dr (by assumption) _ | exact HLW.out.on (Hid.out (by assumption)) | exact HLW.out.on (belowQ (Hid.out (by assumption)) _) | exact HLW.out.on (Hid.out (by assumption)).drew)).mono ?_); clear C1; rintro e w3 ⟨rfl, hb⟩; have HLX := Lib.hid (LaidV.on (by first | exact Hid.out (by assumption) | exact LaidV.al (by assumption) _ | exact LaidV.dr (by assumption) _ | exact HLW.out.on (Hid.out (by assumption)) | exact HLW.out.on (belowQ (Hid.out (by assumption)) _) | exact HLW.out.on (Hid.out (by assumption)).drew) hb); have HB3 := Lib.hid hb; clear hb) | ((with_reducible refine (C2 _ (by first | exact Hid.out (by assumption) | exact LaidV.al (by assumption) _ | exact LaidV.dr (by assumption) _ | exact HLW.out.on (Hid.out (by assumption)) | exact HLW.out.on (belowQ (Hid.out (by assumption)) _) | exact HLW.out.on (Hid.out (by assumption)).drew)).mono ?_); clear C2; rintro e w4 ⟨rfl, hb⟩; have HLX := Lib.hid (LaidV.on (by first | exact Hid.out (by assumption) | exact LaidV.al (by assumption) _ | exact LaidV.dr (by assumption) _ | exact HLW.out.on (Hid.out (by assumption)) | exact HLW.out.on (belowQ (Hid.out (by assumption)) _) | exact HLW.out.on (Hid.out (by assumption)).drew) hb); have HB4 := Lib.hid hb; clear hb) | ((with_reducible refine (C3 _ (by first | exact Hid.out (by assumption) | exact LaidV.al (by assumption) _ | exact LaidV.dr (by assumption) _ | exact HLW.out.on (Hid.out (by assumption)) | exact HLW.out.on (belowQ (Hid.out (by assumption)) _) | exact HLW.out.on (Hid.out (by assumption)).drew)).mono ?_); clear C3; rintro e w5 ⟨rfl, hb⟩; have HLX := Lib.hid (LaidV.on (by first | exact Hid.out (by assumption) | exact LaidV.al (by assumption) _ | exact LaidV.dr (by assumption) _ | exact HLW.out.on (Hid.out (by assumption)) | exact HLW.out.on (belowQ (Hid.out (by assumption)) _) | exact HLW.out.on (Hid.out (by assumption)).drew) hb); have HB5 := Lib.hid hb; clear hb) | ((with_reducible refine (C4 _ (by first | exact Hid.out (by assumption) | exact LaidV.al (by assumption) _ | exact LaidV.dr (by assumption) _ | exact HLW.out.on (Hid.out (by assumption)) | exact HLW.out.on (belowQ (Hid.out (by assumption)) _) | exact HLW.out.on (Hid.out (by assumption)).drew)).mono ?_); clear C4; rintro e w6 ⟨rfl, hb⟩; have HLX := Lib.hid (LaidV.on (by first | exact Hid.out (by assumption) | exact LaidV.al (by assumption) _ | exact LaidV.dr (by assumption) _ | exact HLW.out.on (Hid.out (by assumption)) | exact HLW.out.on (belowQ (Hid.out (by assumption)) _) | exact HLW.out.on (Hid.out (by assumption)).drew) hb); have HB6 := Lib.hid hb; clear hb)))
  go_ret
  refine ⟨rfl, ?_⟩
  have h1 := HB1.out
  have h2 := (h1.alloc h1.size (.cells #[.int .i64 2, .string ⟨#[49]⟩, .string ⟨#[51]⟩] 24))
  have h3 := h2.trans (HB2.out.mono h2.size)
  have h4 := h3.trans (HB3.out.mono h3.size)
  have h5 := h4.trans (HB4.out.mono h4.size)
  have h6 := h5.trans (HB5.out.mono h5.size)
  exact h6.trans (HB6.out.mono h6.size)
end Go.Proofs.YtldmlcgdolfidaaDoor
