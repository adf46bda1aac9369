/-
  The examples of glob: true.
-/
import Derived.Test.YtapdmlejgakhaaaWPlain
namespace Go.Proofs.Ytapdmlejgakhaaa
open Go.RowKit
theorem ex0_any (w : World) : Calls Try.prog 8 #[.string ⟨#[47, 98, 105, 110, 47, 42]⟩, .string ⟨#[47, 98, 105, 110, 47, 97]⟩] w fun e w' => e = .returned (.bool true) ∧ Below w.heap.size w w' := by
  have := match_any ⟨#[47, 98, 105, 110, 47, 42]⟩ ⟨#[47, 98, 105, 110, 47, 97]⟩ (by decide) w
  have e : matchL [47, 98, 105, 110, 47, 42] [47, 98, 105, 110, 47, 97] = true := by decide +kernel
  exact this.mono (fun _ _ hp => ⟨hp.1.trans (retb e), hp.2⟩)
theorem ex1_any (w : World) : Calls Try.prog 8 #[.string ⟨#[91, 33, 97, 45, 99, 93, 63]⟩, .string ⟨#[100, 101]⟩] w fun e w' => e = .returned (.bool true) ∧ Below w.heap.size w w' := by
  have := match_any ⟨#[91, 33, 97, 45, 99, 93, 63]⟩ ⟨#[100, 101]⟩ (by decide) w
  have e : matchL [91, 33, 97, 45, 99, 93, 63] [100, 101] = true := by decide +kernel
  exact this.mono (fun _ _ hp => ⟨hp.1.trans (retb e), hp.2⟩)
theorem ex2_any (w : World) : Calls Try.prog 8 #[.string ⟨#[91, 33, 97, 45, 99, 93, 63]⟩, .string ⟨#[97, 98]⟩] w fun e w' => e = .returned (.bool false) ∧ Below w.heap.size w w' := by
  have := match_any ⟨#[91, 33, 97, 45, 99, 93, 63]⟩ ⟨#[97, 98]⟩ (by decide) w
  have e : matchL [91, 33, 97, 45, 99, 93, 63] [97, 98] = false := by decide +kernel
  exact this.mono (fun _ _ hp => ⟨hp.1.trans (retb e), hp.2⟩)
theorem er0_any (w : World) : Calls Try.prog 7 #[.string ⟨#[91, 93, 93]⟩] w fun e w' => e = .returned (.bool true) ∧ Below w.heap.size w w' := by
  have := rightW_any ⟨#[91, 93, 93]⟩ w
  have e : rightW [91, 93, 93] = true := by decide +kernel
  exact this.mono (fun _ _ hp => ⟨hp.1.trans (retb e), hp.2⟩)
theorem er1_any (w : World) : Calls Try.prog 7 #[.string ⟨#[91, 97]⟩] w fun e w' => e = .returned (.bool false) ∧ Below w.heap.size w w' := by
  have := rightW_any ⟨#[91, 97]⟩ w
  have e : rightW [91, 97] = false := by decide +kernel
  exact this.mono (fun _ _ hp => ⟨hp.1.trans (retb e), hp.2⟩)
set_option maxHeartbeats 4000000 in
theorem awake29 (w : World) : Calls Try.prog 5 #[] w fun e w' => e = .returned (.bool true) ∧ Below w.heap.size w w' := by
  have HB0 := Lib.hid (Below.refl w.heap.size w)
  go_enter Try.func5, Try.ntmps5
  go_wp2_with (first
    | (go_at_call 8; (with_reducible refine (ex0_any _).mono ?_); rintro e w1 ⟨rfl, hb⟩; have HB1 := Lib.hid (HB0.out.trans (hb.mono HB0.out.size)); clear hb HB0)
    | (go_at_call 8; (with_reducible refine (ex1_any _).mono ?_); rintro e w2 ⟨rfl, hb⟩; have HB2 := Lib.hid (HB1.out.trans (hb.mono HB1.out.size)); clear hb HB1)
    | (go_at_call 8; (with_reducible refine (ex2_any _).mono ?_); rintro e w3 ⟨rfl, hb⟩; have HB3 := Lib.hid (HB2.out.trans (hb.mono HB2.out.size)); clear hb HB2)
    | (go_at_call 7; (with_reducible refine (er0_any _).mono ?_); rintro e w4 ⟨rfl, hb⟩; have HB4 := Lib.hid (HB3.out.trans (hb.mono HB3.out.size)); clear hb HB3)
    | (go_at_call 7; (with_reducible refine (er1_any _).mono ?_); rintro e w5 ⟨rfl, hb⟩; have HB5 := Lib.hid (HB4.out.trans (hb.mono HB4.out.size)); clear hb HB4))
  go_ret
  exact ⟨rfl, HB5.out⟩
theorem rightW_plain {s : Bs} (h : s.length ≤ 100) : rightW (plainL s) = true := by unfold rightW; rw [plain_right h]; rfl
end Go.Proofs.Ytapdmlejgakhaaa
