/-
  The law GlobPlain, walked: true; nothing old turns.
-/
import Derived.Test.YtapdmlejgakhaaaWAwake
namespace Go.Proofs.Ytapdmlejgakhaaa.globPlainw
open Go.RowKit
theorem eqW (s t : ByteArray) : (s.toList == t.toList) = decide (s.data.toList = t.data.toList) := by
  rw [ByteArray.toList_eq, ByteArray.toList_eq, Bool.eq_iff_iff, beq_iff_eq, decide_eq_true_eq]
set_option maxHeartbeats 4000000 in
theorem walk (s o : ByteArray) (_ : s.size ≤ 9223372036854775807) (_ : o.size ≤ 9223372036854775807) (w : World) : Calls Try.prog 3 #[.string s, .string o] w fun e w' => e = .returned (.bool true) ∧ Below w.heap.size w w' := by
  have A29 := fun W => awake29 W
  by_cases h1 : 100 < s.size
  · go_enter Try.func3, Try.ntmps3
    go_wp2_with (go_at_call 5; (with_reducible refine (A29 _).mono ?_); rintro e w1 ⟨rfl, hb⟩; have HB := Lib.hid hb; clear hb)
    go_ret
    exact ⟨rfl, HB.out⟩
  by_cases h2 : 300 < o.size
  · go_enter Try.func3, Try.ntmps3
    go_wp2_with (go_at_call 5; (with_reducible refine (A29 _).mono ?_); rintro e w1 ⟨rfl, hb⟩; have HB := Lib.hid hb; clear hb)
    go_ret
    exact ⟨rfl, HB.out⟩
  have h3 : s.size ≤ 100 := by omega
  have h4 : o.size ≤ 300 := by omega
  have hl : s.data.toList.length ≤ 100 := by rw [← sizeOf]; exact h3
  obtain ⟨P, hP⟩ : ∃ P, bsT (plainL s.data.toList) = P := ⟨_, rfl⟩
  have hPL : P.data.toList = plainL s.data.toList := by rw [← hP, bytesOf]
  have CP := fun W => plain_any s (by omega) W
  rw [hP] at CP
  have CR : ∀ W, Calls Try.prog 7 #[.string P] W fun e w' => e = .returned (.bool true) ∧ Below W.heap.size W w' := fun W => (rightW_any P W).mono (fun _ _ hp => ⟨hp.1.trans (retb (by rw [hPL]; exact rightW_plain hl)), hp.2⟩)
  have CM1 : ∀ W, Calls Try.prog 8 #[.string P, .string s] W fun e w' => e = .returned (.bool true) ∧ Below W.heap.size W w' := fun W => (match_any P s (by omega) W).mono (fun _ _ hp => ⟨hp.1.trans (retb (by rw [hPL, plain_match hl, decide_eq_true rfl])), hp.2⟩)
  have CM2 : ∀ W, Calls Try.prog 8 #[.string P, .string o] W fun e w' => e = .returned (.bool (s.toList == o.toList)) ∧ Below W.heap.size W w' := fun W => (match_any P o (by omega) W).mono (fun _ _ hp => ⟨hp.1.trans (retb (by
    rw [hPL, plain_match hl, eqW, Bool.eq_iff_iff, decide_eq_true_eq, decide_eq_true_eq]; exact eq_comm)), hp.2⟩)
  have CM3 : ∀ W, Calls Try.prog 8 #[.string ⟨#[42]⟩, .string o] W fun e w' => e = .returned (.bool true) ∧ Below W.heap.size W w' := fun W => (match_any ⟨#[42]⟩ o (by omega) W).mono (fun _ _ hp => ⟨hp.1.trans (retb (star_match _)), hp.2⟩)
  obtain ⟨q, hq⟩ : ∃ q, (s.toList == o.toList) = q := ⟨_, rfl⟩
  rw [hq] at CM2
  clear hP hPL hl h1 h2
  cases q
  all_goals
   go_enter Try.func3, Try.ntmps3
   go_wp2_with (first
     | (go_at_call 6; (with_reducible refine (CP _).mono ?_); rintro e w1 ⟨rfl, hb⟩; have HB1 := Lib.hid hb; clear hb CP)
     | (go_at_call 7; (with_reducible refine (CR _).mono ?_); rintro e w2 ⟨rfl, hb⟩; have HB2 := Lib.hid (HB1.out.trans (hb.mono HB1.out.size)); clear hb HB1 CR)
     | (go_at_call 8; (with_reducible refine (CM1 _).mono ?_); rintro e w3 ⟨rfl, hb⟩; have HB3 := Lib.hid (HB2.out.trans (hb.mono HB2.out.size)); clear hb HB2 CM1)
     | (go_at_call 8; (with_reducible refine (CM2 _).mono ?_); rintro e w4 ⟨rfl, hb⟩; have HB4 := Lib.hid (HB3.out.trans (hb.mono HB3.out.size)); clear hb HB3 CM2)
     | (go_at_call 8; (with_reducible refine (CM3 _).mono ?_); rintro e w5 ⟨rfl, hb⟩; have HB5 := Lib.hid (HB4.out.trans (hb.mono HB4.out.size)); clear hb HB4 CM3)
     | (go_at_call 5; (with_reducible refine (A29 _).mono ?_); rintro e w6 ⟨rfl, hb⟩; have HB6 := Lib.hid (HB5.out.trans (hb.mono HB5.out.size)); clear hb HB5))
   go_ret
   exact ⟨rfl, HB6.out⟩
end Go.Proofs.Ytapdmlejgakhaaa.globPlainw
