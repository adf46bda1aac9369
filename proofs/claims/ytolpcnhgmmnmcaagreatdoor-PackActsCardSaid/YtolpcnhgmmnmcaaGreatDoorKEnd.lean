/-
  Reserved paths, by the program and by the reference: what each returns; nothing old turns. Condition of the program's: LaidK.
-/
import Derived.Test.YtolpcnhgmmnmcaaGreatDoorKMath
import Derived.Test.YtolpcnhgmmnmcaaGreatDoorPSmall
import Derived.Test.YtolpcnhgmmnmcaaGreatDoorLBase
import Derived.Test.YtolpcnhgmmnmcaaGreatDoorShelf
namespace Go.Proofs.YtolpcnhgmmnmcaaGreatDoor
open Go.RowKit Go.Shelf
abbrev sK (l : Bs) : ByteArray := ⟨l.toArray⟩
/-- The endings, as the program's text lays them. -/
def LaidK (w : World) : Prop := w.cell? ⟨0, 0, none⟩ = some (.string (sK newK)) ∧ w.cell? ⟨0, 1, none⟩ = some (.string (sK tmpK)) ∧ w.cell? ⟨0, 2, none⟩ = some (.string (sK disK))
theorem LaidK.on {w w' : World} (h : LaidK w) (hb : Below w.heap.size w w') : LaidK w' :=
  ⟨(hb.cell (World.block_lt_of_cell? w _ h.1)).trans h.1, (hb.cell (World.block_lt_of_cell? w _ h.2.1)).trans h.2.1, (hb.cell (World.block_lt_of_cell? w _ h.2.2)).trans h.2.2⟩
theorem atE0 (a b c : ByteArray) (w : World) : (Instr.index 86 (.agg #[.string a, .string b, .string c]) (.int .i64 0)).run Tryz.prog w = .ok (.string a) w := by kernel_rfl
theorem atE1 (a b c : ByteArray) (w : World) : (Instr.index 86 (.agg #[.string a, .string b, .string c]) (.int .i64 1)).run Tryz.prog w = .ok (.string b) w := by kernel_rfl
theorem atE2 (a b c : ByteArray) (w : World) : (Instr.index 86 (.agg #[.string a, .string b, .string c]) (.int .i64 2)).run Tryz.prog w = .ok (.string c) w := by kernel_rfl
theorem hasSuf_any (s e : ByteArray) (hs : s.size ≤ 4000) (w : World) : Calls Tryz.prog 59 #[.string s, .string e] w fun e' w' => e' = .returned (.bool (Lib.hasSuffix s.data.toList e.data.toList)) ∧ w = w' :=
  (Tryz.strings_HasSuffix s e w (by omega)).mono fun _ _ h => ⟨h.1, h.2.symm⟩
set_option maxRecDepth 100000 in
set_option maxHeartbeats 4000000 in
theorem ending_any (s : ByteArray) (hs : s.size ≤ 4000) (w : World) (h : LaidK w) : Calls Tryz.prog 33 #[.string s] w fun e w' => e = .returned (.bool (endK s.data.toList)) ∧ w = w' := by
  obtain ⟨h0, h1, h2⟩ := h
  have HS0 : ∀ W, Calls Tryz.prog 59 #[.string s, .string (sK newK)] W fun e' w' => e' = .returned (.bool (Lib.hasSuffix s.data.toList newK)) ∧ W = w' := fun W => by
    have := hasSuf_any s (sK newK) hs W
    rwa [bytesOf] at this
  have HS1 : ∀ W, Calls Tryz.prog 59 #[.string s, .string (sK tmpK)] W fun e' w' => e' = .returned (.bool (Lib.hasSuffix s.data.toList tmpK)) ∧ W = w' := fun W => by
    have := hasSuf_any s (sK tmpK) hs W
    rwa [bytesOf] at this
  have HS2 : ∀ W, Calls Tryz.prog 59 #[.string s, .string (sK disK)] W fun e' w' => e' = .returned (.bool (Lib.hasSuffix s.data.toList disK)) ∧ W = w' := fun W => by
    have := hasSuf_any s (sK disK) hs W
    rwa [bytesOf] at this
  unfold endK
  generalize Lib.hasSuffix s.data.toList newK = b0 at *
  generalize Lib.hasSuffix s.data.toList tmpK = b1 at *
  generalize Lib.hasSuffix s.data.toList disK = b2 at *
  generalize sK newK = E0 at *
  generalize sK tmpK = E1 at *
  generalize sK disK = E2 at *
  have A0 := Lib.hid HS0
  have A1 := Lib.hid HS1
  have A2 := Lib.hid HS2
  clear HS0 HS1 HS2
  go_enter Tryz.func33, Tryz.ntmps33
  go_wp2
  go_loop [6] (fun i => ∃ k : Nat, k ≤ 3 ∧ i = .int .i64 k ∧ Hid ((0 < k → b0 = false) ∧ (1 < k → b1 = false) ∧ (2 < k → b2 = false))) (fun i => 3 - (intOf i).toNat)
  case atStart => exact ⟨0, by omega, rfl, Lib.hid ⟨fun h => by omega, fun h => by omega, fun h => by omega⟩⟩
  case round =>
    obtain ⟨k, hk, rfl, HK⟩ := hrel
    have hk4 : k = 0 ∨ k = 1 ∨ k = 2 ∨ k = 3 := by omega
    rcases hk4 with rfl | rfl | rfl | rfl
    · have C := A0.out w
      have t0 := fun w => atE0 E0 E1 E2 w
      cases b0
      · go_wp2_with (go_at_call 59; (with_reducible refine C.mono ?_); rintro e w1 ⟨rfl, rfl⟩)
        go_round
        case rel => exact ⟨1, by omega, by go_num, Lib.hid ⟨fun _ => by simp, fun h => by omega, fun h => by omega⟩⟩
        case measure => simp [intOf]
      · go_wp2_with (go_at_call 59; (with_reducible refine C.mono ?_); rintro e w1 ⟨rfl, rfl⟩)
        go_ret
        exact ⟨rfl, rfl⟩
    · have C := A1.out w
      have t1 := fun w => atE1 E0 E1 E2 w
      have g0 := HK.out.1 (by omega)
      subst g0
      cases b1
      · go_wp2_with (go_at_call 59; (with_reducible refine C.mono ?_); rintro e w1 ⟨rfl, rfl⟩)
        go_round
        case rel => exact ⟨2, by omega, by go_num, Lib.hid ⟨fun _ => by simp, fun _ => by simp, fun h => by omega⟩⟩
        case measure => simp [intOf]
      · go_wp2_with (go_at_call 59; (with_reducible refine C.mono ?_); rintro e w1 ⟨rfl, rfl⟩)
        go_ret
        exact ⟨rfl, rfl⟩
    · have C := A2.out w
      have t2 := fun w => atE2 E0 E1 E2 w
      have g0 := HK.out.1 (by omega)
      have g1 := HK.out.2.1 (by omega)
      subst g0
      subst g1
      cases b2
      · go_wp2_with (go_at_call 59; (with_reducible refine C.mono ?_); rintro e w1 ⟨rfl, rfl⟩)
        go_round
        case rel => exact ⟨3, by omega, by go_num, Lib.hid ⟨fun _ => by simp, fun _ => by simp, fun _ => by simp⟩⟩
        case measure => simp [intOf]
      · go_wp2_with (go_at_call 59; (with_reducible refine C.mono ?_); rintro e w1 ⟨rfl, rfl⟩)
        go_ret
        exact ⟨rfl, rfl⟩
    · have g0 := HK.out.1 (by omega)
      have g1 := HK.out.2.1 (by omega)
      have g2 := HK.out.2.2 (by omega)
      subst g0
      subst g1
      subst g2
      go_wp2
      go_ret
      exact ⟨rfl, rfl⟩
set_option maxRecDepth 100000 in
set_option maxHeartbeats 4000000 in
theorem within_any (d p : ByteArray) (hd : d.size ≤ 4000) (w : World) : Calls Tryz.prog 32 #[.string d, .string p] w fun e w' => e = .returned (.bool (inK d.data.toList p.data.toList)) ∧ w = w' := by
  have U := fun W => under_any d p hd W
  have q := eqT p d
  unfold inK
  generalize under d.data.toList p.data.toList = u at *
  by_cases h : p.data.toList = d.data.toList
  · rw [decide_eq_true h] at q ⊢
    clear h
    go_enter Tryz.func32, Tryz.ntmps32
    go_wp2
    go_ret
    exact ⟨rfl, rfl⟩
  · rw [decide_eq_false h] at q ⊢
    clear h
    go_enter Tryz.func32, Tryz.ntmps32
    go_wp2_with (go_at_call 58; (with_reducible refine (U _).mono ?_); rintro e w1 ⟨rfl, rfl⟩)
    go_ret
    exact ⟨by simp, rfl⟩
set_option maxRecDepth 100000 in
set_option maxHeartbeats 4000000 in
theorem reserved_any (p : ByteArray) (hp : p.size ≤ 4000) (w : World) (h : LaidK w) : Calls Tryz.prog 10 #[.string p] w fun e w' => e = .returned (.bool (rsvK p.data.toList)) ∧ w = w' := by
  have E := ending_any p hp w h
  have W1 : ∀ W, Calls Tryz.prog 32 #[.string ⟨#[47, 118, 97, 114, 47, 108, 105, 98, 47, 100, 112, 107, 103]⟩, .string p] W fun e w' => e = .returned (.bool (inK dbsK p.data.toList)) ∧ W = w' := fun W => within_any ⟨#[47, 118, 97, 114, 47, 108, 105, 98, 47, 100, 112, 107, 103]⟩ p (by decide) W
  have W2 : ∀ W, Calls Tryz.prog 32 #[.string ⟨#[47, 101, 116, 99, 47, 97, 108, 116, 101, 114, 110, 97, 116, 105, 118, 101, 115]⟩, .string p] W fun e w' => e = .returned (.bool (inK admK p.data.toList)) ∧ W = w' := fun W => within_any ⟨#[47, 101, 116, 99, 47, 97, 108, 116, 101, 114, 110, 97, 116, 105, 118, 101, 115]⟩ p (by decide) W
  unfold rsvK
  generalize inK dbsK p.data.toList = b1 at *
  generalize inK admK p.data.toList = b2 at *
  generalize endK p.data.toList = b3 at *
  clear h
  cases b1 <;> cases b2
  all_goals
    go_enter Tryz.func10, Tryz.ntmps10
    go_wp2_with (first
      | (go_at_call 32; first | ((with_reducible refine (W1 _).mono ?_); rintro e w1 ⟨rfl, rfl⟩) | ((with_reducible refine (W2 _).mono ?_); rintro e w1 ⟨rfl, rfl⟩))
      | (go_at_call 33; (with_reducible refine E.mono ?_); rintro e w1 ⟨rfl, rfl⟩))
    go_ret
    exact ⟨by simp, rfl⟩
set_option maxRecDepth 100000 in
set_option maxHeartbeats 4000000 in
theorem ends_ref (s e : ByteArray) (hs : s.size ≤ 4000) (he : e.size ≤ 4000) (w : World) : Calls Tryz.prog 44 #[.string s, .string e] w fun e' w' => e' = .returned (.bool (Lib.hasSuffix s.data.toList e.data.toList)) ∧ w = w' := by
  rw [suffix_is]
  by_cases h : e.size ≤ s.size
  · obtain ⟨m, hm⟩ : ∃ m, s.size = m + e.size := ⟨s.size - e.size, by omega⟩
    have h1 : decide (e.data.toList.length ≤ s.data.toList.length) = true := decide_eq_true (by rw [← sizeOf, ← sizeOf]; exact h)
    have h2 : s.data.toList.length - e.data.toList.length = m := by rw [← sizeOf, ← sizeOf]; omega
    have q := eqT (s.extract m s.size) e
    have h3 : (s.extract m s.size).data.toList = s.data.toList.drop m := by rw [extL, List.take_of_length_le (by rw [List.length_drop, ← sizeOf]; omega)]
    rw [h1, h2, Bool.true_and]
    rw [h3] at q
    generalize decide (s.data.toList.drop m = e.data.toList) = b at *
    have hk : (s.size : Int) - (e.size : Int) = (m : Int) := by omega
    have hms : m ≤ s.size := by omega
    clear h1 h2 h3 hm
    go_enter Tryz.func44, Tryz.ntmps44
    go_wp2
    go_ret
    exact ⟨rfl, rfl⟩
  · have h1 : decide (e.data.toList.length ≤ s.data.toList.length) = false := decide_eq_false (by rw [← sizeOf, ← sizeOf]; exact h)
    rw [h1, Bool.false_and]
    clear h1
    go_enter Tryz.func44, Tryz.ntmps44
    go_wp2
    go_ret
    exact ⟨rfl, rfl⟩
set_option maxRecDepth 100000 in
set_option maxHeartbeats 16000000 in
theorem reserved_ref (p : ByteArray) (hp : p.size ≤ 4000) (w : World) : Calls Tryz.prog 43 #[.string p] w fun e w' => e = .returned (.bool (rsvK p.data.toList)) ∧ w = w' := by
  have U1 : ∀ W, Calls Tryz.prog 67 #[.string ⟨#[47, 118, 97, 114, 47, 108, 105, 98, 47, 100, 112, 107, 103]⟩, .string p] W fun e w' => e = .returned (.bool (under dbsK p.data.toList)) ∧ W = w' := fun W => under_ref ⟨#[47, 118, 97, 114, 47, 108, 105, 98, 47, 100, 112, 107, 103]⟩ p (by decide) W
  have U2 : ∀ W, Calls Tryz.prog 67 #[.string ⟨#[47, 101, 116, 99, 47, 97, 108, 116, 101, 114, 110, 97, 116, 105, 118, 101, 115]⟩, .string p] W fun e w' => e = .returned (.bool (under admK p.data.toList)) ∧ W = w' := fun W => under_ref ⟨#[47, 101, 116, 99, 47, 97, 108, 116, 101, 114, 110, 97, 116, 105, 118, 101, 115]⟩ p (by decide) W
  have E1 : ∀ W, Calls Tryz.prog 44 #[.string p, .string ⟨#[46, 100, 112, 107, 103, 45, 110, 101, 119]⟩] W fun e w' => e = .returned (.bool (Lib.hasSuffix p.data.toList newK)) ∧ W = w' := fun W => ends_ref p ⟨#[46, 100, 112, 107, 103, 45, 110, 101, 119]⟩ hp (by decide) W
  have E2 : ∀ W, Calls Tryz.prog 44 #[.string p, .string ⟨#[46, 100, 112, 107, 103, 45, 116, 109, 112]⟩] W fun e w' => e = .returned (.bool (Lib.hasSuffix p.data.toList tmpK)) ∧ W = w' := fun W => ends_ref p ⟨#[46, 100, 112, 107, 103, 45, 116, 109, 112]⟩ hp (by decide) W
  have E3 : ∀ W, Calls Tryz.prog 44 #[.string p, .string ⟨#[46, 100, 112, 107, 103, 45, 100, 105, 115, 116]⟩] W fun e w' => e = .returned (.bool (Lib.hasSuffix p.data.toList disK)) ∧ W = w' := fun W => ends_ref p ⟨#[46, 100, 112, 107, 103, 45, 100, 105, 115, 116]⟩ hp (by decide) W
  have q1 := eqTL p [47, 118, 97, 114, 47, 108, 105, 98, 47, 100, 112, 107, 103]
  have q2 := eqTL p [47, 101, 116, 99, 47, 97, 108, 116, 101, 114, 110, 97, 116, 105, 118, 101, 115]
  unfold rsvK inK endK
  rw [show decide (p.data.toList = [47, 118, 97, 114, 47, 108, 105, 98, 47, 100, 112, 107, 103]) = decide (p.data.toList = dbsK) from rfl] at q1
  rw [show decide (p.data.toList = [47, 101, 116, 99, 47, 97, 108, 116, 101, 114, 110, 97, 116, 105, 118, 101, 115]) = decide (p.data.toList = admK) from rfl] at q2
  generalize decide (p.data.toList = dbsK) = a1 at *
  generalize decide (p.data.toList = admK) = a2 at *
  generalize under dbsK p.data.toList = b1 at *
  generalize under admK p.data.toList = b2 at *
  generalize Lib.hasSuffix p.data.toList newK = c1 at *
  generalize Lib.hasSuffix p.data.toList tmpK = c2 at *
  generalize Lib.hasSuffix p.data.toList disK = c3 at *
  cases a1
  case true =>
    go_enter Tryz.func43, Tryz.ntmps43
    go_wp2
    go_ret
    exact ⟨by simp, rfl⟩
  cases a2
  case true =>
    go_enter Tryz.func43, Tryz.ntmps43
    go_wp2
    go_ret
    exact ⟨by simp, rfl⟩
  cases b1 <;> cases b2 <;> cases c1 <;> cases c2
  all_goals
    go_enter Tryz.func43, Tryz.ntmps43
    go_wp2_with (first
      | (go_at_call 67; first | ((with_reducible refine (U1 _).mono ?_); rintro e w1 ⟨rfl, rfl⟩) | ((with_reducible refine (U2 _).mono ?_); rintro e w1 ⟨rfl, rfl⟩))
      | (go_at_call 44; first | ((with_reducible refine (E1 _).mono ?_); rintro e w1 ⟨rfl, rfl⟩) | ((with_reducible refine (E2 _).mono ?_); rintro e w1 ⟨rfl, rfl⟩) | ((with_reducible refine (E3 _).mono ?_); rintro e w1 ⟨rfl, rfl⟩)))
    go_ret
    exact ⟨by simp, rfl⟩
end Go.Proofs.YtolpcnhgmmnmcaaGreatDoor
