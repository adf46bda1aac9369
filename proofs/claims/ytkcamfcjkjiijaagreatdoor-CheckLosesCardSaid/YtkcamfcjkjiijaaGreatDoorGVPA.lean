/-
  The program's digit, letter, begins, weight, consists, and which parts of a version may be: what each returns; the world stays as it was.
-/
import Derived.Test.YtkcamfcjkjiijaaGreatDoorGVOrder
import Derived.Test.YtkcamfcjkjiijaaGreatDoorGVOMath
import Derived.Test.YtkcamfcjkjiijaaGreatDoorGShelf
namespace Go.Proofs.YtkcamfcjkjiijaaGreatDoor
open Go.RowKit
theorem digit_any (c : UInt8) (w : World) : Calls Tryz.prog 170 #[.int .u8 c.toNat] w fun e w' => e = .returned (.bool (dgB c)) ∧ w = w' := by
  have hc := c.toNat_lt
  obtain ⟨B, HB⟩ : ∃ B, Hid (dgB c = B) := ⟨_, rfl⟩
  rw [HB.out]
  unfold dgB at HB
  generalize c.toNat = n at *
  by_cases h1 : 48 ≤ n
  · go_enter Tryz.func170, Tryz.ntmps170
    go_wp2
    go_ret
    exact ⟨retb (by rw [← HB.out, Bool.eq_iff_iff]; simp only [Bool.and_eq_true, decide_eq_true_eq]; omega), rfl⟩
  · go_enter Tryz.func170, Tryz.ntmps170
    go_wp2
    go_ret
    exact ⟨retb (by rw [← HB.out, decide_eq_false h1]; rfl), rfl⟩
theorem letter_any (c : UInt8) (w : World) : Calls Tryz.prog 171 #[.int .u8 c.toNat] w fun e w' => e = .returned (.bool (ltB c)) ∧ w = w' := by
  have hc := c.toNat_lt
  obtain ⟨B, HB⟩ : ∃ B, Hid (ltB c = B) := ⟨_, rfl⟩
  rw [HB.out]
  unfold ltB at HB
  generalize c.toNat = n at *
  by_cases h1 : 97 ≤ n
  · by_cases h2 : n ≤ 122
    · go_enter Tryz.func171, Tryz.ntmps171
      go_wp2
      go_ret
      exact ⟨retb (by rw [← HB.out, Bool.eq_iff_iff]; simp only [Bool.or_eq_true, Bool.and_eq_true, decide_eq_true_eq, true_iff]; omega), rfl⟩
    · go_enter Tryz.func171, Tryz.ntmps171
      go_wp2
      go_ret
      exact ⟨retb (by rw [← HB.out, Bool.eq_iff_iff]; simp only [Bool.or_eq_true, Bool.and_eq_true, decide_eq_true_eq]; omega), rfl⟩
  · by_cases h3 : 65 ≤ n
    · go_enter Tryz.func171, Tryz.ntmps171
      go_wp2
      go_ret
      exact ⟨retb (by rw [← HB.out, Bool.eq_iff_iff]; simp only [Bool.or_eq_true, Bool.and_eq_true, decide_eq_true_eq]; omega), rfl⟩
    · go_enter Tryz.func171, Tryz.ntmps171
      go_wp2
      go_ret
      exact ⟨retb (by rw [← HB.out, Bool.eq_iff_iff]; simp only [Bool.or_eq_true, Bool.and_eq_true, decide_eq_true_eq, Bool.false_eq_true, false_iff]; omega), rfl⟩
theorem cons_of {s : ByteArray} (h : 0 < s.size) : s.data.toList = s[0] :: s.data.toList.drop 1 := by
  have := dropC s 0 h
  rwa [List.drop_zero] at this
theorem nil_of {s : ByteArray} (h : s.size = 0) : s.data.toList = [] := List.eq_nil_of_length_eq_zero (by rw [← sizeOf]; exact h)
theorem head_cons {s : ByteArray} (h : 0 < s.size) : headDg s.data.toList = dgB s[0] := by rw [cons_of h]; rfl
theorem headDg_nil {s : ByteArray} (h : s.size = 0) : headDg s.data.toList = false := by rw [nil_of h]; rfl
theorem begins_any (s : ByteArray) (w : World) : Calls Tryz.prog 158 #[.string s] w fun e w' => e = .returned (.bool (headDg s.data.toList)) ∧ w = w' := by
  have C := fun c w => digit_any c w
  by_cases h : 0 < s.size
  · rw [head_cons h]
    have e1 : s.toList.isEmpty = false := by rw [emptyT, decide_eq_false (by omega)]
    have D := C s[0]
    have hc := s[0].toNat_lt
    clear C
    go_enter Tryz.func158, Tryz.ntmps158
    go_wp2_with (go_at_call 170; refine (D _).mono ?_; rintro e w1 ⟨rfl, rfl⟩)
    go_ret
    exact ⟨rfl, rfl⟩
  · rw [headDg_nil (by omega)]
    have e1 : s.toList.isEmpty = true := by rw [emptyT, decide_eq_true (by omega)]
    clear C
    go_enter Tryz.func158, Tryz.ntmps158
    go_wp2
    go_ret
    exact ⟨rfl, rfl⟩
theorem at_nil {s : ByteArray} (h : s.size = 0) : atW s.data.toList = 0 := by rw [nil_of h]; rfl
theorem at_dg {s : ByteArray} (h : 0 < s.size) (g : dgB s[0] = true) : atW s.data.toList = 0 := by rw [cons_of h]; simp [atW, g]
theorem at_no {s : ByteArray} (h : 0 < s.size) (g : dgB s[0] = false) : atW s.data.toList = wt s[0] := by rw [cons_of h]; simp [atW, g]
theorem weight_any (s : ByteArray) (w : World) : Calls Tryz.prog 156 #[.string s] w fun e w' => e = .returned (.int .i64 (atW s.data.toList)) ∧ w = w' := by
  by_cases h : 0 < s.size
  · have e1 : s.toList.isEmpty = false := by rw [emptyT, decide_eq_false (by omega)]
    have D := fun w => digit_any s[0] w
    have L := fun w => letter_any s[0] w
    have hc := s[0].toNat_lt
    cases hd : dgB s[0]
    · rw [at_no h hd]
      rw [hd] at D
      by_cases h1 : s[0].toNat = 126
      · rw [wt_tilde h1]
        have h1' : ((s[0].toNat : Int) == 126) = true := by rw [h1]; rfl
        clear hd L h1
        go_enter Tryz.func156, Tryz.ntmps156
        go_wp2_with (go_at_call 170; refine (D _).mono ?_; rintro e w1 ⟨rfl, rfl⟩)
        go_ret
        exact ⟨rfl, rfl⟩
      · have h1' : ((s[0].toNat : Int) == 126) = false := by rw [beq_eq_false_iff_ne]; omega
        cases h2 : ltB s[0]
        · rw [wt_other h1 h2]
          rw [h2] at L
          clear hd h2 h1
          go_enter Tryz.func156, Tryz.ntmps156
          go_wp2_with (first | (go_at_call 170; refine (D _).mono ?_; rintro e w1 ⟨rfl, rfl⟩) | (go_at_call 171; refine (L _).mono ?_; rintro e w1 ⟨rfl, rfl⟩))
          go_ret
          exact ⟨rfl, rfl⟩
        · rw [wt_letter h1 h2]
          rw [h2] at L
          clear hd h2 h1
          go_enter Tryz.func156, Tryz.ntmps156
          go_wp2_with (first | (go_at_call 170; refine (D _).mono ?_; rintro e w1 ⟨rfl, rfl⟩) | (go_at_call 171; refine (L _).mono ?_; rintro e w1 ⟨rfl, rfl⟩))
          go_ret
          exact ⟨rfl, rfl⟩
    · rw [at_dg h hd]
      rw [hd] at D
      clear hd L
      go_enter Tryz.func156, Tryz.ntmps156
      go_wp2_with (go_at_call 170; refine (D _).mono ?_; rintro e w1 ⟨rfl, rfl⟩)
      go_ret
      exact ⟨rfl, rfl⟩
  · rw [at_nil (by omega)]
    have e1 : s.toList.isEmpty = true := by rw [emptyT, decide_eq_true (by omega)]
    go_enter Tryz.func156, Tryz.ntmps156
    go_wp2
    go_ret
    exact ⟨rfl, rfl⟩
theorem idx_mem (l : Bs) (c : UInt8) : Lib.indexByte l c < 0 ↔ l.contains c = false := by
  induction l with
  | nil => simp [Lib.indexByte]
  | cons b l ih =>
    have hge := Lib.indexByte_ge l c
    unfold Lib.indexByte
    by_cases h : b = c
    · subst h; simp
    · have h' : ¬ c = b := fun g => h g.symm
      rw [if_neg (by simpa using h)]
      by_cases g : Lib.indexByte l c = -1
      · rw [if_pos (by simpa using g)]
        have := ih.1 (by omega)
        simp only [List.contains_cons, this, Bool.or_false]
        simp [h']
      · rw [if_neg (by simpa using g)]
        have hn : ¬ Lib.indexByte l c < 0 := by omega
        constructor
        · intro _; omega
        · intro hf
          have : l.contains c = false := by simp only [List.contains_cons, Bool.or_eq_false_iff] at hf; exact hf.2
          exact absurd (ih.2 this) hn
set_option maxHeartbeats 1000000 in
theorem consists_any (s m : ByteArray) (hs : s.size ≤ 100000) (w : World) : Calls Tryz.prog 186 #[.string s, .string m] w fun e w' => e = .returned (.bool (onlyB m.data.toList s.data.toList)) ∧ w = w' := by
  obtain ⟨R, HR⟩ : ∃ R, Hid (onlyB m.data.toList s.data.toList = R) := ⟨_, rfl⟩
  rw [HR.out]
  have DA := fun c w => digit_any c w
  have LA := fun c w => letter_any c w
  go_enter Tryz.func186, Tryz.ntmps186
  go_wp2
  go_loop [8] (fun i => ∃ k : Nat, k ≤ s.size ∧ i = .int .i64 k ∧ Hid ((s.data.toList.take k).all (fun c => dgB c || ltB c || m.data.toList.contains c) = true)) (fun i => s.size - (intOf i).toNat)
  case atStart => exact ⟨0, by omega, rfl, Lib.hid (by simp)⟩
  case round =>
    obtain ⟨k, hk, rfl, H⟩ := hrel
    by_cases hlt : k < s.size
    · have hc := s[k].toNat_lt
      have D := DA s[k]
      have L := LA s[k]
      have C3 := fun w => Tryz.strings_IndexByte m (s[k].toNat : Int) w
      have hx : (s[k].toNat : Int).toNat.toUInt8 = s[k] := by rw [Int.toNat_natCast]; simp
      simp only [hx] at C3
      have hge := Lib.indexByte_ge m.data.toList s[k]
      have hix := idx_mem m.data.toList s[k]
      generalize Lib.indexByte m.data.toList s[k] = ix at *
      have hN : (dgB s[k] || ltB s[k] || m.data.toList.contains s[k]) = true → Hid ((s.data.toList.take (k + 1)).all (fun c => dgB c || ltB c || m.data.toList.contains c) = true) := fun g => Lib.hid (allNx hlt H.out g)
      have hS : (dgB s[k] || ltB s[k] || m.data.toList.contains s[k]) = false → Hid (false = R) := fun g => Lib.hid (by rw [← HR.out]; unfold onlyB; exact (allSt hlt g).symm)
      clear hx DA LA
      cases hl : ltB s[k]
      · rw [hl] at L hN hS
        cases hd : dgB s[k]
        · rw [hd] at D hN hS
          cases hm : m.data.toList.contains s[k]
          · rw [hm] at hN hS
            have hneg : ix < 0 := hix.2 hm
            have HS := hS rfl
            clear hix hl hd hm hN hS
            go_wp2_with (first | (go_at_call 171; refine (L _).mono ?_; rintro e w1 ⟨rfl, rfl⟩) | (go_at_call 170; refine (D _).mono ?_; rintro e w1 ⟨rfl, rfl⟩) | (go_at_call 102; refine (C3 _).mono ?_; rintro e w1 ⟨rfl, rfl⟩))
            go_ret
            exact ⟨retb HS.out, rfl⟩
          · rw [hm] at hN hS
            have hneg : ¬ ix < 0 := fun h => by rw [hix.1 h] at hm; cases hm
            have HN := hN rfl
            clear hix hl hd hm hN hS
            go_wp2_with (first | (go_at_call 171; refine (L _).mono ?_; rintro e w1 ⟨rfl, rfl⟩) | (go_at_call 170; refine (D _).mono ?_; rintro e w1 ⟨rfl, rfl⟩) | (go_at_call 102; refine (C3 _).mono ?_; rintro e w1 ⟨rfl, rfl⟩))
            go_round
            case rel => exact ⟨k + 1, by omega, by go_num, HN⟩
            case measure => simp [intOf]; omega
        · rw [hd] at D hN hS
          have HN := hN rfl
          clear hix hl hd hN hS C3
          go_wp2_with (first | (go_at_call 171; refine (L _).mono ?_; rintro e w1 ⟨rfl, rfl⟩) | (go_at_call 170; refine (D _).mono ?_; rintro e w1 ⟨rfl, rfl⟩))
          go_round
          case rel => exact ⟨k + 1, by omega, by go_num, HN⟩
          case measure => simp [intOf]; omega
      · rw [hl] at L hN hS
        have HN := hN (by simp)
        clear hix hl hN hS C3 D
        go_wp2_with (first | (go_at_call 171; refine (L _).mono ?_; rintro e w1 ⟨rfl, rfl⟩))
        go_round
        case rel => exact ⟨k + 1, by omega, by go_num, HN⟩
        case measure => simp [intOf]; omega
    · obtain rfl : k = s.size := by omega
      have HT : Hid (true = R) := Lib.hid (by rw [← HR.out]; unfold onlyB; exact (allDn H.out).symm)
      clear hlt DA LA
      go_wp2
      go_ret
      exact ⟨retb HT.out, rfl⟩
theorem rightUp_any (s : ByteArray) (hs : s.size ≤ 100000) (w : World) : Calls Tryz.prog 168 #[.string s] w fun e w' => e = .returned (.bool (headDg s.data.toList && onlyB [46, 43, 45, 126, 58] s.data.toList)) ∧ w = w' := by
  have C := fun w => consists_any s ⟨#[46, 43, 45, 126, 58]⟩ hs w
  by_cases h : 0 < s.size
  · have e1 : s.toList.isEmpty = false := by rw [emptyT, decide_eq_false (by omega)]
    have D := fun w => digit_any s[0] w
    have hc := s[0].toNat_lt
    rw [head_cons h]
    have hm : (ByteArray.mk #[46, 43, 45, 126, 58]).data.toList = [46, 43, 45, 126, 58] := rfl
    rw [hm] at C
    clear hm
    generalize onlyB [46, 43, 45, 126, 58] s.data.toList = B at *
    cases hd : dgB s[0]
    · rw [hd] at D
      clear hd C
      go_enter Tryz.func168, Tryz.ntmps168
      go_wp2_with (go_at_call 170; refine (D _).mono ?_; rintro e w1 ⟨rfl, rfl⟩)
      go_ret
      exact ⟨rfl, rfl⟩
    · rw [hd] at D
      clear hd
      go_enter Tryz.func168, Tryz.ntmps168
      go_wp2_with (first | (go_at_call 170; refine (D _).mono ?_; rintro e w1 ⟨rfl, rfl⟩) | (go_at_call 186; refine (C _).mono ?_; rintro e w1 ⟨rfl, rfl⟩))
      go_ret
      exact ⟨by simp, rfl⟩
  · rw [headDg_nil (by omega)]
    have e1 : s.toList.isEmpty = true := by rw [emptyT, decide_eq_true (by omega)]
    clear C
    go_enter Tryz.func168, Tryz.ntmps168
    go_wp2
    go_ret
    exact ⟨rfl, rfl⟩
theorem rightRev_any (s : ByteArray) (hs : s.size ≤ 100000) (w : World) : Calls Tryz.prog 169 #[.string s] w fun e w' => e = .returned (.bool (decide (0 < s.size) && onlyB [46, 43, 126] s.data.toList)) ∧ w = w' := by
  have C := fun w => consists_any s ⟨#[46, 43, 126]⟩ hs w
  have hm : (ByteArray.mk #[46, 43, 126]).data.toList = [46, 43, 126] := rfl
  rw [hm] at C
  clear hm
  generalize onlyB [46, 43, 126] s.data.toList = B at *
  by_cases h : 0 < s.size
  · have e1 : s.toList.isEmpty = false := by rw [emptyT, decide_eq_false (by omega)]
    rw [decide_eq_true h, Bool.true_and]
    go_enter Tryz.func169, Tryz.ntmps169
    go_wp2_with (first | (go_at_call 186; refine (C _).mono ?_; rintro e w1 ⟨rfl, rfl⟩))
    go_ret
    exact ⟨rfl, rfl⟩
  · rw [decide_eq_false h]
    have e1 : s.toList.isEmpty = true := by rw [emptyT, decide_eq_true (by omega)]
    clear C
    go_enter Tryz.func169, Tryz.ntmps169
    go_wp2
    go_ret
    exact ⟨rfl, rfl⟩
end Go.Proofs.YtkcamfcjkjiijaaGreatDoor
