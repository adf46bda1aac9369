/-
  The program's upper, lowerOrDigit, rightName, printable, small, sameName: what each returns; the world stays as it was.
-/
import Derived.Test.YtomplnncbfdldaaDoorSRead
import Derived.Test.YtomplnncbfdldaaDoorSField
namespace Go.Proofs.YtomplnncbfdldaaDoor
open Go.RowKit
theorem upper_any (c : UInt8) (w : World) : Calls Tryd.prog 36 #[.int .u8 c.toNat] w fun e w' => e = .returned (.bool (upB c)) ∧ w = w' := by
  have hc := c.toNat_lt
  obtain ⟨B, HB⟩ : ∃ B, Hid (upB c = B) := ⟨_, rfl⟩
  rw [HB.out]
  unfold upB at HB
  generalize c.toNat = n at *
  by_cases h1 : 65 ≤ n
  · go_enter Tryd.func36, Tryd.ntmps36
    go_wp2
    go_ret
    exact ⟨retb (by rw [← HB.out, Bool.eq_iff_iff]; simp only [Bool.and_eq_true, decide_eq_true_eq]; omega), rfl⟩
  · go_enter Tryd.func36, Tryd.ntmps36
    go_wp2
    go_ret
    exact ⟨retb (by rw [← HB.out, decide_eq_false h1]; rfl), rfl⟩
def ldB (c : UInt8) : Bool := decide (97 ≤ c.toNat) && decide (c.toNat ≤ 122) || decide (48 ≤ c.toNat) && decide (c.toNat ≤ 57)
theorem nmB_is (c : UInt8) : nmB c = (upB c || ldB c || decide (c.toNat = 45)) := by
  unfold nmB ltB dgB upB ldB
  rw [Bool.eq_iff_iff]
  simp only [Bool.or_eq_true, Bool.and_eq_true, decide_eq_true_eq]
  omega
theorem lowdig_any (c : UInt8) (w : World) : Calls Tryd.prog 37 #[.int .u8 c.toNat] w fun e w' => e = .returned (.bool (ldB c)) ∧ w = w' := by
  have hc := c.toNat_lt
  obtain ⟨B, HB⟩ : ∃ B, Hid (ldB c = B) := ⟨_, rfl⟩
  rw [HB.out]
  unfold ldB at HB
  generalize c.toNat = n at *
  by_cases h1 : 97 ≤ n
  · by_cases h2 : n ≤ 122
    · go_enter Tryd.func37, Tryd.ntmps37
      go_wp2
      go_ret
      exact ⟨retb (by rw [← HB.out, Bool.eq_iff_iff]; simp only [Bool.or_eq_true, Bool.and_eq_true, decide_eq_true_eq, true_iff]; omega), rfl⟩
    · go_enter Tryd.func37, Tryd.ntmps37
      go_wp2
      go_ret
      exact ⟨retb (by rw [← HB.out, Bool.eq_iff_iff]; simp only [Bool.or_eq_true, Bool.and_eq_true, decide_eq_true_eq]; omega), rfl⟩
  · by_cases h3 : 48 ≤ n
    · go_enter Tryd.func37, Tryd.ntmps37
      go_wp2
      go_ret
      exact ⟨retb (by rw [← HB.out, Bool.eq_iff_iff]; simp only [Bool.or_eq_true, Bool.and_eq_true, decide_eq_true_eq]; omega), rfl⟩
    · go_enter Tryd.func37, Tryd.ntmps37
      go_wp2
      go_ret
      exact ⟨retb (by rw [← HB.out, Bool.eq_iff_iff]; simp only [Bool.or_eq_true, Bool.and_eq_true, decide_eq_true_eq, Bool.false_eq_true, false_iff]; omega), rfl⟩
def nameB (n : Bs) : Bool := decide (1 ≤ n.length) && decide (n.length ≤ 60) && headUp n && n.all nmB
theorem cons_at {s : ByteArray} (h : 0 < s.size) : s.data.toList = s[0] :: s.data.toList.drop 1 := by
  have := dropC s 0 h
  rwa [List.drop_zero] at this
set_option maxHeartbeats 2000000 in
theorem rightName_any (s : ByteArray) (hs : s.size ≤ 100000) (w : World) : Calls Tryd.prog 23 #[.string s] w fun e w' => e = .returned (.bool (nameB s.data.toList)) ∧ w = w' := by
  have UA := fun c w => upper_any c w
  have LA := fun c w => lowdig_any c w
  obtain ⟨R, HR⟩ : ∃ R, Hid (nameB s.data.toList = R) := ⟨_, rfl⟩
  rw [HR.out]
  have hl := sizeOf s
  have HI : Hid (nameB s.data.toList = (decide (1 ≤ s.size) && decide (s.size ≤ 60) && headUp s.data.toList && s.data.toList.all nmB)) := Lib.hid (by unfold nameB; rw [← hl])
  clear hl
  by_cases h1 : s.size < 1
  · have HF : Hid (false = R) := Lib.hid (by rw [← HR.out, HI.out, decide_eq_false (by omega)]; rfl)
    clear HI HR UA LA
    go_enter Tryd.func23, Tryd.ntmps23
    go_wp2
    go_ret
    exact ⟨retb HF.out, rfl⟩
  · by_cases h2 : 60 < s.size
    · have HF : Hid (false = R) := Lib.hid (by rw [← HR.out, HI.out, decide_eq_false (p := s.size ≤ 60) (by omega)]; simp)
      clear HI HR UA LA
      go_enter Tryd.func23, Tryd.ntmps23
      go_wp2
      go_ret
      exact ⟨retb HF.out, rfl⟩
    · have h0 : 0 < s.size := by omega
      have hc := s[0].toNat_lt
      have U0 := UA s[0]
      have hh : headUp s.data.toList = upB s[0] := by rw [cons_at h0]; rfl
      have HI2 : Hid (R = (upB s[0] && s.data.toList.all nmB)) := Lib.hid (by rw [← HR.out, HI.out, decide_eq_true (by omega), decide_eq_true (by omega), hh]; rfl)
      clear HI HR hh
      cases hu : upB s[0]
      · have HF : Hid (false = R) := Lib.hid (by rw [HI2.out, hu]; rfl)
        rw [hu] at U0
        clear hu HI2 UA LA
        go_enter Tryd.func23, Tryd.ntmps23
        go_wp2_with (go_at_call 36; refine (U0 _).mono ?_; rintro e w1 ⟨rfl, rfl⟩)
        go_ret
        exact ⟨retb HF.out, rfl⟩
      · have HI3 : Hid (R = s.data.toList.all nmB) := Lib.hid (by rw [HI2.out, hu]; rfl)
        rw [hu] at U0
        clear hu HI2
        go_enter Tryd.func23, Tryd.ntmps23
        go_wp2_with (go_at_call 36; refine (U0 _).mono ?_; rintro e w1 ⟨rfl, rfl⟩)
        clear U0
        go_loop [20] (fun i => ∃ k : Nat, k ≤ s.size ∧ i = .int .i64 k ∧ Hid ((s.data.toList.take k).all nmB = true)) (fun i => s.size - (intOf i).toNat)
        case atStart => exact ⟨0, by omega, rfl, Lib.hid (by simp)⟩
        case round =>
          obtain ⟨k, hk, rfl, H⟩ := hrel
          by_cases hlt : k < s.size
          · have hck := s[k].toNat_lt
            have U := UA s[k]
            have L := LA s[k]
            have hN : nmB s[k] = true → Hid ((s.data.toList.take (k + 1)).all nmB = true) := fun g => Lib.hid (allNx hlt H.out g)
            have hS : nmB s[k] = false → Hid (false = R) := fun g => Lib.hid (by rw [HI3.out]; exact (allSt hlt g).symm)
            rw [nmB_is] at hN hS
            clear UA LA
            cases hu : upB s[k]
            · rw [hu] at U hN hS
              cases hd : ldB s[k]
              · rw [hd] at L hN hS
                by_cases he : s[k].toNat = 45
                · have HN := hN (by simp [he])
                  have e1 : ((s[k].toNat : Int) != 45) = false := by rw [he]; rfl
                  clear hN hS hu hd he
                  go_wp2_with (first | (go_at_call 36; refine (U _).mono ?_; rintro e w1 ⟨rfl, rfl⟩) | (go_at_call 37; refine (L _).mono ?_; rintro e w1 ⟨rfl, rfl⟩))
                  go_round
                  case rel => exact ⟨k + 1, by omega, by go_num, HN⟩
                  case measure => simp [intOf]; omega
                · have HS := hS (by simp [he])
                  have e1 : ((s[k].toNat : Int) != 45) = true := by rw [bne_iff_ne]; omega
                  clear hN hS hu hd he
                  go_wp2_with (first | (go_at_call 36; refine (U _).mono ?_; rintro e w1 ⟨rfl, rfl⟩) | (go_at_call 37; refine (L _).mono ?_; rintro e w1 ⟨rfl, rfl⟩))
                  go_ret
                  exact ⟨retb HS.out, rfl⟩
              · rw [hd] at L hN hS
                have HN := hN (by simp)
                clear hN hS hu hd
                go_wp2_with (first | (go_at_call 36; refine (U _).mono ?_; rintro e w1 ⟨rfl, rfl⟩) | (go_at_call 37; refine (L _).mono ?_; rintro e w1 ⟨rfl, rfl⟩))
                go_round
                case rel => exact ⟨k + 1, by omega, by go_num, HN⟩
                case measure => simp [intOf]; omega
            · rw [hu] at U hN hS
              have HN := hN (by simp)
              clear hN hS hu L
              go_wp2_with (first | (go_at_call 36; refine (U _).mono ?_; rintro e w1 ⟨rfl, rfl⟩))
              go_round
              case rel => exact ⟨k + 1, by omega, by go_num, HN⟩
              case measure => simp [intOf]; omega
          · obtain rfl : k = s.size := by omega
            have HT : Hid (true = R) := Lib.hid (by rw [HI3.out]; exact (allDn H.out).symm)
            clear hlt UA LA
            go_wp2
            go_ret
            exact ⟨retb HT.out, rfl⟩
def prB (c : UInt8) : Bool := decide (32 ≤ c.toNat) && decide (c.toNat ≤ 126)
theorem printable_any (s : ByteArray) (hs : s.size ≤ 100000) (w : World) : Calls Tryd.prog 38 #[.string s] w fun e w' => e = .returned (.bool (s.data.toList.all prB)) ∧ w = w' := by
  obtain ⟨R, HR⟩ : ∃ R, Hid (s.data.toList.all prB = R) := ⟨_, rfl⟩
  rw [HR.out]
  go_enter Tryd.func38, Tryd.ntmps38
  go_wp2
  go_loop [6] (fun i => ∃ k : Nat, k ≤ s.size ∧ i = .int .i64 k ∧ Hid ((s.data.toList.take k).all prB = true)) (fun i => s.size - (intOf i).toNat)
  case atStart => exact ⟨0, by omega, rfl, Lib.hid (by simp)⟩
  case round =>
    obtain ⟨k, hk, rfl, H⟩ := hrel
    by_cases hlt : k < s.size
    · have hck := s[k].toNat_lt
      by_cases h1 : s[k].toNat < 32
      · have HS : Hid (false = R) := Lib.hid (by rw [← HR.out]; exact (allSt hlt (by unfold prB; rw [decide_eq_false (by omega)]; rfl)).symm)
        go_wp2
        go_ret
        exact ⟨retb HS.out, rfl⟩
      · by_cases h2 : 126 < s[k].toNat
        · have HS : Hid (false = R) := Lib.hid (by rw [← HR.out]; exact (allSt hlt (by unfold prB; rw [decide_eq_false (p := s[k].toNat ≤ 126) (by omega)]; simp)).symm)
          go_wp2
          go_ret
          exact ⟨retb HS.out, rfl⟩
        · have HN : Hid ((s.data.toList.take (k + 1)).all prB = true) := Lib.hid (allNx hlt H.out (by unfold prB; rw [decide_eq_true (by omega), decide_eq_true (by omega)]; rfl))
          go_wp2
          go_round
          case rel => exact ⟨k + 1, by omega, by go_num, HN⟩
          case measure => simp [intOf]; omega
    · obtain rfl : k = s.size := by omega
      have HT : Hid (true = R) := Lib.hid (by rw [← HR.out]; exact (allDn H.out).symm)
      clear hlt
      go_wp2
      go_ret
      exact ⟨retb HT.out, rfl⟩
theorem lowC_nat (c : UInt8) : ((lowC c).toNat : Int) = if upB c = true then (c.toNat : Int) + 32 else c.toNat := by
  unfold lowC upB
  by_cases h : 65 ≤ c.toNat ∧ c.toNat ≤ 90
  · rw [decide_eq_true h.1, decide_eq_true h.2]
    simp only [Bool.and_self, if_true]
    rw [UInt8.toNat_add]
    show (((c.toNat + 32) % 256 : Nat) : Int) = _
    omega
  · have : (decide (65 ≤ c.toNat) && decide (c.toNat ≤ 90)) = false := by
      rw [Bool.eq_false_iff]; simp only [ne_eq, Bool.and_eq_true, decide_eq_true_eq]; exact h
    rw [this]; simp
theorem small_any (c : UInt8) (w : World) : Calls Tryd.prog 55 #[.int .u8 c.toNat] w fun e w' => e = .returned (.int .u8 (lowC c).toNat) ∧ w = w' := by
  have U := fun w => upper_any c w
  have hc := c.toNat_lt
  rw [lowC_nat]
  cases hu : upB c
  · rw [hu] at U
    rw [if_neg (by simp)]
    clear hu
    go_enter Tryd.func55, Tryd.ntmps55
    go_wp2_with (go_at_call 36; refine (U _).mono ?_; rintro e w1 ⟨rfl, rfl⟩)
    go_ret
    exact ⟨rfl, rfl⟩
  · rw [hu] at U
    rw [if_pos rfl]
    have hb : 65 ≤ c.toNat ∧ c.toNat ≤ 90 := by simpa [upB] using hu
    obtain ⟨hb1, hb2⟩ := hb
    clear hu
    generalize c.toNat = n at *
    go_enter Tryd.func55, Tryd.ntmps55
    go_wp2_with (go_at_call 36; refine (U _).mono ?_; rintro e w1 ⟨rfl, rfl⟩)
    go_ret
    exact ⟨reti (by omega), rfl⟩
theorem lower_len (s : Bs) : (lower s).length = s.length := by simp [lower]
theorem lower_take {a b : Bs} {k : Nat} : lower (a.take k) = lower (b.take k) ↔ (lower a).take k = (lower b).take k := by simp [lower, List.map_take]
theorem drewEx {w wr : World} (h : ∃ q, wr = w.drewN q) (n : Nat) : ∃ q, wr.drewN n = w.drewN q := by
  obtain ⟨q, rfl⟩ := h
  exact ⟨q + n, by rw [World.drewN_drewN]⟩
def sameB (a b : Bs) : Bool := decide (lower a = lower b)
set_option maxHeartbeats 1000000 in
theorem sameName_any (a b : ByteArray) (ha : a.size ≤ 100000) (hb : b.size ≤ 100000) (w : World) : Calls Tryd.prog 49 #[.string a, .string b] w fun e w' => e = .returned (.bool (sameB a.data.toList b.data.toList)) ∧ ∃ q, w' = w.drewN q := by
  obtain ⟨R, HR⟩ : ∃ R, Hid (sameB a.data.toList b.data.toList = R) := ⟨_, rfl⟩
  rw [HR.out]
  have SA : ∀ (c : UInt8) w, Calls Tryd.prog 55 #[.int .u8 c.toNat] w fun e w' => e = .returned (.int .u8 (lowC c).toNat) ∧ w' = w := fun c w => (small_any c w).mono fun _ _ h => ⟨h.1, h.2.symm⟩
  have la := sizeOf a
  have lb := sizeOf b
  by_cases h : a.size = b.size
  · have HL := Lib.hid (And.intro la lb)
    clear la lb
    have h' : ((a.size : Int) != (b.size : Int)) = false := by rw [h]; simp
    have HE := Lib.hid h
    have hle : a.size ≤ b.size := by omega
    clear h
    go_enter Tryd.func49, Tryd.ntmps49
    go_wp2
    go_loopw [13] (fun i wr => ∃ k : Nat, k ≤ a.size ∧ i = .int .i64 k ∧ Hid ((lower a.data.toList).take k = (lower b.data.toList).take k) ∧ Hid (∃ q, wr = w.drewN q)) (fun i _ => a.size - (intOf i).toNat)
    case atStart => exact ⟨0, by omega, rfl, Lib.hid (by simp), Lib.hid ⟨0, rfl⟩⟩
    case round =>
      obtain ⟨k, hk, rfl, H, HQ⟩ := hrel
      by_cases hlt : k < a.size
      · have hltb : k < b.size := by omega
        have h1 := a[k].toNat_lt
        have h2 := b[k].toNat_lt
        have h3 := (lowC a[k]).toNat_lt
        have h4 := (lowC b[k]).toNat_lt
        have ga : (lower a.data.toList)[k]? = some (lowC a[k]) := by
          unfold lower; rw [List.getElem?_map, List.getElem?_eq_getElem (by rw [← sizeOf]; exact hlt)]; rfl
        have gb : (lower b.data.toList)[k]? = some (lowC b[k]) := by
          unfold lower; rw [List.getElem?_map, List.getElem?_eq_getElem (by rw [← sizeOf]; exact hltb)]; rfl
        by_cases he : lowC a[k] = lowC b[k]
        · have HN : Hid ((lower a.data.toList).take (k + 1) = (lower b.data.toList).take (k + 1)) := Lib.hid (by rw [List.take_add_one, List.take_add_one, ga, gb, he, H.out])
          have e1 : (((lowC a[k]).toNat : Int) != ((lowC b[k]).toNat : Int)) = false := by rw [he]; simp
          clear ga gb he
          go_wp2
          go_quiet ((go_at_call 55; exact Calls.quiet_of_same (SA _ _)))
          go_wp2
          go_roundw
          case rel => exact ⟨k + 1, by omega, by go_num, HN, Lib.hid (drewEx HQ.out _)⟩
          case measure => simp [intOf]; omega
        · have HS : Hid (false = R) := Lib.hid (by
            rw [← HR.out]; unfold sameB
            refine (decide_eq_false fun g => he ?_).symm
            rw [g, gb] at ga
            exact (Option.some.inj ga).symm)
          have e1 : (((lowC a[k]).toNat : Int) != ((lowC b[k]).toNat : Int)) = true := by
            rw [bne_iff_ne]; intro g; exact he (UInt8.toNat_inj.1 (by omega))
          clear ga gb he
          go_wp2
          go_quiet ((go_at_call 55; exact Calls.quiet_of_same (SA _ _)))
          go_wp2
          go_ret
          exact ⟨retb HS.out, drewEx HQ.out _⟩
      · obtain rfl : k = a.size := by omega
        have HT : Hid (true = R) := Lib.hid (by
          rw [← HR.out]; unfold sameB
          have := H.out
          rw [List.take_of_length_le (by rw [lower_len, ← HL.out.1]; omega), List.take_of_length_le (by rw [lower_len, ← HL.out.2]; have := HE.out; omega)] at this
          exact (decide_eq_true this).symm)
        clear hlt SA
        go_wp2
        go_ret
        exact ⟨retb HT.out, HQ.out⟩
  · have HF : Hid (false = R) := Lib.hid (by
      rw [← HR.out]; unfold sameB
      exact (decide_eq_false fun g => h (by rw [la, lb, ← lower_len, g, lower_len])).symm)
    have h' : ((a.size : Int) != (b.size : Int)) = true := by rw [bne_iff_ne]; omega
    clear h SA la lb
    go_enter Tryd.func49, Tryd.ntmps49
    go_wp2
    go_ret
    exact ⟨retb HF.out, 0, rfl⟩
end Go.Proofs.YtomplnncbfdldaaDoor
