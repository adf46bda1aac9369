/-
  The reference's only, words, numbers, piece: what each returns; the world stays as it was, but for draws.
-/
import Derived.Test.YtkcamfcjkjiijaaGreatDoorPQGroup2
namespace Go.Proofs.YtkcamfcjkjiijaaGreatDoor
open Go.RowKit
theorem digit_ref (c : UInt8) (w : World) : Calls Tryz.prog 128 #[.int .u8 c.toNat] w fun e w' => e = .returned (.bool (dgB c)) ∧ w = w' := by
  have hc := c.toNat_lt
  obtain ⟨B, HB⟩ : ∃ B, Hid (dgB c = B) := ⟨_, rfl⟩
  rw [HB.out]
  unfold dgB at HB
  generalize c.toNat = n at *
  by_cases h1 : 48 ≤ n
  · go_enter Tryz.func128, Tryz.ntmps128
    go_wp2
    go_ret
    exact ⟨retb (by rw [← HB.out, Bool.eq_iff_iff]; simp only [Bool.and_eq_true, decide_eq_true_eq]; omega), rfl⟩
  · go_enter Tryz.func128, Tryz.ntmps128
    go_wp2
    go_ret
    exact ⟨retb (by rw [← HB.out, decide_eq_false h1]; rfl), rfl⟩
theorem letter_ref (c : UInt8) (w : World) : Calls Tryz.prog 150 #[.int .u8 c.toNat] w fun e w' => e = .returned (.bool (ltB c)) ∧ w = w' := by
  have hc := c.toNat_lt
  obtain ⟨B, HB⟩ : ∃ B, Hid (ltB c = B) := ⟨_, rfl⟩
  rw [HB.out]
  unfold ltB at HB
  generalize c.toNat = n at *
  by_cases h1 : 97 ≤ n
  · by_cases h2 : n ≤ 122
    · go_enter Tryz.func150, Tryz.ntmps150
      go_wp2
      go_ret
      exact ⟨retb (by rw [← HB.out, Bool.eq_iff_iff]; simp only [Bool.or_eq_true, Bool.and_eq_true, decide_eq_true_eq, true_iff]; omega), rfl⟩
    · go_enter Tryz.func150, Tryz.ntmps150
      go_wp2
      go_ret
      exact ⟨retb (by rw [← HB.out, Bool.eq_iff_iff]; simp only [Bool.or_eq_true, Bool.and_eq_true, decide_eq_true_eq]; omega), rfl⟩
  · by_cases h3 : 65 ≤ n
    · go_enter Tryz.func150, Tryz.ntmps150
      go_wp2
      go_ret
      exact ⟨retb (by rw [← HB.out, Bool.eq_iff_iff]; simp only [Bool.or_eq_true, Bool.and_eq_true, decide_eq_true_eq]; omega), rfl⟩
    · go_enter Tryz.func150, Tryz.ntmps150
      go_wp2
      go_ret
      exact ⟨retb (by rw [← HB.out, Bool.eq_iff_iff]; simp only [Bool.or_eq_true, Bool.and_eq_true, decide_eq_true_eq, Bool.false_eq_true, false_iff]; omega), rfl⟩
theorem wt_tilde {c : UInt8} (h : c.toNat = 126) : wt c = -1 := by unfold wt; rw [if_pos h]
theorem wt_letter {c : UInt8} (h : ¬ c.toNat = 126) (g : ltB c = true) : wt c = c.toNat := by unfold wt; rw [if_neg h, if_pos g]
theorem wt_other {c : UInt8} (h : ¬ c.toNat = 126) (g : ltB c = false) : wt c = 256 + (c.toNat : Int) := by unfold wt; rw [if_neg h, if_neg (by rw [g]; simp)]
theorem weight_ref (c : UInt8) (w : World) : Calls Tryz.prog 164 #[.int .u8 c.toNat] w fun e w' => e = .returned (.int .i64 (wt c)) ∧ w = w' := by
  have hc := c.toNat_lt
  have C := fun w => letter_ref c w
  by_cases h1 : c.toNat = 126
  · rw [wt_tilde h1]
    generalize c.toNat = n at *
    subst h1
    go_enter Tryz.func164, Tryz.ntmps164
    go_wp2
    go_ret
    exact ⟨rfl, rfl⟩
  · cases h2 : ltB c
    · rw [wt_other h1 h2]
      rw [h2] at C
      clear h2
      generalize c.toNat = n at *
      go_enter Tryz.func164, Tryz.ntmps164
      go_wp2_with (go_at_call 150; refine (C _).mono ?_; rintro e w1 ⟨rfl, rfl⟩)
      go_ret
      exact ⟨rfl, rfl⟩
    · rw [wt_letter h1 h2]
      rw [h2] at C
      clear h2
      generalize c.toNat = n at *
      go_enter Tryz.func164, Tryz.ntmps164
      go_wp2_with (go_at_call 150; refine (C _).mono ?_; rintro e w1 ⟨rfl, rfl⟩)
      go_ret
      exact ⟨rfl, rfl⟩
-- The first place of a byte, and the last one
def firstI (c : UInt8) (l : Bs) : Int := if c ∈ l then ((l.takeWhile fun x => decide (x ≠ c)).length : Int) else -1
def lastI (c : UInt8) (l : Bs) : Int := (l.length : Int) - ((l.reverse.takeWhile fun x => decide (x ≠ c)).length : Int) - 1
theorem firstI_mem {c : UInt8} {l : Bs} (h : c ∈ l) (r : Bs) : firstI c (l ++ r) = firstI c l := by
  unfold firstI
  rw [if_pos h, if_pos (List.mem_append_left _ h)]
  congr 2
  rw [List.takeWhile_append]
  have : ¬ (l.takeWhile fun x => decide (x ≠ c)).length = l.length := fun e => by
    have h2 := (List.takeWhile_sublist (fun x => decide (x ≠ c)) (l := l)).eq_of_length e
    have := List.all_eq_true.1 (List.all_takeWhile (p := fun x => decide (x ≠ c)) (l := l)) c (by rw [h2]; exact h)
    simp at this
  rw [if_neg this]
theorem firstI_new {c : UInt8} {l : Bs} (h : c ∉ l) : firstI c (l ++ [c]) = l.length := by
  unfold firstI
  rw [if_pos (by simp), takeWhile_at _ _ _ _ (fun y hy => by simp; rintro rfl; exact h hy) (by simp)]
theorem firstI_no {c : UInt8} {l : Bs} (h : c ∉ l) : firstI c l = -1 := by unfold firstI; rw [if_neg h]
theorem firstI_ge {c : UInt8} {l : Bs} : -1 ≤ firstI c l ∧ firstI c l < l.length ∨ l = [] ∧ firstI c l = -1 := by
  unfold firstI
  by_cases h : c ∈ l
  · rw [if_pos h]
    left
    have h1 := takeWhile_le (fun x => decide (x ≠ c)) l
    have : ¬ (l.takeWhile fun x => decide (x ≠ c)).length = l.length := fun e => by
      have h2 := (List.takeWhile_sublist (fun x => decide (x ≠ c)) (l := l)).eq_of_length e
      have := List.all_eq_true.1 (List.all_takeWhile (p := fun x => decide (x ≠ c)) (l := l)) c (by rw [h2]; exact h)
      simp at this
    omega
  · rw [if_neg h]
    cases l with
    | nil => right; exact ⟨rfl, rfl⟩
    | cons x l => left; simp; omega
theorem firstI_neg {c : UInt8} {l : Bs} : firstI c l < 0 ↔ c ∉ l := by
  unfold firstI
  by_cases h : c ∈ l
  · rw [if_pos h]; simp [h]
  · rw [if_neg h]; simp [h]
theorem lastI_snoc (c x : UInt8) (l : Bs) : lastI c (l ++ [x]) = if x = c then (l.length : Int) else lastI c l := by
  unfold lastI
  rw [List.reverse_append, List.reverse_singleton, List.singleton_append, List.length_append, List.length_singleton]
  by_cases h : x = c
  · subst h; simp
  · rw [List.takeWhile_cons, if_pos (by simp [h]), if_neg h, List.length_cons]; omega
theorem lastI_bd (c : UInt8) (l : Bs) : -1 ≤ lastI c l ∧ lastI c l < l.length ∨ l = [] ∧ lastI c l = -1 := by
  have := takeWhile_le (fun x => decide (x ≠ c)) l.reverse
  rw [List.length_reverse] at this
  cases l with
  | nil => right; exact ⟨rfl, rfl⟩
  | cons x l => left; unfold lastI; simp at this ⊢; omega
set_option maxHeartbeats 1000000 in
theorem atFirst_ref (s : ByteArray) (hs : s.size ≤ 100000) (c : UInt8) (w : World) : Calls Tryz.prog 127 #[.string s, .int .u8 c.toNat, .bool false] w fun e w' => e = .returned (.int .i64 (firstI c s.data.toList)) ∧ w = w' := by
  have hcc := c.toNat_lt
  go_enter Tryz.func127, Tryz.ntmps127
  go_wp2
  go_loop [7, 8] (fun o i => ∃ (k : Nat) (z : Int), k ≤ s.size ∧ i = .int .i64 k ∧ o = .int .i64 z ∧ Hid (z = firstI c (s.data.toList.take k))) (fun _ i => s.size - (intOf i).toNat)
  case atStart => exact ⟨0, -1, by omega, rfl, rfl, Lib.hid (by simp [firstI])⟩
  case round =>
    obtain ⟨k, z, hk, rfl, rfl, H⟩ := hrel
    by_cases hlt : k < s.size
    · have hsn := takeSn s k hlt
      have hln := takeLen s k hk
      have hx := s[k].toNat_lt
      by_cases he : s[k] = c
      · have h1 : ((s[k].toNat : Int) == (c.toNat : Int)) = true := by rw [he]; simp
        by_cases hz : z < 0
        · have HN : Hid ((k : Int) = firstI c (s.data.toList.take (k + 1))) := Lib.hid (by
            rw [hsn, he, firstI_new (firstI_neg.1 (H.out ▸ hz)), hln])
          clear hsn hln he
          go_wp2
          go_round
          case rel => exact ⟨k + 1, k, by omega, by go_num, rfl, HN⟩
          case measure => simp [intOf]; omega
        · have HN : Hid (z = firstI c (s.data.toList.take (k + 1))) := Lib.hid (by
            have hm : c ∈ s.data.toList.take k := Decidable.of_not_not fun g => hz (H.out ▸ firstI_neg.2 g)
            rw [hsn, firstI_mem hm]; exact H.out)
          clear hsn hln he
          go_wp2
          go_round
          case rel => exact ⟨k + 1, z, by omega, by go_num, rfl, HN⟩
          case measure => simp [intOf]; omega
      · have h1 : ((s[k].toNat : Int) == (c.toNat : Int)) = false := by
          rw [beq_eq_false_iff_ne]; intro g; exact he (UInt8.toNat_inj.1 (by omega))
        have HN : Hid (z = firstI c (s.data.toList.take (k + 1))) := Lib.hid (by
          rw [hsn]
          by_cases hm : c ∈ s.data.toList.take k
          · rw [firstI_mem hm]; exact H.out
          · rw [H.out, firstI_no hm, firstI_no (by simp [hm]; exact fun g => he g.symm)])
        clear hsn hln he
        go_wp2
        go_round
        case rel => exact ⟨k + 1, z, by omega, by go_num, rfl, HN⟩
        case measure => simp [intOf]; omega
    · obtain rfl : k = s.size := by omega
      have HR : Hid (z = firstI c s.data.toList) := Lib.hid (by rw [H.out, takeAll])
      clear hlt
      go_wp2
      go_ret
      exact ⟨reti HR.out, rfl⟩
set_option maxHeartbeats 1000000 in
theorem atLast_ref (s : ByteArray) (hs : s.size ≤ 100000) (c : UInt8) (w : World) : Calls Tryz.prog 127 #[.string s, .int .u8 c.toNat, .bool true] w fun e w' => e = .returned (.int .i64 (lastI c s.data.toList)) ∧ w = w' := by
  have hcc := c.toNat_lt
  go_enter Tryz.func127, Tryz.ntmps127
  go_wp2
  go_loop [7, 8] (fun o i => ∃ (k : Nat) (z : Int), k ≤ s.size ∧ i = .int .i64 k ∧ o = .int .i64 z ∧ Hid (z = lastI c (s.data.toList.take k))) (fun _ i => s.size - (intOf i).toNat)
  case atStart => exact ⟨0, -1, by omega, rfl, rfl, Lib.hid (by simp [lastI])⟩
  case round =>
    obtain ⟨k, z, hk, rfl, rfl, H⟩ := hrel
    by_cases hlt : k < s.size
    · have hsn := takeSn s k hlt
      have hln := takeLen s k hk
      have hx := s[k].toNat_lt
      by_cases he : s[k] = c
      · have h1 : ((s[k].toNat : Int) == (c.toNat : Int)) = true := by rw [he]; simp
        have HN : Hid ((k : Int) = lastI c (s.data.toList.take (k + 1))) := Lib.hid (by rw [hsn, lastI_snoc, if_pos he, hln])
        clear hsn hln he
        go_wp2
        go_round
        case rel => exact ⟨k + 1, k, by omega, by go_num, rfl, HN⟩
        case measure => simp [intOf]; omega
      · have h1 : ((s[k].toNat : Int) == (c.toNat : Int)) = false := by
          rw [beq_eq_false_iff_ne]; intro g; exact he (UInt8.toNat_inj.1 (by omega))
        have HN : Hid (z = lastI c (s.data.toList.take (k + 1))) := Lib.hid (by rw [hsn, lastI_snoc, if_neg he]; exact H.out)
        clear hsn hln he
        go_wp2
        go_round
        case rel => exact ⟨k + 1, z, by omega, by go_num, rfl, HN⟩
        case measure => simp [intOf]; omega
    · obtain rfl : k = s.size := by omega
      have HR : Hid (z = lastI c s.data.toList) := Lib.hid (by rw [H.out, takeAll])
      clear hlt
      go_wp2
      go_ret
      exact ⟨reti HR.out, rfl⟩
end Go.Proofs.YtkcamfcjkjiijaaGreatDoor
namespace Go.Proofs.YtkcamfcjkjiijaaGreatDoor
open Go.RowKit
def inM (m : Bs) (c : UInt8) : Bool := dgB c || ltB c || m.contains c
theorem onlyB_in (m s : Bs) : onlyB m s = s.all (inM m) := rfl
theorem inM_mark {m : Bs} {c : UInt8} (hd : dgB c = false) (hl : ltB c = false) (h : firstI c m < 0) : inM m c = false := by
  unfold inM; rw [hd, hl]
  have := firstI_neg.1 h
  simpa using this
theorem inM_yes {m : Bs} {c : UInt8} (h : ¬ firstI c m < 0) : inM m c = true := by
  unfold inM
  have : c ∈ m := Decidable.of_not_not fun g => h (firstI_neg.2 g)
  simp [this]
set_option maxHeartbeats 2000000 in
theorem only_ref (s m : ByteArray) (hs : s.size ≤ 100000) (hm : m.size ≤ 100000) (w : World) : Calls Tryz.prog 129 #[.string s, .string m] w fun e w' => e = .returned (.bool (onlyB m.data.toList s.data.toList)) ∧ w = w' := by
  obtain ⟨B, HB⟩ : ∃ B, Hid (s.data.toList.all (inM m.data.toList) = B) := ⟨_, rfl⟩
  rw [onlyB_in, HB.out]
  have C1 := fun c w => digit_ref c w
  have C2 := fun c w => letter_ref c w
  have C3 := fun c w => atFirst_ref m hm c w
  go_enter Tryz.func129, Tryz.ntmps129
  go_wp2
  go_loop [5] (fun i => ∃ k : Nat, k ≤ s.size ∧ i = .int .i64 k ∧ Hid ((s.data.toList.take k).all (inM m.data.toList) = true)) (fun i => s.size - (intOf i).toNat)
  case atStart => exact ⟨0, by omega, rfl, Lib.hid (by simp)⟩
  case round =>
    obtain ⟨k, hk, rfl, H⟩ := hrel
    by_cases hlt : k < s.size
    · have D1 := C1 s[k]
      have D2 := C2 s[k]
      have D3 := C3 s[k]
      have hx := s[k].toNat_lt
      cases h1 : dgB s[k]
      · cases h2 : ltB s[k]
        · have hfb := firstI_ge (c := s[k]) (l := m.data.toList)
          have hml := sizeOf m
          by_cases h3 : firstI s[k] m.data.toList < 0
          · have HR : Hid (false = B) := Lib.hid (by rw [← HB.out, allSt hlt (inM_mark h1 h2 h3)])
            rw [h1] at D1
            rw [h2] at D2
            generalize firstI s[k] m.data.toList = z at *
            clear C1 C2 C3 h1 h2 hfb hml
            go_wp2_with (first | (go_at_call 128; refine (D1 _).mono ?_; rintro e w1 ⟨rfl, rfl⟩) | (go_at_call 150; refine (D2 _).mono ?_; rintro e w1 ⟨rfl, rfl⟩) | (go_at_call 127; refine (D3 _).mono ?_; rintro e w1 ⟨rfl, rfl⟩))
            go_ret
            exact ⟨retb HR.out, rfl⟩
          · have HN : Hid ((s.data.toList.take (k + 1)).all (inM m.data.toList) = true) := Lib.hid (allNx hlt H.out (inM_yes h3))
            rw [h1] at D1
            rw [h2] at D2
            generalize firstI s[k] m.data.toList = z at *
            clear C1 C2 C3 h1 h2 hfb hml
            go_wp2_with (first | (go_at_call 128; refine (D1 _).mono ?_; rintro e w1 ⟨rfl, rfl⟩) | (go_at_call 150; refine (D2 _).mono ?_; rintro e w1 ⟨rfl, rfl⟩) | (go_at_call 127; refine (D3 _).mono ?_; rintro e w1 ⟨rfl, rfl⟩))
            go_round
            case rel => exact ⟨k + 1, by omega, by go_num, HN⟩
            case measure => simp [intOf]; omega
        · have HN : Hid ((s.data.toList.take (k + 1)).all (inM m.data.toList) = true) := Lib.hid (allNx hlt H.out (by unfold inM; rw [h2]; simp))
          rw [h1] at D1
          rw [h2] at D2
          clear C1 C2 C3 h1 h2 D3
          go_wp2_with (first | (go_at_call 128; refine (D1 _).mono ?_; rintro e w1 ⟨rfl, rfl⟩) | (go_at_call 150; refine (D2 _).mono ?_; rintro e w1 ⟨rfl, rfl⟩))
          go_round
          case rel => exact ⟨k + 1, by omega, by go_num, HN⟩
          case measure => simp [intOf]; omega
      · have HN : Hid ((s.data.toList.take (k + 1)).all (inM m.data.toList) = true) := Lib.hid (allNx hlt H.out (by unfold inM; rw [h1]; rfl))
        rw [h1] at D1
        clear C1 C2 C3 h1 D2 D3
        go_wp2_with (go_at_call 128; refine (D1 _).mono ?_; rintro e w1 ⟨rfl, rfl⟩)
        go_round
        case rel => exact ⟨k + 1, by omega, by go_num, HN⟩
        case measure => simp [intOf]; omega
    · obtain rfl : k = s.size := by omega
      have HR : Hid (true = B) := Lib.hid (by rw [← HB.out]; exact (allDn H.out).symm)
      clear hlt C1 C2 C3
      go_wp2
      go_ret
      exact ⟨retb HR.out, rfl⟩
-- words
def wAt (s : ByteArray) (k : Nat) : Int := if h : k < s.size then wt s[k] else 0
theorem hd_drop (s : ByteArray) (k : Nat) : hd 0 ((s.data.toList.drop k).map wt) = wAt s k := by
  unfold wAt hd
  by_cases h : k < s.size
  · rw [dif_pos h, dropC s k h]; rfl
  · rw [dif_neg h, List.drop_of_length_le (by rw [← sizeOf]; omega)]; rfl
theorem tl_drop (s : ByteArray) (k : Nat) : ((s.data.toList.drop k).map wt).tail = (s.data.toList.drop (k + 1)).map wt := by
  rw [← List.map_tail, List.tail_drop]
theorem words_next (a b : ByteArray) (k : Nat) : wcmp (a.data.toList.drop k) (b.data.toList.drop k) = if sgn (wAt a k) (wAt b k) ≠ 0 then sgn (wAt a k) (wAt b k) else wcmp (a.data.toList.drop (k + 1)) (b.data.toList.drop (k + 1)) := by
  unfold wcmp
  rw [lexL_next sgn_good, hd_drop, hd_drop, tl_drop, tl_drop]
set_option maxHeartbeats 4000000 in
theorem words_ref (a b : ByteArray) (ha : a.size ≤ 100000) (hb : b.size ≤ 100000) (w : World) : Calls Tryz.prog 152 #[.string a, .string b] w fun e w' => e = .returned (.int .i64 (wcmp a.data.toList b.data.toList)) ∧ w = w' := by
  obtain ⟨R, HR⟩ : ∃ R, Hid (wcmp a.data.toList b.data.toList = R) := ⟨_, rfl⟩
  rw [HR.out]
  have C := fun c w => weight_ref c w
  go_enter Tryz.func152, Tryz.ntmps152
  go_wp2
  go_loop [5] (fun i => ∃ k : Nat, k ≤ max a.size b.size ∧ i = .int .i64 k ∧ Hid (wcmp (a.data.toList.drop k) (b.data.toList.drop k) = R)) (fun i => max a.size b.size - (intOf i).toNat)
  case atStart => exact ⟨0, by omega, rfl, HR⟩
  case round =>
    obtain ⟨k, hk, rfl, H⟩ := hrel
    by_cases hlt : k < a.size ∨ k < b.size
    · have hn := words_next a b k
      rw [H.out] at hn
      have hm : k + 1 ≤ max a.size b.size := by omega
      have fin : ∀ x y : Int, wAt a k = x → wAt b k = y → Hid ((x < y ∧ R = -1) ∨ (y < x ∧ R = 1) ∨ (x = y ∧ wcmp (a.data.toList.drop (k + 1)) (b.data.toList.drop (k + 1)) = R)) := fun x y ex ey => Lib.hid (by
        rw [ex, ey] at hn
        rcases sgn_cases x y with ⟨h, g⟩ | ⟨h, g⟩ | ⟨h, g⟩
        · left; rw [g, if_pos (by omega)] at hn; exact ⟨h, hn⟩
        · right; left; rw [g, if_pos (by omega)] at hn; exact ⟨h, hn⟩
        · right; right; rw [g, if_neg (by omega)] at hn; exact ⟨h, hn.symm⟩)
      clear hn
      by_cases h1 : k < a.size
      · have D1 := C a[k]
        have hb1 := wt_bd a[k]
        have e1 : wAt a k = wt a[k] := by unfold wAt; rw [dif_pos h1]
        have hx1 := a[k].toNat_lt
        by_cases h2 : k < b.size
        · have D2 := C b[k]
          have hb2 := wt_bd b[k]
          have e2 : wAt b k = wt b[k] := by unfold wAt; rw [dif_pos h2]
          have hx2 := b[k].toNat_lt
          have F := fin _ _ e1 e2
          clear e1 e2 fin C hlt
          generalize wt a[k] = x at *
          generalize wt b[k] = y at *
          rcases F.out with ⟨h, g⟩ | ⟨h, g⟩ | ⟨h, g⟩
          · have G := Lib.hid g
            clear g F H HR
            go_wp2_with (first | (go_at_call 164; refine (D1 _).mono ?_; clear D1; rintro e w1 ⟨rfl, rfl⟩) | (go_at_call 164; refine (D2 _).mono ?_; rintro e w1 ⟨rfl, rfl⟩))
            go_ret
            exact ⟨reti G.out.symm, rfl⟩
          · have G := Lib.hid g
            clear g F H HR
            go_wp2_with (first | (go_at_call 164; refine (D1 _).mono ?_; clear D1; rintro e w1 ⟨rfl, rfl⟩) | (go_at_call 164; refine (D2 _).mono ?_; rintro e w1 ⟨rfl, rfl⟩))
            go_ret
            exact ⟨reti G.out.symm, rfl⟩
          · subst h
            have G := Lib.hid g
            clear g F H HR
            go_wp2_with (first | (go_at_call 164; refine (D1 _).mono ?_; clear D1; rintro e w1 ⟨rfl, rfl⟩) | (go_at_call 164; refine (D2 _).mono ?_; rintro e w1 ⟨rfl, rfl⟩))
            go_round
            case rel => exact ⟨k + 1, hm, by go_num, G⟩
            case measure => simp [intOf]; omega
        · have e2 : wAt b k = 0 := by unfold wAt; rw [dif_neg h2]
          have F := fin _ _ e1 e2
          clear e1 e2 fin C hlt
          generalize wt a[k] = x at *
          rcases F.out with ⟨h, g⟩ | ⟨h, g⟩ | ⟨h, g⟩
          · have G := Lib.hid g
            clear g F H HR
            go_wp2_with (go_at_call 164; refine (D1 _).mono ?_; rintro e w1 ⟨rfl, rfl⟩)
            go_ret
            exact ⟨reti G.out.symm, rfl⟩
          · have G := Lib.hid g
            clear g F H HR
            go_wp2_with (go_at_call 164; refine (D1 _).mono ?_; rintro e w1 ⟨rfl, rfl⟩)
            go_ret
            exact ⟨reti G.out.symm, rfl⟩
          · subst h
            have G := Lib.hid g
            clear g F H HR
            go_wp2_with (go_at_call 164; refine (D1 _).mono ?_; rintro e w1 ⟨rfl, rfl⟩)
            go_round
            case rel => exact ⟨k + 1, hm, by go_num, G⟩
            case measure => simp [intOf]; omega
      · have h2 : k < b.size := by omega
        have D2 := C b[k]
        have hb2 := wt_bd b[k]
        have e1 : wAt a k = 0 := by unfold wAt; rw [dif_neg h1]
        have e2 : wAt b k = wt b[k] := by unfold wAt; rw [dif_pos h2]
        have hx2 := b[k].toNat_lt
        have F := fin _ _ e1 e2
        clear e1 e2 fin C hlt
        generalize wt b[k] = y at *
        rcases F.out with ⟨h, g⟩ | ⟨h, g⟩ | ⟨h, g⟩
        · have G := Lib.hid g
          clear g F H HR
          go_wp2_with (go_at_call 164; refine (D2 _).mono ?_; rintro e w1 ⟨rfl, rfl⟩)
          go_ret
          exact ⟨reti G.out.symm, rfl⟩
        · have G := Lib.hid g
          clear g F H HR
          go_wp2_with (go_at_call 164; refine (D2 _).mono ?_; rintro e w1 ⟨rfl, rfl⟩)
          go_ret
          exact ⟨reti G.out.symm, rfl⟩
        · subst h
          have G := Lib.hid g
          clear g F H HR
          go_wp2_with (go_at_call 164; refine (D2 _).mono ?_; rintro e w1 ⟨rfl, rfl⟩)
          go_round
          case rel => exact ⟨k + 1, hm, by go_num, G⟩
          case measure => simp [intOf]; omega
    · have hE : R = 0 := by
        have h := H.out
        rw [List.drop_of_length_le (by rw [← sizeOf]; omega), List.drop_of_length_le (by rw [← sizeOf]; omega)] at h
        rw [← h]; exact lexL_nil _ _
      have HZ := Lib.hid hE
      have h1 : ¬ k < a.size := by omega
      have h2 : ¬ k < b.size := by omega
      clear hE hlt C H HR
      go_wp2
      go_ret
      exact ⟨reti HZ.out.symm, rfl⟩
theorem ncmp_len {n m : Bs} (h : n.length < m.length) : ncmp n m = -1 := by unfold ncmp; rw [if_pos (.inl h)]
theorem ncmp_less {n m : Bs} (h : n.length = m.length) (g : n < m) : ncmp n m = -1 := by unfold ncmp; rw [if_pos (.inr ⟨h, g⟩)]
theorem ncmp_rest {n m : Bs} (h : ¬ n.length < m.length) (g : n.length = m.length → ¬ n < m) : ncmp n m = if n = m then 0 else 1 := by unfold ncmp; rw [if_neg (fun x => x.elim h fun y => g y.1 y.2)]
set_option maxHeartbeats 1000000 in
theorem numbers_ref (a b : ByteArray) (w : World) : Calls Tryz.prog 153 #[.string a, .string b] w fun e w' => e = .returned (.int .i64 (ncmp a.data.toList b.data.toList)) ∧ w = w' := by
  have hla := sizeOf a
  have hlb := sizeOf b
  by_cases h1 : a.size < b.size
  · rw [ncmp_len (by omega)]
    clear hla hlb
    go_enter Tryz.func153, Tryz.ntmps153
    go_wp2
    go_ret
    exact ⟨rfl, rfl⟩
  · by_cases h2 : a.size = b.size
    · by_cases h3 : a.data.toList < b.data.toList
      · rw [ncmp_less (by omega) h3]
        have g : Op.bytesLess a.toList b.toList = true := by rw [lessT, decide_eq_true h3]
        have g2 : ((a.size : Int) == (b.size : Int)) = true := by simp [h2]
        clear hla hlb h3 h2
        go_enter Tryz.func153, Tryz.ntmps153
        go_wp2
        go_ret
        exact ⟨rfl, rfl⟩
      · rw [ncmp_rest (by omega) (fun _ => h3)]
        have g : Op.bytesLess a.toList b.toList = false := by rw [lessT, decide_eq_false h3]
        have g2 : ((a.size : Int) == (b.size : Int)) = true := by simp [h2]
        have g3 := eqT a b
        by_cases h4 : a.data.toList = b.data.toList
        · rw [if_pos h4]
          rw [decide_eq_true h4] at g3
          clear hla hlb h3 h2 h4
          go_enter Tryz.func153, Tryz.ntmps153
          go_wp2
          go_ret
          exact ⟨rfl, rfl⟩
        · rw [if_neg h4]
          rw [decide_eq_false h4] at g3
          clear hla hlb h3 h2 h4
          go_enter Tryz.func153, Tryz.ntmps153
          go_wp2
          go_ret
          exact ⟨rfl, rfl⟩
    · have h4 : a.data.toList ≠ b.data.toList := fun e => by rw [e] at hla; omega
      rw [ncmp_rest (by omega) (fun e => by omega), if_neg h4]
      have g2 : ((a.size : Int) == (b.size : Int)) = false := by rw [beq_eq_false_iff_ne]; omega
      have g3 := eqT a b
      rw [decide_eq_false h4] at g3
      clear hla hlb h2 h4
      go_enter Tryz.func153, Tryz.ntmps153
      go_wp2
      go_ret
      exact ⟨rfl, rfl⟩
end Go.Proofs.YtkcamfcjkjiijaaGreatDoor
