/-
  The reference's Name, Parse and Right, of texts of any size: what each returns; nothing old turns.
-/
import Derived.Test.YtpkdnohaefkfgaaGreatDoorGQHold
import Derived.Test.YtpkdnohaefkfgaaGreatDoorGBRight
namespace Go.Proofs.YtpkdnohaefkfgaaGreatDoor
open Go.RowKit
set_option maxHeartbeats 2000000 in
theorem nameBig_ref (s : ByteArray) (hs : s.size ≤ maxLen) (w : World) : Calls Tryz.prog 34 #[.string s] w fun e w' => e = .returned (.bool (nameB s.data.toList)) ∧ w = w' := by
  unfold maxLen at hs
  obtain ⟨B, HB⟩ : ∃ B, Hid (nameB s.data.toList = B) := ⟨_, rfl⟩
  rw [HB.out]
  go_enter Tryz.func34, Tryz.ntmps34
  go_wp2
  go_loop [3] (fun i => ∃ k : Nat, k ≤ s.size ∧ i = .int .i64 k ∧ Hid (NameTo s.data.toList k)) (fun i => s.size - (intOf i).toNat)
  case atStart => exact ⟨0, by omega, rfl, Lib.hid ⟨by simp, fun h => absurd h (by omega)⟩⟩
  case round =>
    obtain ⟨k, hk, rfl, H⟩ := hrel
    by_cases hlt : k < s.size
    · have hc := s[k].toNat_lt
      rcases cls s[k].toNat with h | h | h | h
      · have HN : Hid (NameTo s.data.toList (k + 1)) := Lib.hid (nameTo_next hlt H.out ((inB_iff _).2 (.inl ((alB_iff _).2 (.inl h)))) (fun _ => (alB_iff _).2 (.inl h)))
        obtain ⟨ha, hb⟩ := h
        go_wp2
        go_round
        case rel => exact ⟨k + 1, by omega, by go_num, HN⟩
        case measure => simp [intOf]; omega
      · have HN : Hid (NameTo s.data.toList (k + 1)) := Lib.hid (nameTo_next hlt H.out ((inB_iff _).2 (.inl ((alB_iff _).2 (.inr h)))) (fun _ => (alB_iff _).2 (.inr h)))
        obtain ⟨ha, hb⟩ := h
        go_wp2
        go_round
        case rel => exact ⟨k + 1, by omega, by go_num, HN⟩
        case measure => simp [intOf]; omega
      · have hm : markB s[k] = true := (markB_iff _).2 h
        have hna : ¬ alB s[k] = true := fun e => by have := (alB_iff _).1 e; omega
        by_cases hk0 : k = 0
        · have HR : Hid (false = B) := Lib.hid (by rw [← HB.out]; exact (name_bad0 (by omega) (by subst hk0; exact hna)).symm)
          have hkb : ((k : Int) == 0) = true := by simp [hk0]
          clear hm hna hk0
          rcases h with h | h | h
          all_goals
            go_wp2
            go_ret
            exact ⟨ret_bool HR.out, rfl⟩
        · have HN : Hid (NameTo s.data.toList (k + 1)) := Lib.hid (nameTo_next hlt H.out ((inB_iff _).2 (.inr hm)) (fun e => absurd e hk0))
          have hkb : ((k : Int) == 0) = false := by simp [hk0]
          clear hm hna
          rcases h with h | h | h
          all_goals
            go_wp2
            go_round
            case rel => exact ⟨k + 1, by omega, by go_num, HN⟩
            case measure => simp [intOf]; omega
      · have HR : Hid (false = B) := Lib.hid (by rw [← HB.out]; exact (name_bad hlt (inB_no (fun e => by have := (alB_iff _).1 e; omega) (fun e => by have := (markB_iff _).1 e; omega))).symm)
        rcases h with h | ⟨h, h'⟩ | ⟨h, h1, h2, h3⟩
        · go_wp2
          go_ret
          exact ⟨ret_bool HR.out, rfl⟩
        · go_wp2
          go_ret
          exact ⟨ret_bool HR.out, rfl⟩
        · have h1' : ((s[k].toNat : Int) == 43) = false := by simp; omega
          have h2' : ((s[k].toNat : Int) == 45) = false := by simp; omega
          have h3' : ((s[k].toNat : Int) == 46) = false := by simp; omega
          go_wp2
          go_ret
          exact ⟨ret_bool HR.out, rfl⟩
    · obtain rfl : k = s.size := by omega
      have HE := Lib.hid ((name_end H.out).symm.trans HB.out)
      clear hlt HB H
      by_cases h1 : 1 ≤ s.size
      · go_wp2
        go_ret
        exact ⟨ret_bool (by rw [← HE.out, decide_eq_true h1, Bool.true_and, Bool.eq_iff_iff]; simp only [decide_eq_true_eq]; omega), rfl⟩
      · go_wp2
        go_ret
        exact ⟨ret_bool (by rw [← HE.out, decide_eq_false h1]; simp), rfl⟩
set_option maxRecDepth 100000 in
set_option maxHeartbeats 8000000 in
theorem parseBig_ref (s : ByteArray) (hs : s.size ≤ maxLen) (w : World) : Calls Tryz.prog 35 #[.string s] w (ParsePost s.data.toList w) := by
  have hl := sizeOf s
  by_cases h4 : s.size ≤ 4000
  · exact parse_ref s h4 w
  have h80 : 80 < s.size := by omega
  · have HP : Hid (∀ e w', e = .returned (.tuple #[.agg #[.int .i64 0, .string ⟨#[]⟩, .string ⟨#[]⟩], .int .i64 8]) → Below w.heap.size w w' → ParsePost s.data.toList w e w') := Lib.hid (fun e w' h g => ⟨by rw [parseV_long (by omega)]; exact h, g⟩)
    clear hl
    unfold maxLen at hs
    go_enter Tryz.func35, Tryz.ntmps35
    go_wp2
    exact bodyPost_ret (v := .tuple #[.agg #[.int .i64 0, .string ⟨#[]⟩, .string ⟨#[]⟩], .int .i64 8]) (by simp [results, Tryz.results35, go_sem]) rfl (HP.out _ _ rfl ((((Below.refl _ _).alloc (Nat.le_refl _) _).alloc (by simp) _).alloc (by simp; omega) _))
set_option maxRecDepth 100000 in
set_option maxHeartbeats 8000000 in
theorem rightQBig_ref (n o v : ByteArray) (hn : n.size ≤ maxLen) (hv : v.size ≤ maxLen) (w : World) :
    Calls Tryz.prog 21 #[.agg #[.string n, .string o, .string v]] w fun e w' => e = .returned (.bool (rightR (n.data.toList, o.data.toList, v.data.toList))) ∧ Below w.heap.size w w' := by
  have NM := fun w => nameBig_ref n hn w
  have PV := fun w => parseBig_ref v hv w
  unfold ParsePost parseV verV at PV
  obtain ⟨R, hR⟩ : ∃ R, rightR (n.data.toList, o.data.toList, v.data.toList) = R := ⟨_, rfl⟩
  have hrt := right_to (n.data.toList, o.data.toList, v.data.toList)
  rw [hR] at hrt ⊢
  have hez := emptyT o
  have hev := emptyT v
  have e1 := eqTL o [60, 60]
  have e2 := eqTL o [60, 61]
  have e3 := eqTL o [61]
  have e4 := eqTL o [62, 61]
  have e5 := eqTL o [62, 62]
  have hal : ∀ (o : Obj), Below w.heap.size w (w.alloc o) := fun o => (Below.refl _ _).alloc (Nat.le_refl _) _
  have HAL := Lib.hid hal
  have hbn := box3New w n o v 41
  clear hR hal
  cases hrt with
  | name h =>
    simp only [] at h
    simp only [h] at NM
    clear e1 e2 e3 e4 e5 hez hev
    go_enter Tryz.func21, Tryz.ntmps21
    go_wp2_with (go_at_call 34; (with_reducible refine (NM _).mono ?_); rintro e w1 ⟨rfl, rfl⟩)
    go_ret
    exact ⟨rfl, HAL.out _⟩
  | bare h h2 =>
    simp only [] at h h2
    simp only [h] at NM
    have ho : o.size = 0 := by rw [sizeOf, h2]; rfl
    rw [decide_eq_true ho] at hez
    have hvv : decide (v.data.toList = []) = decide (v.size = 0) := by
      congr 1
      rw [sizeOf, List.length_eq_zero_iff]
    simp only [hvv]
    rw [← hev]
    clear e1 e2 e3 e4 e5 ho h h2 hev hvv
    go_enter Tryz.func21, Tryz.ntmps21
    go_wp2_with (go_at_call 34; (with_reducible refine (NM _).mono ?_); rintro e w1 ⟨rfl, rfl⟩)
    go_ret
    exact ⟨rfl, HAL.out _⟩
  | op h h2 =>
    simp only [] at h h2
    simp only [h] at NM
    have ho : ¬ o.size = 0 := fun e => h2 (List.eq_nil_of_length_eq_zero (by rw [← sizeOf]; exact e))
    rw [decide_eq_false ho] at hez
    obtain ⟨b1, b2, b3, b4, b5, g1, g2, g3, g4, g5, hop⟩ : ∃ b1 b2 b3 b4 b5, (o.toList == [60, 60]) = b1 ∧ (o.toList == [60, 61]) = b2 ∧ (o.toList == [61]) = b3 ∧ (o.toList == [62, 61]) = b4 ∧ (o.toList == [62, 62]) = b5 ∧ opB o.data.toList = ((((b1 || b2) || b3) || b4) || b5) := ⟨_, _, _, _, _, e1, e2, e3, e4, e5, rfl⟩
    have hways : (b1 = true) ∨ (b1 = false ∧ b2 = true) ∨ (b1 = false ∧ b2 = false ∧ b3 = true) ∨ (b1 = false ∧ b2 = false ∧ b3 = false ∧ b4 = true) ∨ (b1 = false ∧ b2 = false ∧ b3 = false ∧ b4 = false ∧ b5 = true) ∨ (b1 = false ∧ b2 = false ∧ b3 = false ∧ b4 = false ∧ b5 = false) := by
      cases b1 <;> cases b2 <;> cases b3 <;> cases b4 <;> cases b5 <;> simp
    obtain ⟨k, hk⟩ : ∃ k : Int, (parseE v.data.toList).2 = k := ⟨_, rfl⟩
    obtain ⟨z, hz⟩ : ∃ z : Int, (parseE v.data.toList).1.1 = z := ⟨_, rfl⟩
    obtain ⟨U, hU⟩ : ∃ U : ByteArray, (⟨((parseE v.data.toList).1.2.1).toArray⟩ : ByteArray) = U := ⟨_, rfl⟩
    obtain ⟨V, hV⟩ : ∃ V : ByteArray, (⟨((parseE v.data.toList).1.2.2).toArray⟩ : ByteArray) = V := ⟨_, rfl⟩
    simp only [hk, hz, hU, hV] at PV ⊢
    obtain ⟨kb, hkb⟩ : ∃ kb, (k == 0) = kb := ⟨_, rfl⟩
    have hkd : decide (k = 0) = kb := by rw [← hkb]; rfl
    rw [hkd]
    obtain ⟨p0, p1, p2⟩ := hbn
    have HBX := Lib.hid (And.intro p0 (And.intro p1 p2))
    clear e1 e2 e3 e4 e5 ho h h2 hev hk hz hU hV hkd
    rcases hways with rfl | ⟨rfl, rfl⟩ | ⟨rfl, rfl, rfl⟩ | ⟨rfl, rfl, rfl, rfl⟩ | ⟨rfl, rfl, rfl, rfl, rfl⟩ | ⟨rfl, rfl, rfl, rfl, rfl⟩
    all_goals
      simp only [Bool.true_or, Bool.or_true, Bool.or_false] at hop
      rw [hop]
      clear hop
      go_enter Tryz.func21, Tryz.ntmps21
      go_wp2_with (first
        | (go_at_call 34; (with_reducible refine (NM _).mono ?_); rintro e w1 ⟨rfl, rfl⟩)
        | (go_at_call 35; (with_reducible refine (PV _).mono ?_); rintro e w2 ⟨rfl, hb⟩; obtain ⟨q0, q1, q2⟩ := box3 HBX.out (hb.trans ((Below.refl _ w2).alloc hb.size (.cells #[.int .i64 z, .string U, .string V] 64))); have HB := Lib.hid (((HAL.out _).trans (hb.mono (HAL.out _).size)).alloc (Nat.le_trans (HAL.out _).size hb.size) (.cells #[.int .i64 z, .string U, .string V] 64)); clear hb))
      go_ret
      exact ⟨rfl, HB.out⟩
end Go.Proofs.YtpkdnohaefkfgaaGreatDoor
