/-
  The reference's Name: what it returns for every argument; the world stays as it was.
-/
import Derived.Test.YtmfmohbcehkooaaGreatDoorPName
namespace Go.Proofs.YtmfmohbcehkooaaGreatDoor
open Go.RowKit Go.Sort
theorem cls (n : Nat) : (97 ≤ n ∧ n ≤ 122) ∨ (48 ≤ n ∧ n ≤ 57) ∨ (n = 43 ∨ n = 45 ∨ n = 46) ∨ (122 < n ∨ (57 < n ∧ n < 97) ∨ (n < 48 ∧ ¬ n = 43 ∧ ¬ n = 45 ∧ ¬ n = 46)) := by omega
theorem alB_iff (c : UInt8) : alB c = true ↔ (97 ≤ c.toNat ∧ c.toNat ≤ 122) ∨ (48 ≤ c.toNat ∧ c.toNat ≤ 57) := by
  unfold alB; simp only [Bool.or_eq_true, Bool.and_eq_true, decide_eq_true_eq]
theorem markB_iff (c : UInt8) : markB c = true ↔ c.toNat = 43 ∨ c.toNat = 45 ∨ c.toNat = 46 := by
  unfold markB
  simp only [Bool.or_eq_true, beq_iff_eq, nat_of_u8]
  show (c.toNat = 43 ∨ c.toNat = 45) ∨ c.toNat = 46 ↔ _
  omega
theorem inB_iff (c : UInt8) : inB c = true ↔ alB c = true ∨ markB c = true := by unfold inB; rw [Bool.or_eq_true]
theorem inB_no {c : UInt8} (h1 : ¬ alB c = true) (h2 : ¬ markB c = true) : inB c = false := by
  cases h : inB c with
  | false => rfl
  | true => exact absurd ((inB_iff c).1 h) (fun h => h.elim h1 h2)
/-- What is known of the first k bytes. -/
def NameTo (l : Bs) (k : Nat) : Prop := (l.take k).all inB = true ∧ (0 < k → headB l = true)
theorem nameTo_next {s : ByteArray} {k : Nat} (h : k < s.size) (H : NameTo s.data.toList k) (hi : inB s[k] = true) (h0 : k = 0 → alB s[k] = true) : NameTo s.data.toList (k + 1) := by
  refine ⟨all_next h H.1 hi, fun _ => ?_⟩
  by_cases hk : k = 0
  · subst hk
    have hl := Lib.size_eq s
    have := List.drop_eq_getElem_cons (l := s.data.toList) (i := 0) (by omega)
    rw [List.drop_zero] at this
    rw [this]
    exact h0 rfl
  · exact H.2 (by omega)
theorem name_bad {s : ByteArray} {k : Nat} (h : k < s.size) (hi : inB s[k] = false) : nameB s.data.toList = false := by
  unfold nameB; rw [all_stop h hi, Bool.and_false]
theorem name_bad0 {s : ByteArray} (h : 0 < s.size) (hi : ¬ alB s[0] = true) : nameB s.data.toList = false := by
  have hl := Lib.size_eq s
  have := List.drop_eq_getElem_cons (l := s.data.toList) (i := 0) (by omega)
  rw [List.drop_zero] at this
  have e : headB s.data.toList = false := by
    rw [this]
    cases h : headB (s.data.toList[0] :: List.drop (0 + 1) s.data.toList) with
    | false => rfl
    | true => exact absurd h hi
  unfold nameB; rw [e, Bool.and_false, Bool.false_and]
theorem name_end {s : ByteArray} (H : NameTo s.data.toList s.size) : nameB s.data.toList = (decide (1 ≤ s.size) && decide (s.size ≤ 60)) := by
  have hl := Lib.size_eq s
  unfold nameB
  rw [all_done H.1, ← hl]
  by_cases h : 1 ≤ s.size
  · rw [H.2 h]; simp
  · rw [decide_eq_false h]; simp
set_option maxHeartbeats 2000000 in
theorem name_ref (s : ByteArray) (hs : s.size ≤ 4000) (w : World) : Calls Tryz.prog 72 #[.string s] w fun e w' => e = .returned (.bool (nameB s.data.toList)) ∧ w = w' := by
  obtain ⟨B, HB⟩ : ∃ B, Hid (nameB s.data.toList = B) := ⟨_, rfl⟩
  rw [HB.out]
  go_enter Tryz.func72, Tryz.ntmps72
  go_wp2
  go_loop [3] (fun i => ∃ k : Nat, k ≤ s.size ∧ i = .int .i64 k ∧ Hid (NameTo s.data.toList k)) (fun i => s.size - (intOf i).toNat)
  case atStart => exact ⟨0, by omega, rfl, Lib.hid ⟨by simp, fun h => absurd h (by omega)⟩⟩
  case round =>
    obtain ⟨k, hk, rfl, H⟩ := hrel
    by_cases hlt : k < s.size
    · have hc := s[k].toNat_lt
      rcases cls s[k].toNat with h | h | h | h
      · have HN : Hid (NameTo s.data.toList (k + 1)) := Lib.hid (nameTo_next hlt H.out ((inB_iff _).2 (.inl ((alB_iff _).2 (.inl h)))) (fun _ => (alB_iff _).2 (.inl h)))
        obtain ⟨ha, hb⟩ := h
        go_wp2
        go_round
        case rel => exact ⟨k + 1, by omega, by go_num, HN⟩
        case measure => simp [intOf]; omega
      · have HN : Hid (NameTo s.data.toList (k + 1)) := Lib.hid (nameTo_next hlt H.out ((inB_iff _).2 (.inl ((alB_iff _).2 (.inr h)))) (fun _ => (alB_iff _).2 (.inr h)))
        obtain ⟨ha, hb⟩ := h
        go_wp2
        go_round
        case rel => exact ⟨k + 1, by omega, by go_num, HN⟩
        case measure => simp [intOf]; omega
      · have hm : markB s[k] = true := (markB_iff _).2 h
        have hna : ¬ alB s[k] = true := fun e => by have := (alB_iff _).1 e; omega
        by_cases hk0 : k = 0
        · have HR : Hid (false = B) := Lib.hid (by rw [← HB.out]; exact (name_bad0 (by omega) (by subst hk0; exact hna)).symm)
          have hkb : ((k : Int) == 0) = true := by simp [hk0]
          clear hm hna hk0
          rcases h with h | h | h
          all_goals
            go_wp2
            go_ret
            exact ⟨ret_bool HR.out, rfl⟩
        · have HN : Hid (NameTo s.data.toList (k + 1)) := Lib.hid (nameTo_next hlt H.out ((inB_iff _).2 (.inr hm)) (fun e => absurd e hk0))
          have hkb : ((k : Int) == 0) = false := by simp [hk0]
          clear hm hna
          rcases h with h | h | h
          all_goals
            go_wp2
            go_round
            case rel => exact ⟨k + 1, by omega, by go_num, HN⟩
            case measure => simp [intOf]; omega
      · have HR : Hid (false = B) := Lib.hid (by rw [← HB.out]; exact (name_bad hlt (inB_no (fun e => by have := (alB_iff _).1 e; omega) (fun e => by have := (markB_iff _).1 e; omega))).symm)
        rcases h with h | ⟨h, h'⟩ | ⟨h, h1, h2, h3⟩
        · go_wp2
          go_ret
          exact ⟨ret_bool HR.out, rfl⟩
        · go_wp2
          go_ret
          exact ⟨ret_bool HR.out, rfl⟩
        · have h1' : ((s[k].toNat : Int) == 43) = false := by simp; omega
          have h2' : ((s[k].toNat : Int) == 45) = false := by simp; omega
          have h3' : ((s[k].toNat : Int) == 46) = false := by simp; omega
          go_wp2
          go_ret
          exact ⟨ret_bool HR.out, rfl⟩
    · obtain rfl : k = s.size := by omega
      have HE := Lib.hid ((name_end H.out).symm.trans HB.out)
      clear hlt HB H
      by_cases h1 : 1 ≤ s.size
      · go_wp2
        go_ret
        exact ⟨ret_bool (by rw [← HE.out, decide_eq_true h1, Bool.true_and, Bool.eq_iff_iff]; simp only [decide_eq_true_eq]; omega), rfl⟩
      · go_wp2
        go_ret
        exact ⟨ret_bool (by rw [← HE.out, decide_eq_false h1]; simp), rfl⟩
end Go.Proofs.YtmfmohbcehkooaaGreatDoor
