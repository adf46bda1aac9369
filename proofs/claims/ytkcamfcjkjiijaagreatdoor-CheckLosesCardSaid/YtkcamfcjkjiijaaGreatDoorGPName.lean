/-
  path.alnum, printable, Name and the reference's Name: what each returns for every argument; the world stays as it was.
-/
import Derived.Test.YtkcamfcjkjiijaaGreatDoorGPList
namespace Go.Proofs.YtkcamfcjkjiijaaGreatDoor
open Go.RowKit Go.Sort
def alB (c : UInt8) : Bool := decide (97 ≤ c.toNat) && decide (c.toNat ≤ 122) || decide (48 ≤ c.toNat) && decide (c.toNat ≤ 57)
def markB (c : UInt8) : Bool := c == 43 || c == 45 || c == 46
def inB (c : UInt8) : Bool := alB c || markB c
def headB : Bs → Bool
  | [] => false
  | c :: _ => alB c
def nameB (l : Bs) : Bool := decide (1 ≤ l.length) && decide (l.length ≤ 60) && headB l && l.all inB
theorem take_snoc (s : ByteArray) (k : Nat) (h : k < s.size) : s.data.toList.take (k + 1) = s.data.toList.take k ++ [s[k]] := by
  have hl : k < s.data.toList.length := by rw [← Lib.size_eq]; exact h
  rw [List.take_add_one, List.getElem?_eq_getElem hl]
  simp; rfl
theorem all_false {l : Bs} {f : UInt8 → Bool} (k : Nat) (x : UInt8) (h : x ∈ l.take k) (hf : f x = false) : l.all f = false := by
  rw [List.all_eq_false]
  exact ⟨x, List.mem_of_mem_take h, by simp [hf]⟩
theorem all_next {s : ByteArray} {f : UInt8 → Bool} {k : Nat} (h : k < s.size) (ha : (s.data.toList.take k).all f = true) (hf : f s[k] = true) : (s.data.toList.take (k + 1)).all f = true := by
  rw [take_snoc s k h, List.all_append, ha]; simp [hf]
theorem all_stop {s : ByteArray} {f : UInt8 → Bool} {k : Nat} (h : k < s.size) (hf : f s[k] = false) : s.data.toList.all f = false :=
  all_false (k + 1) s[k] (by rw [take_snoc s k h]; simp) hf
theorem all_done {s : ByteArray} {f : UInt8 → Bool} (ha : (s.data.toList.take s.size).all f = true) : s.data.toList.all f = true := by
  rwa [List.take_of_length_le (by rw [← Lib.size_eq]; exact Nat.le_refl _)] at ha
theorem alnum_any (c : UInt8) (w : World) : Calls Tryz.prog 101 #[.int .u8 c.toNat] w fun e w' => e = .returned (.bool (alB c)) ∧ w = w' := by
  have hc := c.toNat_lt
  obtain ⟨B, HB⟩ : ∃ B, Hid (alB c = B) := ⟨_, rfl⟩
  rw [HB.out]
  unfold alB at HB
  generalize c.toNat = n at *
  by_cases h1 : 97 ≤ n
  · by_cases h2 : n ≤ 122
    · go_enter Tryz.func101, Tryz.ntmps101
      go_wp2
      go_ret
      exact ⟨ret_bool (by rw [← HB.out, Bool.eq_iff_iff]; simp only [Bool.or_eq_true, Bool.and_eq_true, decide_eq_true_eq, true_iff]; omega), rfl⟩
    · go_enter Tryz.func101, Tryz.ntmps101
      go_wp2
      go_ret
      exact ⟨ret_bool (by rw [← HB.out, Bool.eq_iff_iff]; simp only [Bool.or_eq_true, Bool.and_eq_true, decide_eq_true_eq]; omega), rfl⟩
  · by_cases h3 : 48 ≤ n
    · go_enter Tryz.func101, Tryz.ntmps101
      go_wp2
      go_ret
      exact ⟨ret_bool (by rw [← HB.out, Bool.eq_iff_iff]; simp only [Bool.or_eq_true, Bool.and_eq_true, decide_eq_true_eq]; omega), rfl⟩
    · go_enter Tryz.func101, Tryz.ntmps101
      go_wp2
      go_ret
      exact ⟨ret_bool (by rw [← HB.out, Bool.eq_iff_iff]; simp only [Bool.or_eq_true, Bool.and_eq_true, decide_eq_true_eq, Bool.false_eq_true, false_iff]; omega), rfl⟩
set_option maxHeartbeats 1000000 in
theorem printable_any (s : ByteArray) (hs : s.size ≤ 4000) (w : World) : Calls Tryz.prog 123 #[.string s] w fun e w' => e = .returned (.bool (s.data.toList.all okb)) ∧ w = w' := by
  obtain ⟨B, HB⟩ : ∃ B, Hid (s.data.toList.all okb = B) := ⟨_, rfl⟩
  rw [HB.out]
  go_enter Tryz.func123, Tryz.ntmps123
  go_wp2
  go_loop [6] (fun i => ∃ k : Nat, k ≤ s.size ∧ i = .int .i64 k ∧ Hid ((s.data.toList.take k).all okb = true)) (fun i => s.size - (intOf i).toNat)
  case atStart => exact ⟨0, by omega, rfl, Lib.hid (by simp)⟩
  case round =>
    obtain ⟨k, hk, rfl, H⟩ := hrel
    by_cases hlt : k < s.size
    · have hc := s[k].toNat_lt
      by_cases h1 : s[k].toNat < 33
      · have HR : Hid (false = B) := Lib.hid (by rw [← HB.out, all_stop hlt (by unfold okb; rw [decide_eq_false (by omega)]; rfl)])
        go_wp2
        go_ret
        exact ⟨ret_bool HR.out, rfl⟩
      · by_cases h2 : 126 < s[k].toNat
        · have HR : Hid (false = B) := Lib.hid (by rw [← HB.out, all_stop hlt (by unfold okb; rw [decide_eq_false (p := s[k].toNat ≤ 126) (by omega)]; simp)])
          go_wp2
          go_ret
          exact ⟨ret_bool HR.out, rfl⟩
        · have HN : Hid ((s.data.toList.take (k + 1)).all okb = true) := Lib.hid (all_next hlt H.out (by unfold okb; rw [decide_eq_true (by omega), decide_eq_true (by omega)]; rfl))
          go_wp2
          go_round
          case rel => exact ⟨k + 1, by omega, by go_num, HN⟩
          case measure => simp [intOf]; omega
    · obtain rfl : k = s.size := by omega
      have HR : Hid (true = B) := Lib.hid (by rw [← HB.out]; exact (all_done H.out).symm)
      clear hlt
      go_wp2
      go_ret
      exact ⟨ret_bool HR.out, rfl⟩
theorem mark_idx (c : UInt8) : Lib.indexByte (ByteArray.mk #[43, 45, 46]).data.toList (c.toNat : Int).toNat.toUInt8 < 0 ↔ markB c = false := by
  have e : (c.toNat : Int).toNat.toUInt8 = c := by simp
  rw [e]
  unfold markB
  simp only [Lib.indexByte]
  by_cases h1 : c = 43
  · subst h1; decide
  · by_cases h2 : c = 45
    · subst h2; decide
    · by_cases h3 : c = 46
      · subst h3; decide
      · have a1 : ((43 : UInt8) == c) = false := by simp; exact fun h => h1 h.symm
        have a2 : ((45 : UInt8) == c) = false := by simp; exact fun h => h2 h.symm
        have a3 : ((46 : UInt8) == c) = false := by simp; exact fun h => h3 h.symm
        simp [a1, a2, a3, h1, h2, h3]
theorem nat_of_u8 {a b : UInt8} : a = b ↔ a.toNat = b.toNat := UInt8.toNat_inj.symm
set_option maxHeartbeats 2000000 in
theorem name_any (s : ByteArray) (hs : s.size ≤ 4000) (w : World) : Calls Tryz.prog 83 #[.string s] w fun e w' => e = .returned (.bool (nameB s.data.toList)) ∧ w = w' := by
  obtain ⟨B, HB⟩ : ∃ B, Hid (nameB s.data.toList = B) := ⟨_, rfl⟩
  rw [HB.out]
  have hl := Lib.size_eq s
  by_cases h0 : 1 ≤ s.size ∧ s.size ≤ 60
  · obtain ⟨h1, h60⟩ := h0
    have hhd : headB s.data.toList = alB s[0] := by
      have : s.data.toList = s[0] :: s.data.toList.drop 1 := by
        have := List.drop_eq_getElem_cons (l := s.data.toList) (i := 0) (by omega)
        rw [List.drop_zero] at this
        exact this
      rw [this]; rfl
    have HE : Hid ((alB s[0] && s.data.toList.all inB) = B) := Lib.hid (by rw [← HB.out, nameB, decide_eq_true (by omega), decide_eq_true (by omega), hhd]; rfl)
    clear hl hhd
    have C1 := fun c w => alnum_any c w
    cases ha : alB s[0]
    · have HR : Hid (false = B) := Lib.hid (by rw [← HE.out, ha]; rfl)
      have C0 := C1 s[0]
      rw [ha] at C0
      clear ha HE HB C1
      have hc := s[0].toNat_lt
      go_enter Tryz.func83, Tryz.ntmps83
      go_wp2_with (go_at_call 101; refine (C0 _).mono ?_; rintro e w1 ⟨rfl, rfl⟩)
      go_ret
      exact ⟨ret_bool HR.out, rfl⟩
    · have HF : Hid (s.data.toList.all inB = B) := Lib.hid (by rw [← HE.out, ha, Bool.true_and])
      have C0 := C1 s[0]
      rw [ha] at C0
      clear ha HE HB
      have hc := s[0].toNat_lt
      go_enter Tryz.func83, Tryz.ntmps83
      go_wp2_with (go_at_call 101; refine (C0 _).mono ?_; rintro e w1 ⟨rfl, rfl⟩)
      clear C0 hc
      go_loop [20] (fun i => ∃ k : Nat, k ≤ s.size ∧ i = .int .i64 k ∧ Hid ((s.data.toList.take k).all inB = true)) (fun i => s.size - (intOf i).toNat)
      case atStart => exact ⟨0, by omega, rfl, Lib.hid (by simp)⟩
      case round =>
        obtain ⟨k, hk, rfl, H⟩ := hrel
        by_cases hlt : k < s.size
        · have hc := s[k].toNat_lt
          have CK := C1 s[k]
          cases hal : alB s[k]
          · rw [hal] at CK
            have C3 := fun w => Tryz.strings_IndexByte ⟨#[43, 45, 46]⟩ (s[k].toNat : Int) w
            have hge := Lib.indexByte_ge (ByteArray.mk #[43, 45, 46]).data.toList (s[k].toNat : Int).toNat.toUInt8
            have hix := mark_idx s[k]
            generalize Lib.indexByte (ByteArray.mk #[43, 45, 46]).data.toList (s[k].toNat : Int).toNat.toUInt8 = ix at C3 hge hix
            cases hm : markB s[k]
            · have hneg : ix < 0 := hix.2 hm
              have HR : Hid (false = B) := Lib.hid (by rw [← HF.out, all_stop hlt (by unfold inB; rw [hal, hm]; rfl)])
              clear hal hm hix C1
              go_wp2_with (first | (go_at_call 101; refine (CK _).mono ?_; rintro e w1 ⟨rfl, rfl⟩) | (go_at_call 102; refine (C3 _).mono ?_; rintro e w1 ⟨rfl, rfl⟩))
              go_ret
              exact ⟨ret_bool HR.out, rfl⟩
            · have hneg : ¬ ix < 0 := fun h => by rw [hix.1 h] at hm; cases hm
              have HN : Hid ((s.data.toList.take (k + 1)).all inB = true) := Lib.hid (all_next hlt H.out (by unfold inB; rw [hal, hm]; rfl))
              clear hal hm hix C1
              go_wp2_with (first | (go_at_call 101; refine (CK _).mono ?_; rintro e w1 ⟨rfl, rfl⟩) | (go_at_call 102; refine (C3 _).mono ?_; rintro e w1 ⟨rfl, rfl⟩))
              go_round
              case rel => exact ⟨k + 1, by omega, by go_num, HN⟩
              case measure => simp [intOf]; omega
          · rw [hal] at CK
            have HN : Hid ((s.data.toList.take (k + 1)).all inB = true) := Lib.hid (all_next hlt H.out (by unfold inB; rw [hal]; rfl))
            clear hal C1
            go_wp2_with (go_at_call 101; refine (CK _).mono ?_; rintro e w1 ⟨rfl, rfl⟩)
            go_round
            case rel => exact ⟨k + 1, by omega, by go_num, HN⟩
            case measure => simp [intOf]; omega
        · obtain rfl : k = s.size := by omega
          have HR : Hid (true = B) := Lib.hid (by rw [← HF.out]; exact (all_done H.out).symm)
          clear hlt C1
          go_wp2
          go_ret
          exact ⟨ret_bool HR.out, rfl⟩
  · have HR : Hid (false = B) := Lib.hid (by
      rw [← HB.out, nameB]
      by_cases h : 1 ≤ s.data.toList.length
      · rw [decide_eq_false (p := s.data.toList.length ≤ 60) (by omega)]; simp
      · rw [decide_eq_false h]; rfl)
    have h0' : s.size < 1 ∨ (1 ≤ s.size ∧ 60 < s.size) := by omega
    clear h0 HB hl
    rcases h0' with h0 | ⟨h0, h60⟩
    · go_enter Tryz.func83, Tryz.ntmps83
      go_wp2
      go_ret
      exact ⟨ret_bool HR.out, rfl⟩
    · go_enter Tryz.func83, Tryz.ntmps83
      go_wp2
      go_ret
      exact ⟨ret_bool HR.out, rfl⟩
end Go.Proofs.YtkcamfcjkjiijaaGreatDoor
