import Derived.Test.YtkbkaeefdhkgdaaGreatDoorPUHexR
import Derived.OpenShut
set_option maxRecDepth 100000
set_option maxHeartbeats 32000000
namespace Go.Proofs.YtkbkaeefdhkgdaaGreatDoor
section
open Go.RowKit Go.Sort
def PuPost (b : Nat) (s : ByteArray) (w : World) (e : Ending) (w' : World) : Prop :=
  (match pv b 0 s.data.toList with
    | some n => e = .returned (.tuple #[.int .u64 n, .nilIface])
    | none => e = .returned (.tuple #[.int .u64 0, .iface 203 (.int .i64 2)])) ∧ Below w.heap.size w w'
theorem PuPost.ok {b n : Nat} {s : ByteArray} {w w' : World} {e : Ending} (h : pv b 0 s.data.toList = some n) (he : e = .returned (.tuple #[.int .u64 n, .nilIface])) (hb : Below w.heap.size w w') : PuPost b s w e w' := by
  unfold PuPost; rw [h]; exact ⟨he, hb⟩
theorem lower_any (c : Int) (w : World) : Calls Tryz.prog 197 #[.int .u8 c] w fun e w' => e = .returned (.int .u8 (bits .or .u8 c 32)) ∧ w = w' :=
  (Tryz.internal_strconv_lower c w).mono fun _ _ h => ⟨h.1, h.2.symm⟩
theorem lo_eq (c : UInt8) : bits .or .u8 (c.toNat : Int) 32 = (lo c : Int) := u8_or_nat c.toNat 32 c.toNat_lt (by omega)
theorem lo_lt (c : UInt8) : lo c < 256 := by
  have h : c.toNat ||| 32 < 2 ^ 8 := Nat.or_lt_two_pow c.toNat_lt (by omega)
  exact h
theorem step_digit {b acc : Nat} {c : UInt8} {l : List UInt8} (h0 : 48 ≤ c.toNat) (h1 : c.toNat ≤ 57) (hb : c.toNat - 48 < b) : pv b acc (c :: l) = pv b (acc * b + (c.toNat - 48)) l :=
  pv_some (by unfold dvb dv; rw [if_pos ⟨h0, h1⟩]; simp [hb])
theorem bad_digit {b acc : Nat} {c : UInt8} {l : List UInt8} (h0 : 48 ≤ c.toNat) (h1 : c.toNat ≤ 57) (hb : b ≤ c.toNat - 48) : pv b acc (c :: l) = none :=
  pv_none (by unfold dvb dv; rw [if_pos ⟨h0, h1⟩]; simp; omega)
theorem step_letter {b acc : Nat} {c : UInt8} {l : List UInt8} (hn : ¬ (48 ≤ c.toNat ∧ c.toNat ≤ 57)) (h0 : 97 ≤ lo c) (h1 : lo c ≤ 122) (hb : lo c - 87 < b) : pv b acc (c :: l) = pv b (acc * b + (lo c - 87)) l :=
  pv_some (by unfold dvb dv; rw [if_neg hn, if_pos ⟨h0, h1⟩]; simp [hb])
theorem bad_letter {b acc : Nat} {c : UInt8} {l : List UInt8} (hn : ¬ (48 ≤ c.toNat ∧ c.toNat ≤ 57)) (h0 : 97 ≤ lo c) (h1 : lo c ≤ 122) (hb : b ≤ lo c - 87) : pv b acc (c :: l) = none :=
  pv_none (by unfold dvb dv; rw [if_neg hn, if_pos ⟨h0, h1⟩]; simp; omega)
theorem bad_other {b acc : Nat} {c : UInt8} {l : List UInt8} (hn : ¬ (48 ≤ c.toNat ∧ c.toNat ≤ 57)) (h0 : ¬ (97 ≤ lo c ∧ lo c ≤ 122)) : pv b acc (c :: l) = none :=
  pv_none (by unfold dvb dv; rw [if_neg hn, if_neg h0])
theorem parseUint_in8 (t : ByteArray) (ht : t.size = 4) (w : World) :
    Calls Tryz.prog 183 #[.string t, .int .i64 8, .int .i64 64] w (PuPost 8 t w) := by
  have hemp : t.toList.isEmpty = false := by
    rw [← decide_eq_emptyBytes]
    exact decide_eq_false (fun h => by rw [h] at ht; cases ht)
  have hcv := Lib.run_convert_string_bytes (P := Tryz.prog) w 9 86 5 t (u := .string) Tryz.underlying9 Tryz.underlying86 Tryz.underlying5
  have hB : ∀ j, j < t.size → (Lib.bytesWorld w 5 t).cell? ⟨w.heap.size, j, none⟩ = some (.int .u8 (t.data.toList.getD j 0).toNat) := fun j hj => Lib.bytesWorld_cell w 5 t j hj
  have HBW := Lib.hid (Lib.bytesWorld_below w 5 t)
  obtain ⟨W1, hW1⟩ : ∃ W1, W1 = Lib.bytesWorld w 5 t := ⟨_, rfl⟩
  rw [← hW1] at hcv hB HBW
  clear hW1
  have hP : ∀ e, (match pv 8 0 t.data.toList with | some n => e = Ending.returned (.tuple #[.int .u64 n, .nilIface]) | none => e = .returned (.tuple #[.int .u64 0, .iface 203 (.int .i64 2)])) → PuPost 8 t w e W1 := fun e he => ⟨he, HBW.out⟩
  have HP := Lib.hid hP
  clear hP HBW
  obtain ⟨bs, hL⟩ : ∃ bs, bs = t.data.toList := ⟨_, rfl⟩
  have hLn : bs.length = 4 := by rw [hL, ← ht, Lib.size_eq]
  rw [← hL] at hB HP
  rw [ht] at hB
  have HLn := Lib.hid hLn
  have HB := Lib.hid hB
  clear hL hLn hB
  have hmv : IntKind.u64.wrap (IntKind.u64.wrap 18446744073709551616 - 1) = 18446744073709551615 := by
    rw [IntKind.wrap_u64, IntKind.wrap_u64]
    decide
  have hsz : t.size = 4 := ht
  clear ht
  go_enter Tryz.func183, Tryz.ntmps183
  go_wp2
  clear hcv hmv hemp
  go_loop [12, 13, 101] (fun vu vn vi => ∃ (k acc : Nat) (a : Int), vu = .bool false ∧ vn = .int .u64 a ∧ vi = .int .i64 k ∧ k ≤ 4 ∧ Hid (a = (acc : Int) ∧ acc < 8 ^ k ∧ pv 8 0 bs = pv 8 acc (bs.drop k)))
    (fun _ _ vi => 4 - (intOf vi).toNat)
  case atStart => exact ⟨0, 0, 0, rfl, rfl, rfl, by omega, Lib.hid ⟨rfl, by simp, rfl⟩⟩
  case round =>
    obtain ⟨k, acc, a, rfl, rfl, rfl, hk, hh⟩ := hrel
    obtain ⟨ha, hacc, hdec⟩ := hh.out
    clear hh
    by_cases hkn : k < 4
    · have hln := HLn.out
      have hpow : 8 ^ k ≤ 512 := Nat.le_trans (Nat.pow_le_pow_right (by omega) (by omega : k ≤ 3)) (by decide)
      have a0 : 0 ≤ a := by omega
      have a1 : a < 512 := by omega
      have hc := HB.out k hkn
      have hdrop : bs.drop k = bs[k]'(by omega) :: bs.drop (k + 1) := List.drop_eq_getElem_cons (by omega)
      have hget : bs.getD k 0 = bs[k]'(by omega) := by simp [List.getD, List.getElem?_eq_getElem (show k < bs.length by omega)]
      rw [hdrop] at hdec
      rw [hget] at hc
      generalize bs[k]'(by omega) = c at hc hdec
      have hc256 : c.toNat < 256 := c.toNat_lt
      clear hdrop hget hpow
      by_cases hdig : 48 ≤ c.toNat ∧ c.toNat ≤ 57
      · obtain ⟨hd0, hd1⟩ := hdig
        by_cases hd : c.toNat - 48 < 8
        · have HN : Hid (a * 8 + ((c.toNat : Int) - 48) = ((acc * 8 + (c.toNat - 48) : Nat) : Int) ∧ acc * 8 + (c.toNat - 48) < 8 ^ (k + 1) ∧ pv 8 0 bs = pv 8 (acc * 8 + (c.toNat - 48)) (bs.drop (k + 1))) := Lib.hid ⟨by omega, by rw [Nat.pow_succ]; omega, hdec.trans (step_digit hd0 hd1 hd)⟩
          clear hdec hacc ha hln
          go_wp2
          go_round
          case rel => exact ⟨k + 1, acc * 8 + (c.toNat - 48), a * 8 + ((c.toNat : Int) - 48), rfl, rfl, by go_num, by omega, HN⟩
          case measure => simp [intOf]; omega
        · first
          | (exfalso; omega)
          | (have HD := Lib.hid (hdec.trans (bad_digit hd0 hd1 (by omega)))
             clear hdec hacc ha hln
             go_wp2
             go_ret2
             exact HP.out _ (by rw [HD.out] <;> rfl))
      · have HX := lo_eq c
        have hl256 := lo_lt c
        have h95 : c.toNat = 95 → lo c = 127 := fun h => by unfold lo; rw [h]; rfl
        have HLOW := fun w => lower_any (c.toNat : Int) w
        rw [HX] at HLOW
        clear HX
        by_cases hl : 97 ≤ lo c ∧ lo c ≤ 122
        · have hne : ((c.toNat : Int) == 95) = false := by
            rw [beq_eq_false_iff_ne]
            intro h
            have := h95 (by omega)
            omega
          clear h95
          by_cases hd : lo c - 87 < 8
          · first
            | (exfalso; omega)
            | (have HN : Hid (a * 8 + ((lo c : Int) - 97 + 10) = ((acc * 8 + (lo c - 87) : Nat) : Int) ∧ acc * 8 + (lo c - 87) < 8 ^ (k + 1) ∧ pv 8 0 bs = pv 8 (acc * 8 + (lo c - 87)) (bs.drop (k + 1))) := Lib.hid ⟨by omega, by rw [Nat.pow_succ]; omega, hdec.trans (step_letter hdig hl.1 hl.2 hd)⟩
               obtain ⟨l0, l1⟩ := hl
               have HDG := Lib.hid hdig
               clear hdec hacc ha hln hdig
               generalize lo c = x at *
               rcases Nat.lt_or_ge c.toNat 48 with hlow | hhigh
               · go_wp2_with (go_at_call 197; refine (HLOW _).mono ?_; rintro e w1 ⟨rfl, rfl⟩)
                 go_round
                 case rel => exact ⟨k + 1, acc * 8 + (x - 87), a * 8 + ((x : Int) - 97 + 10), rfl, rfl, by go_num, by omega, HN⟩
                 case measure => simp [intOf]; omega
               · have hh9 : 57 < c.toNat := by have := HDG.out; omega
                 go_wp2_with (go_at_call 197; refine (HLOW _).mono ?_; rintro e w1 ⟨rfl, rfl⟩)
                 go_round
                 case rel => exact ⟨k + 1, acc * 8 + (x - 87), a * 8 + ((x : Int) - 97 + 10), rfl, rfl, by go_num, by omega, HN⟩
                 case measure => simp [intOf]; omega)
          · have HD := Lib.hid (hdec.trans (bad_letter hdig hl.1 hl.2 (by omega)))
            obtain ⟨l0, l1⟩ := hl
            have HDG := Lib.hid hdig
            clear hdec hacc ha hln hdig
            generalize lo c = x at *
            rcases Nat.lt_or_ge c.toNat 48 with hlow | hhigh
            · go_wp2_with (go_at_call 197; refine (HLOW _).mono ?_; rintro e w1 ⟨rfl, rfl⟩)
              go_ret2
              exact HP.out _ (by rw [HD.out] <;> rfl)
            · have hh9 : 57 < c.toNat := by have := HDG.out; omega
              go_wp2_with (go_at_call 197; refine (HLOW _).mono ?_; rintro e w1 ⟨rfl, rfl⟩)
              go_ret2
              exact HP.out _ (by rw [HD.out] <;> rfl)
        · have HD := Lib.hid (hdec.trans (bad_other hdig hl))
          have HDG := Lib.hid hdig
          have HDL := Lib.hid hl
          have hne : ((c.toNat : Int) == 95) = true ∧ 122 < lo c ∨ ((c.toNat : Int) == 95) = false := by
            by_cases h : c.toNat = 95
            · exact Or.inl ⟨by rw [beq_iff_eq]; omega, by have := h95 h; omega⟩
            · exact Or.inr (by rw [beq_eq_false_iff_ne]; omega)
          clear hdec hacc ha hln hdig hl h95
          generalize lo c = x at *
          have hcc : c.toNat < 48 ∨ 57 < c.toNat := by have := HDG.out; omega
          have hxx : x < 97 ∨ 122 < x := by have := HDL.out; omega
          rcases hne with ⟨hne, hx1⟩ | hne
          · clear hxx
            rcases hcc with hcc | hcc
            · go_wp2_with (go_at_call 197; refine (HLOW _).mono ?_; rintro e w1 ⟨rfl, rfl⟩)
              go_ret2
              exact HP.out _ (by rw [HD.out] <;> rfl)
            · go_wp2_with (go_at_call 197; refine (HLOW _).mono ?_; rintro e w1 ⟨rfl, rfl⟩)
              go_ret2
              exact HP.out _ (by rw [HD.out] <;> rfl)
          · rcases hcc with hcc | hcc
            · rcases hxx with hxx | hxx
              · go_wp2_with (go_at_call 197; refine (HLOW _).mono ?_; rintro e w1 ⟨rfl, rfl⟩)
                go_ret2
                exact HP.out _ (by rw [HD.out] <;> rfl)
              · go_wp2_with (go_at_call 197; refine (HLOW _).mono ?_; rintro e w1 ⟨rfl, rfl⟩)
                go_ret2
                exact HP.out _ (by rw [HD.out] <;> rfl)
            · rcases hxx with hxx | hxx
              · go_wp2_with (go_at_call 197; refine (HLOW _).mono ?_; rintro e w1 ⟨rfl, rfl⟩)
                go_ret2
                exact HP.out _ (by rw [HD.out] <;> rfl)
              · go_wp2_with (go_at_call 197; refine (HLOW _).mono ?_; rintro e w1 ⟨rfl, rfl⟩)
                go_ret2
                exact HP.out _ (by rw [HD.out] <;> rfl)
    · obtain rfl : k = 4 := by omega
      have hln := HLn.out
      rw [List.drop_eq_nil_of_le (by omega), pv] at hdec
      subst ha
      have HD := Lib.hid hdec
      clear hdec hacc hln
      go_wp2
      go_ret2
      exact HP.out _ (by rw [HD.out] <;> rfl)
theorem parseUint_in16 (t : ByteArray) (ht : t.size = 16) (w : World) :
    Calls Tryz.prog 183 #[.string t, .int .i64 16, .int .i64 64] w (PuPost 16 t w) := by
  have hemp : t.toList.isEmpty = false := by
    rw [← decide_eq_emptyBytes]
    exact decide_eq_false (fun h => by rw [h] at ht; cases ht)
  have hcv := Lib.run_convert_string_bytes (P := Tryz.prog) w 9 86 5 t (u := .string) Tryz.underlying9 Tryz.underlying86 Tryz.underlying5
  have hB : ∀ j, j < t.size → (Lib.bytesWorld w 5 t).cell? ⟨w.heap.size, j, none⟩ = some (.int .u8 (t.data.toList.getD j 0).toNat) := fun j hj => Lib.bytesWorld_cell w 5 t j hj
  have HBW := Lib.hid (Lib.bytesWorld_below w 5 t)
  obtain ⟨W1, hW1⟩ : ∃ W1, W1 = Lib.bytesWorld w 5 t := ⟨_, rfl⟩
  rw [← hW1] at hcv hB HBW
  clear hW1
  have hP : ∀ e, (match pv 16 0 t.data.toList with | some n => e = Ending.returned (.tuple #[.int .u64 n, .nilIface]) | none => e = .returned (.tuple #[.int .u64 0, .iface 203 (.int .i64 2)])) → PuPost 16 t w e W1 := fun e he => ⟨he, HBW.out⟩
  have HP := Lib.hid hP
  clear hP HBW
  obtain ⟨bs, hL⟩ : ∃ bs, bs = t.data.toList := ⟨_, rfl⟩
  have hLn : bs.length = 16 := by rw [hL, ← ht, Lib.size_eq]
  rw [← hL] at hB HP
  rw [ht] at hB
  have HLn := Lib.hid hLn
  have HB := Lib.hid hB
  clear hL hLn hB
  have hmv : IntKind.u64.wrap (IntKind.u64.wrap 18446744073709551616 - 1) = 18446744073709551615 := by
    rw [IntKind.wrap_u64, IntKind.wrap_u64]
    decide
  have hsz : t.size = 16 := ht
  clear ht
  go_enter Tryz.func183, Tryz.ntmps183
  go_wp2
  clear hcv hmv hemp
  go_loop [12, 13, 101] (fun vu vn vi => ∃ (k acc : Nat) (a : Int), vu = .bool false ∧ vn = .int .u64 a ∧ vi = .int .i64 k ∧ k ≤ 16 ∧ Hid (a = (acc : Int) ∧ acc < 16 ^ k ∧ pv 16 0 bs = pv 16 acc (bs.drop k)))
    (fun _ _ vi => 16 - (intOf vi).toNat)
  case atStart => exact ⟨0, 0, 0, rfl, rfl, rfl, by omega, Lib.hid ⟨rfl, by simp, rfl⟩⟩
  case round =>
    obtain ⟨k, acc, a, rfl, rfl, rfl, hk, hh⟩ := hrel
    obtain ⟨ha, hacc, hdec⟩ := hh.out
    clear hh
    by_cases hkn : k < 16
    · have hln := HLn.out
      have hpow : 16 ^ k ≤ 1152921504606846976 := Nat.le_trans (Nat.pow_le_pow_right (by omega) (by omega : k ≤ 15)) (by decide)
      have a0 : 0 ≤ a := by omega
      have a1 : a < 1152921504606846976 := by omega
      have hc := HB.out k hkn
      have hdrop : bs.drop k = bs[k]'(by omega) :: bs.drop (k + 1) := List.drop_eq_getElem_cons (by omega)
      have hget : bs.getD k 0 = bs[k]'(by omega) := by simp [List.getD, List.getElem?_eq_getElem (show k < bs.length by omega)]
      rw [hdrop] at hdec
      rw [hget] at hc
      generalize bs[k]'(by omega) = c at hc hdec
      have hc256 : c.toNat < 256 := c.toNat_lt
      clear hdrop hget hpow
      by_cases hdig : 48 ≤ c.toNat ∧ c.toNat ≤ 57
      · obtain ⟨hd0, hd1⟩ := hdig
        by_cases hd : c.toNat - 48 < 16
        · have HN : Hid (a * 16 + ((c.toNat : Int) - 48) = ((acc * 16 + (c.toNat - 48) : Nat) : Int) ∧ acc * 16 + (c.toNat - 48) < 16 ^ (k + 1) ∧ pv 16 0 bs = pv 16 (acc * 16 + (c.toNat - 48)) (bs.drop (k + 1))) := Lib.hid ⟨by omega, by rw [Nat.pow_succ]; omega, hdec.trans (step_digit hd0 hd1 hd)⟩
          clear hdec hacc ha hln
          go_wp2
          go_round
          case rel => exact ⟨k + 1, acc * 16 + (c.toNat - 48), a * 16 + ((c.toNat : Int) - 48), rfl, rfl, by go_num, by omega, HN⟩
          case measure => simp [intOf]; omega
        · first
          | (exfalso; omega)
          | (have HD := Lib.hid (hdec.trans (bad_digit hd0 hd1 (by omega)))
             clear hdec hacc ha hln
             go_wp2
             go_ret2
             exact HP.out _ (by rw [HD.out] <;> rfl))
      · have HX := lo_eq c
        have hl256 := lo_lt c
        have h95 : c.toNat = 95 → lo c = 127 := fun h => by unfold lo; rw [h]; rfl
        have HLOW := fun w => lower_any (c.toNat : Int) w
        rw [HX] at HLOW
        clear HX
        by_cases hl : 97 ≤ lo c ∧ lo c ≤ 122
        · have hne : ((c.toNat : Int) == 95) = false := by
            rw [beq_eq_false_iff_ne]
            intro h
            have := h95 (by omega)
            omega
          clear h95
          by_cases hd : lo c - 87 < 16
          · first
            | (exfalso; omega)
            | (have HN : Hid (a * 16 + ((lo c : Int) - 97 + 10) = ((acc * 16 + (lo c - 87) : Nat) : Int) ∧ acc * 16 + (lo c - 87) < 16 ^ (k + 1) ∧ pv 16 0 bs = pv 16 (acc * 16 + (lo c - 87)) (bs.drop (k + 1))) := Lib.hid ⟨by omega, by rw [Nat.pow_succ]; omega, hdec.trans (step_letter hdig hl.1 hl.2 hd)⟩
               obtain ⟨l0, l1⟩ := hl
               have HDG := Lib.hid hdig
               clear hdec hacc ha hln hdig
               generalize lo c = x at *
               rcases Nat.lt_or_ge c.toNat 48 with hlow | hhigh
               · go_wp2_with (go_at_call 197; refine (HLOW _).mono ?_; rintro e w1 ⟨rfl, rfl⟩)
                 go_round
                 case rel => exact ⟨k + 1, acc * 16 + (x - 87), a * 16 + ((x : Int) - 97 + 10), rfl, rfl, by go_num, by omega, HN⟩
                 case measure => simp [intOf]; omega
               · have hh9 : 57 < c.toNat := by have := HDG.out; omega
                 go_wp2_with (go_at_call 197; refine (HLOW _).mono ?_; rintro e w1 ⟨rfl, rfl⟩)
                 go_round
                 case rel => exact ⟨k + 1, acc * 16 + (x - 87), a * 16 + ((x : Int) - 97 + 10), rfl, rfl, by go_num, by omega, HN⟩
                 case measure => simp [intOf]; omega)
          · have HD := Lib.hid (hdec.trans (bad_letter hdig hl.1 hl.2 (by omega)))
            obtain ⟨l0, l1⟩ := hl
            have HDG := Lib.hid hdig
            clear hdec hacc ha hln hdig
            generalize lo c = x at *
            rcases Nat.lt_or_ge c.toNat 48 with hlow | hhigh
            · go_wp2_with (go_at_call 197; refine (HLOW _).mono ?_; rintro e w1 ⟨rfl, rfl⟩)
              go_ret2
              exact HP.out _ (by rw [HD.out] <;> rfl)
            · have hh9 : 57 < c.toNat := by have := HDG.out; omega
              go_wp2_with (go_at_call 197; refine (HLOW _).mono ?_; rintro e w1 ⟨rfl, rfl⟩)
              go_ret2
              exact HP.out _ (by rw [HD.out] <;> rfl)
        · have HD := Lib.hid (hdec.trans (bad_other hdig hl))
          have HDG := Lib.hid hdig
          have HDL := Lib.hid hl
          have hne : ((c.toNat : Int) == 95) = true ∧ 122 < lo c ∨ ((c.toNat : Int) == 95) = false := by
            by_cases h : c.toNat = 95
            · exact Or.inl ⟨by rw [beq_iff_eq]; omega, by have := h95 h; omega⟩
            · exact Or.inr (by rw [beq_eq_false_iff_ne]; omega)
          clear hdec hacc ha hln hdig hl h95
          generalize lo c = x at *
          have hcc : c.toNat < 48 ∨ 57 < c.toNat := by have := HDG.out; omega
          have hxx : x < 97 ∨ 122 < x := by have := HDL.out; omega
          rcases hne with ⟨hne, hx1⟩ | hne
          · clear hxx
            rcases hcc with hcc | hcc
            · go_wp2_with (go_at_call 197; refine (HLOW _).mono ?_; rintro e w1 ⟨rfl, rfl⟩)
              go_ret2
              exact HP.out _ (by rw [HD.out] <;> rfl)
            · go_wp2_with (go_at_call 197; refine (HLOW _).mono ?_; rintro e w1 ⟨rfl, rfl⟩)
              go_ret2
              exact HP.out _ (by rw [HD.out] <;> rfl)
          · rcases hcc with hcc | hcc
            · rcases hxx with hxx | hxx
              · go_wp2_with (go_at_call 197; refine (HLOW _).mono ?_; rintro e w1 ⟨rfl, rfl⟩)
                go_ret2
                exact HP.out _ (by rw [HD.out] <;> rfl)
              · go_wp2_with (go_at_call 197; refine (HLOW _).mono ?_; rintro e w1 ⟨rfl, rfl⟩)
                go_ret2
                exact HP.out _ (by rw [HD.out] <;> rfl)
            · rcases hxx with hxx | hxx
              · go_wp2_with (go_at_call 197; refine (HLOW _).mono ?_; rintro e w1 ⟨rfl, rfl⟩)
                go_ret2
                exact HP.out _ (by rw [HD.out] <;> rfl)
              · go_wp2_with (go_at_call 197; refine (HLOW _).mono ?_; rintro e w1 ⟨rfl, rfl⟩)
                go_ret2
                exact HP.out _ (by rw [HD.out] <;> rfl)
    · obtain rfl : k = 16 := by omega
      have hln := HLn.out
      rw [List.drop_eq_nil_of_le (by omega), pv] at hdec
      subst ha
      have HD := Lib.hid hdec
      clear hdec hacc hln
      go_wp2
      go_ret2
      exact HP.out _ (by rw [HD.out] <;> rfl)
end
section
open Go.RowKit Go.Sort
structure LaidE (w : World) : Prop where
  laid : Laid w
  syn : ∃ tp p, w.var? Tryz.prog "strconv.ErrSyntax" = some #[.iface tp p]
  rng : ∃ tp p, w.var? Tryz.prog "strconv.ErrRange" = some #[.iface tp p]
theorem gSynB : Tryz.prog.globalNamed "strconv.ErrSyntax" = some 4 := by kernel_rfl
theorem gRngB : Tryz.prog.globalNamed "strconv.ErrRange" = some 5 := by kernel_rfl
theorem tSynB : (Tryz.prog.globals[4]?).map (·.type) = some 90 := by kernel_rfl
theorem tRngB : (Tryz.prog.globals[5]?).map (·.type) = some 90 := by kernel_rfl
theorem cES : Tryz.prog.cellsOf 222 = 1 := by kernel_rfl
theorem starE : "*" ++ "errors.errorString" = "*errors.errorString" := by decide
theorem rowE (u : TypeId) (h : Tryz.prog.typeName? 3 u = some "*errors.errorString") : u = 220 :=
  typeName_ptr_named (nm := "errors.errorString") (by rw [starE]; kernel_rfl) (by kernel_rfl) (by decide) u (by rw [starE]; exact h)
theorem LaidE.below {B : Nat} {w w' : World} (h : LaidE w) (hb : Below B w w') (hB : 9 ≤ B) : LaidE w' where
  laid := h.laid.below hb hB
  syn := by obtain ⟨tp, p, hv⟩ := h.syn; exact ⟨tp, p, var?_below hb gSynB (by omega) hv⟩
  rng := by obtain ⟨tp, p, hv⟩ := h.rng; exact ⟨tp, p, var?_below hb gRngB (by omega) hv⟩
theorem LaidE.on {w w' : World} (h : LaidE w) (hb : Below w.heap.size w w') : LaidE w' := h.below hb h.laid.size
def Pu2Post (b : Nat) (s : ByteArray) (w : World) (e : Ending) (w' : World) : Prop :=
  (match pv b 0 s.data.toList with
    | some n => e = .returned (.tuple #[.int .u64 n, .nilIface])
    | none => ∃ p, e = .returned (.tuple #[.int .u64 0, .iface 204 p])) ∧ Below w.heap.size w w'
theorem parseUint_any (b W : Nat) (hb : b = 8 ∧ W = 4 ∨ b = 16 ∧ W = 16) (t : ByteArray) (ht : t.size = W) (w : World) (h : LaidE w) :
    Calls Tryz.prog 164 #[.string t, .int .i64 b, .int .i64 64] w (Pu2Post b t w) := by
  have H : Calls Tryz.prog 183 #[.string t, .int .i64 b, .int .i64 64] w (PuPost b t w) := by
    rcases hb with ⟨rfl, rfl⟩ | ⟨rfl, rfl⟩
    · exact parseUint_in8 t ht w
    · exact parseUint_in16 t ht w
  have hsz : t.size ≤ 281474976710656 := by omega
  have HE := Lib.hid h
  have HZ := Lib.hid hsz
  clear h ht hb hsz
  cases hp : pv b 0 t.data.toList with
  | some n =>
    have HP := Lib.hid hp
    have H2 : Calls Tryz.prog 183 #[.string t, .int .i64 b, .int .i64 64] w fun e w' => e = .returned (.tuple #[.int .u64 n, .nilIface]) ∧ Below w.heap.size w w' := H.mono fun e w' he => by unfold PuPost at he; rw [hp] at he; exact he
    clear hp H
    go_enter Tryz.func164, Tryz.ntmps164
    go_wp2_with (go_at_call 183; refine H2.mono ?_; rintro e w1 ⟨rfl, hbl⟩; have HB := Lib.hid hbl; clear hbl)
    go_ret2
    unfold Pu2Post
    rw [HP.out]
    exact ⟨rfl, HB.out⟩
  | none =>
    have HP := Lib.hid hp
    have H2 : Calls Tryz.prog 183 #[.string t, .int .i64 b, .int .i64 64] w fun e w' => e = .returned (.tuple #[.int .u64 0, .iface 203 (.int .i64 2)]) ∧ Below w.heap.size w w' := H.mono fun e w' he => by unfold PuPost at he; rw [hp] at he; exact he
    clear hp H
    go_enter Tryz.func164, Tryz.ntmps164
    go_wp2_with (go_at_call 183; refine H2.mono ?_; rintro e w1 ⟨rfl, hbl⟩; refine Hid.out ?_)
    have hE1 := HE.out.on hbl
    obtain ⟨tp, p, hv⟩ := hE1.syn
    have hc : w1.cell? ⟨4, 0, none⟩ = some (.iface tp p) := by have h0 := World.var?_cell gSynB hv 0; simpa using h0
    have HT := fun fn => Any.strconv_toError_syntax Tryz.laysC245 fn t b 64 (.iface tp p) w1 HZ.out hc (Or.inr ⟨_, _, rfl⟩)
    have HB := Lib.hid hbl
    clear hbl hE1 hc hv
    refine Lib.hid ?_
    go_wp2_with (go_at_call 184; refine (HT _).mono ?_; rintro e w2 ⟨N, rfl, _, _, hbl2⟩; have HB2 := Lib.hid hbl2; clear hbl2)
    go_ret2
    unfold Pu2Post
    rw [HP.out]
    exact ⟨⟨_, rfl⟩, finB HB.out HB2.out⟩
end
section
open Go.RowKit Go.Sort
def PdPost (b W : Nat) (s : ByteArray) (w : World) (e : Ending) (w' : World) : Prop :=
  (match numOf b W s.data.toList with
    | some n => e = .returned (.tuple #[.int .u64 n, .int .i64 0])
    | none => e = .returned (.tuple #[.int .u64 0, .int .i64 2])) ∧ Below w.heap.size w w'
theorem parseDigits_any (b W sh : Nat) (hb : b = 8 ∧ sh = 3 ∧ W = 4 ∨ b = 16 ∧ sh = 4 ∧ W = 16) (t : ByteArray) (ht : t.size ≤ 4000) (w : World) (h : LaidE w) :
    Calls Tryz.prog 170 #[.string t, .int .i64 b, .int .i64 W] w (PdPost b W t w) := by
  have HE := Lib.hid h
  have hlen : t.data.toList.length = t.size := Lib.size_eq t
  by_cases hsz : t.size = W
  · have HU := parseUint_any b W (by omega) t hsz w h
    have hbW : b = 8 ∧ W = 4 ∨ b = 16 ∧ W = 16 := by omega
    have HBW := Lib.hid hbW
    have hb2 : 1 < b ∧ b ≤ 16 ∧ 1 ≤ W ∧ W ≤ 22 := by omega
    obtain ⟨hb3, hb4, hW1, hW2⟩ := hb2
    have hbs : b = 8 ∧ sh = 3 ∨ b = 16 ∧ sh = 4 := by omega
    have HQ := Lib.hid hbs
    clear h hb hbs hbW
    cases hp : pv b 0 t.data.toList with
    | none =>
      have H2 : Calls Tryz.prog 164 #[.string t, .int .i64 b, .int .i64 64] w fun e w' => (∃ p, e = .returned (.tuple #[.int .u64 0, .iface 204 p])) ∧ Below w.heap.size w w' := HU.mono fun e w' he => by unfold Pu2Post at he; rw [hp] at he; exact he
      have hn : numOf b W t.data.toList = none := by unfold numOf; rw [hp]
      have HN := Lib.hid hn
      have hszi : ((t.size : Int) != (W : Int)) = false := by rw [bne_eq_false_iff_eq]; omega
      clear hp HU hn hlen hsz
      go_enter Tryz.func170, Tryz.ntmps170
      go_wp2_with (go_at_call 164; refine H2.mono ?_; rintro e w1 ⟨⟨p, rfl⟩, hbl⟩; have HB := Lib.hid hbl; clear hbl)
      go_ret2
      unfold PdPost
      rw [HN.out]
      exact ⟨rfl, HB.out⟩
    | some n =>
      have H2 : Calls Tryz.prog 164 #[.string t, .int .i64 b, .int .i64 64] w fun e w' => e = .returned (.tuple #[.int .u64 n, .nilIface]) ∧ Below w.heap.size w w' := HU.mono fun e w' he => by unfold Pu2Post at he; rw [hp] at he; exact he
      have hn := pv_lt b _ 0 n hp
      rw [hlen, hsz, Nat.zero_add, Nat.one_mul] at hn
      have hn64 : n < 18446744073709551616 := by
        have hbW : b = 8 ∧ W = 4 ∨ b = 16 ∧ W = 16 := HBW.out
        rcases hbW with ⟨rfl, rfl⟩ | ⟨rfl, rfl⟩
        · have e : (8 : Nat) ^ 4 = 4096 := by decide
          omega
        · have e : (16 : Nat) ^ 16 = 18446744073709551616 := by decide
          omega
      have HNN := Lib.hid hn
      have HP := Lib.hid hp
      have hszi : ((t.size : Int) != (W : Int)) = false := by rw [bne_eq_false_iff_eq]; omega
      clear hp HU hn hlen hsz
      go_enter Tryz.func170, Tryz.ntmps170
      go_wp2_with (go_at_call 164; refine H2.mono ?_; rintro e w1 ⟨rfl, hbl⟩; refine Hid.out ?_)
      have HPD := padded_any b sh n W HQ.out hn64 hW1 hW2 HNN.out w1 (HE.out.laid.on hbl)
      have HB := Lib.hid hbl
      clear hbl H2
      refine Lib.hid ?_
      go_wp2_with (go_at_call 187; refine HPD.mono ?_; rintro e w2 ⟨rfl, hbl2⟩; have HB2 := Lib.hid hbl2; clear hbl2)
      · go_ret2
        unfold PdPost
        have hq : ¬ digL b n W = t.data.toList := by
          have hw0 : (!digL b n W == t.toList) = true := by assumption
          intro e
          rw [ByteArray.toList_eq, e] at hw0
          simp at hw0
        have hn : numOf b W t.data.toList = none := by unfold numOf; rw [HP.out]; simp [hq]
        rw [hn]
        exact ⟨rfl, finB HB.out HB2.out⟩
      · go_ret2
        unfold PdPost
        have hq : digL b n W = t.data.toList := by
          have hw0 : (!digL b n W == t.toList) = false := by assumption
          rw [ByteArray.toList_eq] at hw0
          simpa using hw0
        have hn : numOf b W t.data.toList = some n := by unfold numOf; rw [HP.out]; simp [hq]
        rw [hn]
        exact ⟨rfl, finB HB.out HB2.out⟩
  · have hn : numOf b W t.data.toList = none := by
      cases h2 : numOf b W t.data.toList with
      | none => rfl
      | some n => exact absurd (hlen.symm.trans (numOf_len h2)) hsz
    have HN := Lib.hid hn
    have hszi : ((t.size : Int) != (W : Int)) = true := by rw [bne_iff_ne]; omega
    clear h hn hlen hsz hb
    go_enter Tryz.func170, Tryz.ntmps170
    go_wp2
    go_ret2
    unfold PdPost
    rw [HN.out]
    exact ⟨rfl, Below.refl _ _⟩
theorem parseHex_any (t : ByteArray) (ht : t.size ≤ 4000) (w : World) (h : LaidE w) :
    Calls Tryz.prog 141 #[.string t] w (PdPost 16 16 t w) := by
  have H := parseDigits_any 16 16 4 (Or.inr ⟨rfl, rfl, rfl⟩) t ht w h
  have HE := Lib.hid h
  clear h
  cases hp : numOf 16 16 t.data.toList with
  | none =>
    have H2 : Calls Tryz.prog 170 #[.string t, .int .i64 16, .int .i64 16] w fun e w' => e = .returned (.tuple #[.int .u64 0, .int .i64 2]) ∧ Below w.heap.size w w' := H.mono fun e w' he => by unfold PdPost at he; rw [hp] at he; exact he
    have HP := Lib.hid hp
    clear hp H
    go_enter Tryz.func141, Tryz.ntmps141
    go_wp2_with (go_at_call 170; refine H2.mono ?_; rintro e w1 ⟨rfl, hbl⟩; have HB := Lib.hid hbl; clear hbl)
    go_ret2
    unfold PdPost
    rw [HP.out]
    exact ⟨rfl, HB.out⟩
  | some n =>
    have H2 : Calls Tryz.prog 170 #[.string t, .int .i64 16, .int .i64 16] w fun e w' => e = .returned (.tuple #[.int .u64 n, .int .i64 0]) ∧ Below w.heap.size w w' := H.mono fun e w' he => by unfold PdPost at he; rw [hp] at he; exact he
    have HP := Lib.hid hp
    clear hp H
    go_enter Tryz.func141, Tryz.ntmps141
    go_wp2_with (go_at_call 170; refine H2.mono ?_; rintro e w1 ⟨rfl, hbl⟩; have HB := Lib.hid hbl; clear hbl)
    go_ret2
    unfold PdPost
    rw [HP.out]
    exact ⟨rfl, HB.out⟩
end
end Go.Proofs.YtkbkaeefdhkgdaaGreatDoor
