/-
  internal/strconv.ParseUint at the bases 8 and 16 (64 bits; a text of 4, or of 16 bytes), strconv.ParseUint, and the program's parseDigits, ParseOctal and ParseHex: what each returns for every text; of what was there nothing has turned. Conditions: the listed variables are laid.
-/
import Derived.Test.YtpkdnohaefkfgaaGreatDoorGLaid
import Derived.Test.YtpkdnohaefkfgaaGreatDoorGParseMath
import Derived.Lib.ConvBytes
import Derived.OpenShut
namespace Go.Proofs.YtpkdnohaefkfgaaGreatDoor
open Go.RowKit Go.Sort
def PuPost (b : Nat) (s : ByteArray) (w : World) (e : Ending) (w' : World) : Prop :=
  (match pv b 0 s.data.toList with
    | some n => e = .returned (.tuple #[.int .u64 n, .nilIface])
    | none => e = .returned (.tuple #[.int .u64 0, .iface 131 (.int .i64 2)])) ∧ Below w.heap.size w w'
theorem PuPost.ok {b n : Nat} {s : ByteArray} {w w' : World} {e : Ending} (h : pv b 0 s.data.toList = some n) (he : e = .returned (.tuple #[.int .u64 n, .nilIface])) (hb : Below w.heap.size w w') : PuPost b s w e w' := by
  unfold PuPost; rw [h]; exact ⟨he, hb⟩
theorem lower_any (c : Int) (w : World) : Calls Tryz.prog 118 #[.int .u8 c] w fun e w' => e = .returned (.int .u8 (bits .or .u8 c 32)) ∧ w = w' :=
  (Tryz.internal_strconv_lower c w).mono fun _ _ h => ⟨h.1, h.2.symm⟩
theorem lo_eq (c : UInt8) : bits .or .u8 (c.toNat : Int) 32 = (lo c : Int) := u8_or_nat c.toNat 32 c.toNat_lt (by omega)
theorem lo_lt (c : UInt8) : lo c < 256 := by
  have h : c.toNat ||| 32 < 2 ^ 8 := Nat.or_lt_two_pow c.toNat_lt (by omega)
  exact h
theorem step_digit {b acc : Nat} {c : UInt8} {l : List UInt8} (h0 : 48 ≤ c.toNat) (h1 : c.toNat ≤ 57) (hb : c.toNat - 48 < b) : pv b acc (c :: l) = pv b (acc * b + (c.toNat - 48)) l :=
  pv_some (by unfold dvb dv; rw [if_pos ⟨h0, h1⟩]; simp [hb])
theorem bad_digit {b acc : Nat} {c : UInt8} {l : List UInt8} (h0 : 48 ≤ c.toNat) (h1 : c.toNat ≤ 57) (hb : b ≤ c.toNat - 48) : pv b acc (c :: l) = none :=
  pv_none (by unfold dvb dv; rw [if_pos ⟨h0, h1⟩]; simp; omega)
theorem step_letter {b acc : Nat} {c : UInt8} {l : List UInt8} (hn : ¬ (48 ≤ c.toNat ∧ c.toNat ≤ 57)) (h0 : 97 ≤ lo c) (h1 : lo c ≤ 122) (hb : lo c - 87 < b) : pv b acc (c :: l) = pv b (acc * b + (lo c - 87)) l :=
  pv_some (by unfold dvb dv; rw [if_neg hn, if_pos ⟨h0, h1⟩]; simp [hb])
theorem bad_letter {b acc : Nat} {c : UInt8} {l : List UInt8} (hn : ¬ (48 ≤ c.toNat ∧ c.toNat ≤ 57)) (h0 : 97 ≤ lo c) (h1 : lo c ≤ 122) (hb : b ≤ lo c - 87) : pv b acc (c :: l) = none :=
  pv_none (by unfold dvb dv; rw [if_neg hn, if_pos ⟨h0, h1⟩]; simp; omega)
theorem bad_other {b acc : Nat} {c : UInt8} {l : List UInt8} (hn : ¬ (48 ≤ c.toNat ∧ c.toNat ≤ 57)) (h0 : ¬ (97 ≤ lo c ∧ lo c ≤ 122)) : pv b acc (c :: l) = none :=
  pv_none (by unfold dvb dv; rw [if_neg hn, if_neg h0])
set_option maxRecDepth 100000 in
set_option maxHeartbeats 4000000 in
theorem parseUint_in8 (t : ByteArray) (ht : t.size = 4) (w : World) :
    Calls Tryz.prog 99 #[.string t, .int .i64 8, .int .i64 64] w (PuPost 8 t w) := by
  have hemp : t.toList.isEmpty = false := by
    rw [← decide_eq_emptyBytes]
    exact decide_eq_false (fun h => by rw [h] at ht; cases ht)
  have hcv := Lib.run_convert_string_bytes (P := Tryz.prog) w 9 118 5 t (u := .string) Tryz.underlying9 Tryz.underlying118 Tryz.underlying5
  have hB : ∀ j, j < t.size → (Lib.bytesWorld w 5 t).cell? ⟨w.heap.size, j, none⟩ = some (.int .u8 (t.data.toList.getD j 0).toNat) := fun j hj => Lib.bytesWorld_cell w 5 t j hj
  have HBW := Lib.hid (Lib.bytesWorld_below w 5 t)
  obtain ⟨W1, hW1⟩ : ∃ W1, W1 = Lib.bytesWorld w 5 t := ⟨_, rfl⟩
  rw [← hW1] at hcv hB HBW
  clear hW1
  have hP : ∀ e, (match pv 8 0 t.data.toList with | some n => e = Ending.returned (.tuple #[.int .u64 n, .nilIface]) | none => e = .returned (.tuple #[.int .u64 0, .iface 131 (.int .i64 2)])) → PuPost 8 t w e W1 := fun e he => ⟨he, HBW.out⟩
  have HP := Lib.hid hP
  clear hP HBW
  obtain ⟨bs, hL⟩ : ∃ bs, bs = t.data.toList := ⟨_, rfl⟩
  have hLn : bs.length = 4 := by rw [hL, ← ht, Lib.size_eq]
  rw [← hL] at hB HP
  rw [ht] at hB
  have HLn := Lib.hid hLn
  have HB := Lib.hid hB
  clear hL hLn hB
  have hmv : IntKind.u64.wrap (IntKind.u64.wrap 18446744073709551616 - 1) = 18446744073709551615 := by
    rw [IntKind.wrap_u64, IntKind.wrap_u64]
    decide
  have hsz : t.size = 4 := ht
  clear ht
  go_enter Tryz.func99, Tryz.ntmps99
  go_wp2
  clear hcv hmv hemp
  go_loop [12, 13, 101] (fun vu vn vi => ∃ (k acc : Nat) (a : Int), vu = .bool false ∧ vn = .int .u64 a ∧ vi = .int .i64 k ∧ k ≤ 4 ∧ Hid (a = (acc : Int) ∧ acc < 8 ^ k ∧ pv 8 0 bs = pv 8 acc (bs.drop k)))
    (fun _ _ vi => 4 - (intOf vi).toNat)
  case atStart => exact ⟨0, 0, 0, rfl, rfl, rfl, by omega, Lib.hid ⟨rfl, by simp, rfl⟩⟩
  case round =>
    obtain ⟨k, acc, a, rfl, rfl, rfl, hk, hh⟩ := hrel
    obtain ⟨ha, hacc, hdec⟩ := hh.out
    clear hh
    by_cases hkn : k < 4
    · have hln := HLn.out
      have hpow : 8 ^ k ≤ 512 := Nat.le_trans (Nat.pow_le_pow_right (by omega) (by omega : k ≤ 3)) (by decide)
      have a0 : 0 ≤ a := by omega
      have a1 : a < 512 := by omega
      have hc := HB.out k hkn
      have hdrop : bs.drop k = bs[k]'(by omega) :: bs.drop (k + 1) := List.drop_eq_getElem_cons (by omega)
      have hget : bs.getD k 0 = bs[k]'(by omega) := by simp [List.getD, List.getElem?_eq_getElem (show k < bs.length by omega)]
      rw [hdrop] at hdec
      rw [hget] at hc
      generalize bs[k]'(by omega) = c at hc hdec
      have hc256 : c.toNat < 256 := c.toNat_lt
      clear hdrop hget hpow
      by_cases hdig : 48 ≤ c.toNat ∧ c.toNat ≤ 57
      · obtain ⟨hd0, hd1⟩ := hdig
        by_cases hd : c.toNat - 48 < 8
        · have HN : Hid (a * 8 + ((c.toNat : Int) - 48) = ((acc * 8 + (c.toNat - 48) : Nat) : Int) ∧ acc * 8 + (c.toNat - 48) < 8 ^ (k + 1) ∧ pv 8 0 bs = pv 8 (acc * 8 + (c.toNat - 48)) (bs.drop (k + 1))) := Lib.hid ⟨by omega, by rw [Nat.pow_succ]; omega, hdec.trans (step_digit hd0 hd1 hd)⟩
          clear hdec hacc ha hln
          go_wp2
          go_round
          case rel => exact ⟨k + 1, acc * 8 + (c.toNat - 48), a * 8 + ((c.toNat : Int) - 48), rfl, rfl, by go_num, by omega, HN⟩
          case measure => simp [intOf]; omega
        · first
          | (exfalso; omega)
          | (have HD := Lib.hid (hdec.trans (bad_digit hd0 hd1 (by omega)))
             clear hdec hacc ha hln
             go_wp2
             go_ret2
             exact HP.out _ (by rw [HD.out] <;> rfl))
      · have HX := lo_eq c
        have hl256 := lo_lt c
        have h95 : c.toNat = 95 → lo c = 127 := fun h => by unfold lo; rw [h]; rfl
        have HLOW := fun w => lower_any (c.toNat : Int) w
        rw [HX] at HLOW
        clear HX
        by_cases hl : 97 ≤ lo c ∧ lo c ≤ 122
        · have hne : ((c.toNat : Int) == 95) = false := by
            rw [beq_eq_false_iff_ne]
            intro h
            have := h95 (by omega)
            omega
          clear h95
          by_cases hd : lo c - 87 < 8
          · first
            | (exfalso; omega)
            | (have HN : Hid (a * 8 + ((lo c : Int) - 97 + 10) = ((acc * 8 + (lo c - 87) : Nat) : Int) ∧ acc * 8 + (lo c - 87) < 8 ^ (k + 1) ∧ pv 8 0 bs = pv 8 (acc * 8 + (lo c - 87)) (bs.drop (k + 1))) := Lib.hid ⟨by omega, by rw [Nat.pow_succ]; omega, hdec.trans (step_letter hdig hl.1 hl.2 hd)⟩
               obtain ⟨l0, l1⟩ := hl
               have HDG := Lib.hid hdig
               clear hdec hacc ha hln hdig
               generalize lo c = x at *
               rcases Nat.lt_or_ge c.toNat 48 with hlow | hhigh
               · go_wp2_with (go_at_call 118; refine (HLOW _).mono ?_; rintro e w1 ⟨rfl, rfl⟩)
                 go_round
                 case rel => exact ⟨k + 1, acc * 8 + (x - 87), a * 8 + ((x : Int) - 97 + 10), rfl, rfl, by go_num, by omega, HN⟩
                 case measure => simp [intOf]; omega
               · have hh9 : 57 < c.toNat := by have := HDG.out; omega
                 go_wp2_with (go_at_call 118; refine (HLOW _).mono ?_; rintro e w1 ⟨rfl, rfl⟩)
                 go_round
                 case rel => exact ⟨k + 1, acc * 8 + (x - 87), a * 8 + ((x : Int) - 97 + 10), rfl, rfl, by go_num, by omega, HN⟩
                 case measure => simp [intOf]; omega)
          · have HD := Lib.hid (hdec.trans (bad_letter hdig hl.1 hl.2 (by omega)))
            obtain ⟨l0, l1⟩ := hl
            have HDG := Lib.hid hdig
            clear hdec hacc ha hln hdig
            generalize lo c = x at *
            rcases Nat.lt_or_ge c.toNat 48 with hlow | hhigh
            · go_wp2_with (go_at_call 118; refine (HLOW _).mono ?_; rintro e w1 ⟨rfl, rfl⟩)
              go_ret2
              exact HP.out _ (by rw [HD.out] <;> rfl)
            · have hh9 : 57 < c.toNat := by have := HDG.out; omega
              go_wp2_with (go_at_call 118; refine (HLOW _).mono ?_; rintro e w1 ⟨rfl, rfl⟩)
              go_ret2
              exact HP.out _ (by rw [HD.out] <;> rfl)
        · have HD := Lib.hid (hdec.trans (bad_other hdig hl))
          have HDG := Lib.hid hdig
          have HDL := Lib.hid hl
          have hne : ((c.toNat : Int) == 95) = true ∧ 122 < lo c ∨ ((c.toNat : Int) == 95) = false := by
            by_cases h : c.toNat = 95
            · exact Or.inl ⟨by rw [beq_iff_eq]; omega, by have := h95 h; omega⟩
            · exact Or.inr (by rw [beq_eq_false_iff_ne]; omega)
          clear hdec hacc ha hln hdig hl h95
          generalize lo c = x at *
          have hcc : c.toNat < 48 ∨ 57 < c.toNat := by have := HDG.out; omega
          have hxx : x < 97 ∨ 122 < x := by have := HDL.out; omega
          rcases hne with ⟨hne, hx1⟩ | hne
          · clear hxx
            rcases hcc with hcc | hcc
            · go_wp2_with (go_at_call 118; refine (HLOW _).mono ?_; rintro e w1 ⟨rfl, rfl⟩)
              go_ret2
              exact HP.out _ (by rw [HD.out] <;> rfl)
            · go_wp2_with (go_at_call 118; refine (HLOW _).mono ?_; rintro e w1 ⟨rfl, rfl⟩)
              go_ret2
              exact HP.out _ (by rw [HD.out] <;> rfl)
          · rcases hcc with hcc | hcc
            · rcases hxx with hxx | hxx
              · go_wp2_with (go_at_call 118; refine (HLOW _).mono ?_; rintro e w1 ⟨rfl, rfl⟩)
                go_ret2
                exact HP.out _ (by rw [HD.out] <;> rfl)
              · go_wp2_with (go_at_call 118; refine (HLOW _).mono ?_; rintro e w1 ⟨rfl, rfl⟩)
                go_ret2
                exact HP.out _ (by rw [HD.out] <;> rfl)
            · rcases hxx with hxx | hxx
              · go_wp2_with (go_at_call 118; refine (HLOW _).mono ?_; rintro e w1 ⟨rfl, rfl⟩)
                go_ret2
                exact HP.out _ (by rw [HD.out] <;> rfl)
              · go_wp2_with (go_at_call 118; refine (HLOW _).mono ?_; rintro e w1 ⟨rfl, rfl⟩)
                go_ret2
                exact HP.out _ (by rw [HD.out] <;> rfl)
    · obtain rfl : k = 4 := by omega
      have hln := HLn.out
      rw [List.drop_eq_nil_of_le (by omega), pv] at hdec
      subst ha
      have HD := Lib.hid hdec
      clear hdec hacc hln
      go_wp2
      go_ret2
      exact HP.out _ (by rw [HD.out] <;> rfl)
set_option maxRecDepth 100000 in
set_option maxHeartbeats 4000000 in
theorem parseUint_in16 (t : ByteArray) (ht : t.size = 16) (w : World) :
    Calls Tryz.prog 99 #[.string t, .int .i64 16, .int .i64 64] w (PuPost 16 t w) := by
  have hemp : t.toList.isEmpty = false := by
    rw [← decide_eq_emptyBytes]
    exact decide_eq_false (fun h => by rw [h] at ht; cases ht)
  have hcv := Lib.run_convert_string_bytes (P := Tryz.prog) w 9 118 5 t (u := .string) Tryz.underlying9 Tryz.underlying118 Tryz.underlying5
  have hB : ∀ j, j < t.size → (Lib.bytesWorld w 5 t).cell? ⟨w.heap.size, j, none⟩ = some (.int .u8 (t.data.toList.getD j 0).toNat) := fun j hj => Lib.bytesWorld_cell w 5 t j hj
  have HBW := Lib.hid (Lib.bytesWorld_below w 5 t)
  obtain ⟨W1, hW1⟩ : ∃ W1, W1 = Lib.bytesWorld w 5 t := ⟨_, rfl⟩
  rw [← hW1] at hcv hB HBW
  clear hW1
  have hP : ∀ e, (match pv 16 0 t.data.toList with | some n => e = Ending.returned (.tuple #[.int .u64 n, .nilIface]) | none => e = .returned (.tuple #[.int .u64 0, .iface 131 (.int .i64 2)])) → PuPost 16 t w e W1 := fun e he => ⟨he, HBW.out⟩
  have HP := Lib.hid hP
  clear hP HBW
  obtain ⟨bs, hL⟩ : ∃ bs, bs = t.data.toList := ⟨_, rfl⟩
  have hLn : bs.length = 16 := by rw [hL, ← ht, Lib.size_eq]
  rw [← hL] at hB HP
  rw [ht] at hB
  have HLn := Lib.hid hLn
  have HB := Lib.hid hB
  clear hL hLn hB
  have hmv : IntKind.u64.wrap (IntKind.u64.wrap 18446744073709551616 - 1) = 18446744073709551615 := by
    rw [IntKind.wrap_u64, IntKind.wrap_u64]
    decide
  have hsz : t.size = 16 := ht
  clear ht
  go_enter Tryz.func99, Tryz.ntmps99
  go_wp2
  clear hcv hmv hemp
  go_loop [12, 13, 101] (fun vu vn vi => ∃ (k acc : Nat) (a : Int), vu = .bool false ∧ vn = .int .u64 a ∧ vi = .int .i64 k ∧ k ≤ 16 ∧ Hid (a = (acc : Int) ∧ acc < 16 ^ k ∧ pv 16 0 bs = pv 16 acc (bs.drop k)))
    (fun _ _ vi => 16 - (intOf vi).toNat)
  case atStart => exact ⟨0, 0, 0, rfl, rfl, rfl, by omega, Lib.hid ⟨rfl, by simp, rfl⟩⟩
  case round =>
    obtain ⟨k, acc, a, rfl, rfl, rfl, hk, hh⟩ := hrel
    obtain ⟨ha, hacc, hdec⟩ := hh.out
    clear hh
    by_cases hkn : k < 16
    · have hln := HLn.out
      have hpow : 16 ^ k ≤ 1152921504606846976 := Nat.le_trans (Nat.pow_le_pow_right (by omega) (by omega : k ≤ 15)) (by decide)
      have a0 : 0 ≤ a := by omega
      have a1 : a < 1152921504606846976 := by omega
      have hc := HB.out k hkn
      have hdrop : bs.drop k = bs[k]'(by omega) :: bs.drop (k + 1) := List.drop_eq_getElem_cons (by omega)
      have hget : bs.getD k 0 = bs[k]'(by omega) := by simp [List.getD, List.getElem?_eq_getElem (show k < bs.length by omega)]
      rw [hdrop] at hdec
      rw [hget] at hc
      generalize bs[k]'(by omega) = c at hc hdec
      have hc256 : c.toNat < 256 := c.toNat_lt
      clear hdrop hget hpow
      by_cases hdig : 48 ≤ c.toNat ∧ c.toNat ≤ 57
      · obtain ⟨hd0, hd1⟩ := hdig
        by_cases hd : c.toNat - 48 < 16
        · have HN : Hid (a * 16 + ((c.toNat : Int) - 48) = ((acc * 16 + (c.toNat - 48) : Nat) : Int) ∧ acc * 16 + (c.toNat - 48) < 16 ^ (k + 1) ∧ pv 16 0 bs = pv 16 (acc * 16 + (c.toNat - 48)) (bs.drop (k + 1))) := Lib.hid ⟨by omega, by rw [Nat.pow_succ]; omega, hdec.trans (step_digit hd0 hd1 hd)⟩
          clear hdec hacc ha hln
          go_wp2
          go_round
          case rel => exact ⟨k + 1, acc * 16 + (c.toNat - 48), a * 16 + ((c.toNat : Int) - 48), rfl, rfl, by go_num, by omega, HN⟩
          case measure => simp [intOf]; omega
        · first
          | (exfalso; omega)
          | (have HD := Lib.hid (hdec.trans (bad_digit hd0 hd1 (by omega)))
             clear hdec hacc ha hln
             go_wp2
             go_ret2
             exact HP.out _ (by rw [HD.out] <;> rfl))
      · have HX := lo_eq c
        have hl256 := lo_lt c
        have h95 : c.toNat = 95 → lo c = 127 := fun h => by unfold lo; rw [h]; rfl
        have HLOW := fun w => lower_any (c.toNat : Int) w
        rw [HX] at HLOW
        clear HX
        by_cases hl : 97 ≤ lo c ∧ lo c ≤ 122
        · have hne : ((c.toNat : Int) == 95) = false := by
            rw [beq_eq_false_iff_ne]
            intro h
            have := h95 (by omega)
            omega
          clear h95
          by_cases hd : lo c - 87 < 16
          · first
            | (exfalso; omega)
            | (have HN : Hid (a * 16 + ((lo c : Int) - 97 + 10) = ((acc * 16 + (lo c - 87) : Nat) : Int) ∧ acc * 16 + (lo c - 87) < 16 ^ (k + 1) ∧ pv 16 0 bs = pv 16 (acc * 16 + (lo c - 87)) (bs.drop (k + 1))) := Lib.hid ⟨by omega, by rw [Nat.pow_succ]; omega, hdec.trans (step_letter hdig hl.1 hl.2 hd)⟩
               obtain ⟨l0, l1⟩ := hl
               have HDG := Lib.hid hdig
               clear hdec hacc ha hln hdig
               generalize lo c = x at *
               rcases Nat.lt_or_ge c.toNat 48 with hlow | hhigh
               · go_wp2_with (go_at_call 118; refine (HLOW _).mono ?_; rintro e w1 ⟨rfl, rfl⟩)
                 go_round
                 case rel => exact ⟨k + 1, acc * 16 + (x - 87), a * 16 + ((x : Int) - 97 + 10), rfl, rfl, by go_num, by omega, HN⟩
                 case measure => simp [intOf]; omega
               · have hh9 : 57 < c.toNat := by have := HDG.out; omega
                 go_wp2_with (go_at_call 118; refine (HLOW _).mono ?_; rintro e w1 ⟨rfl, rfl⟩)
                 go_round
                 case rel => exact ⟨k + 1, acc * 16 + (x - 87), a * 16 + ((x : Int) - 97 + 10), rfl, rfl, by go_num, by omega, HN⟩
                 case measure => simp [intOf]; omega)
          · have HD := Lib.hid (hdec.trans (bad_letter hdig hl.1 hl.2 (by omega)))
            obtain ⟨l0, l1⟩ := hl
            have HDG := Lib.hid hdig
            clear hdec hacc ha hln hdig
            generalize lo c = x at *
            rcases Nat.lt_or_ge c.toNat 48 with hlow | hhigh
            · go_wp2_with (go_at_call 118; refine (HLOW _).mono ?_; rintro e w1 ⟨rfl, rfl⟩)
              go_ret2
              exact HP.out _ (by rw [HD.out] <;> rfl)
            · have hh9 : 57 < c.toNat := by have := HDG.out; omega
              go_wp2_with (go_at_call 118; refine (HLOW _).mono ?_; rintro e w1 ⟨rfl, rfl⟩)
              go_ret2
              exact HP.out _ (by rw [HD.out] <;> rfl)
        · have HD := Lib.hid (hdec.trans (bad_other hdig hl))
          have HDG := Lib.hid hdig
          have HDL := Lib.hid hl
          have hne : ((c.toNat : Int) == 95) = true ∧ 122 < lo c ∨ ((c.toNat : Int) == 95) = false := by
            by_cases h : c.toNat = 95
            · exact Or.inl ⟨by rw [beq_iff_eq]; omega, by have := h95 h; omega⟩
            · exact Or.inr (by rw [beq_eq_false_iff_ne]; omega)
          clear hdec hacc ha hln hdig hl h95
          generalize lo c = x at *
          have hcc : c.toNat < 48 ∨ 57 < c.toNat := by have := HDG.out; omega
          have hxx : x < 97 ∨ 122 < x := by have := HDL.out; omega
          rcases hne with ⟨hne, hx1⟩ | hne
          · clear hxx
            rcases hcc with hcc | hcc
            · go_wp2_with (go_at_call 118; refine (HLOW _).mono ?_; rintro e w1 ⟨rfl, rfl⟩)
              go_ret2
              exact HP.out _ (by rw [HD.out] <;> rfl)
            · go_wp2_with (go_at_call 118; refine (HLOW _).mono ?_; rintro e w1 ⟨rfl, rfl⟩)
              go_ret2
              exact HP.out _ (by rw [HD.out] <;> rfl)
          · rcases hcc with hcc | hcc
            · rcases hxx with hxx | hxx
              · go_wp2_with (go_at_call 118; refine (HLOW _).mono ?_; rintro e w1 ⟨rfl, rfl⟩)
                go_ret2
                exact HP.out _ (by rw [HD.out] <;> rfl)
              · go_wp2_with (go_at_call 118; refine (HLOW _).mono ?_; rintro e w1 ⟨rfl, rfl⟩)
                go_ret2
                exact HP.out _ (by rw [HD.out] <;> rfl)
            · rcases hxx with hxx | hxx
              · go_wp2_with (go_at_call 118; refine (HLOW _).mono ?_; rintro e w1 ⟨rfl, rfl⟩)
                go_ret2
                exact HP.out _ (by rw [HD.out] <;> rfl)
              · go_wp2_with (go_at_call 118; refine (HLOW _).mono ?_; rintro e w1 ⟨rfl, rfl⟩)
                go_ret2
                exact HP.out _ (by rw [HD.out] <;> rfl)
    · obtain rfl : k = 16 := by omega
      have hln := HLn.out
      rw [List.drop_eq_nil_of_le (by omega), pv] at hdec
      subst ha
      have HD := Lib.hid hdec
      clear hdec hacc hln
      go_wp2
      go_ret2
      exact HP.out _ (by rw [HD.out] <;> rfl)
end Go.Proofs.YtpkdnohaefkfgaaGreatDoor
