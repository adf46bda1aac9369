import Derived.Test.YtkbkaeefdhkgdaaGreatDoorGZHold
import Derived.Test.YtkbkaeefdhkgdaaGreatDoorGSMath
set_option maxRecDepth 100000
set_option maxHeartbeats 32000000
namespace Go.Proofs.YtkbkaeefdhkgdaaGreatDoor
section
open Go.RowKit Go.Sort
def alB (c : UInt8) : Bool := decide (97 ≤ c.toNat) && decide (c.toNat ≤ 122) || decide (48 ≤ c.toNat) && decide (c.toNat ≤ 57)
def markB (c : UInt8) : Bool := c == 43 || c == 45 || c == 46
def inB (c : UInt8) : Bool := alB c || markB c
def headB : Bs → Bool
 | [] => false
 | c :: _ => alB c
def nameB (l : Bs) : Bool := decide (1 ≤ l.length) && decide (l.length ≤ 60) && headB l && l.all inB
theorem take_snoc (s : ByteArray) (k : Nat) (h : k < s.size) : s.data.toList.take (k + 1) = s.data.toList.take k ++ [s[k]] := by
 have hl : k < s.data.toList.length := by rw [← Lib.size_eq]; exact h
 rw [List.take_add_one, List.getElem?_eq_getElem hl]
 simp; rfl
theorem all_false {l : Bs} {f : UInt8 → Bool} (k : Nat) (x : UInt8) (h : x ∈ l.take k) (hf : f x = false) : l.all f = false := by
 rw [List.all_eq_false]
 exact ⟨x, List.mem_of_mem_take h, by simp [hf]⟩
theorem all_next {s : ByteArray} {f : UInt8 → Bool} {k : Nat} (h : k < s.size) (ha : (s.data.toList.take k).all f = true) (hf : f s[k] = true) : (s.data.toList.take (k + 1)).all f = true := by
 rw [take_snoc s k h, List.all_append, ha]; simp [hf]
theorem all_stop {s : ByteArray} {f : UInt8 → Bool} {k : Nat} (h : k < s.size) (hf : f s[k] = false) : s.data.toList.all f = false :=
 all_false (k + 1) s[k] (by rw [take_snoc s k h]; simp) hf
theorem all_done {s : ByteArray} {f : UInt8 → Bool} (ha : (s.data.toList.take s.size).all f = true) : s.data.toList.all f = true := by
 rwa [List.take_of_length_le (by rw [← Lib.size_eq]; exact Nat.le_refl _)] at ha
theorem alnum_any (c : UInt8) (w : World) : Calls Tryz.prog 99 #[.int .u8 c.toNat] w fun e w' => e = .returned (.bool (alB c)) ∧ w = w' := by
 have hc := c.toNat_lt
 obtain ⟨B, HB⟩ : ∃ B, Hid (alB c = B) := ⟨_, rfl⟩
 rw [HB.out]
 unfold alB at HB
 generalize c.toNat = n at *
 by_cases h1 : 97 ≤ n
 ·
  by_cases h2 : n ≤ 122
  ·
   go_enter Tryz.func99, Tryz.ntmps99
   go_wp2
   go_ret
   exact ⟨ret_bool (by rw [← HB.out, Bool.eq_iff_iff]; simp only [Bool.or_eq_true, Bool.and_eq_true, decide_eq_true_eq, true_iff]; omega), rfl⟩
  ·
   go_enter Tryz.func99, Tryz.ntmps99
   go_wp2
   go_ret
   exact ⟨ret_bool (by rw [← HB.out, Bool.eq_iff_iff]; simp only [Bool.or_eq_true, Bool.and_eq_true, decide_eq_true_eq]; omega), rfl⟩
 ·
  by_cases h3 : 48 ≤ n
  ·
   go_enter Tryz.func99, Tryz.ntmps99
   go_wp2
   go_ret
   exact ⟨ret_bool (by rw [← HB.out, Bool.eq_iff_iff]; simp only [Bool.or_eq_true, Bool.and_eq_true, decide_eq_true_eq]; omega), rfl⟩
  ·
   go_enter Tryz.func99, Tryz.ntmps99
   go_wp2
   go_ret
   exact ⟨ret_bool (by rw [← HB.out, Bool.eq_iff_iff]; simp only [Bool.or_eq_true, Bool.and_eq_true, decide_eq_true_eq, Bool.false_eq_true, false_iff]; omega), rfl⟩
theorem printable_any (s : ByteArray) (hs : s.size ≤ 4000) (w : World) : Calls Tryz.prog 188 #[.string s] w fun e w' => e = .returned (.bool (s.data.toList.all okb)) ∧ w = w' := by
 obtain ⟨B, HB⟩ : ∃ B, Hid (s.data.toList.all okb = B) := ⟨_, rfl⟩
 rw [HB.out]
 go_enter Tryz.func188, Tryz.ntmps188
 go_wp2
 go_loop [6] (fun i => ∃ k : Nat, k ≤ s.size ∧ i = .int .i64 k ∧ Hid ((s.data.toList.take k).all okb = true)) (fun i => s.size - (intOf i).toNat)
 case atStart => exact ⟨0, by omega, rfl, Lib.hid (by simp)⟩
 case round =>
  obtain ⟨k, hk, rfl, H⟩ := hrel
  by_cases hlt : k < s.size
  ·
   have hc := s[k].toNat_lt
   by_cases h1 : s[k].toNat < 33
   ·
    have HR : Hid (false = B) := Lib.hid (by rw [← HB.out, all_stop hlt (by unfold okb; rw [decide_eq_false (by omega)]; rfl)])
    go_wp2
    go_ret
    exact ⟨ret_bool HR.out, rfl⟩
   ·
    by_cases h2 : 126 < s[k].toNat
    ·
     have HR : Hid (false = B) := Lib.hid (by rw [← HB.out, all_stop hlt (by unfold okb; rw [decide_eq_false (p := s[k].toNat ≤ 126) (by omega)]; simp)])
     go_wp2
     go_ret
     exact ⟨ret_bool HR.out, rfl⟩
    ·
     have HN : Hid ((s.data.toList.take (k + 1)).all okb = true) := Lib.hid (all_next hlt H.out (by unfold okb; rw [decide_eq_true (by omega), decide_eq_true (by omega)]; rfl))
     go_wp2
     go_round
     case rel => exact ⟨k + 1, by omega, by go_num, HN⟩
     case measure => simp [intOf]; omega
  ·
   obtain rfl : k = s.size := by omega
   have HR : Hid (true = B) := Lib.hid (by rw [← HB.out]; exact (all_done H.out).symm)
   clear hlt
   go_wp2
   go_ret
   exact ⟨ret_bool HR.out, rfl⟩
theorem mark_idx (c : UInt8) : Lib.indexByte (ByteArray.mk #[43, 45, 46]).data.toList (c.toNat : Int).toNat.toUInt8 < 0 ↔ markB c = false := by
 have e : (c.toNat : Int).toNat.toUInt8 = c := by simp
 rw [e]
 unfold markB
 simp only [Lib.indexByte]
 by_cases h1 : c = 43
 ·
  subst h1; decide
 ·
  by_cases h2 : c = 45
  ·
   subst h2; decide
  ·
   by_cases h3 : c = 46
   ·
    subst h3; decide
   ·
    have a1 : ((43 : UInt8) == c) = false := by simp; exact fun h => h1 h.symm
    have a2 : ((45 : UInt8) == c) = false := by simp; exact fun h => h2 h.symm
    have a3 : ((46 : UInt8) == c) = false := by simp; exact fun h => h3 h.symm
    simp [a1, a2, a3, h1, h2, h3]
theorem nat_of_u8 {a b : UInt8} : a = b ↔ a.toNat = b.toNat := UInt8.toNat_inj.symm
theorem name_any (s : ByteArray) (hs : s.size ≤ 4000) (w : World) : Calls Tryz.prog 52 #[.string s] w fun e w' => e = .returned (.bool (nameB s.data.toList)) ∧ w = w' := by
 obtain ⟨B, HB⟩ : ∃ B, Hid (nameB s.data.toList = B) := ⟨_, rfl⟩
 rw [HB.out]
 have hl := Lib.size_eq s
 by_cases h0 : 1 ≤ s.size ∧ s.size ≤ 60
 ·
  obtain ⟨h1, h60⟩ := h0
  have hhd : headB s.data.toList = alB s[0] := by
   have : s.data.toList = s[0] :: s.data.toList.drop 1 := by
    have := List.drop_eq_getElem_cons (l := s.data.toList) (i := 0) (by omega)
    rw [List.drop_zero] at this
    exact this
   rw [this]; rfl
  have HE : Hid ((alB s[0] && s.data.toList.all inB) = B) := Lib.hid (by rw [← HB.out, nameB, decide_eq_true (by omega), decide_eq_true (by omega), hhd]; rfl)
  clear hl hhd
  have C1 := fun c w => alnum_any c w
  cases ha : alB s[0]
  ·
   have HR : Hid (false = B) := Lib.hid (by rw [← HE.out, ha]; rfl)
   have C0 := C1 s[0]
   rw [ha] at C0
   clear ha HE HB C1
   have hc := s[0].toNat_lt
   go_enter Tryz.func52, Tryz.ntmps52
   go_wp2_with (go_at_call 99; refine (C0 _).mono ?_; rintro e w1 ⟨rfl, rfl⟩)
   go_ret
   exact ⟨ret_bool HR.out, rfl⟩
  ·
   have HF : Hid (s.data.toList.all inB = B) := Lib.hid (by rw [← HE.out, ha, Bool.true_and])
   have C0 := C1 s[0]
   rw [ha] at C0
   clear ha HE HB
   have hc := s[0].toNat_lt
   go_enter Tryz.func52, Tryz.ntmps52
   go_wp2_with (go_at_call 99; refine (C0 _).mono ?_; rintro e w1 ⟨rfl, rfl⟩)
   clear C0 hc
   go_loop [20] (fun i => ∃ k : Nat, k ≤ s.size ∧ i = .int .i64 k ∧ Hid ((s.data.toList.take k).all inB = true)) (fun i => s.size - (intOf i).toNat)
   case atStart => exact ⟨0, by omega, rfl, Lib.hid (by simp)⟩
   case round =>
    obtain ⟨k, hk, rfl, H⟩ := hrel
    by_cases hlt : k < s.size
    ·
     have hc := s[k].toNat_lt
     have CK := C1 s[k]
     cases hal : alB s[k]
     ·
      rw [hal] at CK
      have C3 := fun w => Tryz.strings_IndexByte ⟨#[43, 45, 46]⟩ (s[k].toNat : Int) w
      have hge := Lib.indexByte_ge (ByteArray.mk #[43, 45, 46]).data.toList (s[k].toNat : Int).toNat.toUInt8
      have hix := mark_idx s[k]
      generalize Lib.indexByte (ByteArray.mk #[43, 45, 46]).data.toList (s[k].toNat : Int).toNat.toUInt8 = ix at C3 hge hix
      cases hm : markB s[k]
      ·
       have hneg : ix < 0 := hix.2 hm
       have HR : Hid (false = B) := Lib.hid (by rw [← HF.out, all_stop hlt (by unfold inB; rw [hal, hm]; rfl)])
       clear hal hm hix C1
       go_wp2_with (first | (go_at_call 99; refine (CK _).mono ?_; rintro e w1 ⟨rfl, rfl⟩) | (go_at_call 100; refine (C3 _).mono ?_; rintro e w1 ⟨rfl, rfl⟩))
       go_ret
       exact ⟨ret_bool HR.out, rfl⟩
      ·
       have hneg : ¬ ix < 0 := fun h => by rw [hix.1 h] at hm; cases hm
       have HN : Hid ((s.data.toList.take (k + 1)).all inB = true) := Lib.hid (all_next hlt H.out (by unfold inB; rw [hal, hm]; rfl))
       clear hal hm hix C1
       go_wp2_with (first | (go_at_call 99; refine (CK _).mono ?_; rintro e w1 ⟨rfl, rfl⟩) | (go_at_call 100; refine (C3 _).mono ?_; rintro e w1 ⟨rfl, rfl⟩))
       go_round
       case rel => exact ⟨k + 1, by omega, by go_num, HN⟩
       case measure => simp [intOf]; omega
     ·
      rw [hal] at CK
      have HN : Hid ((s.data.toList.take (k + 1)).all inB = true) := Lib.hid (all_next hlt H.out (by unfold inB; rw [hal]; rfl))
      clear hal C1
      go_wp2_with (go_at_call 99; refine (CK _).mono ?_; rintro e w1 ⟨rfl, rfl⟩)
      go_round
      case rel => exact ⟨k + 1, by omega, by go_num, HN⟩
      case measure => simp [intOf]; omega
    ·
     obtain rfl : k = s.size := by omega
     have HR : Hid (true = B) := Lib.hid (by rw [← HF.out]; exact (all_done H.out).symm)
     clear hlt C1
     go_wp2
     go_ret
     exact ⟨ret_bool HR.out, rfl⟩
 ·
  have HR : Hid (false = B) := Lib.hid (by
   rw [← HB.out, nameB]
   by_cases h : 1 ≤ s.data.toList.length
   ·
    rw [decide_eq_false (p := s.data.toList.length ≤ 60) (by omega)]; simp
   ·
    rw [decide_eq_false h]; rfl)
  have h0' : s.size < 1 ∨ (1 ≤ s.size ∧ 60 < s.size) := by omega
  clear h0 HB hl
  rcases h0' with h0 | ⟨h0, h60⟩
  ·
   go_enter Tryz.func52, Tryz.ntmps52
   go_wp2
   go_ret
   exact ⟨ret_bool HR.out, rfl⟩
  ·
   go_enter Tryz.func52, Tryz.ntmps52
   go_wp2
   go_ret
   exact ⟨ret_bool HR.out, rfl⟩
end
section
open Go.RowKit Go.Sort
theorem cls (n : Nat) : (97 ≤ n ∧ n ≤ 122) ∨ (48 ≤ n ∧ n ≤ 57) ∨ (n = 43 ∨ n = 45 ∨ n = 46) ∨ (122 < n ∨ (57 < n ∧ n < 97) ∨ (n < 48 ∧ ¬ n = 43 ∧ ¬ n = 45 ∧ ¬ n = 46)) := by omega
theorem alB_iff (c : UInt8) : alB c = true ↔ (97 ≤ c.toNat ∧ c.toNat ≤ 122) ∨ (48 ≤ c.toNat ∧ c.toNat ≤ 57) := by
 unfold alB; simp only [Bool.or_eq_true, Bool.and_eq_true, decide_eq_true_eq]
theorem markB_iff (c : UInt8) : markB c = true ↔ c.toNat = 43 ∨ c.toNat = 45 ∨ c.toNat = 46 := by
 unfold markB
 simp only [Bool.or_eq_true, beq_iff_eq, nat_of_u8]
 show (c.toNat = 43 ∨ c.toNat = 45) ∨ c.toNat = 46 ↔ _
 omega
theorem inB_iff (c : UInt8) : inB c = true ↔ alB c = true ∨ markB c = true := by unfold inB; rw [Bool.or_eq_true]
theorem inB_no {c : UInt8} (h1 : ¬ alB c = true) (h2 : ¬ markB c = true) : inB c = false := by
 cases h : inB c with
 | false => rfl
 | true => exact absurd ((inB_iff c).1 h) (fun h => h.elim h1 h2)
def NameTo (l : Bs) (k : Nat) : Prop := (l.take k).all inB = true ∧ (0 < k → headB l = true)
theorem nameTo_next {s : ByteArray} {k : Nat} (h : k < s.size) (H : NameTo s.data.toList k) (hi : inB s[k] = true) (h0 : k = 0 → alB s[k] = true) : NameTo s.data.toList (k + 1) := by
 refine ⟨all_next h H.1 hi, fun _ => ?_⟩
 by_cases hk : k = 0
 ·
  subst hk
  have hl := Lib.size_eq s
  have := List.drop_eq_getElem_cons (l := s.data.toList) (i := 0) (by omega)
  rw [List.drop_zero] at this
  rw [this]
  exact h0 rfl
 ·
  exact H.2 (by omega)
theorem name_bad {s : ByteArray} {k : Nat} (h : k < s.size) (hi : inB s[k] = false) : nameB s.data.toList = false := by
 unfold nameB; rw [all_stop h hi, Bool.and_false]
theorem name_bad0 {s : ByteArray} (h : 0 < s.size) (hi : ¬ alB s[0] = true) : nameB s.data.toList = false := by
 have hl := Lib.size_eq s
 have := List.drop_eq_getElem_cons (l := s.data.toList) (i := 0) (by omega)
 rw [List.drop_zero] at this
 have e : headB s.data.toList = false := by
  rw [this]
  cases h : headB (s.data.toList[0] :: List.drop (0 + 1) s.data.toList) with
  | false => rfl
  | true => exact absurd h hi
 unfold nameB; rw [e, Bool.and_false, Bool.false_and]
theorem name_end {s : ByteArray} (H : NameTo s.data.toList s.size) : nameB s.data.toList = (decide (1 ≤ s.size) && decide (s.size ≤ 60)) := by
 have hl := Lib.size_eq s
 unfold nameB
 rw [all_done H.1, ← hl]
 by_cases h : 1 ≤ s.size
 ·
  rw [H.2 h]; simp
 ·
  rw [decide_eq_false h]; simp
theorem name_ref (s : ByteArray) (hs : s.size ≤ 4000) (w : World) : Calls Tryz.prog 58 #[.string s] w fun e w' => e = .returned (.bool (nameB s.data.toList)) ∧ w = w' := by
 obtain ⟨B, HB⟩ : ∃ B, Hid (nameB s.data.toList = B) := ⟨_, rfl⟩
 rw [HB.out]
 go_enter Tryz.func58, Tryz.ntmps58
 go_wp2
 go_loop [3] (fun i => ∃ k : Nat, k ≤ s.size ∧ i = .int .i64 k ∧ Hid (NameTo s.data.toList k)) (fun i => s.size - (intOf i).toNat)
 case atStart => exact ⟨0, by omega, rfl, Lib.hid ⟨by simp, fun h => absurd h (by omega)⟩⟩
 case round =>
  obtain ⟨k, hk, rfl, H⟩ := hrel
  by_cases hlt : k < s.size
  ·
   have hc := s[k].toNat_lt
   rcases cls s[k].toNat with h | h | h | h
   ·
    have HN : Hid (NameTo s.data.toList (k + 1)) := Lib.hid (nameTo_next hlt H.out ((inB_iff _).2 (.inl ((alB_iff _).2 (.inl h)))) (fun _ => (alB_iff _).2 (.inl h)))
    obtain ⟨ha, hb⟩ := h
    go_wp2
    go_round
    case rel => exact ⟨k + 1, by omega, by go_num, HN⟩
    case measure => simp [intOf]; omega
   ·
    have HN : Hid (NameTo s.data.toList (k + 1)) := Lib.hid (nameTo_next hlt H.out ((inB_iff _).2 (.inl ((alB_iff _).2 (.inr h)))) (fun _ => (alB_iff _).2 (.inr h)))
    obtain ⟨ha, hb⟩ := h
    go_wp2
    go_round
    case rel => exact ⟨k + 1, by omega, by go_num, HN⟩
    case measure => simp [intOf]; omega
   ·
    have hm : markB s[k] = true := (markB_iff _).2 h
    have hna : ¬ alB s[k] = true := fun e => by have := (alB_iff _).1 e; omega
    by_cases hk0 : k = 0
    ·
     have HR : Hid (false = B) := Lib.hid (by rw [← HB.out]; exact (name_bad0 (by omega) (by subst hk0; exact hna)).symm)
     have hkb : ((k : Int) == 0) = true := by simp [hk0]
     clear hm hna hk0
     rcases h with h | h | h
     all_goals
      go_wp2
      go_ret
      exact ⟨ret_bool HR.out, rfl⟩
    ·
     have HN : Hid (NameTo s.data.toList (k + 1)) := Lib.hid (nameTo_next hlt H.out ((inB_iff _).2 (.inr hm)) (fun e => absurd e hk0))
     have hkb : ((k : Int) == 0) = false := by simp [hk0]
     clear hm hna
     rcases h with h | h | h
     all_goals
      go_wp2
      go_round
      case rel => exact ⟨k + 1, by omega, by go_num, HN⟩
      case measure => simp [intOf]; omega
   ·
    have HR : Hid (false = B) := Lib.hid (by rw [← HB.out]; exact (name_bad hlt (inB_no (fun e => by have := (alB_iff _).1 e; omega) (fun e => by have := (markB_iff _).1 e; omega))).symm)
    rcases h with h | ⟨h, h'⟩ | ⟨h, h1, h2, h3⟩
    ·
     go_wp2
     go_ret
     exact ⟨ret_bool HR.out, rfl⟩
    ·
     go_wp2
     go_ret
     exact ⟨ret_bool HR.out, rfl⟩
    ·
     have h1' : ((s[k].toNat : Int) == 43) = false := by simp; omega
     have h2' : ((s[k].toNat : Int) == 45) = false := by simp; omega
     have h3' : ((s[k].toNat : Int) == 46) = false := by simp; omega
     go_wp2
     go_ret
     exact ⟨ret_bool HR.out, rfl⟩
  ·
   obtain rfl : k = s.size := by omega
   have HE := Lib.hid ((name_end H.out).symm.trans HB.out)
   clear hlt HB H
   by_cases h1 : 1 ≤ s.size
   ·
    go_wp2
    go_ret
    exact ⟨ret_bool (by rw [← HE.out, decide_eq_true h1, Bool.true_and, Bool.eq_iff_iff]; simp only [decide_eq_true_eq]; omega), rfl⟩
   ·
    go_wp2
    go_ret
    exact ⟨ret_bool (by rw [← HE.out, decide_eq_false h1]; simp), rfl⟩
end
section
open Go.RowKit
theorem extOne (s : ByteArray) (k : Nat) (h : k < s.size) : (s.extract k (k + 1)).data.toList = [s[k]] ∧ (s.extract k (k + 1)).size = 1 := by
 have e : (s.extract k (k + 1)).data.toList = [s[k]] := by
  rw [extL, Nat.add_sub_cancel_left, dropC s k h]; rfl
 exact ⟨e, by rw [sizeOf, e]; rfl⟩
def SplTo (c : UInt8) (s : Bs) (k : Nat) (out : List Bs) (u : Bs) : Prop := spl c s = out ++ glue u (spl c (s.drop k))
theorem SplTo.start (c : UInt8) (s : Bs) : SplTo c s 0 [] [] := by unfold SplTo; rw [List.drop_zero, glue_nil (spl_ne _ _)]; rfl
theorem SplTo.cut {c : UInt8} {s : ByteArray} {k : Nat} {out : List Bs} {u : Bs} (h : SplTo c s.data.toList k out u) (hk : k < s.size) (e : s[k] = c) : SplTo c s.data.toList (k + 1) (out ++ [u]) [] := by
 unfold SplTo at *
 rw [h, spl_step c s k hk, if_pos e, glue_nil (spl_ne _ _)]
 simp [glue]
theorem SplTo.go {c : UInt8} {s : ByteArray} {k : Nat} {out : List Bs} {u : Bs} (h : SplTo c s.data.toList k out u) (hk : k < s.size) (e : ¬ s[k] = c) : SplTo c s.data.toList (k + 1) out (u ++ [s[k]]) := by
 unfold SplTo at *
 rw [h, spl_step c s k hk, if_neg e, glue_glue]
theorem SplTo.done {c : UInt8} {s : ByteArray} {out : List Bs} {u : Bs} (h : SplTo c s.data.toList s.size out u) : spl c s.data.toList = out ++ [u] := by
 unfold SplTo at h
 rw [h, dropAll]; simp [spl, glue]
theorem split_ref6 (s : ByteArray) (hs : s.size ≤ 100000) (c : UInt8) (w : World) :
  Calls Tryz.prog 36 #[.string s, .int .u8 c.toNat] w fun e w' => ∃ v, e = .returned v ∧ OwnT w' w.heap.size v (spl c s.data.toList) ∧ Below w.heap.size w w' := by
 obtain ⟨i0, hi, hz0, hz1, hz2⟩ := info_parts infoT
 have hcc := c.toNat_lt
 go_enter Tryz.func36, Tryz.ntmps36
 go_wp2
 go_loopw [5, 6, 7] (fun o u i wr => ∃ (k : Nat) (out : List Bs) (U : ByteArray), k ≤ s.size ∧ i = .int .i64 k ∧ u = .string U ∧ out.length ≤ k ∧ U.size ≤ k ∧ Hid (SplTo c s.data.toList k out U.data.toList) ∧ Hid (OwnT wr w.heap.size o out) ∧ Hid (Below w.heap.size w wr)) (fun _ _ i _ => s.size - (intOf i).toNat)
 case atStart => exact ⟨0, [], ⟨#[]⟩, by omega, rfl, rfl, Nat.le_refl _, Nat.le_refl _, Lib.hid (SplTo.start _ _), Lib.hid (OwnT.nil _ _), Lib.hid (Below.refl _ _)⟩
 case round =>
  obtain ⟨k, out, U, hk, rfl, rfl, hol, hU, HS, HO, HB⟩ := hrel
  have hsz := HB.out.size
  by_cases hlt : k < s.size
  ·
   have hx := s[k].toNat_lt
   by_cases he : s[k] = c
   ·
    have h1 : ((s[k].toNat : Int) == (c.toNat : Int)) = true := by rw [he]; simp
    have HN := Lib.hid (HS.out.cut hlt he)
    clear he HS
    go_wp2_with (first | (at_builtin; refine wpList_append_own _ rfl _ _ 40 rfl w.heap.size 9 i0 (.string ⟨#[]⟩) 1 16 Tryz.underlying40 hi hz0 hz1 hz2 rfl (by decide) _ _ _ rfl (World.ownsRow.alloc HO.out _) ⟨wr.heap.size, 0, none⟩ 1 1 [.string U] rfl rfl ?c1 ?c2 ?c3 ?c4 ?c5 ?_))
    case c1 =>
     intro j u hj
     match j, hj with
     | 0, hj => simp at hj; subst hj; simp [Addr.add]
    case c2 => intro u hu; simp at hu; subst hu; rfl
    case c3 => unfold maxLen; omega
    case c4 => omega
    case c5 => simp; omega
    ·
     intro v' w1 hown' hgrow _
     have HO' : Hid (OwnT w1 w.heap.size v' (out ++ [U.data.toList])) := Lib.hid (OwnT.app rfl hown')
     have HB' : Hid (Below w.heap.size w w1) := Lib.hid (belowG HB.out HO.out hgrow (Nat.le_refl _) hsz)
     clear hown' hgrow
     go_wp2
     go_roundw
     case rel => exact ⟨k + 1, out ++ [U.data.toList], ⟨#[]⟩, by omega, by go_num, rfl, by simp; omega, Nat.zero_le _, HN, HO', HB'⟩
     case measure => simp [intOf]; omega
   ·
    have h1 : ((s[k].toNat : Int) == (c.toNat : Int)) = false := by
     rw [beq_eq_false_iff_ne]; intro g; exact he (UInt8.toNat_inj.1 (by omega))
    obtain ⟨x1, x2⟩ := extOne s k hlt
    have HN : Hid (SplTo c s.data.toList (k + 1) out (U ++ s.extract k (k + 1)).data.toList) := Lib.hid (by rw [ByteArray.data_append, Array.toList_append, x1]; exact HS.out.go hlt he)
    have hsx : (s.extract k (k + 1)).size ≤ 1 := by omega
    clear he HS x1 x2
    go_wp2
    go_roundw
    case rel => exact ⟨k + 1, out, U ++ s.extract k (k + 1), by omega, by go_num, rfl, by omega, by rw [ByteArray.size_append]; omega, HN, HO, HB⟩
    case measure => simp [intOf]; omega
  ·
   obtain rfl : k = s.size := by omega
   have HN := Lib.hid HS.out.done
   clear hlt HS
   go_wp2_with (first | (at_builtin; refine wpList_append_own _ rfl _ _ 40 rfl w.heap.size 9 i0 (.string ⟨#[]⟩) 1 16 Tryz.underlying40 hi hz0 hz1 hz2 rfl (by decide) _ _ _ rfl (World.ownsRow.alloc HO.out _) ⟨wr.heap.size, 0, none⟩ 1 1 [.string U] rfl rfl ?c1 ?c2 ?c3 ?c4 ?c5 ?_))
   case c1 =>
    intro j u hj
    match j, hj with
    | 0, hj => simp at hj; subst hj; simp [Addr.add]
   case c2 => intro u hu; simp at hu; subst hu; rfl
   case c3 => unfold maxLen; omega
   case c4 => omega
   case c5 => simp; omega
   ·
    intro v' w1 hown' hgrow _
    have HO' : Hid (OwnT w1 w.heap.size v' (spl c s.data.toList)) := Lib.hid (by rw [HN.out]; exact OwnT.app rfl hown')
    have HB' : Hid (Below w.heap.size w w1) := Lib.hid (belowG HB.out HO.out hgrow (Nat.le_refl _) hsz)
    clear hown' hgrow
    go_wp2
    go_ret
    exact ⟨_, rfl, HO'.out, HB'.out⟩
end
section
open Go.RowKit
end
section
open Go.RowKit
theorem HoldT.cut {w : World} {a : Option Addr} {c n : Nat} {ls : List Bs} (h : HoldT w (.slice a n c) ls) (k : Nat) (hk : k ≤ n) : HoldT w (.slice a k c) (ls.take k) := by
 obtain ⟨a', c', b, o, e, hc, ha, hcell⟩ := h
 simp only [Value.slice.injEq] at e
 obtain ⟨rfl, rfl, rfl⟩ := e
 have hl : (ls.take k).length = k := by rw [List.length_take]; omega
 refine ⟨a, c, b, o, by rw [hl], by omega, fun h0 => ha (by omega), fun j l hj => ?_⟩
 rw [List.getElem?_take] at hj
 split at hj
 ·
  exact hcell j l hj
 ·
  cases hj
end
end Go.Proofs.YtkbkaeefdhkgdaaGreatDoor
