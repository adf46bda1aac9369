/-
  strings.Cut at one byte, in any seat: what it returns; of the world nothing turns but draws.
-/
import Derived.Test.YtoipggglmpcjfaaDoorVRefL
import Derived.Test.YtoipggglmpcjfaaDoorShelf
namespace Go.Proofs.YtoipggglmpcjfaaDoor
open Go.RowKit
-- strings.Cut at one byte
theorem idx_first (l : Bs) (c : UInt8) : Lib.indexByte l c = firstI c l := by
  induction l with
  | nil => rfl
  | cons b l ih =>
    unfold Lib.indexByte
    by_cases h : b = c
    · subst h
      rw [if_pos (by simp)]
      unfold firstI
      rw [if_pos (by simp)]; simp
    · rw [if_neg (by simpa using h), ih]
      have hm : c ∈ b :: l ↔ c ∈ l := by
        rw [List.mem_cons]
        exact ⟨fun g => g.elim (fun e => absurd e.symm h) id, .inr⟩
      unfold firstI
      by_cases g : c ∈ l
      · rw [if_pos g, if_pos (hm.2 g), List.takeWhile_cons, if_pos (decide_eq_true h), List.length_cons]
        rw [if_neg (by rw [beq_iff_eq]; omega)]
        omega
      · rw [if_neg g, if_neg (fun x => g (hm.1 x)), if_pos (by simp)]
def Cut1Post (s : ByteArray) (c : UInt8) (w : World) (e : Ending) (w' : World) : Prop :=
  (∃ q, w' = w.drewN q) ∧ ((firstI c s.data.toList = -1 ∧ e = .returned (.tuple #[.string s, .string ⟨#[]⟩, .bool false])) ∨
    ∃ k : Nat, firstI c s.data.toList = k ∧ k < s.size ∧ e = .returned (.tuple #[.string (s.extract 0 k), .string (s.extract (k + 1) s.size), .bool true]))
theorem first_cases (s : ByteArray) (c : UInt8) : firstI c s.data.toList = -1 ∨ ∃ k : Nat, firstI c s.data.toList = k ∧ k < s.size := by
  have h := firstI_ge (c := c) (l := s.data.toList)
  have hl := sizeOf s
  by_cases h0 : firstI c s.data.toList = -1
  · exact .inl h0
  · right
    refine ⟨(firstI c s.data.toList).toNat, ?_, ?_⟩ <;> rcases h with ⟨h, h'⟩ | ⟨h, h'⟩ <;> omega
theorem cut1_in (s : ByteArray) (hs : s.size ≤ 100000) (c : UInt8) (w : World) : Calls Tryd.prog 60 #[.string s, .string ⟨#[c]⟩] w (Cut1Post s c w) := by
  have C := fun w => Tryd.stringslite_Index_one s c w
  rw [idx_first] at C
  have h1s : (ByteArray.mk #[c]).size = 1 := rfl
  rcases first_cases s c with h | ⟨k, h, hk⟩
  · have HP : Hid (∀ q e, e = .returned (.tuple #[.string s, .string ⟨#[]⟩, .bool false]) → Cut1Post s c w e (w.drewN q)) := Lib.hid (fun q e he => ⟨⟨q, rfl⟩, .inl ⟨h, he⟩⟩)
    rw [h] at C
    clear h
    go_enter Tryd.func60, Tryd.ntmps60
    go_wp2_with (go_at_call 68; refine (C _).mono ?_; rintro e w1 ⟨rfl, hw⟩; subst hw)
    go_ret3
    exact HP.out 0 _ rfl
  · have HP : Hid (∀ q e, e = .returned (.tuple #[.string (s.extract 0 k), .string (s.extract (k + 1) s.size), .bool true]) → Cut1Post s c w e (w.drewN q)) := Lib.hid (fun q e he => ⟨⟨q, rfl⟩, .inr ⟨k, h, hk, he⟩⟩)
    rw [h] at C
    clear h
    go_enter Tryd.func60, Tryd.ntmps60
    go_wp2_with (go_at_call 68; refine (C _).mono ?_; rintro e w1 ⟨rfl, hw⟩; subst hw)
    go_region
    go_wp2
    go_ret3
    exact HP.out 1 _ rfl
theorem cut1_any (s : ByteArray) (hs : s.size ≤ 100000) (c : UInt8) (w : World) : Calls Tryd.prog 52 #[.string s, .string ⟨#[c]⟩] w (Cut1Post s c w) := by
  have C := cut1_in s hs c w
  rcases first_cases s c with h | ⟨k, h, hk⟩
  · have C' : Calls Tryd.prog 60 #[.string s, .string ⟨#[c]⟩] w fun e w' => e = .returned (.tuple #[.string s, .string ⟨#[]⟩, .bool false]) ∧ ∃ q, w' = w.drewN q := C.mono fun e w' hp => by
      obtain ⟨hq, ⟨_, he⟩ | ⟨j, hj, _⟩⟩ := hp
      · exact ⟨he, hq⟩
      · omega
    have HP : Hid (∀ q e, e = .returned (.tuple #[.string s, .string ⟨#[]⟩, .bool false]) → Cut1Post s c w e (w.drewN q)) := Lib.hid (fun q e he => ⟨⟨q, rfl⟩, .inl ⟨h, he⟩⟩)
    clear h C
    go_enter Tryd.func52, Tryd.ntmps52
    go_wp2_with (go_at_call 60; refine C'.mono ?_; rintro e w1 ⟨rfl, q, rfl⟩)
    go_ret3
    exact HP.out q _ rfl
  · have C' : Calls Tryd.prog 60 #[.string s, .string ⟨#[c]⟩] w fun e w' => e = .returned (.tuple #[.string (s.extract 0 k), .string (s.extract (k + 1) s.size), .bool true]) ∧ ∃ q, w' = w.drewN q := C.mono fun e w' hp => by
      obtain ⟨hq, ⟨h', _⟩ | ⟨j, hj, _, he⟩⟩ := hp
      · omega
      · obtain rfl : j = k := by omega
        exact ⟨he, hq⟩
    have HP : Hid (∀ q e, e = .returned (.tuple #[.string (s.extract 0 k), .string (s.extract (k + 1) s.size), .bool true]) → Cut1Post s c w e (w.drewN q)) := Lib.hid (fun q e he => ⟨⟨q, rfl⟩, .inr ⟨k, h, hk, he⟩⟩)
    clear h C
    go_enter Tryd.func52, Tryd.ntmps52
    go_wp2_with (go_at_call 60; refine C'.mono ?_; rintro e w1 ⟨rfl, q, rfl⟩)
    go_ret3
    exact HP.out q _ rfl
/-- What Cut tells, whatever comes. -/
def CutIs (s : ByteArray) (c : UInt8) (A B : ByteArray) (ok : Bool) : Prop :=
  (ok = false ∧ firstI c s.data.toList = -1 ∧ A = s ∧ B = ⟨#[]⟩) ∨ (ok = true ∧ ∃ k : Nat, firstI c s.data.toList = k ∧ k < s.size ∧ A = s.extract 0 k ∧ B = s.extract (k + 1) s.size)
theorem cut2_any (s : ByteArray) (hs : s.size ≤ 100000) (c : UInt8) (w : World) : Calls Tryd.prog 52 #[.string s, .string ⟨#[c]⟩] w fun e w' => ∃ (A B : ByteArray) (ok : Bool), e = .returned (.tuple #[.string A, .string B, .bool ok]) ∧ Hid (CutIs s c A B ok) ∧ ∃ q, w' = w.drewN q :=
  (cut1_any s hs c w).mono fun e w' hp => by
    obtain ⟨hq, ⟨h, he⟩ | ⟨k, h, hk, he⟩⟩ := hp
    · exact ⟨_, _, _, he, Lib.hid (.inl ⟨rfl, h, rfl, rfl⟩), hq⟩
    · exact ⟨_, _, _, he, Lib.hid (.inr ⟨rfl, k, h, hk, rfl, rfl⟩), hq⟩
end Go.Proofs.YtoipggglmpcjfaaDoor
