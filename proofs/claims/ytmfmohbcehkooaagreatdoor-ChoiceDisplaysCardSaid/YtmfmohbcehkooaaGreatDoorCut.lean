/-
  The reference's Digit and Letter: what each returns; the world stays as it was; the first place of a byte and the last one. strings.Cut at one byte, in any seat: what it returns; of the world nothing turns but draws.
-/
import Derived.Test.YtmfmohbcehkooaaGreatDoorLBase
import Derived.Test.YtmfmohbcehkooaaGreatDoorShelf
namespace Go.Proofs.YtmfmohbcehkooaaGreatDoor
open Go.RowKit
theorem wt_tilde {c : UInt8} (h : c.toNat = 126) : wt c = -1 := by unfold wt; rw [if_pos h]
theorem wt_letter {c : UInt8} (h : ¬ c.toNat = 126) (g : ltB c = true) : wt c = c.toNat := by unfold wt; rw [if_neg h, if_pos g]
theorem wt_other {c : UInt8} (h : ¬ c.toNat = 126) (g : ltB c = false) : wt c = 256 + (c.toNat : Int) := by unfold wt; rw [if_neg h, if_neg (by rw [g]; simp)]
-- The first place of a byte, and the last one
def firstI (c : UInt8) (l : Bs) : Int := if c ∈ l then ((l.takeWhile fun x => decide (x ≠ c)).length : Int) else -1
def lastI (c : UInt8) (l : Bs) : Int := (l.length : Int) - ((l.reverse.takeWhile fun x => decide (x ≠ c)).length : Int) - 1
theorem firstI_mem {c : UInt8} {l : Bs} (h : c ∈ l) (r : Bs) : firstI c (l ++ r) = firstI c l := by
  unfold firstI
  rw [if_pos h, if_pos (List.mem_append_left _ h)]
  congr 2
  rw [List.takeWhile_append]
  have : ¬ (l.takeWhile fun x => decide (x ≠ c)).length = l.length := fun e => by
    have h2 := (List.takeWhile_sublist (fun x => decide (x ≠ c)) (l := l)).eq_of_length e
    have := List.all_eq_true.1 (List.all_takeWhile (p := fun x => decide (x ≠ c)) (l := l)) c (by rw [h2]; exact h)
    simp at this
  rw [if_neg this]
theorem firstI_new {c : UInt8} {l : Bs} (h : c ∉ l) : firstI c (l ++ [c]) = l.length := by
  unfold firstI
  rw [if_pos (by simp), takeWhile_at _ _ _ _ (fun y hy => by simp; rintro rfl; exact h hy) (by simp)]
theorem firstI_no {c : UInt8} {l : Bs} (h : c ∉ l) : firstI c l = -1 := by unfold firstI; rw [if_neg h]
theorem firstI_ge {c : UInt8} {l : Bs} : -1 ≤ firstI c l ∧ firstI c l < l.length ∨ l = [] ∧ firstI c l = -1 := by
  unfold firstI
  by_cases h : c ∈ l
  · rw [if_pos h]
    left
    have h1 := takeWhile_le (fun x => decide (x ≠ c)) l
    have : ¬ (l.takeWhile fun x => decide (x ≠ c)).length = l.length := fun e => by
      have h2 := (List.takeWhile_sublist (fun x => decide (x ≠ c)) (l := l)).eq_of_length e
      have := List.all_eq_true.1 (List.all_takeWhile (p := fun x => decide (x ≠ c)) (l := l)) c (by rw [h2]; exact h)
      simp at this
    omega
  · rw [if_neg h]
    cases l with
    | nil => right; exact ⟨rfl, rfl⟩
    | cons x l => left; simp; omega
theorem firstI_neg {c : UInt8} {l : Bs} : firstI c l < 0 ↔ c ∉ l := by
  unfold firstI
  by_cases h : c ∈ l
  · rw [if_pos h]; simp [h]
  · rw [if_neg h]; simp [h]
theorem lastI_snoc (c x : UInt8) (l : Bs) : lastI c (l ++ [x]) = if x = c then (l.length : Int) else lastI c l := by
  unfold lastI
  rw [List.reverse_append, List.reverse_singleton, List.singleton_append, List.length_append, List.length_singleton]
  by_cases h : x = c
  · subst h; simp
  · rw [List.takeWhile_cons, if_pos (by simp [h]), if_neg h, List.length_cons]; omega
theorem lastI_bd (c : UInt8) (l : Bs) : -1 ≤ lastI c l ∧ lastI c l < l.length ∨ l = [] ∧ lastI c l = -1 := by
  have := takeWhile_le (fun x => decide (x ≠ c)) l.reverse
  rw [List.length_reverse] at this
  cases l with
  | nil => right; exact ⟨rfl, rfl⟩
  | cons x l => left; unfold lastI; simp at this ⊢; omega
end Go.Proofs.YtmfmohbcehkooaaGreatDoor
namespace Go.Proofs.YtmfmohbcehkooaaGreatDoor
open Go.RowKit
-- strings.Cut at one byte
theorem idx_first (l : Bs) (c : UInt8) : Lib.indexByte l c = firstI c l := by
  induction l with
  | nil => rfl
  | cons b l ih =>
    unfold Lib.indexByte
    by_cases h : b = c
    · subst h
      rw [if_pos (by simp)]
      unfold firstI
      rw [if_pos (by simp)]; simp
    · rw [if_neg (by simpa using h), ih]
      have hm : c ∈ b :: l ↔ c ∈ l := by
        rw [List.mem_cons]
        exact ⟨fun g => g.elim (fun e => absurd e.symm h) id, .inr⟩
      unfold firstI
      by_cases g : c ∈ l
      · rw [if_pos g, if_pos (hm.2 g), List.takeWhile_cons, if_pos (decide_eq_true h), List.length_cons]
        rw [if_neg (by rw [beq_iff_eq]; omega)]
        omega
      · rw [if_neg g, if_neg (fun x => g (hm.1 x)), if_pos (by simp)]
def Cut1Post (s : ByteArray) (c : UInt8) (w : World) (e : Ending) (w' : World) : Prop :=
  (∃ q, w' = w.drewN q) ∧ ((firstI c s.data.toList = -1 ∧ e = .returned (.tuple #[.string s, .string ⟨#[]⟩, .bool false])) ∨
    ∃ k : Nat, firstI c s.data.toList = k ∧ k < s.size ∧ e = .returned (.tuple #[.string (s.extract 0 k), .string (s.extract (k + 1) s.size), .bool true]))
theorem first_cases (s : ByteArray) (c : UInt8) : firstI c s.data.toList = -1 ∨ ∃ k : Nat, firstI c s.data.toList = k ∧ k < s.size := by
  have h := firstI_ge (c := c) (l := s.data.toList)
  have hl := sizeOf s
  by_cases h0 : firstI c s.data.toList = -1
  · exact .inl h0
  · right
    refine ⟨(firstI c s.data.toList).toNat, ?_, ?_⟩ <;> rcases h with ⟨h, h'⟩ | ⟨h, h'⟩ <;> omega
theorem cut1_in (s : ByteArray) (hs : s.size ≤ 100000) (c : UInt8) (w : World) : Calls Tryz.prog 128 #[.string s, .string ⟨#[c]⟩] w (Cut1Post s c w) := by
  have C := fun w => Tryz.stringslite_Index_one s c w
  rw [idx_first] at C
  have h1s : (ByteArray.mk #[c]).size = 1 := rfl
  rcases first_cases s c with h | ⟨k, h, hk⟩
  · have HP : Hid (∀ q e, e = .returned (.tuple #[.string s, .string ⟨#[]⟩, .bool false]) → Cut1Post s c w e (w.drewN q)) := Lib.hid (fun q e he => ⟨⟨q, rfl⟩, .inl ⟨h, he⟩⟩)
    rw [h] at C
    clear h
    go_enter Tryz.func128, Tryz.ntmps128
    go_wp2_with (go_at_call 147; refine (C _).mono ?_; rintro e w1 ⟨rfl, hw⟩; subst hw)
    go_ret3
    exact HP.out 0 _ rfl
  · have HP : Hid (∀ q e, e = .returned (.tuple #[.string (s.extract 0 k), .string (s.extract (k + 1) s.size), .bool true]) → Cut1Post s c w e (w.drewN q)) := Lib.hid (fun q e he => ⟨⟨q, rfl⟩, .inr ⟨k, h, hk, he⟩⟩)
    rw [h] at C
    clear h
    go_enter Tryz.func128, Tryz.ntmps128
    go_wp2_with (go_at_call 147; refine (C _).mono ?_; rintro e w1 ⟨rfl, hw⟩; subst hw)
    go_region
    go_wp2
    go_ret3
    exact HP.out 1 _ rfl
theorem cut1_any (s : ByteArray) (hs : s.size ≤ 100000) (c : UInt8) (w : World) : Calls Tryz.prog 112 #[.string s, .string ⟨#[c]⟩] w (Cut1Post s c w) := by
  have C := cut1_in s hs c w
  rcases first_cases s c with h | ⟨k, h, hk⟩
  · have C' : Calls Tryz.prog 128 #[.string s, .string ⟨#[c]⟩] w fun e w' => e = .returned (.tuple #[.string s, .string ⟨#[]⟩, .bool false]) ∧ ∃ q, w' = w.drewN q := C.mono fun e w' hp => by
      obtain ⟨hq, ⟨_, he⟩ | ⟨j, hj, _⟩⟩ := hp
      · exact ⟨he, hq⟩
      · omega
    have HP : Hid (∀ q e, e = .returned (.tuple #[.string s, .string ⟨#[]⟩, .bool false]) → Cut1Post s c w e (w.drewN q)) := Lib.hid (fun q e he => ⟨⟨q, rfl⟩, .inl ⟨h, he⟩⟩)
    clear h C
    go_enter Tryz.func112, Tryz.ntmps112
    go_wp2_with (go_at_call 128; refine C'.mono ?_; rintro e w1 ⟨rfl, q, rfl⟩)
    go_ret3
    exact HP.out q _ rfl
  · have C' : Calls Tryz.prog 128 #[.string s, .string ⟨#[c]⟩] w fun e w' => e = .returned (.tuple #[.string (s.extract 0 k), .string (s.extract (k + 1) s.size), .bool true]) ∧ ∃ q, w' = w.drewN q := C.mono fun e w' hp => by
      obtain ⟨hq, ⟨h', _⟩ | ⟨j, hj, _, he⟩⟩ := hp
      · omega
      · obtain rfl : j = k := by omega
        exact ⟨he, hq⟩
    have HP : Hid (∀ q e, e = .returned (.tuple #[.string (s.extract 0 k), .string (s.extract (k + 1) s.size), .bool true]) → Cut1Post s c w e (w.drewN q)) := Lib.hid (fun q e he => ⟨⟨q, rfl⟩, .inr ⟨k, h, hk, he⟩⟩)
    clear h C
    go_enter Tryz.func112, Tryz.ntmps112
    go_wp2_with (go_at_call 128; refine C'.mono ?_; rintro e w1 ⟨rfl, q, rfl⟩)
    go_ret3
    exact HP.out q _ rfl
/-- What Cut tells, whatever comes. -/
def CutIs (s : ByteArray) (c : UInt8) (A B : ByteArray) (ok : Bool) : Prop :=
  (ok = false ∧ firstI c s.data.toList = -1 ∧ A = s ∧ B = ⟨#[]⟩) ∨ (ok = true ∧ ∃ k : Nat, firstI c s.data.toList = k ∧ k < s.size ∧ A = s.extract 0 k ∧ B = s.extract (k + 1) s.size)
theorem cut2_any (s : ByteArray) (hs : s.size ≤ 100000) (c : UInt8) (w : World) : Calls Tryz.prog 112 #[.string s, .string ⟨#[c]⟩] w fun e w' => ∃ (A B : ByteArray) (ok : Bool), e = .returned (.tuple #[.string A, .string B, .bool ok]) ∧ Hid (CutIs s c A B ok) ∧ ∃ q, w' = w.drewN q :=
  (cut1_any s hs c w).mono fun e w' hp => by
    obtain ⟨hq, ⟨h, he⟩ | ⟨k, h, hk, he⟩⟩ := hp
    · exact ⟨_, _, _, he, Lib.hid (.inl ⟨rfl, h, rfl, rfl⟩), hq⟩
    · exact ⟨_, _, _, he, Lib.hid (.inr ⟨rfl, k, h, hk, rfl, rfl⟩), hq⟩
end Go.Proofs.YtmfmohbcehkooaaGreatDoor
