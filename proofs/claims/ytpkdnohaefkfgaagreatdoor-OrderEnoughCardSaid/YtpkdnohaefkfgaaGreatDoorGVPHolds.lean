/-
  The program's Holds and Best: what each returns; nothing old turns. Condition: LaidV.
-/
import Derived.Test.YtpkdnohaefkfgaaGreatDoorGVMath
import Derived.Test.YtpkdnohaefkfgaaGreatDoorGVCompare
import Derived.Test.YtpkdnohaefkfgaaGreatDoorGVPEpoch
import Derived.Test.YtpkdnohaefkfgaaGreatDoorGVPCompare
import Derived.Test.YtpkdnohaefkfgaaGreatDoorGRowV
namespace Go.Proofs.YtpkdnohaefkfgaaGreatDoor
/-- The first place of one that none is above; -1: there is none. -/
def BestOk (ls : List Bs) (z : Int) : Prop := (ls = [] ∧ z = -1) ∨ ∃ k : Nat, z = k ∧ ∃ h : k < ls.length, ∀ i (hi : i < ls.length), compareV ls[i] ls[k] ≤ 0 ∧ (compareV ls[i] ls[k] = 0 → k ≤ i)
/-- .. of the first n. -/
def BestTo (ls : List Bs) (n : Nat) (z : Int) : Prop := (n = 0 ∧ z = -1) ∨ ∃ k : Nat, z = k ∧ k < n ∧ ∃ h : k < ls.length, ∀ i (hi : i < ls.length), i < n → compareV ls[i] ls[k] ≤ 0 ∧ (compareV ls[i] ls[k] = 0 → k ≤ i)
theorem BestTo.start (ls : List Bs) : BestTo ls 0 (-1) := .inl ⟨rfl, rfl⟩
theorem BestTo.first {ls : List Bs} (h : 0 < ls.length) : BestTo ls 1 ((0 : Nat) : Int) := .inr ⟨0, rfl, by omega, h, fun i hi hn => by
  obtain rfl : i = 0 := by omega
  rw [compareV_good.self]; exact ⟨Int.le_refl _, fun _ => Nat.le_refl _⟩⟩
theorem BestTo.done {ls : List Bs} {z : Int} (h : BestTo ls ls.length z) : BestOk ls z := by
  rcases h with ⟨h, rfl⟩ | ⟨k, e, hk, hl, hb⟩
  · exact .inl ⟨List.eq_nil_of_length_eq_zero h, rfl⟩
  · exact .inr ⟨k, e, hl, fun i hi => hb i hi hi⟩
end Go.Proofs.YtpkdnohaefkfgaaGreatDoor
namespace Go.Proofs.YtpkdnohaefkfgaaGreatDoor
open Go.RowKit
def holdsB (c : Int) (op : Bs) : Bool := decide (op = []) || decide (op = [60, 60]) && decide (c < 0) || decide (op = [60, 61]) && decide (c ≤ 0) || decide (op = [61]) && decide (c = 0) || decide (op = [62, 61]) && decide (0 ≤ c) || decide (op = [62, 62]) && decide (0 < c)
theorem holdsV_is (v op other : Bs) : holdsV v op other = holdsB (compareV v other) op := rfl
theorem emptyL (x : ByteArray) : x.toList.isEmpty = decide (x.data.toList = []) := by
  rw [ByteArray.toList_eq]; cases x.data.toList <;> simp
set_option maxRecDepth 100000 in
set_option maxHeartbeats 8000000 in
theorem holds_ref (a op b : ByteArray) (ha : a.size ≤ 4000) (hb : b.size ≤ 4000) (w : World) :
    Calls Tryz.prog 33 #[.string a, .string op, .string b] w fun e w' => e = .returned (.bool (holdsV a.data.toList op.data.toList b.data.toList)) ∧ Below w.heap.size w w' := by
  have C := fun w => compare_ref a b ha hb w
  rw [holdsV_is]
  have vc := compareV_good.vals a.data.toList b.data.toList
  generalize compareV a.data.toList b.data.toList = c at *
  obtain ⟨R, HR⟩ : ∃ R, Hid (holdsB c op.data.toList = R) := ⟨_, rfl⟩
  rw [HR.out]
  have s0 := emptyL op
  have s1 := eqTL op [60, 60]
  have s2 := eqTL op [60, 61]
  have s3 := eqTL op [61]
  have s4 := eqTL op [62, 61]
  have s5 := eqTL op [62, 62]
  have ways : op.data.toList = [] ∨ op.data.toList = [60, 60] ∨ op.data.toList = [60, 61] ∨ op.data.toList = [61] ∨ op.data.toList = [62, 61] ∨ op.data.toList = [62, 62] ∨ (op.data.toList ≠ [] ∧ op.data.toList ≠ [60, 60] ∧ op.data.toList ≠ [60, 61] ∧ op.data.toList ≠ [61] ∧ op.data.toList ≠ [62, 61] ∧ op.data.toList ≠ [62, 62]) := by
    by_cases h0 : op.data.toList = []
    · exact .inl h0
    · by_cases h1 : op.data.toList = [60, 60]
      · exact .inr (.inl h1)
      · by_cases h2 : op.data.toList = [60, 61]
        · exact .inr (.inr (.inl h2))
        · by_cases h3 : op.data.toList = [61]
          · exact .inr (.inr (.inr (.inl h3)))
          · by_cases h4 : op.data.toList = [62, 61]
            · exact .inr (.inr (.inr (.inr (.inl h4))))
            · by_cases h5 : op.data.toList = [62, 62]
              · exact .inr (.inr (.inr (.inr (.inr (.inl h5)))))
              · exact .inr (.inr (.inr (.inr (.inr (.inr ⟨h0, h1, h2, h3, h4, h5⟩)))))
  rcases ways with h | h | h | h | h | h | ⟨h, h1, h2, h3, h4, h5⟩
  case' inr.inr.inr.inr.inr.inr =>
    rw [decide_eq_false h] at s0
    rw [decide_eq_false h1] at s1
    rw [decide_eq_false h2] at s2
    rw [decide_eq_false h3] at s3
    rw [decide_eq_false h4] at s4
    rw [decide_eq_false h5] at s5
    have HF : Hid (false = R) := Lib.hid (by rw [← HR.out]; unfold holdsB; simp [h, h1, h2, h3, h4, h5])
    clear h h1 h2 h3 h4 h5 HR vc
    go_enter Tryz.func33, Tryz.ntmps33
    go_wp2_with (first | (go_at_call 53; refine (C _).mono ?_; rintro e w1 ⟨rfl, hb1⟩))
    go_ret
    exact ⟨retb HF.out, hb1⟩
  all_goals
    obtain rfl := strOf h
    clear h s0 s1 s2 s3 s4 s5
    rcases vc with vc | vc | vc
    all_goals
      subst vc
      go_enter Tryz.func33, Tryz.ntmps33
      go_wp2_with (first | (go_at_call 53; refine (C _).mono ?_; rintro e w1 ⟨rfl, hb1⟩))
      go_ret
      exact ⟨retb (by rw [← HR.out]; decide), hb1⟩
end Go.Proofs.YtpkdnohaefkfgaaGreatDoor
namespace Go.Proofs.YtpkdnohaefkfgaaGreatDoor
open Go.RowKit Go.Sort
end Go.Proofs.YtpkdnohaefkfgaaGreatDoor
namespace Go.Proofs.YtpkdnohaefkfgaaGreatDoor
open Go.RowKit
set_option maxRecDepth 100000 in
set_option maxHeartbeats 8000000 in
theorem holds_any (a op b : ByteArray) (ha : a.size ≤ 4000) (hb : b.size ≤ 4000) (w : World) (h : LaidV w) :
    Calls Tryz.prog 94 #[.string a, .string op, .string b] w fun e w' => e = .returned (.bool (holdsV a.data.toList op.data.toList b.data.toList)) ∧ Below w.heap.size w w' := by
  have C := compare_any a b ha hb w h
  clear h
  rw [holdsV_is]
  have vc := compareV_good.vals a.data.toList b.data.toList
  generalize compareV a.data.toList b.data.toList = c at *
  obtain ⟨R, HR⟩ : ∃ R, Hid (holdsB c op.data.toList = R) := ⟨_, rfl⟩
  rw [HR.out]
  have s0 := emptyL op
  have s1 := eqTL op [60, 60]
  have s2 := eqTL op [60, 61]
  have s3 := eqTL op [61]
  have s4 := eqTL op [62, 61]
  have s5 := eqTL op [62, 62]
  have ways : op.data.toList = [] ∨ op.data.toList = [60, 60] ∨ op.data.toList = [60, 61] ∨ op.data.toList = [61] ∨ op.data.toList = [62, 61] ∨ op.data.toList = [62, 62] ∨ (op.data.toList ≠ [] ∧ op.data.toList ≠ [60, 60] ∧ op.data.toList ≠ [60, 61] ∧ op.data.toList ≠ [61] ∧ op.data.toList ≠ [62, 61] ∧ op.data.toList ≠ [62, 62]) := by
    by_cases h0 : op.data.toList = []
    · exact .inl h0
    · by_cases h1 : op.data.toList = [60, 60]
      · exact .inr (.inl h1)
      · by_cases h2 : op.data.toList = [60, 61]
        · exact .inr (.inr (.inl h2))
        · by_cases h3 : op.data.toList = [61]
          · exact .inr (.inr (.inr (.inl h3)))
          · by_cases h4 : op.data.toList = [62, 61]
            · exact .inr (.inr (.inr (.inr (.inl h4))))
            · by_cases h5 : op.data.toList = [62, 62]
              · exact .inr (.inr (.inr (.inr (.inr (.inl h5)))))
              · exact .inr (.inr (.inr (.inr (.inr (.inr ⟨h0, h1, h2, h3, h4, h5⟩)))))
  rcases ways with h | h | h | h | h | h | ⟨h, h1, h2, h3, h4, h5⟩
  case' inr.inr.inr.inr.inr.inr =>
    rw [decide_eq_false h] at s0
    rw [decide_eq_false h1] at s1
    rw [decide_eq_false h2] at s2
    rw [decide_eq_false h3] at s3
    rw [decide_eq_false h4] at s4
    rw [decide_eq_false h5] at s5
    have HF : Hid (false = R) := Lib.hid (by rw [← HR.out]; unfold holdsB; simp [h, h1, h2, h3, h4, h5])
    clear h h1 h2 h3 h4 h5 HR vc
    go_enter Tryz.func94, Tryz.ntmps94
    go_wp2_with (first | (go_at_call 113; refine C.mono ?_; rintro e w1 ⟨rfl, hb1⟩))
    go_ret
    first | exact ⟨retb HF.out, hb1⟩ | exact ⟨retb HF.out, Below.refl _ _⟩
  all_goals
    obtain rfl := strOf h
    clear h s0 s1 s2 s3 s4 s5
    rcases vc with vc | vc | vc
    all_goals
      subst vc
      go_enter Tryz.func94, Tryz.ntmps94
      go_wp2_with (first | (go_at_call 113; refine C.mono ?_; rintro e w1 ⟨rfl, hb1⟩))
      go_ret
      first | exact ⟨retb (by rw [← HR.out]; decide), hb1⟩ | exact ⟨retb (by rw [← HR.out]; decide), Below.refl _ _⟩
end Go.Proofs.YtpkdnohaefkfgaaGreatDoor
