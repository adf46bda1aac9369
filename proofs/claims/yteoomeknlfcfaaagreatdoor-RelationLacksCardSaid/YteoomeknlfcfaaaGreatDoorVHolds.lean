/-
  The reference's Holds: what it returns; nothing old turns.
-/
import Derived.Test.YteoomeknlfcfaaaGreatDoorVCompare
namespace Go.Proofs.YteoomeknlfcfaaaGreatDoor
open Go.RowKit
def holdsB (c : Int) (op : Bs) : Bool := decide (op = []) || decide (op = [60, 60]) && decide (c < 0) || decide (op = [60, 61]) && decide (c ≤ 0) || decide (op = [61]) && decide (c = 0) || decide (op = [62, 61]) && decide (0 ≤ c) || decide (op = [62, 62]) && decide (0 < c)
theorem holdsV_is (v op other : Bs) : holdsV v op other = holdsB (compareV v other) op := rfl
theorem emptyL (x : ByteArray) : x.toList.isEmpty = decide (x.data.toList = []) := by
  rw [ByteArray.toList_eq]; cases x.data.toList <;> simp
set_option maxRecDepth 100000 in
set_option maxHeartbeats 8000000 in
theorem holds_ref (a op b : ByteArray) (ha : a.size ≤ 4000) (hb : b.size ≤ 4000) (w : World) :
    Calls Tryz.prog 53 #[.string a, .string op, .string b] w fun e w' => e = .returned (.bool (holdsV a.data.toList op.data.toList b.data.toList)) ∧ Below w.heap.size w w' := by
  have C := fun w => compare_ref a b ha hb w
  rw [holdsV_is]
  have vc := compareV_good.vals a.data.toList b.data.toList
  generalize compareV a.data.toList b.data.toList = c at *
  obtain ⟨R, HR⟩ : ∃ R, Hid (holdsB c op.data.toList = R) := ⟨_, rfl⟩
  rw [HR.out]
  have s0 := emptyL op
  have s1 := eqTL op [60, 60]
  have s2 := eqTL op [60, 61]
  have s3 := eqTL op [61]
  have s4 := eqTL op [62, 61]
  have s5 := eqTL op [62, 62]
  have ways : op.data.toList = [] ∨ op.data.toList = [60, 60] ∨ op.data.toList = [60, 61] ∨ op.data.toList = [61] ∨ op.data.toList = [62, 61] ∨ op.data.toList = [62, 62] ∨ (op.data.toList ≠ [] ∧ op.data.toList ≠ [60, 60] ∧ op.data.toList ≠ [60, 61] ∧ op.data.toList ≠ [61] ∧ op.data.toList ≠ [62, 61] ∧ op.data.toList ≠ [62, 62]) := by
    by_cases h0 : op.data.toList = []
    · exact .inl h0
    · by_cases h1 : op.data.toList = [60, 60]
      · exact .inr (.inl h1)
      · by_cases h2 : op.data.toList = [60, 61]
        · exact .inr (.inr (.inl h2))
        · by_cases h3 : op.data.toList = [61]
          · exact .inr (.inr (.inr (.inl h3)))
          · by_cases h4 : op.data.toList = [62, 61]
            · exact .inr (.inr (.inr (.inr (.inl h4))))
            · by_cases h5 : op.data.toList = [62, 62]
              · exact .inr (.inr (.inr (.inr (.inr (.inl h5)))))
              · exact .inr (.inr (.inr (.inr (.inr (.inr ⟨h0, h1, h2, h3, h4, h5⟩)))))
  rcases ways with h | h | h | h | h | h | ⟨h, h1, h2, h3, h4, h5⟩
  case' inr.inr.inr.inr.inr.inr =>
    rw [decide_eq_false h] at s0
    rw [decide_eq_false h1] at s1
    rw [decide_eq_false h2] at s2
    rw [decide_eq_false h3] at s3
    rw [decide_eq_false h4] at s4
    rw [decide_eq_false h5] at s5
    have HF : Hid (false = R) := Lib.hid (by rw [← HR.out]; unfold holdsB; simp [h, h1, h2, h3, h4, h5])
    clear h h1 h2 h3 h4 h5 HR vc
    go_enter Tryz.func53, Tryz.ntmps53
    go_wp2_with (first | (go_at_call 71; refine (C _).mono ?_; rintro e w1 ⟨rfl, hb1⟩))
    go_ret
    exact ⟨retb HF.out, hb1⟩
  all_goals
    obtain rfl := strOf h
    clear h s0 s1 s2 s3 s4 s5
    rcases vc with vc | vc | vc
    all_goals
      subst vc
      go_enter Tryz.func53, Tryz.ntmps53
      go_wp2_with (first | (go_at_call 71; refine (C _).mono ?_; rintro e w1 ⟨rfl, hb1⟩))
      go_ret
      exact ⟨retb (by rw [← HR.out]; decide), hb1⟩
end Go.Proofs.YteoomeknlfcfaaaGreatDoor
