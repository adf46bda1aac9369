/-
  The program's Holds and Best: what each returns; nothing old turns. Condition: LaidV.
-/
import Derived.Test.YteoomeknlfcfaaaGreatDoorVPCompare
import Derived.Test.YteoomeknlfcfaaaGreatDoorVPText
import Derived.Test.YteoomeknlfcfaaaGreatDoorVHolds
import Derived.Test.YteoomeknlfcfaaaGreatDoorLList
import Derived.Test.YteoomeknlfcfaaaGreatDoorVBest
namespace Go.Proofs.YteoomeknlfcfaaaGreatDoor
open Go.RowKit
set_option maxRecDepth 100000 in
set_option maxHeartbeats 8000000 in
theorem holds_any (a op b : ByteArray) (ha : a.size ≤ 4000) (hb : b.size ≤ 4000) (w : World) (h : LaidV w) :
    Calls Tryz.prog 52 #[.string a, .string op, .string b] w fun e w' => e = .returned (.bool (holdsV a.data.toList op.data.toList b.data.toList)) ∧ Below w.heap.size w w' := by
  have C := compare_any a b ha hb w h
  clear h
  rw [holdsV_is]
  have vc := compareV_good.vals a.data.toList b.data.toList
  generalize compareV a.data.toList b.data.toList = c at *
  obtain ⟨R, HR⟩ : ∃ R, Hid (holdsB c op.data.toList = R) := ⟨_, rfl⟩
  rw [HR.out]
  have s0 := emptyL op
  have s1 := eqTL op [60, 60]
  have s2 := eqTL op [60, 61]
  have s3 := eqTL op [61]
  have s4 := eqTL op [62, 61]
  have s5 := eqTL op [62, 62]
  have ways : op.data.toList = [] ∨ op.data.toList = [60, 60] ∨ op.data.toList = [60, 61] ∨ op.data.toList = [61] ∨ op.data.toList = [62, 61] ∨ op.data.toList = [62, 62] ∨ (op.data.toList ≠ [] ∧ op.data.toList ≠ [60, 60] ∧ op.data.toList ≠ [60, 61] ∧ op.data.toList ≠ [61] ∧ op.data.toList ≠ [62, 61] ∧ op.data.toList ≠ [62, 62]) := by
    by_cases h0 : op.data.toList = []
    · exact .inl h0
    · by_cases h1 : op.data.toList = [60, 60]
      · exact .inr (.inl h1)
      · by_cases h2 : op.data.toList = [60, 61]
        · exact .inr (.inr (.inl h2))
        · by_cases h3 : op.data.toList = [61]
          · exact .inr (.inr (.inr (.inl h3)))
          · by_cases h4 : op.data.toList = [62, 61]
            · exact .inr (.inr (.inr (.inr (.inl h4))))
            · by_cases h5 : op.data.toList = [62, 62]
              · exact .inr (.inr (.inr (.inr (.inr (.inl h5)))))
              · exact .inr (.inr (.inr (.inr (.inr (.inr ⟨h0, h1, h2, h3, h4, h5⟩)))))
  rcases ways with h | h | h | h | h | h | ⟨h, h1, h2, h3, h4, h5⟩
  case' inr.inr.inr.inr.inr.inr =>
    rw [decide_eq_false h] at s0
    rw [decide_eq_false h1] at s1
    rw [decide_eq_false h2] at s2
    rw [decide_eq_false h3] at s3
    rw [decide_eq_false h4] at s4
    rw [decide_eq_false h5] at s5
    have HF : Hid (false = R) := Lib.hid (by rw [← HR.out]; unfold holdsB; simp [h, h1, h2, h3, h4, h5])
    clear h h1 h2 h3 h4 h5 HR vc
    go_enter Tryz.func52, Tryz.ntmps52
    go_wp2_with (first | (go_at_call 70; refine C.mono ?_; rintro e w1 ⟨rfl, hb1⟩))
    go_ret
    first | exact ⟨retb HF.out, hb1⟩ | exact ⟨retb HF.out, Below.refl _ _⟩
  all_goals
    obtain rfl := strOf h
    clear h s0 s1 s2 s3 s4 s5
    rcases vc with vc | vc | vc
    all_goals
      subst vc
      go_enter Tryz.func52, Tryz.ntmps52
      go_wp2_with (first | (go_at_call 70; refine C.mono ?_; rintro e w1 ⟨rfl, hb1⟩))
      go_ret
      first | exact ⟨retb (by rw [← HR.out]; decide), hb1⟩ | exact ⟨retb (by rw [← HR.out]; decide), Below.refl _ _⟩
theorem BOn {b i j : Nat} {x y : ByteArray} {w W W1 : World} (h : W.cell? ⟨b, i, none⟩ = some (.string x) ∧ W.cell? ⟨b, j, none⟩ = some (.string y) ∧ Below w.heap.size w W) (hb : Below W.heap.size W W1) :
    W1.cell? ⟨b, i, none⟩ = some (.string x) ∧ W1.cell? ⟨b, j, none⟩ = some (.string y) ∧ Below w.heap.size w W1 := by
  have l := World.block_lt_of_cell? W _ h.1
  exact ⟨by rw [hb.cell (p := ⟨b, i, none⟩) l]; exact h.1, by rw [hb.cell (p := ⟨b, j, none⟩) l]; exact h.2.1, h.2.2.trans (hb.mono h.2.2.size)⟩
theorem BDr {b i j : Nat} {x y : ByteArray} {w W : World} (h : W.cell? ⟨b, i, none⟩ = some (.string x) ∧ W.cell? ⟨b, j, none⟩ = some (.string y) ∧ Below w.heap.size w W) :
    W.drew.cell? ⟨b, i, none⟩ = some (.string x) ∧ W.drew.cell? ⟨b, j, none⟩ = some (.string y) ∧ Below w.heap.size w W.drew := BOn h (Below.refl _ _).drew
end Go.Proofs.YteoomeknlfcfaaaGreatDoor
