/-
  Small functions of alternatives, by the program: places, what a choice may have for a slave, which slave and which choice may be: what each returns; nothing old turns. Condition: LaidP.
-/
import Derived.Test.YtnfhccnicojdcaaGreatDoorZKeyS
import Derived.Test.YtnfhccnicojdcaaGreatDoorZBest
import Derived.Test.YtnfhccnicojdcaaGreatDoorKCont
import Derived.Test.YtnfhccnicojdcaaGreatDoorPClean
namespace Go.Proofs.YtnfhccnicojdcaaGreatDoor
open Go.RowKit
set_option maxRecDepth 100000 in
set_option maxHeartbeats 4000000 in
theorem placeZ_any (p : ByteArray) (hp : p.size ≤ 4000) (w : World) (h : LaidP w) : Calls Tryz.prog 65 #[.string p] w fun e w' => e = .returned (.bool (plZ p.data.toList)) ∧ Below w.heap.size w w' := by
  have R := right_any p hp w h
  have q := eqTL p [47]
  unfold plZ
  generalize right p.data.toList = r at *
  clear h
  by_cases h47 : p.data.toList = [47]
  · rw [decide_eq_true h47] at q
    rw [decide_eq_false (by simpa using h47)]
    clear h47
    cases r
    all_goals
      go_enter Tryz.func65, Tryz.ntmps65
      go_wp2_with (go_at_call 102; (with_reducible refine R.mono ?_); rintro e w1 ⟨rfl, hb⟩; have HB := Lib.hid hb; clear hb)
      go_ret
      exact ⟨by simp, HB.out⟩
  · rw [decide_eq_false h47] at q
    rw [decide_eq_true (by simpa using h47)]
    clear h47
    cases r
    all_goals
      go_enter Tryz.func65, Tryz.ntmps65
      go_wp2_with (go_at_call 102; (with_reducible refine R.mono ?_); rintro e w1 ⟨rfl, hb⟩; have HB := Lib.hid hb; clear hb)
      go_ret
      exact ⟨by simp, HB.out⟩
set_option maxRecDepth 100000 in
set_option maxHeartbeats 4000000 in
theorem wrongT_any (s : ByteArray) (hs : s.size ≤ 4000) (w : World) (h : LaidP w) : Calls Tryz.prog 109 #[.string s] w fun e w' => e = .returned (.bool (!tgC s.data.toList)) ∧ Below w.heap.size w w' := by
  have P := placeZ_any s hs w h
  have hq := eqTL s []
  have HR := Lib.hid (Below.refl w.heap.size w)
  unfold tgC
  generalize plZ s.data.toList = r at *
  clear h
  by_cases h0 : s.data.toList = []
  · rw [decide_eq_true h0] at hq ⊢
    clear h0
    go_enter Tryz.func109, Tryz.ntmps109
    go_wp2
    go_ret
    exact ⟨rfl, HR.out⟩
  · rw [decide_eq_false h0] at hq ⊢
    clear h0
    go_enter Tryz.func109, Tryz.ntmps109
    go_wp2_with (go_at_call 65; (with_reducible refine P.mono ?_); rintro e w1 ⟨rfl, hb⟩; have HB := Lib.hid hb; clear hb)
    go_ret
    exact ⟨by simp, HB.out⟩
set_option maxRecDepth 100000 in
set_option maxHeartbeats 4000000 in
theorem rightS_any (b : Nat) (nm : Bs) (x : Sv) (hx : x.1.length ≤ 4000 ∧ x.2.length ≤ 4000) (w : World) (hL : LaidP w) (hb : w.cell? ⟨b, 0, none⟩ = some (.string (bsT nm))) :
    Calls Tryz.prog 103 #[agZS x, .pointer (some ⟨b, 0, none⟩)] w fun e w' => e = .returned (.bool (rightS nm x)) ∧ Below w.heap.size w w' := by
  unfold rightS
  show Calls _ _ #[.agg #[.string (bsT x.1), .string (bsT x.2)], .pointer (some ⟨b, 0, none⟩)] _ _
  have NM := fun W => name_any (bsT x.1) (by rw [sizeOf, bytesOf]; exact hx.1) W
  have PL := fun W => placeZ_any (bsT x.2) (by rw [sizeOf, bytesOf]; exact hx.2) W
  have hq := eqT (bsT x.1) (bsT nm)
  rw [bytesOf] at NM PL
  rw [bytesOf, bytesOf] at hq
  have hl := World.block_lt_of_cell? _ _ hb
  have B0 := (Below.refl w.heap.size w).alloc (Nat.le_refl _) (.cells #[.string (bsT x.1), .string (bsT x.2)] 54)
  obtain ⟨x0, x1⟩ := boxV2 w (.string (bsT x.1)) (.string (bsT x.2)) 54
  have hn := (B0.cell (p := ⟨b, 0, none⟩) hl).trans hb
  have HL := Lib.hid (hL.on B0)
  have HB0 := Lib.hid B0
  have hd : decide (x.1 ≠ nm) = !decide (x.1 = nm) := by simp
  rw [hd]
  generalize decide (x.1 = nm) = d at *
  generalize nameB x.1 = p at *
  generalize plZ x.2 = r at *
  generalize bsT x.1 = X at *
  generalize bsT x.2 = Y at *
  generalize bsT nm = M at *
  clear hx hL hb hl B0 hd
  cases p <;> cases d
  all_goals
    go_enter Tryz.func103, Tryz.ntmps103
    go_wp2_with (first
      | (go_at_call 64; (with_reducible refine (NM _).mono ?_); rintro e w1 ⟨rfl, rfl⟩)
      | (go_at_call 65; (with_reducible refine (PL _ HL.out).mono ?_); rintro e w2 ⟨rfl, hb⟩; have HB := Lib.hid (HB0.out.trans (hb.mono HB0.out.size)); clear hb))
    go_ret
    first | exact ⟨retb (by simp), HB.out⟩ | exact ⟨retb (by simp), HB0.out⟩
theorem predT_wrong (l : List Bs) (hl : ∀ q ∈ l, q.length ≤ 4000) (w : World) (h : LaidP w) : PredT l 109 #[] (fun q => !tgC q) w := fun W q hq hb => by
  have := wrongT_any (bsT q) (by rw [sizeOf, bytesOf]; exact hl q hq) W (h.on hb)
  rw [bytesOf] at this
  exact this
end Go.Proofs.YtnfhccnicojdcaaGreatDoor
