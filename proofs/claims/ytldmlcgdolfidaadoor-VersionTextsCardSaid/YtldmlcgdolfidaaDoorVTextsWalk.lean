/-
  The walk of VersionTexts: for every version it returns true; nothing old turns.
-/
import Derived.Test.YtldmlcgdolfidaaDoorVAwake
import Derived.Deep.RegionHeld3
namespace Go.Proofs.YtldmlcgdolfidaaDoor.versionTextsw
open Go.RowKit
theorem fin {w W W1 : World} (h : Below w.heap.size w W) (hb : Below W.heap.size W W1) : Below w.heap.size w W1 := h.trans (hb.mono h.size)
theorem keepS {e : Int} {u r : ByteArray} {w W W1 : World} (h : W.cell? ⟨w.heap.size, 0, none⟩ = some (.int .i64 e) ∧ W.cell? ⟨w.heap.size, 1, none⟩ = some (.string u) ∧ W.cell? ⟨w.heap.size, 2, none⟩ = some (.string r) ∧ Below w.heap.size w W) (hb : Below W.heap.size W W1) :
    W1.cell? ⟨w.heap.size, 0, none⟩ = some (.int .i64 e) ∧ W1.cell? ⟨w.heap.size, 1, none⟩ = some (.string u) ∧ W1.cell? ⟨w.heap.size, 2, none⟩ = some (.string r) ∧ Below w.heap.size w W1 := by
  obtain ⟨h0, h1, h2, h3⟩ := h
  have hlt := World.block_lt_of_cell? W _ h0
  exact ⟨by rw [hb.cell (p := ⟨_, 0, none⟩) hlt]; exact h0, by rw [hb.cell (p := ⟨_, 1, none⟩) hlt]; exact h1, by rw [hb.cell (p := ⟨_, 2, none⟩) hlt]; exact h2, fin h3 hb⟩
theorem drewS {e : Int} {u r : ByteArray} {w W : World} (h : W.cell? ⟨w.heap.size, 0, none⟩ = some (.int .i64 e) ∧ W.cell? ⟨w.heap.size, 1, none⟩ = some (.string u) ∧ W.cell? ⟨w.heap.size, 2, none⟩ = some (.string r) ∧ Below w.heap.size w W) :
    W.drew.cell? ⟨w.heap.size, 0, none⟩ = some (.int .i64 e) ∧ W.drew.cell? ⟨w.heap.size, 1, none⟩ = some (.string u) ∧ W.drew.cell? ⟨w.heap.size, 2, none⟩ = some (.string r) ∧ Below w.heap.size w W.drew := ⟨h.1, h.2.1, h.2.2.1, h.2.2.2.drew⟩
theorem belS {e : Int} {u r : ByteArray} {w W : World} (h : W.cell? ⟨w.heap.size, 0, none⟩ = some (.int .i64 e) ∧ W.cell? ⟨w.heap.size, 1, none⟩ = some (.string u) ∧ W.cell? ⟨w.heap.size, 2, none⟩ = some (.string r) ∧ Below w.heap.size w W) : Below w.heap.size w W := h.2.2.2
set_option maxRecDepth 100000 in
set_option maxHeartbeats 8000000 in
theorem walk (e : Int) (he : -9223372036854775808 ≤ e ∧ e ≤ 9223372036854775807) (u r : ByteArray) (hu : u.size ≤ 9223372036854775807) (hr : r.size ≤ 9223372036854775807) (w : World) (hlv : LaidV w) :
    Calls Tryd.prog 4 #[.agg #[.int .i64 e, .string u, .string r]] w fun e' w' => e' = .returned (.bool true) ∧ Below w.heap.size w w' := by
  have HLW := Lib.hid hlv
  clear hlv
  have AW := fun (w : World) (hw : LaidV w) => vawake w hw
  have hal : Below w.heap.size w (w.alloc (.cells #[.int .i64 e, .string u, .string r] 24)) := (Below.refl _ _).alloc (Nat.le_refl _) _
  by_cases h : 500 < u.size ∨ 500 < r.size
  · have HA := Lib.hid hal
    have h' : 500 < u.size ∨ (¬ 500 < u.size ∧ 500 < r.size) := by omega
    clear h hal
    rcases h' with h | ⟨h1, h⟩
    all_goals
      go_enter Tryd.func4, Tryd.ntmps4
      go_wp2_with (first | (go_at_call 9; refine (AW _ (by first | exact Hid.out (by assumption) | exact LaidV.al (by assumption) _ | exact LaidV.dr (by assumption) _ | exact HLW.out.on (Hid.out (by assumption)) | exact HLW.out.on (belowQ (Hid.out (by assumption)) _) | exact HLW.out.on (Hid.out (by assumption)).drew)).mono ?_; rintro e w1 ⟨rfl, hb⟩; have HLX := Lib.hid (LaidV.on (by first | exact Hid.out (by assumption) | exact LaidV.al (by assumption) _ | exact LaidV.dr (by assumption) _ | exact HLW.out.on (Hid.out (by assumption)) | exact HLW.out.on (belowQ (Hid.out (by assumption)) _) | exact HLW.out.on (Hid.out (by assumption)).drew) hb); have HB := Lib.hid hb; clear hb))
      go_ret
      exact ⟨rfl, HA.out.trans (HB.out.mono HA.out.size)⟩
  · have h1 : u.size ≤ 500 := by omega
    have h2 : r.size ≤ 500 := by omega
    have T1 := fun (w : World) (hw : LaidV w) => vtext_any e he.1 he.2 u r (by omega) (by omega) w hw
    have T2 := fun w => vtext_ref e he.1 he.2 u r (by omega) (by omega) w
    obtain ⟨T, hT⟩ : ∃ T : ByteArray, T = ⟨(verText (e, u.data.toList, r.data.toList)).toArray⟩ := ⟨_, rfl⟩
    rw [← hT] at T1 T2
    have hTT : (T.toList == T.toList) = true := by simp
    clear hT hal h he
    go_enter Tryd.func4, Tryd.ntmps4
    have hb0 : ∀ o, Below w.heap.size w (w.alloc o).drew := fun o => ((Below.refl _ _).alloc (Nat.le_refl _) o).drew
    go_wp2
    go_region_held3 (fun W => W.cell? ⟨w.heap.size, 0, none⟩ = some (.int .i64 e) ∧ W.cell? ⟨w.heap.size, 1, none⟩ = some (.string u) ∧ W.cell? ⟨w.heap.size, 2, none⟩ = some (.string r) ∧ Below w.heap.size w W) (first | exact keepS (by assumption) (by assumption) | (refine ⟨?_, ?_, ?_, hb0 _⟩ <;> go_keep) | exact drewS (by assumption) | go_keep)
      (first | (go_at_call 12; first | ((with_reducible refine (T1 _ (HLW.out.on (belS (e := e) (u := u) (r := r) (by assumption)))).mono ?_); rintro e w1 ⟨rfl, hb⟩)) | (go_at_call 14; first | ((with_reducible refine (T2 _).mono ?_); rintro e w1 ⟨rfl, hb⟩)) | (go_at_call 9; first | ((with_reducible refine (AW _ (HLW.out.on (belS (e := e) (u := u) (r := r) (by assumption)))).mono ?_); rintro e w1 ⟨rfl, hb⟩)))
    all_goals go_wp2
    all_goals go_ret
    all_goals exact ⟨rfl, belS (by assumption)⟩
end Go.Proofs.YtldmlcgdolfidaaDoor.versionTextsw
