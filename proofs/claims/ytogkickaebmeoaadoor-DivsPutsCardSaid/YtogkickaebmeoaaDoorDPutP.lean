/-
  keyed.Put's predicate: is the key of an element greater? Nothing old turns.
-/
import Derived.Test.YtogkickaebmeoaaDoorDClone
import Derived.Deep.RegionHeld3
namespace Go.Proofs.YtogkickaebmeoaaDoor
open Go.RowKit
abbrev PutS (w : World) (B1 B2 b0 : Nat) (K K2 K3 X Y Z : ByteArray) (W : World) : Prop :=
  W.cell? ⟨b0, 0, none⟩ = some (.string X) ∧ W.cell? ⟨b0, 1, none⟩ = some (.string Y) ∧ W.cell? ⟨b0, 2, none⟩ = some (.string Z) ∧ W.cell? ⟨B1, 0, none⟩ = some (.func (.func 69) #[] #[]) ∧ W.cell? ⟨B2, 0, none⟩ = some (.string K) ∧ W.cell? ⟨B2, 1, none⟩ = some (.string K2) ∧ W.cell? ⟨B2, 2, none⟩ = some (.string K3) ∧ Below w.heap.size w W
theorem PutS.on {w : World} {B1 B2 b0 : Nat} {K K2 K3 X Y Z : ByteArray} {W W1 : World} (h : PutS w B1 B2 b0 K K2 K3 X Y Z W) (hb : Below W.heap.size W W1) : PutS w B1 B2 b0 K K2 K3 X Y Z W1 := by
  obtain ⟨x0, x1, x2, h2, g0, g1, g2, h4⟩ := h
  obtain ⟨y0, y1, y2⟩ := (show At3 W b0 X Y Z from ⟨x0, x1, x2⟩).on hb
  obtain ⟨z0, z1, z2⟩ := (show At3 W B2 K K2 K3 from ⟨g0, g1, g2⟩).on hb
  exact ⟨y0, y1, y2, (hb.cell (World.block_lt_of_cell? W _ h2)).trans h2, z0, z1, z2, h4.trans (hb.mono h4.size)⟩
theorem PutS.dr {w : World} {B1 B2 b0 : Nat} {K K2 K3 X Y Z : ByteArray} {W : World} (h : PutS w B1 B2 b0 K K2 K3 X Y Z W) : PutS w B1 B2 b0 K K2 K3 X Y Z W.drew := h.on (Below.refl _ _).drew
theorem over_is (a b : Bs) : decide (a < b) = (!(decide (b < a) || decide (b = a))) := by
  by_cases h : a < b
  · obtain ⟨h1, h2⟩ := over_lt (decide_eq_true h)
    rw [h1, h2, decide_eq_true h]; rfl
  · by_cases e : b = a
    · rw [decide_eq_false h, decide_eq_true e, Bool.or_true]; rfl
    · rw [decide_eq_false h, over_no (decide_eq_false h) e]; rfl
set_option maxRecDepth 100000 in
set_option maxHeartbeats 4000000 in
theorem putp_any (B1 B2 : Nat) (K K2 K3 : ByteArray) (x : Dv) (W : World) (h1 : W.cell? ⟨B1, 0, none⟩ = some (.func (.func 69) #[] #[])) (h2 : At3 W B2 K K2 K3) :
    Calls Tryd.prog 93 #[aggX x, .pointer (some ⟨B1, 0, none⟩), .pointer (some ⟨B2, 0, none⟩)] W fun e w' => e = .returned (.bool (overB K.data.toList x)) ∧ Below W.heap.size W w' := by
  have hls := lessT (bsA x.1) K
  have heq := eqT (bsA x.1) K
  rw [bytesOf] at hls heq
  have HR := Lib.hid (over_is K.data.toList x.1)
  unfold overB
  show Calls _ _ #[.agg #[.string (bsA x.1), .string (bsA x.2.1), .string (bsA x.2.2)], _, _] _ _
  have PA := fun a b c w => pathOf_any a b c w
  unfold aggD at PA
  generalize decide (K.data.toList < x.1) = q at *
  generalize decide (x.1 < K.data.toList) = q1 at *
  generalize decide (x.1 = K.data.toList) = q2 at *
  generalize bsA x.1 = X at *
  generalize bsA x.2.1 = Y at *
  generalize bsA x.2.2 = Z at *
  have l1 := World.block_lt_of_cell? W _ h1
  have B0 := (Below.refl W.heap.size W).alloc (Nat.le_refl _) (.cells #[.string X, .string Y, .string Z] 54)
  obtain ⟨x0, x1, x2⟩ := box3 W X Y Z 54
  obtain ⟨g0, g1, g2⟩ := h2.on B0
  have HS := Lib.hid (show PutS W B1 B2 W.heap.size K K2 K3 X Y Z _ from ⟨x0, x1, x2, (B0.cell l1).trans h1, g0, g1, g2, B0⟩)
  clear x0 x1 x2 g0 g1 g2
  go_enter Tryd.func93, Tryd.ntmps93
  go_wp2
  generalize W.alloc (.cells #[.string X, .string Y, .string Z] 54) = W2 at *
  generalize hb0 : W.heap.size = b0 at *
  have hs := HS.out
  obtain ⟨x0, x1, x2, k1, k2, k3, k4, hB⟩ := HS.out
  clear hb0 B0 h1 h2
  go_region_held3 (fun V => V.cell? ⟨b0, 0, none⟩ = some (.string X) ∧ V.cell? ⟨b0, 1, none⟩ = some (.string Y) ∧ V.cell? ⟨b0, 2, none⟩ = some (.string Z) ∧ V.cell? ⟨B1, 0, none⟩ = some (.func (.func 69) #[] #[]) ∧ V.cell? ⟨B2, 0, none⟩ = some (.string K) ∧ V.cell? ⟨B2, 1, none⟩ = some (.string K2) ∧ V.cell? ⟨B2, 2, none⟩ = some (.string K3) ∧ Below W.heap.size W V)
    (first | assumption | exact hs | exact PutS.dr hs | exact PutS.on (by assumption) (by assumption))
    ((go_at_call 69; refine (PA _ _ _ _).mono ?_; rintro e w3 ⟨rfl, hb⟩))
  all_goals
    rename_i hHeld
    have HW3 := Lib.hid hHeld.2.2.2.2.2.2.2
    clear hHeld
    go_wp2
    go_ret
    exact ⟨by rw [HR.out]; cases q1 <;> cases q2 <;> rfl, HW3.out⟩
end Go.Proofs.YtogkickaebmeoaaDoor
