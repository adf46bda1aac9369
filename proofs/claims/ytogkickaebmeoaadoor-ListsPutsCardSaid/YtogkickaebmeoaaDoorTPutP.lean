/-
  keyed.Put's predicate: is the name of a list greater? Nothing old turns.
-/
import Derived.Test.YtogkickaebmeoaaDoorTPutRef
import Derived.Test.YtogkickaebmeoaaDoorTClone
import Derived.Deep.RegionHeld3
namespace Go.Proofs.YtogkickaebmeoaaDoor
open Go.RowKit
abbrev PutT (w : World) (B1 B2 b0 : Nat) (k0 k1 x y : Value) (W : World) : Prop :=
  W.cell? ⟨b0, 0, none⟩ = some x ∧ W.cell? ⟨b0, 1, none⟩ = some y ∧ W.cell? ⟨B1, 0, none⟩ = some (.func (.func 52) #[] #[]) ∧ W.cell? ⟨B2, 0, none⟩ = some k0 ∧ W.cell? ⟨B2, 1, none⟩ = some k1 ∧ Below w.heap.size w W
theorem PutT.on {w : World} {B1 B2 b0 : Nat} {k0 k1 x y : Value} {W W1 : World} (h : PutT w B1 B2 b0 k0 k1 x y W) (hb : Below W.heap.size W W1) : PutT w B1 B2 b0 k0 k1 x y W1 := by
  obtain ⟨x0, x1, h2, g0, g1, h4⟩ := h
  exact ⟨(hb.cell (World.block_lt_of_cell? W _ x0)).trans x0, (hb.cell (World.block_lt_of_cell? W _ x1)).trans x1, (hb.cell (World.block_lt_of_cell? W _ h2)).trans h2, (hb.cell (World.block_lt_of_cell? W _ g0)).trans g0, (hb.cell (World.block_lt_of_cell? W _ g1)).trans g1, h4.trans (hb.mono h4.size)⟩
theorem PutT.dr {w : World} {B1 B2 b0 : Nat} {k0 k1 x y : Value} {W : World} (h : PutT w B1 B2 b0 k0 k1 x y W) : PutT w B1 B2 b0 k0 k1 x y W.drew := h.on (Below.refl _ _).drew
theorem overL_is (a b : Bs) : decide (a < b) = (!(decide (b < a) || decide (b = a))) := by
  by_cases h : a < b
  · obtain ⟨h1, h2⟩ := overL_lt (decide_eq_true h)
    rw [h1, h2, decide_eq_true h]; rfl
  · by_cases e : b = a
    · rw [decide_eq_false h, decide_eq_true e, Bool.or_true]; rfl
    · rw [decide_eq_false h, overL_no (decide_eq_false h) e]; rfl
set_option maxRecDepth 100000 in
set_option maxHeartbeats 4000000 in
theorem putpL_any (B1 B2 : Nat) (K : ByteArray) (ka : Option Addr) (kn kc : Nat) (x : Lp) (ua : Option Addr) (un uc : Nat) (hu : x.2 = .slice ua un uc) (W : World) (h1 : W.cell? ⟨B1, 0, none⟩ = some (.func (.func 52) #[] #[])) (h2 : W.cell? ⟨B2, 0, none⟩ = some (.string K)) (h3 : W.cell? ⟨B2, 1, none⟩ = some (.slice ka kn kc)) :
    Calls Tryd.prog 82 #[aggT x, .pointer (some ⟨B1, 0, none⟩), .pointer (some ⟨B2, 0, none⟩)] W fun e w' => e = .returned (.bool (overT K.data.toList x)) ∧ Below W.heap.size W w' := by
  have hls := lessT (bsT x.1.1) K
  have heq := eqT (bsT x.1.1) K
  rw [bytesOf] at hls heq
  have HR := Lib.hid (overL_is K.data.toList x.1.1)
  unfold overT aggT
  rw [hu]
  have PA := fun a b w => nameOf_any a b w
  generalize decide (K.data.toList < x.1.1) = q at *
  generalize decide (x.1.1 < K.data.toList) = q1 at *
  generalize decide (x.1.1 = K.data.toList) = q2 at *
  generalize bsT x.1.1 = X at *
  clear hu
  have l1 := World.block_lt_of_cell? W _ h1
  have l2 := World.block_lt_of_cell? W _ h2
  have B0 := (Below.refl W.heap.size W).alloc (Nat.le_refl _) (.cells #[.string X, .slice ua un uc] 24)
  obtain ⟨x0, x1⟩ := box2 W (.string X) (.slice ua un uc) 24
  have HS := Lib.hid (show PutT W B1 B2 W.heap.size (.string K) (.slice ka kn kc) (.string X) (.slice ua un uc) _ from ⟨x0, x1, (B0.cell l1).trans h1, (B0.cell l2).trans h2, (B0.cell (World.block_lt_of_cell? W _ h3)).trans h3, B0⟩)
  clear x0 x1
  go_enter Tryd.func82, Tryd.ntmps82
  go_wp2
  generalize W.alloc (.cells #[.string X, .slice ua un uc] 24) = W2 at *
  generalize hb0 : W.heap.size = b0 at *
  have hs := HS.out
  obtain ⟨x0, x1, k1, k2, k3, hB⟩ := HS.out
  clear hb0 B0 h1 h2 h3
  go_region_held3 (fun V => V.cell? ⟨b0, 0, none⟩ = some (.string X) ∧ V.cell? ⟨b0, 1, none⟩ = some (.slice ua un uc) ∧ V.cell? ⟨B1, 0, none⟩ = some (.func (.func 52) #[] #[]) ∧ V.cell? ⟨B2, 0, none⟩ = some (.string K) ∧ V.cell? ⟨B2, 1, none⟩ = some (.slice ka kn kc) ∧ Below W.heap.size W V)
    (first | assumption | exact hs | exact PutT.dr hs | exact PutT.on (by assumption) (by assumption))
    ((go_at_call 52; refine (PA _ _ _).mono ?_; rintro e w3 ⟨rfl, hb⟩))
  all_goals
    rename_i hHeld
    have HW3 := Lib.hid hHeld.2.2.2.2.2
    clear hHeld
    go_wp2
    go_ret
    exact ⟨by rw [HR.out]; cases q1 <;> cases q2 <;> rfl, HW3.out⟩
end Go.Proofs.YtogkickaebmeoaaDoor
