/-
  Places and where a choice is, by the reference; a part of a list of texts: what each returns; nothing old turns.
-/
import Derived.Test.YtnfhccnicojdcaaGreatDoorZKeyA
import Derived.Test.YtnfhccnicojdcaaGreatDoorZBest
import Derived.Test.YtnfhccnicojdcaaGreatDoorZLinks
import Derived.Test.YtnfhccnicojdcaaGreatDoorPHas
namespace Go.Proofs.YtnfhccnicojdcaaGreatDoor
open Go.RowKit
theorem HoldT.upto {w : World} {a : Option Addr} {n c : Nat} {l : List Bs} (h : HoldT w (.slice a n c) l) (i : Nat) (hi : i ≤ n) : HoldT w (.slice a i c) (l.take i) := by
  obtain ⟨a', c', b, o, e, hc, ha, hcell⟩ := h
  cases e
  have hl : (l.take i).length = i := by rw [List.length_take]; omega
  refine ⟨a, c, b, o, by rw [hl], by omega, fun h0 => ha (by omega), fun j x hx => hcell j x ?_⟩
  have hj : j < i := by have := (List.getElem?_eq_some_iff.1 hx).1; omega
  rw [← hx, List.getElem?_take_of_lt hj]
set_option maxRecDepth 100000 in
set_option maxHeartbeats 4000000 in
theorem placeZ_ref (p : ByteArray) (hp : p.size ≤ 4000) (w : World) : Calls Tryz.prog 71 #[.string p] w fun e w' => e = .returned (.bool (plZ p.data.toList)) ∧ Below w.heap.size w w' := by
  have R := right_ref p hp w
  have q := eqTL p [47]
  unfold plZ
  generalize right p.data.toList = r at *
  by_cases h47 : p.data.toList = [47]
  · rw [decide_eq_true h47] at q
    rw [decide_eq_false (by simpa using h47)]
    clear h47
    cases r
    all_goals
      go_enter Tryz.func71, Tryz.ntmps71
      go_wp2_with (go_at_call 111; (with_reducible refine R.mono ?_); rintro e w1 ⟨rfl, hb⟩; have HB := Lib.hid hb; clear hb)
      go_ret
      exact ⟨by simp, HB.out⟩
  · rw [decide_eq_false h47] at q
    rw [decide_eq_true (by simpa using h47)]
    clear h47
    cases r
    all_goals
      go_enter Tryz.func71, Tryz.ntmps71
      go_wp2_with (go_at_call 111; (with_reducible refine R.mono ?_); rintro e w1 ⟨rfl, hb⟩; have HB := Lib.hid hb; clear hb)
      go_ret
      exact ⟨by simp, HB.out⟩
set_option maxRecDepth 100000 in
set_option maxHeartbeats 8000000 in
theorem choiceZ_ref (x : Av) (hs : x.ch.length ≤ 90000) (p : ByteArray) (w : World) (h : InA w x) : Calls Tryz.prog 26 #[agZA x, .string p] w fun e w' => e = .returned (.int .i64 (idxC x.ch p.data.toList)) ∧ Below w.heap.size w w' := by
  have B1 := (Below.refl w.heap.size w).alloc (Nat.le_refl _) (.cells #[.string (⟨x.nm.toArray⟩ : ByteArray), .string (⟨x.lk.toArray⟩ : ByteArray), .bool x.mn, .string (⟨x.cr.toArray⟩ : ByteArray), x.sv, x.cv] 26)
  obtain ⟨x0, x1, x2, x3, x4, x5⟩ := boxV6 w (.string (⟨x.nm.toArray⟩ : ByteArray)) (.string (⟨x.lk.toArray⟩ : ByteArray)) (.bool x.mn) (.string (⟨x.cr.toArray⟩ : ByteArray)) x.sv x.cv 26
  obtain ⟨sa, sn, sc, hsv⟩ := formAs h
  obtain ⟨a, c, b, o, hcv, hc, ha, hcell⟩ := HoldC.parts h.2
  unfold agZA
  rw [hsv, hcv] at B1 x0 x1 x2 x3 x4 x5 ⊢
  have HC := Lib.hid hcell
  obtain ⟨Z, HZ⟩ : ∃ Z, Hid (idxC x.ch p.data.toList = Z) := ⟨_, rfl⟩
  rw [HZ.out]
  generalize x.ch = l at *
  generalize (⟨x.nm.toArray⟩ : ByteArray) = X0 at *
  generalize (⟨x.lk.toArray⟩ : ByteArray) = X1 at *
  generalize (⟨x.cr.toArray⟩ : ByteArray) = X3 at *
  generalize x.mn = mn at *
  obtain ⟨n, hN⟩ : ∃ n, l.length = n := ⟨_, rfl⟩
  rw [hN] at hc ha hs B1 x0 x1 x2 x3 x4 x5 ⊢
  have HN := Lib.hid hN
  have HB1 := Lib.hid B1
  have l0 := World.block_lt_of_cell? _ _ x0
  have HX5 := Lib.hid x5
  clear hcell hN h hsv hcv x0 x1 x2 x3 x4 x5 B1
  go_enter Tryz.func26, Tryz.ntmps26
  go_wp2
  generalize w.alloc (.cells #[.string X0, .string X1, .bool mn, .string X3, .slice sa sn sc, .slice a n c] 26) = W1 at *
  go_loop [5] (fun i => ∃ k : Nat, k ≤ n ∧ i = .int .i64 k ∧ Hid (∀ (j : Nat) y, j < k → l[j]? = some y → decide (y.1.1 = p.data.toList) = false)) (fun i => n - (intOf i).toNat)
  case atStart => exact ⟨0, by omega, rfl, Lib.hid (fun j y hj => by omega)⟩
  case round =>
    obtain ⟨k, hk, rfl, H⟩ := hrel
    have hx5 := HX5.out
    by_cases hlt : k < n
    · obtain ⟨rfl, hbw⟩ := ha (by omega)
      obtain ⟨y, hx⟩ : ∃ y, l[k]? = some y := ⟨_, List.getElem?_eq_getElem (by rw [HN.out]; exact hlt)⟩
      obtain ⟨c0, c1, c2⟩ := HC.out k y hx
      rw [← HB1.out.cell (p := ⟨b, o + k * 3, none⟩) hbw] at c0
      have j0 : (0 : Int) ≤ (k : Int) := by omega
      have j1 : (k : Int) < (n : Int) := by omega
      have hq := eqT (⟨y.1.1.toArray⟩ : ByteArray) p
      rw [bytesOf] at hq
      have HK : Hid (decide (y.1.1 = p.data.toList) = false → ∀ (j : Nat) u, j < k + 1 → l[j]? = some u → decide (u.1.1 = p.data.toList) = false) := Lib.hid (fun g j u hj hu => by
        by_cases e : j = k
        · subst e; rw [hx] at hu; cases hu; exact g
        · exact H.out j u (by omega) hu)
      have HF : Hid (decide (y.1.1 = p.data.toList) = true → (k : Int) = Z) := Lib.hid (fun g => by rw [← HZ.out]; exact (idxK_hit hx g H.out).symm)
      generalize decide (y.1.1 = p.data.toList) = q at *
      generalize (⟨y.1.1.toArray⟩ : ByteArray) = Y at *
      clear hx H c1 c2
      cases q
      · have HK2 := Lib.hid (HK.out rfl)
        clear HK HF
        go_wp2
        go_round
        case rel => exact ⟨k + 1, by omega, by go_num, HK2⟩
        case measure => simp [intOf]; omega
      · have HF2 := Lib.hid (HF.out rfl)
        clear HK HF
        go_wp2
        go_ret
        exact ⟨reti HF2.out, HB1.out⟩
    · obtain rfl : k = n := by omega
      have HF : Hid ((-1 : Int) = Z) := Lib.hid (by rw [← HZ.out]; exact (idxK_miss (fun j y hy => H.out j y (by have := (List.getElem?_eq_some_iff.1 hy).1; rw [HN.out] at this; exact this) hy)).symm)
      clear hlt H
      go_wp2
      go_ret
      exact ⟨reti HF.out, HB1.out⟩
end Go.Proofs.YtnfhccnicojdcaaGreatDoor
