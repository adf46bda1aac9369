/-
  cellarerlaw10's few, and the reference's Same of equal lists: what each returns; nothing turns but draws.
-/
import Derived.Test.YtmjfbpiodamamaaGreatDoorOHold
namespace Go.Proofs.YtmjfbpiodamamaaGreatDoor
open Go.RowKit
def FewO (l : List Ov) : Prop := l.length ≤ 70 ∧ ∀ x ∈ l, x.1.length ≤ 300
open Classical in
noncomputable def fewO (l : List Ov) : Bool := decide (FewO l)
open Classical in
theorem fewO_yes {l : List Ov} (h : FewO l) : fewO l = true := by unfold fewO; exact decide_eq_true h
open Classical in
theorem fewO_no {l : List Ov} (h : ¬ FewO l) : fewO l = false := by unfold fewO; exact decide_eq_false h
def FewPostO (l : List Ov) (w : World) (e : Ending) (w' : World) : Prop := e = .returned (.bool (fewO l)) ∧ w = w'
set_option maxRecDepth 100000 in
set_option maxHeartbeats 8000000 in
theorem fewO_any (v : Value) (l : List Ov) (w : World) (hb : l.length ≤ maxLen) (hsz : ∀ x ∈ l, x.1.length ≤ maxLen) (h : HoldO w v l) : Calls Tryz.prog 7 #[v] w (FewPostO l w) := by
  obtain ⟨a, c, b, o, rfl, hc, ha, hcell⟩ := h.parts
  have HC := Lib.hid hcell
  have HSZ := Lib.hid hsz
  have HF : Hid (¬ FewO l → FewPostO l w (.returned (.bool false)) w) := Lib.hid (fun g => ⟨by rw [fewO_no g], rfl⟩)
  have HT : Hid (FewO l → FewPostO l w (.returned (.bool true)) w) := Lib.hid (fun g => ⟨by rw [fewO_yes g], rfl⟩)
  obtain ⟨n, hN⟩ : ∃ n, l.length = n := ⟨_, rfl⟩
  rw [hN] at hc ha hb ⊢
  have HN := Lib.hid hN
  unfold maxLen at hb
  clear hcell hN h hsz
  by_cases h70 : 70 < n
  · have HF2 := Lib.hid (HF.out (fun g => by have := g.1; rw [HN.out] at this; omega))
    go_enter Tryz.func7, Tryz.ntmps7
    go_wp2
    go_ret
    exact HF2.out
  go_enter Tryz.func7, Tryz.ntmps7
  go_wp2
  go_loop [3] (fun i => ∃ k : Nat, k ≤ n ∧ i = .int .i64 k ∧ Hid (∀ (j : Nat) y, j < k → l[j]? = some y → y.1.length ≤ 300)) (fun i => n - (intOf i).toNat)
  case atStart => exact ⟨0, by omega, rfl, Lib.hid (fun j y hj => by omega)⟩
  case round =>
    obtain ⟨k, hk, rfl, H⟩ := hrel
    by_cases hlt : k < n
    · obtain ⟨rfl, hbw⟩ := ha (by omega)
      obtain ⟨x, hx⟩ : ∃ x, l[k]? = some x := ⟨_, List.getElem?_eq_getElem (by rw [HN.out]; exact hlt)⟩
      obtain ⟨c0, -, -, -⟩ := HC.out k x hx
      have hz := HSZ.out x (List.mem_of_getElem? hx)
      unfold maxLen at hz
      obtain ⟨X, hX⟩ : ∃ X, bsT x.1 = X := ⟨_, rfl⟩
      have sX : X.size = x.1.length := by rw [← hX, sizeOf, bytesOf]
      rw [hX] at c0
      have HK : Hid (X.size ≤ 300 → ∀ (j : Nat) y, j < k + 1 → l[j]? = some y → y.1.length ≤ 300) := Lib.hid (fun g1 j y hj hy => by
        by_cases e : j = k
        · subst e; rw [hx] at hy; cases hy; omega
        · exact H.out j y (by omega) hy)
      have HNO : Hid (¬ X.size ≤ 300 → FewPostO l w (.returned (.bool false)) w) := Lib.hid (fun g => HF.out (fun q => g (by have := q.2 x (List.mem_of_getElem? hx); omega)))
      have zX : X.size ≤ 9223372036854775807 := by omega
      clear hX sX hz hx H
      by_cases g1 : 300 < X.size
      · have HN2 := Lib.hid (HNO.out (by omega))
        clear HNO HK
        go_wp2
        go_ret
        exact HN2.out
      have HK2 := Lib.hid (HK.out (by omega))
      clear HK HNO
      go_wp2
      go_round
      case rel => exact ⟨k + 1, by omega, by go_num, HK2⟩
      case measure => simp [intOf]; omega
    · obtain rfl : k = n := by omega
      have HR := Lib.hid (HT.out ⟨by rw [HN.out]; omega, fun y hy => by
        obtain ⟨j, hj⟩ := List.mem_iff_getElem?.1 hy
        exact H.out j y (by have := (List.getElem?_eq_some_iff.1 hj).1; rw [HN.out] at this; exact this) hj⟩)
      clear hlt H HT
      go_wp2
      go_ret
      exact HR.out
set_option maxRecDepth 100000 in
set_option maxHeartbeats 4000000 in
theorem sameO_ref (u v : Value) (l : List Ov) (hl : l.length ≤ 90000) (w : World) (h1 : HoldO w u l) (h2 : HoldO w v l) : Calls Tryz.prog 14 #[u, v] w fun e w' => e = .returned (.bool true) ∧ ∃ q, w' = w.drewN q := by
  obtain ⟨a1, c1, b1, o1, rfl, hc1, ha1, hl1⟩ := h1.parts
  obtain ⟨a2, c2, b2, o2, rfl, hc2, ha2, hl2⟩ := h2.parts
  have H1 := Lib.hid hl1
  have H2 := Lib.hid hl2
  obtain ⟨n, hN⟩ : ∃ n, l.length = n := ⟨_, rfl⟩
  rw [hN] at hc1 ha1 hc2 ha2 hl ⊢
  have HN := Lib.hid hN
  clear hl1 hl2 hN h1 h2
  go_enter Tryz.func14, Tryz.ntmps14
  go_wp2
  go_loopw [5] (fun i wr => ∃ k : Nat, k ≤ n ∧ i = .int .i64 k ∧ Hid (∃ q, wr = w.drewN q)) (fun i _ => n - (intOf i).toNat)
  case atStart => exact ⟨0, by omega, rfl, Lib.hid ⟨0, rfl⟩⟩
  case round =>
    obtain ⟨k, hk, rfl, HQ⟩ := hrel
    by_cases hlt : k < n
    · obtain ⟨rfl, hbw1⟩ := ha1 (by omega)
      obtain ⟨rfl, hbw2⟩ := ha2 (by omega)
      obtain ⟨⟨t, m, u, g⟩, hx⟩ : ∃ x, l[k]? = some x := ⟨_, List.getElem?_eq_getElem (by rw [HN.out]; exact hlt)⟩
      obtain ⟨q, hw⟩ := HQ.out
      obtain ⟨d0, d1, d2, d3⟩ := H1.out k _ hx
      obtain ⟨f0, f1, f2, f3⟩ := H2.out k _ hx
      dsimp only at d0 d1 d2 d3 f0 f1 f2 f3
      rw [← World.cell?_drewN w q] at d0 d1 d2 d3 f0 f1 f2 f3
      rw [← hw] at d0 d1 d2 d3 f0 f1 f2 f3
      have HMM : Hid (∀ m', ∃ q, wr.drewN m' = w.drewN q) := Lib.hid (fun m' => ⟨q + m', by rw [hw, World.drewN_drewN]⟩)
      generalize bsT t = X at *
      have q0 := eqT X X
      rw [decide_eq_true rfl] at q0
      have j0 : (0 : Int) ≤ (k : Int) := by omega
      have j1 : (k : Int) < (n : Int) := by omega
      clear hx hw HQ
      go_wp2
      go_quiet (fail)
      go_wp2
      go_roundw
      case rel => exact ⟨k + 1, by omega, by go_num, Lib.hid (HMM.out _)⟩
      case measure => simp [intOf]; omega
    · obtain rfl : k = n := by omega
      clear hlt
      go_wp2
      go_ret
      exact ⟨rfl, HQ.out⟩
end Go.Proofs.YtmjfbpiodamamaaGreatDoor
