/-
  The reference's SameOne at two alternatives of the same content: it returns true; nothing old turns. The program's Int at a text that spells an int as Text does: what it returns; nothing old turns. Condition: LaidZ. The program's read of the example's lines: what it returns; nothing old turns. Condition: LaidZ. The program's Print of an alternative that is automatic and has no slaves: what it returns; nothing old turns. Condition: LaidZ. The program's Parse at the law's example: what it returns; nothing old turns. Condition: LaidZ. cellarerlaw11's example: it comes true; nothing old turns. Condition: LaidZ.
-/
import Derived.Test.YtnfhccnicojdcaaGreatDoorZKeyA
import Derived.Laws.StructEq
import Derived.IntWalk
import Derived.Test.YtnfhccnicojdcaaGreatDoorZText
import Derived.Test.YtnfhccnicojdcaaGreatDoorShelfAtoi
import Derived.Test.YtnfhccnicojdcaaGreatDoorZBest
import Derived.Test.YtnfhccnicojdcaaGreatDoorTBld
import Derived.Test.YtnfhccnicojdcaaGreatDoorYSmall
import Derived.Deep.AppendLies
import Derived.Laws.AppendOwnNone
import Derived.Test.YtnfhccnicojdcaaGreatDoorSPLines2
namespace Go.Proofs.YtnfhccnicojdcaaGreatDoor
open Go.RowKit
set_option maxRecDepth 100000 in
set_option maxHeartbeats 4000000 in
theorem same2_ref (u v : Value) (l : List Bs) (hl : l.length ≤ 90000) (w : World) (h1 : HoldT w u l) (h2 : HoldT w v l) : Calls Tryz.prog 13 #[u, v] w fun e w' => e = .returned (.bool true) ∧ ∃ q, w' = w.drewN q := by
  obtain ⟨a1, c1, b1, o1, rfl, hc1, ha1, hl1⟩ := h1
  obtain ⟨a2, c2, b2, o2, rfl, hc2, ha2, hl2⟩ := h2
  have H1 := Lib.hid hl1
  have H2 := Lib.hid hl2
  obtain ⟨n, hN⟩ : ∃ n, l.length = n := ⟨_, rfl⟩
  rw [hN] at hc1 ha1 hc2 ha2 hl ⊢
  have HN := Lib.hid hN
  clear hl1 hl2 hN
  go_enter Tryz.func13, Tryz.ntmps13
  go_wp2
  go_loopw [5] (fun i wr => ∃ k : Nat, k ≤ n ∧ i = .int .i64 k ∧ Hid (∃ q, wr = w.drewN q)) (fun i _ => n - (intOf i).toNat)
  case atStart => exact ⟨0, by omega, rfl, Lib.hid ⟨0, rfl⟩⟩
  case round =>
    obtain ⟨k, hk, rfl, HQ⟩ := hrel
    by_cases hlt : k < n
    · obtain ⟨rfl, hbw1⟩ := ha1 (by omega)
      obtain ⟨rfl, hbw2⟩ := ha2 (by omega)
      obtain ⟨x, hx⟩ : ∃ x, l[k]? = some x := ⟨_, List.getElem?_eq_getElem (by rw [HN.out]; exact hlt)⟩
      obtain ⟨q, hw⟩ := HQ.out
      have d0 := H1.out k x hx
      have f0 := H2.out k x hx
      rw [← World.cell?_drewN w q] at d0 f0
      rw [← hw] at d0 f0
      have HMM : Hid (∀ m', ∃ q, wr.drewN m' = w.drewN q) := Lib.hid (fun m' => ⟨q + m', by rw [hw, World.drewN_drewN]⟩)
      generalize (⟨x.toArray⟩ : ByteArray) = X at *
      have q0 := eqT X X
      rw [decide_eq_true rfl] at q0
      clear hx hw HQ
      go_wp2
      go_quiet (fail)
      go_wp2
      go_roundw
      case rel => exact ⟨k + 1, by omega, by go_num, Lib.hid (HMM.out _)⟩
      case measure => simp [intOf]; omega
    · obtain rfl : k = n := by omega
      clear hlt
      go_wp2
      go_ret
      exact ⟨rfl, HQ.out⟩
theorem same2_below (u v : Value) (l : List Bs) (hl : l.length ≤ 90000) (w : World) (h1 : HoldT w u l) (h2 : HoldT w v l) : Calls Tryz.prog 13 #[u, v] w fun e w' => e = .returned (.bool true) ∧ Below w.heap.size w w' := (same2_ref u v l hl w h1 h2).mono (fun e w' ⟨he, q, hq⟩ => ⟨he, by rw [hq]; exact belowQ (Below.refl _ _) q⟩)
/-- Two alternatives of the same content, wherever their slices lie. -/
structure Alike (a b : Av) : Prop where
  nm : a.nm = b.nm
  lk : a.lk = b.lk
  mn : a.mn = b.mn
  cr : a.cr = b.cr
  sl : a.sl = b.sl
  ch : a.ch.map (·.1) = b.ch.map (·.1)
set_option maxRecDepth 100000 in
set_option maxHeartbeats 32000000 in
theorem sameOne_ref (a b : Av) (h9 : a.sl.length ≤ 90000 ∧ a.ch.length ≤ 90000 ∧ ∀ c ∈ a.ch, c.1.2.2.length ≤ 90000) (hab : Alike a b) (w : World) (ha : InA w a) (hb : InA w b) :
    Calls Tryz.prog 34 #[agZA a, agZA b] w fun e w' => e = .returned (.bool true) ∧ Below w.heap.size w w' := by
  obtain ⟨b1, b2, b3, b4, b5, b6, b7, b8⟩ := b
  obtain ⟨rfl, rfl, rfl, rfl, rfl, hch⟩ := hab
  dsimp only at hch
  have hcl : b6.length = a.ch.length := by have := congrArg List.length hch; simpa using this.symm
  have B1 := (Below.refl w.heap.size w).alloc (Nat.le_refl _) (.cells #[.string (⟨a.nm.toArray⟩ : ByteArray), .string (⟨a.lk.toArray⟩ : ByteArray), .bool a.mn, .string (⟨a.cr.toArray⟩ : ByteArray), a.sv, a.cv] 26)
  obtain ⟨x0, x1, x2, x3, x4, x5⟩ := boxV6 w (.string (⟨a.nm.toArray⟩ : ByteArray)) (.string (⟨a.lk.toArray⟩ : ByteArray)) (.bool a.mn) (.string (⟨a.cr.toArray⟩ : ByteArray)) a.sv a.cv 26
  obtain ⟨sa, sc, sb, so, hsv, hsc, hsa, hscell⟩ := HoldS.parts ha.1
  obtain ⟨ca, cc, cb, co, hcv, hcc, hca, hccell⟩ := HoldC.parts ha.2
  obtain ⟨ta, tc, tb, tO, htv, htc, hta, htcell⟩ := HoldS.parts hb.1
  obtain ⟨da, dc, db, dO, hdv, hdc, hda, hdcell⟩ := HoldC.parts hb.2
  dsimp only at htv hdv hta hda htcell hdcell htc hdc
  rw [hcl] at hdv hdc hda
  have HI1 := Lib.hid ha.2.2
  have HI2 := Lib.hid hb.2.2
  have H9 := Lib.hid h9.2.2
  have HCH := Lib.hid hch
  unfold agZA
  dsimp only
  rw [htv, hdv]
  rw [hsv, hcv] at B1 x0 x1 x2 x3 x4 x5 ⊢
  obtain ⟨n, hN⟩ : ∃ n, a.sl.length = n := ⟨_, rfl⟩
  obtain ⟨m, hM⟩ : ∃ n, a.ch.length = n := ⟨_, rfl⟩
  have HN := Lib.hid hN
  have HM := Lib.hid hM
  have HS := Lib.hid hscell
  have HC := Lib.hid hccell
  have HT := Lib.hid htcell
  have HD := Lib.hid hdcell
  have h91 := h9.1
  have h92 := h9.2.1
  rw [hN, hM] at B1 x0 x1 x2 x3 x4 x5 ⊢
  rw [hN] at hsa hta hsc htc h91
  rw [hM] at hca hda hcc hdc h92
  obtain ⟨N0, hN0⟩ : ∃ q : ByteArray, (⟨a.nm.toArray⟩ : ByteArray) = q := ⟨_, rfl⟩
  obtain ⟨L0, hL0⟩ : ∃ q : ByteArray, (⟨a.lk.toArray⟩ : ByteArray) = q := ⟨_, rfl⟩
  obtain ⟨R0, hR0⟩ : ∃ q : ByteArray, (⟨a.cr.toArray⟩ : ByteArray) = q := ⟨_, rfl⟩
  obtain ⟨mn, hmn⟩ : ∃ q, a.mn = q := ⟨_, rfl⟩
  rw [hN0, hL0, hR0, hmn] at B1 x0 x1 x2 x3 x4 x5 ⊢
  have e0 := eqT N0 N0
  have e1 := eqT L0 L0
  have e3 := eqT R0 R0
  rw [decide_eq_true rfl] at e0 e1 e3
  have e2 : (mn == mn) = true := by simp
  obtain ⟨y0, y1, y2, y3, y4, y5⟩ := boxV6 (w.alloc (.cells #[.string N0, .string L0, .bool mn, .string R0, .slice sa n sc, .slice ca m cc] 26)) (.string N0) (.string L0) (.bool mn) (.string R0) (.slice ta n tc) (.slice da m dc) 26
  rw [World.size_alloc] at y0 y1 y2 y3 y4 y5
  have hB2 := (Below.refl (w.alloc (.cells #[.string N0, .string L0, .bool mn, .string R0, .slice sa n sc, .slice ca m cc] 26)).heap.size (w.alloc (.cells #[.string N0, .string L0, .bool mn, .string R0, .slice sa n sc, .slice ca m cc] 26))).alloc (Nat.le_refl _) (.cells #[.string N0, .string L0, .bool mn, .string R0, .slice ta n tc, .slice da m dc] 26)
  have l0 := World.block_lt_of_cell? _ _ x0
  have x0 := (hB2.cell (p := ⟨w.heap.size, 0, none⟩) l0).trans x0
  have x1 := (hB2.cell (p := ⟨w.heap.size, 1, none⟩) l0).trans x1
  have x2 := (hB2.cell (p := ⟨w.heap.size, 2, none⟩) l0).trans x2
  have x3 := (hB2.cell (p := ⟨w.heap.size, 3, none⟩) l0).trans x3
  have x4 := (hB2.cell (p := ⟨w.heap.size, 4, none⟩) l0).trans x4
  have x5 := (hB2.cell (p := ⟨w.heap.size, 5, none⟩) l0).trans x5
  have HB := Lib.hid (B1.trans (hB2.mono B1.size))
  have l1 := World.block_lt_of_cell? _ _ x0
  have l2 := World.block_lt_of_cell? _ _ y0
  clear hsv hcv htv hdv hscell hccell htcell hdcell hN hM h9 hch hcl hN0 hL0 hR0 hmn ha hb l0 hB2 B1
  go_enter Tryz.func34, Tryz.ntmps34
  go_wp2
  generalize (w.alloc (.cells #[.string N0, .string L0, .bool mn, .string R0, .slice sa n sc, .slice ca m cc] 26)).alloc (.cells #[.string N0, .string L0, .bool mn, .string R0, .slice ta n tc, .slice da m dc] 26) = W0 at *
  have HX := Lib.hid (And.intro x4 (And.intro x5 (And.intro y4 y5)))
  clear x0 x1 x2 x3 x4 x5 y0 y1 y2 y3 y4 y5
  go_loopw [5] (fun i wr => ∃ k : Nat, k ≤ n ∧ i = .int .i64 k ∧ Hid (Below W0.heap.size W0 wr)) (fun i _ => n - (intOf i).toNat)
  case atStart => exact ⟨0, by omega, rfl, Lib.hid (Below.refl _ _)⟩
  case round =>
    obtain ⟨k, hk, rfl, HW⟩ := hrel
    have hBW := HB.out.trans (HW.out.mono HB.out.size)
    have x4 := (HW.out.cell (p := ⟨w.heap.size, 4, none⟩) l1).trans HX.out.1
    have y4 := (HW.out.cell (p := ⟨w.heap.size + 1, 4, none⟩) l2).trans HX.out.2.2.1
    by_cases hlt : k < n
    · obtain ⟨rfl, hsb⟩ := hsa (by omega)
      obtain ⟨rfl, htb⟩ := hta (by omega)
      obtain ⟨s, hx⟩ : ∃ s, a.sl[k]? = some s := ⟨_, List.getElem?_eq_getElem (by rw [HN.out]; exact hlt)⟩
      obtain ⟨c0, c1⟩ := HS.out k s hx
      obtain ⟨d0, d1⟩ := HT.out k s hx
      rw [← hBW.cell (p := ⟨sb, so + k * 2, none⟩) hsb] at c0
      rw [← hBW.cell (p := ⟨sb, so + k * 2 + 1, none⟩) hsb] at c1
      rw [← hBW.cell (p := ⟨tb, tO + k * 2, none⟩) htb] at d0
      rw [← hBW.cell (p := ⟨tb, tO + k * 2 + 1, none⟩) htb] at d1
      generalize (⟨s.1.toArray⟩ : ByteArray) = S1 at *
      generalize (⟨s.2.toArray⟩ : ByteArray) = S2 at *
      have q0 := eqT S1 S1
      have q1 := eqT S2 S2
      rw [decide_eq_true rfl] at q0 q1
      have i0 : (0 : Int) ≤ (k : Int) := by omega
      have i1 : (k : Int) < (n : Int) := by omega
      have hs := And.intro x4 (And.intro y4 (And.intro c0 (And.intro c1 (And.intro d0 (And.intro d1 HW.out)))))
      clear hx hBW
      go_wp2
      have BE := fun (V : World) (h : V.cell? ⟨w.heap.size, 4, none⟩ = some (.slice (some ⟨sb, so, none⟩) n sc) ∧ V.cell? ⟨w.heap.size + 1, 4, none⟩ = some (.slice (some ⟨tb, tO, none⟩) n tc) ∧ V.cell? ⟨sb, so + k * 2, none⟩ = some (.string S1) ∧ V.cell? ⟨sb, so + k * 2 + 1, none⟩ = some (.string S2) ∧ V.cell? ⟨tb, tO + k * 2, none⟩ = some (.string S1) ∧ V.cell? ⟨tb, tO + k * 2 + 1, none⟩ = some (.string S2) ∧ Below W0.heap.size W0 V) => AtF.be (w := W0) (l := [(⟨w.heap.size, 4, none⟩, .slice (some ⟨sb, so, none⟩) n sc), (⟨w.heap.size + 1, 4, none⟩, .slice (some ⟨tb, tO, none⟩) n tc), (⟨sb, so + k * 2, none⟩, .string S1), (⟨sb, so + k * 2 + 1, none⟩, .string S2), (⟨tb, tO + k * 2, none⟩, .string S1), (⟨tb, tO + k * 2 + 1, none⟩, .string S2)]) h
      refine wp_region_held_drew (S := (fun V => V.cell? ⟨w.heap.size, 4, none⟩ = some (.slice (some ⟨sb, so, none⟩) n sc) ∧ V.cell? ⟨w.heap.size + 1, 4, none⟩ = some (.slice (some ⟨tb, tO, none⟩) n tc) ∧ V.cell? ⟨sb, so + k * 2, none⟩ = some (.string S1) ∧ V.cell? ⟨sb, so + k * 2 + 1, none⟩ = some (.string S2) ∧ V.cell? ⟨tb, tO + k * 2, none⟩ = some (.string S1) ∧ V.cell? ⟨tb, tO + k * 2 + 1, none⟩ = some (.string S2) ∧ Below W0.heap.size W0 V)) (by kernel_rfl) ?_ (fun hHeld => ?_)
      · (try dsimp only); (first | assumption | exact hs | exact AtF.dr (w := W0) (l := [(⟨w.heap.size, 4, none⟩, .slice (some ⟨sb, so, none⟩) n sc), (⟨w.heap.size + 1, 4, none⟩, .slice (some ⟨tb, tO, none⟩) n tc), (⟨sb, so + k * 2, none⟩, .string S1), (⟨sb, so + k * 2 + 1, none⟩, .string S2), (⟨tb, tO + k * 2, none⟩, .string S1), (⟨tb, tO + k * 2 + 1, none⟩, .string S2)]) hs | exact AtF.dr (w := W0) (l := [(⟨w.heap.size, 4, none⟩, .slice (some ⟨sb, so, none⟩) n sc), (⟨w.heap.size + 1, 4, none⟩, .slice (some ⟨tb, tO, none⟩) n tc), (⟨sb, so + k * 2, none⟩, .string S1), (⟨sb, so + k * 2 + 1, none⟩, .string S2), (⟨tb, tO + k * 2, none⟩, .string S1), (⟨tb, tO + k * 2 + 1, none⟩, .string S2)]) (by assumption) | exact AtF.on (w := W0) (l := [(⟨w.heap.size, 4, none⟩, .slice (some ⟨sb, so, none⟩) n sc), (⟨w.heap.size + 1, 4, none⟩, .slice (some ⟨tb, tO, none⟩) n tc), (⟨sb, so + k * 2, none⟩, .string S1), (⟨sb, so + k * 2 + 1, none⟩, .string S2), (⟨tb, tO + k * 2, none⟩, .string S1), (⟨tb, tO + k * 2 + 1, none⟩, .string S2)]) (by assumption) (by assumption) | exact AtF.al (w := W0) (l := [(⟨w.heap.size, 4, none⟩, .slice (some ⟨sb, so, none⟩) n sc), (⟨w.heap.size + 1, 4, none⟩, .slice (some ⟨tb, tO, none⟩) n tc), (⟨sb, so + k * 2, none⟩, .string S1), (⟨sb, so + k * 2 + 1, none⟩, .string S2), (⟨tb, tO + k * 2, none⟩, .string S1), (⟨tb, tO + k * 2 + 1, none⟩, .string S2)]) (by assumption) _ | exact AtF.ald (w := W0) (l := [(⟨w.heap.size, 4, none⟩, .slice (some ⟨sb, so, none⟩) n sc), (⟨w.heap.size + 1, 4, none⟩, .slice (some ⟨tb, tO, none⟩) n tc), (⟨sb, so + k * 2, none⟩, .string S1), (⟨sb, so + k * 2 + 1, none⟩, .string S2), (⟨tb, tO + k * 2, none⟩, .string S1), (⟨tb, tO + k * 2 + 1, none⟩, .string S2)]) (by assumption) _ | exact AtF.al (w := W0) (l := [(⟨w.heap.size, 4, none⟩, .slice (some ⟨sb, so, none⟩) n sc), (⟨w.heap.size + 1, 4, none⟩, .slice (some ⟨tb, tO, none⟩) n tc), (⟨sb, so + k * 2, none⟩, .string S1), (⟨sb, so + k * 2 + 1, none⟩, .string S2), (⟨tb, tO + k * 2, none⟩, .string S1), (⟨tb, tO + k * 2 + 1, none⟩, .string S2)]) hs _ | exact AtF.ald (w := W0) (l := [(⟨w.heap.size, 4, none⟩, .slice (some ⟨sb, so, none⟩) n sc), (⟨w.heap.size + 1, 4, none⟩, .slice (some ⟨tb, tO, none⟩) n tc), (⟨sb, so + k * 2, none⟩, .string S1), (⟨sb, so + k * 2 + 1, none⟩, .string S2), (⟨tb, tO + k * 2, none⟩, .string S1), (⟨tb, tO + k * 2 + 1, none⟩, .string S2)]) hs _)
      refine heldY 0 58 ?_ _ rfl rfl (by kernel_rfl) (by kernel_rfl) (by kernel_rfl) (fun _ _ _ h => h) rfl (by assumption) ?_ ?_
      rotate_left
      · (intro w hSw; (try dsimp only at hSw); go_simp; (try with_reducible rfl))
      try simp only [List.setIfInBounds_toArray, List.set_cons_zero, List.set_cons_succ]
      refine heldY 1 59 ?_ _ rfl rfl (by kernel_rfl) (by kernel_rfl) (by kernel_rfl) (fun _ _ _ h => h) rfl (by assumption) ?_ ?_
      rotate_left
      · (intro w hSw; (try dsimp only at hSw); go_simp; (try with_reducible rfl))
      try simp only [List.setIfInBounds_toArray, List.set_cons_zero, List.set_cons_succ]
      refine heldY 2 60 ?_ _ rfl rfl (by kernel_rfl) (by kernel_rfl) (by kernel_rfl) (fun _ _ _ h => h) rfl (by assumption) ?_ ?_
      rotate_left
      · (intro w hSw; (try dsimp only at hSw); go_simp; (try with_reducible rfl))
      try simp only [List.setIfInBounds_toArray, List.set_cons_zero, List.set_cons_succ]
      refine heldY 3 61 ?_ _ rfl rfl (by kernel_rfl) (by kernel_rfl) (by kernel_rfl) (fun _ _ _ h => h) rfl (by assumption) ?_ ?_
      rotate_left
      · (intro w hSw; (try dsimp only at hSw); go_simp; (try with_reducible rfl))
      try simp only [List.setIfInBounds_toArray, List.set_cons_zero, List.set_cons_succ]
      refine heldY 4 62 ?_ _ rfl rfl (by kernel_rfl) (by kernel_rfl) (by kernel_rfl) (fun _ _ _ h => h) rfl (by assumption) ?_ ?_
      rotate_left
      · (intro w hSw; (try dsimp only at hSw); go_simp; (try with_reducible rfl))
      try simp only [List.setIfInBounds_toArray, List.set_cons_zero, List.set_cons_succ]
      refine heldY 5 63 ?_ _ rfl rfl (by kernel_rfl) (by kernel_rfl) (by kernel_rfl) (fun _ _ _ h => h) rfl (by assumption) ?_ ?_
      rotate_left
      · (intro w hSw; (try dsimp only at hSw); go_simp; (try with_reducible rfl))
      try simp only [List.setIfInBounds_toArray, List.set_cons_zero, List.set_cons_succ]
      refine heldY 6 64 ?_ _ rfl rfl (by kernel_rfl) (by kernel_rfl) (by kernel_rfl) (fun _ _ _ h => h) rfl (by assumption) ?_ ?_
      rotate_left
      · (intro w hSw; (try dsimp only at hSw); go_simp; (try with_reducible rfl))
      try simp only [List.setIfInBounds_toArray, List.set_cons_zero, List.set_cons_succ]
      refine heldY 7 65 ?_ _ rfl rfl (by kernel_rfl) (by kernel_rfl) (by kernel_rfl) (fun _ _ _ h => h) rfl (by assumption) ?_ ?_
      rotate_left
      · (intro w hSw; (try dsimp only at hSw); go_simp; (try with_reducible rfl))
      try simp only [List.setIfInBounds_toArray, List.set_cons_zero, List.set_cons_succ]
      refine heldY 8 66 ?_ _ rfl rfl (by kernel_rfl) (by kernel_rfl) (by kernel_rfl) (fun _ _ _ h => h) rfl (by assumption) ?_ ?_
      rotate_left
      · (intro w hSw; (try dsimp only at hSw); go_simp; (try with_reducible rfl))
      try simp only [List.setIfInBounds_toArray, List.set_cons_zero, List.set_cons_succ]
      refine heldY 9 67 ?_ _ rfl rfl (by kernel_rfl) (by kernel_rfl) (by kernel_rfl) (fun _ _ _ h => h) rfl (by assumption) ?_ ?_
      rotate_left
      · (intro w hSw; (try dsimp only at hSw); go_simp; (try with_reducible rfl))
      try simp only [List.setIfInBounds_toArray, List.set_cons_zero, List.set_cons_succ]
      refine heldY 10 68 ?_ _ rfl rfl (by kernel_rfl) (by kernel_rfl) (by kernel_rfl) (fun _ _ _ h => h) rfl (by assumption) ?_ ?_
      rotate_left
      · (intro w hSw; (try dsimp only at hSw); go_simp; (try with_reducible rfl))
      try simp only [List.setIfInBounds_toArray, List.set_cons_zero, List.set_cons_succ]
      refine wpAnyH_done (by kernel_rfl) ?_ _
      have HW4 := Lib.hid (BE _ hHeld)
      clear hHeld BE hs
      go_wp2
      go_roundw
      case rel => exact ⟨k + 1, by omega, by go_num, HW4⟩
      case measure => simp [intOf]; omega
    · obtain rfl : n = k := by omega
      have HW0 := HW
      clear hBW
      go_wp2
      go_loopw [6] (fun i wr => ∃ k : Nat, k ≤ m ∧ i = .int .i64 k ∧ Hid (Below W0.heap.size W0 wr)) (fun i _ => m - (intOf i).toNat)
      case atStart => exact ⟨0, by omega, rfl, HW0⟩
      clear x4 y4 HW0 HW
      case round =>
        obtain ⟨k, hk, rfl, HW⟩ := hrel
        have hBW := HB.out.trans (HW.out.mono HB.out.size)
        have x5 := (HW.out.cell (p := ⟨w.heap.size, 5, none⟩) l1).trans HX.out.2.1
        have y5 := (HW.out.cell (p := ⟨w.heap.size + 1, 5, none⟩) l2).trans HX.out.2.2.2
        by_cases hlt : k < m
        · obtain ⟨rfl, hcb⟩ := hca (by omega)
          obtain ⟨rfl, hdb⟩ := hda (by omega)
          obtain ⟨y, hx⟩ : ∃ s, a.ch[k]? = some s := ⟨_, List.getElem?_eq_getElem (by rw [HM.out]; exact hlt)⟩
          obtain ⟨v, hv, hyv⟩ : ∃ v, b6[k]? = some v ∧ v.1 = y.1 := by
            have := congrArg (·[k]?) HCH.out
            simp only [List.getElem?_map, hx] at this
            obtain ⟨v, hv, e⟩ := Option.map_eq_some_iff.1 this.symm
            exact ⟨v, hv, e⟩
          obtain ⟨c0, c1, c2⟩ := HC.out k y hx
          obtain ⟨d0, d1, d2⟩ := HD.out k v hv
          rw [hyv] at d0 d1
          have hy := HI1.out y (List.mem_of_getElem? hx)
          have hw := HI2.out v (List.mem_of_getElem? hv)
          rw [hyv] at hw
          have SM := fun W (hb : Below W0.heap.size W0 W) => same2_below y.2 v.2 y.1.2.2 (H9.out y (List.mem_of_getElem? hx)) W (hy.on (HB.out.trans (hb.mono HB.out.size))) (hw.on (HB.out.trans (hb.mono HB.out.size)))
          obtain ⟨p0, p1, p2, hp⟩ : ∃ a n c, y.2 = .slice a n c := by obtain ⟨a, c, b, o, e, _⟩ := hy; exact ⟨_, _, _, e⟩
          obtain ⟨r0, r1, r2, hr⟩ : ∃ a n c, v.2 = .slice a n c := by obtain ⟨a, c, b, o, e, _⟩ := hw; exact ⟨_, _, _, e⟩
          rw [hp] at c2 SM
          rw [hr] at d2 SM
          rw [← hBW.cell (p := ⟨cb, co + k * 3, none⟩) hcb] at c0
          rw [← hBW.cell (p := ⟨cb, co + k * 3 + 1, none⟩) hcb] at c1
          rw [← hBW.cell (p := ⟨cb, co + k * 3 + 2, none⟩) hcb] at c2
          rw [← hBW.cell (p := ⟨db, dO + k * 3, none⟩) hdb] at d0
          rw [← hBW.cell (p := ⟨db, dO + k * 3 + 1, none⟩) hdb] at d1
          rw [← hBW.cell (p := ⟨db, dO + k * 3 + 2, none⟩) hdb] at d2
          generalize (⟨y.1.1.toArray⟩ : ByteArray) = S1 at *
          generalize y.1.2.1 = z at *
          have q0 := eqT S1 S1
          rw [decide_eq_true rfl] at q0
          have q1 : (z == z) = true := by simp
          have i0 : (0 : Int) ≤ (k : Int) := by omega
          have i1 : (k : Int) < (m : Int) := by omega
          have hs := And.intro x5 (And.intro y5 (And.intro c0 (And.intro c1 (And.intro c2 (And.intro d0 (And.intro d1 (And.intro d2 HW.out)))))))
          clear hx hv hyv hy hw hp hr hBW
          go_wp2
          have BE := fun (V : World) (h : V.cell? ⟨w.heap.size, 5, none⟩ = some (.slice (some ⟨cb, co, none⟩) m cc) ∧ V.cell? ⟨w.heap.size + 1, 5, none⟩ = some (.slice (some ⟨db, dO, none⟩) m dc) ∧ V.cell? ⟨cb, co + k * 3, none⟩ = some (.string S1) ∧ V.cell? ⟨cb, co + k * 3 + 1, none⟩ = some (.int .i64 z) ∧ V.cell? ⟨cb, co + k * 3 + 2, none⟩ = some (.slice p0 p1 p2) ∧ V.cell? ⟨db, dO + k * 3, none⟩ = some (.string S1) ∧ V.cell? ⟨db, dO + k * 3 + 1, none⟩ = some (.int .i64 z) ∧ V.cell? ⟨db, dO + k * 3 + 2, none⟩ = some (.slice r0 r1 r2) ∧ Below W0.heap.size W0 V) => AtF.be (w := W0) (l := [(⟨w.heap.size, 5, none⟩, .slice (some ⟨cb, co, none⟩) m cc), (⟨w.heap.size + 1, 5, none⟩, .slice (some ⟨db, dO, none⟩) m dc), (⟨cb, co + k * 3, none⟩, .string S1), (⟨cb, co + k * 3 + 1, none⟩, .int .i64 z), (⟨cb, co + k * 3 + 2, none⟩, .slice p0 p1 p2), (⟨db, dO + k * 3, none⟩, .string S1), (⟨db, dO + k * 3 + 1, none⟩, .int .i64 z), (⟨db, dO + k * 3 + 2, none⟩, .slice r0 r1 r2)]) h
          refine wp_region_held_drew (S := (fun V => V.cell? ⟨w.heap.size, 5, none⟩ = some (.slice (some ⟨cb, co, none⟩) m cc) ∧ V.cell? ⟨w.heap.size + 1, 5, none⟩ = some (.slice (some ⟨db, dO, none⟩) m dc) ∧ V.cell? ⟨cb, co + k * 3, none⟩ = some (.string S1) ∧ V.cell? ⟨cb, co + k * 3 + 1, none⟩ = some (.int .i64 z) ∧ V.cell? ⟨cb, co + k * 3 + 2, none⟩ = some (.slice p0 p1 p2) ∧ V.cell? ⟨db, dO + k * 3, none⟩ = some (.string S1) ∧ V.cell? ⟨db, dO + k * 3 + 1, none⟩ = some (.int .i64 z) ∧ V.cell? ⟨db, dO + k * 3 + 2, none⟩ = some (.slice r0 r1 r2) ∧ Below W0.heap.size W0 V)) (by kernel_rfl) ?_ (fun hHeld => ?_)
          · (try dsimp only); (first | assumption | exact hs | exact AtF.dr (w := W0) (l := [(⟨w.heap.size, 5, none⟩, .slice (some ⟨cb, co, none⟩) m cc), (⟨w.heap.size + 1, 5, none⟩, .slice (some ⟨db, dO, none⟩) m dc), (⟨cb, co + k * 3, none⟩, .string S1), (⟨cb, co + k * 3 + 1, none⟩, .int .i64 z), (⟨cb, co + k * 3 + 2, none⟩, .slice p0 p1 p2), (⟨db, dO + k * 3, none⟩, .string S1), (⟨db, dO + k * 3 + 1, none⟩, .int .i64 z), (⟨db, dO + k * 3 + 2, none⟩, .slice r0 r1 r2)]) hs | exact AtF.dr (w := W0) (l := [(⟨w.heap.size, 5, none⟩, .slice (some ⟨cb, co, none⟩) m cc), (⟨w.heap.size + 1, 5, none⟩, .slice (some ⟨db, dO, none⟩) m dc), (⟨cb, co + k * 3, none⟩, .string S1), (⟨cb, co + k * 3 + 1, none⟩, .int .i64 z), (⟨cb, co + k * 3 + 2, none⟩, .slice p0 p1 p2), (⟨db, dO + k * 3, none⟩, .string S1), (⟨db, dO + k * 3 + 1, none⟩, .int .i64 z), (⟨db, dO + k * 3 + 2, none⟩, .slice r0 r1 r2)]) (by assumption) | exact AtF.on (w := W0) (l := [(⟨w.heap.size, 5, none⟩, .slice (some ⟨cb, co, none⟩) m cc), (⟨w.heap.size + 1, 5, none⟩, .slice (some ⟨db, dO, none⟩) m dc), (⟨cb, co + k * 3, none⟩, .string S1), (⟨cb, co + k * 3 + 1, none⟩, .int .i64 z), (⟨cb, co + k * 3 + 2, none⟩, .slice p0 p1 p2), (⟨db, dO + k * 3, none⟩, .string S1), (⟨db, dO + k * 3 + 1, none⟩, .int .i64 z), (⟨db, dO + k * 3 + 2, none⟩, .slice r0 r1 r2)]) (by assumption) (by assumption) | exact AtF.al (w := W0) (l := [(⟨w.heap.size, 5, none⟩, .slice (some ⟨cb, co, none⟩) m cc), (⟨w.heap.size + 1, 5, none⟩, .slice (some ⟨db, dO, none⟩) m dc), (⟨cb, co + k * 3, none⟩, .string S1), (⟨cb, co + k * 3 + 1, none⟩, .int .i64 z), (⟨cb, co + k * 3 + 2, none⟩, .slice p0 p1 p2), (⟨db, dO + k * 3, none⟩, .string S1), (⟨db, dO + k * 3 + 1, none⟩, .int .i64 z), (⟨db, dO + k * 3 + 2, none⟩, .slice r0 r1 r2)]) (by assumption) _ | exact AtF.ald (w := W0) (l := [(⟨w.heap.size, 5, none⟩, .slice (some ⟨cb, co, none⟩) m cc), (⟨w.heap.size + 1, 5, none⟩, .slice (some ⟨db, dO, none⟩) m dc), (⟨cb, co + k * 3, none⟩, .string S1), (⟨cb, co + k * 3 + 1, none⟩, .int .i64 z), (⟨cb, co + k * 3 + 2, none⟩, .slice p0 p1 p2), (⟨db, dO + k * 3, none⟩, .string S1), (⟨db, dO + k * 3 + 1, none⟩, .int .i64 z), (⟨db, dO + k * 3 + 2, none⟩, .slice r0 r1 r2)]) (by assumption) _ | exact AtF.al (w := W0) (l := [(⟨w.heap.size, 5, none⟩, .slice (some ⟨cb, co, none⟩) m cc), (⟨w.heap.size + 1, 5, none⟩, .slice (some ⟨db, dO, none⟩) m dc), (⟨cb, co + k * 3, none⟩, .string S1), (⟨cb, co + k * 3 + 1, none⟩, .int .i64 z), (⟨cb, co + k * 3 + 2, none⟩, .slice p0 p1 p2), (⟨db, dO + k * 3, none⟩, .string S1), (⟨db, dO + k * 3 + 1, none⟩, .int .i64 z), (⟨db, dO + k * 3 + 2, none⟩, .slice r0 r1 r2)]) hs _ | exact AtF.ald (w := W0) (l := [(⟨w.heap.size, 5, none⟩, .slice (some ⟨cb, co, none⟩) m cc), (⟨w.heap.size + 1, 5, none⟩, .slice (some ⟨db, dO, none⟩) m dc), (⟨cb, co + k * 3, none⟩, .string S1), (⟨cb, co + k * 3 + 1, none⟩, .int .i64 z), (⟨cb, co + k * 3 + 2, none⟩, .slice p0 p1 p2), (⟨db, dO + k * 3, none⟩, .string S1), (⟨db, dO + k * 3 + 1, none⟩, .int .i64 z), (⟨db, dO + k * 3 + 2, none⟩, .slice r0 r1 r2)]) hs _)
          refine heldY 0 76 ?_ _ rfl rfl (by kernel_rfl) (by kernel_rfl) (by kernel_rfl) (fun _ _ _ h => h) rfl (by assumption) ?_ ?_
          rotate_left
          · (intro w hSw; (try dsimp only at hSw); go_simp; (try with_reducible rfl))
          try simp only [List.setIfInBounds_toArray, List.set_cons_zero, List.set_cons_succ]
          refine heldY 1 77 ?_ _ rfl rfl (by kernel_rfl) (by kernel_rfl) (by kernel_rfl) (fun _ _ _ h => h) rfl (by assumption) ?_ ?_
          rotate_left
          · (intro w hSw; (try dsimp only at hSw); go_simp; (try with_reducible rfl))
          try simp only [List.setIfInBounds_toArray, List.set_cons_zero, List.set_cons_succ]
          refine heldY 2 78 ?_ _ rfl rfl (by kernel_rfl) (by kernel_rfl) (by kernel_rfl) (fun _ _ _ h => h) rfl (by assumption) ?_ ?_
          rotate_left
          · (intro w hSw; (try dsimp only at hSw); go_simp; (try with_reducible rfl))
          try simp only [List.setIfInBounds_toArray, List.set_cons_zero, List.set_cons_succ]
          refine heldY 3 79 ?_ _ rfl rfl (by kernel_rfl) (by kernel_rfl) (by kernel_rfl) (fun _ _ _ h => h) rfl (by assumption) ?_ ?_
          rotate_left
          · (intro w hSw; (try dsimp only at hSw); go_simp; (try with_reducible rfl))
          try simp only [List.setIfInBounds_toArray, List.set_cons_zero, List.set_cons_succ]
          refine heldY 4 80 ?_ _ rfl rfl (by kernel_rfl) (by kernel_rfl) (by kernel_rfl) (fun _ _ _ h => h) rfl (by assumption) ?_ ?_
          rotate_left
          · (intro w hSw; (try dsimp only at hSw); go_simp; (try with_reducible rfl))
          try simp only [List.setIfInBounds_toArray, List.set_cons_zero, List.set_cons_succ]
          refine heldY 5 81 ?_ _ rfl rfl (by kernel_rfl) (by kernel_rfl) (by kernel_rfl) (fun _ _ _ h => h) rfl (by assumption) ?_ ?_
          rotate_left
          · (intro w hSw; (try dsimp only at hSw); go_simp; (try with_reducible rfl))
          try simp only [List.setIfInBounds_toArray, List.set_cons_zero, List.set_cons_succ]
          refine heldY 6 82 ?_ _ rfl rfl (by kernel_rfl) (by kernel_rfl) (by kernel_rfl) (fun _ _ _ h => h) rfl (by assumption) ?_ ?_
          rotate_left
          · (intro w hSw; (try dsimp only at hSw); go_simp; (try with_reducible rfl))
          try simp only [List.setIfInBounds_toArray, List.set_cons_zero, List.set_cons_succ]
          refine heldY 7 83 ?_ _ rfl rfl (by kernel_rfl) (by kernel_rfl) (by kernel_rfl) (fun _ _ _ h => h) rfl (by assumption) ?_ ?_
          rotate_left
          · (intro w hSw; (try dsimp only at hSw); go_simp; (try with_reducible rfl))
          try simp only [List.setIfInBounds_toArray, List.set_cons_zero, List.set_cons_succ]
          refine heldY 8 84 ?_ _ rfl rfl (by kernel_rfl) (by kernel_rfl) (by kernel_rfl) (fun _ _ _ h => h) rfl (by assumption) ?_ ?_
          rotate_left
          · (intro w hSw; (try dsimp only at hSw); go_simp; (try with_reducible rfl))
          try simp only [List.setIfInBounds_toArray, List.set_cons_zero, List.set_cons_succ]
          refine heldY 9 85 ?_ _ rfl rfl (by kernel_rfl) (by kernel_rfl) (by kernel_rfl) (fun _ _ _ h => h) rfl (by assumption) ?_ ?_
          rotate_left
          · (intro w hSw; (try dsimp only at hSw); go_simp; (try with_reducible rfl))
          try simp only [List.setIfInBounds_toArray, List.set_cons_zero, List.set_cons_succ]
          refine heldY 10 86 ?_ _ rfl rfl (by kernel_rfl) (by kernel_rfl) (by kernel_rfl) (fun _ _ _ h => h) rfl (by assumption) ?_ ?_
          rotate_left
          · (intro w hSw; (try dsimp only at hSw); go_simp; (try with_reducible rfl))
          try simp only [List.setIfInBounds_toArray, List.set_cons_zero, List.set_cons_succ]
          refine heldY 11 87 ?_ _ rfl rfl (by kernel_rfl) (by kernel_rfl) (by kernel_rfl) (fun _ _ _ h => h) rfl (by assumption) ?_ ?_
          rotate_left
          · (intro w hSw; (try dsimp only at hSw); go_simp; (try with_reducible rfl))
          try simp only [List.setIfInBounds_toArray, List.set_cons_zero, List.set_cons_succ]
          refine heldY 12 88 ?_ _ rfl rfl (by kernel_rfl) (by kernel_rfl) (by kernel_rfl) (fun _ _ _ h => h) rfl (by assumption) ?_ ?_
          rotate_left
          · (intro w hSw; (try dsimp only at hSw); go_simp; (try with_reducible rfl))
          try simp only [List.setIfInBounds_toArray, List.set_cons_zero, List.set_cons_succ]
          refine heldY 13 89 ?_ _ rfl rfl (by kernel_rfl) (by kernel_rfl) (by kernel_rfl) (fun _ _ _ h => h) rfl (by assumption) ?_ ?_
          rotate_left
          · (intro w hSw; (try dsimp only at hSw); go_simp; (try with_reducible rfl))
          try simp only [List.setIfInBounds_toArray, List.set_cons_zero, List.set_cons_succ]
          refine heldY 14 90 ?_ _ rfl rfl (by kernel_rfl) (by kernel_rfl) (by kernel_rfl) (fun _ _ _ h => h) rfl (by assumption) ?_ ?_
          rotate_left
          · (intro w hSw; (try dsimp only at hSw); go_simp; (try with_reducible rfl))
          try simp only [List.setIfInBounds_toArray, List.set_cons_zero, List.set_cons_succ]
          refine heldY 15 91 ?_ _ rfl rfl (by kernel_rfl) (by kernel_rfl) (by kernel_rfl) (fun _ _ _ h => h) rfl (by assumption) ?_ ?_
          rotate_left
          · (intro w hSw; (try dsimp only at hSw); go_simp; (try with_reducible rfl))
          try simp only [List.setIfInBounds_toArray, List.set_cons_zero, List.set_cons_succ]
          refine heldY 16 92 ?_ _ rfl rfl (by kernel_rfl) (by kernel_rfl) (by kernel_rfl) (fun _ _ _ h => h) rfl (by assumption) ?_ ?_
          rotate_left
          · (intro w hSw; (try dsimp only at hSw); go_simp; (try with_reducible rfl))
          try simp only [List.setIfInBounds_toArray, List.set_cons_zero, List.set_cons_succ]
          refine heldY 17 93 ?_ _ rfl rfl (by kernel_rfl) (by kernel_rfl) (by kernel_rfl) (fun _ _ _ h => h) rfl (by assumption) ?_ ?_
          rotate_left
          · (intro w hSw; (try dsimp only at hSw); go_simp; (try with_reducible rfl))
          try simp only [List.setIfInBounds_toArray, List.set_cons_zero, List.set_cons_succ]
          refine heldY 18 94 ?_ _ rfl rfl (by kernel_rfl) (by kernel_rfl) (by kernel_rfl) (fun _ _ _ h => h) rfl (by assumption) ?_ ?_
          rotate_left
          · (intro w hSw; (try dsimp only at hSw); go_simp; (try with_reducible rfl))
          try simp only [List.setIfInBounds_toArray, List.set_cons_zero, List.set_cons_succ]
          refine heldY 19 95 ?_ _ rfl rfl (by kernel_rfl) (by kernel_rfl) (by kernel_rfl) (fun _ _ _ h => h) rfl (by assumption) ?_ ?_
          rotate_left
          · (intro w hSw; (try dsimp only at hSw); go_simp; (try with_reducible rfl))
          try simp only [List.setIfInBounds_toArray, List.set_cons_zero, List.set_cons_succ]
          refine heldY 20 96 ?_ _ rfl rfl (by kernel_rfl) (by kernel_rfl) (by kernel_rfl) (fun _ _ _ h => h) rfl (by assumption) ?_ ?_
          rotate_left
          · (intro w hSw; (try dsimp only at hSw); go_simp; (try with_reducible rfl))
          try simp only [List.setIfInBounds_toArray, List.set_cons_zero, List.set_cons_succ]
          refine heldY 21 97 ?_ _ rfl rfl (by kernel_rfl) (by kernel_rfl) (by kernel_rfl) (fun _ _ _ h => h) rfl (by assumption) ?_ ?_
          rotate_left
          · (intro w hSw; (try dsimp only at hSw); go_simp; (try with_reducible rfl))
          try simp only [List.setIfInBounds_toArray, List.set_cons_zero, List.set_cons_succ]
          refine heldY 22 98 ?_ _ rfl rfl (by kernel_rfl) (by kernel_rfl) (by kernel_rfl) (fun _ _ _ h => h) rfl (by assumption) ?_ ?_
          rotate_left
          · (intro w hSw; (try dsimp only at hSw); go_simp; (try with_reducible rfl))
          try simp only [List.setIfInBounds_toArray, List.set_cons_zero, List.set_cons_succ]
          refine heldY 23 99 ?_ _ rfl rfl (by kernel_rfl) (by kernel_rfl) (by kernel_rfl) (fun _ _ _ h => h) rfl (by assumption) ?_ ?_
          rotate_left
          · (intro w hSw; (try dsimp only at hSw); go_simp; (try with_reducible rfl))
          try simp only [List.setIfInBounds_toArray, List.set_cons_zero, List.set_cons_succ]
          refine heldY 24 100 ?_ _ rfl rfl (by kernel_rfl) (by kernel_rfl) (by kernel_rfl) (fun _ _ _ h => h) rfl (by assumption) ?_ ?_
          rotate_left
          · (intro w hSw; (try dsimp only at hSw); go_simp; (try with_reducible rfl))
          try simp only [List.setIfInBounds_toArray, List.set_cons_zero, List.set_cons_succ]
          refine heldY 25 101 ?_ _ rfl rfl (by kernel_rfl) (by kernel_rfl) (by kernel_rfl) (fun _ _ _ h => h) rfl (by assumption) ?_ ?_
          rotate_left
          · (intro w hSw; (try dsimp only at hSw); go_simp; (try with_reducible rfl))
          try simp only [List.setIfInBounds_toArray, List.set_cons_zero, List.set_cons_succ]
          refine heldY 26 102 ?_ _ rfl rfl (by kernel_rfl) (by kernel_rfl) (by kernel_rfl) (fun _ _ _ h => h) rfl (by assumption) ?_ ?_
          rotate_left
          · (intro w hSw; (try dsimp only at hSw); go_simp; (try with_reducible rfl))
          try simp only [List.setIfInBounds_toArray, List.set_cons_zero, List.set_cons_succ]
          refine heldY 27 103 ?_ _ rfl rfl (by kernel_rfl) (by kernel_rfl) (by kernel_rfl) (fun _ _ _ h => h) rfl (by assumption) ?_ ?_
          rotate_left
          · (intro w hSw; (try dsimp only at hSw); go_simp; (try with_reducible rfl))
          try simp only [List.setIfInBounds_toArray, List.set_cons_zero, List.set_cons_succ]
          refine heldY 28 104 ?_ _ rfl rfl (by kernel_rfl) (by kernel_rfl) (by kernel_rfl) (fun _ _ _ h => h) rfl (by assumption) ?_ ?_
          rotate_left
          · (intro w hSw; (try dsimp only at hSw); go_simp; (try with_reducible rfl))
          try simp only [List.setIfInBounds_toArray, List.set_cons_zero, List.set_cons_succ]
          refine heldY 29 105 ?_ _ rfl rfl (by kernel_rfl) (by kernel_rfl) (by kernel_rfl) (fun _ _ _ h => h) rfl (by assumption) ?_ ?_
          rotate_left
          · (intro w hSw; (try dsimp only at hSw); go_simp; (try with_reducible rfl))
          try simp only [List.setIfInBounds_toArray, List.set_cons_zero, List.set_cons_succ]
          refine heldY 30 106 ?_ _ rfl rfl (by kernel_rfl) (by kernel_rfl) (by kernel_rfl) (fun _ _ _ h => h) rfl (by assumption) ?_ ?_
          rotate_left
          · (intro w hSw; (try dsimp only at hSw); go_simp; (try with_reducible rfl))
          try simp only [List.setIfInBounds_toArray, List.set_cons_zero, List.set_cons_succ]
          refine heldY 31 107 ?_ _ rfl rfl (by kernel_rfl) (by kernel_rfl) (by kernel_rfl) (fun _ _ _ h => h) rfl (by assumption) ?_ ?_
          rotate_left
          · (intro w hSw; (try dsimp only at hSw); go_simp; (try with_reducible rfl))
          try simp only [List.setIfInBounds_toArray, List.set_cons_zero, List.set_cons_succ]
          refine heldY 32 108 ?_ _ rfl rfl (by kernel_rfl) (by kernel_rfl) (by kernel_rfl) (fun _ _ _ h => h) rfl (by assumption) ?_ ?_
          rotate_left
          · (intro w hSw; (try dsimp only at hSw); go_simp; (try with_reducible rfl))
          try simp only [List.setIfInBounds_toArray, List.set_cons_zero, List.set_cons_succ]
          refine heldY 33 109 ?_ _ rfl rfl (by kernel_rfl) (by kernel_rfl) (by kernel_rfl) (fun _ _ _ h => h) rfl (by assumption) ?_ ?_
          rotate_left
          · (intro w hSw; (try dsimp only at hSw); go_simp; (try with_reducible rfl))
          try simp only [List.setIfInBounds_toArray, List.set_cons_zero, List.set_cons_succ]
          refine heldY 34 110 ?_ _ rfl rfl (by kernel_rfl) (by kernel_rfl) (by kernel_rfl) (fun _ _ _ h => h) rfl (by assumption) ?_ ?_
          rotate_left
          · (intro w hSw; (try dsimp only at hSw); go_simp; (try with_reducible rfl))
          try simp only [List.setIfInBounds_toArray, List.set_cons_zero, List.set_cons_succ]
          refine heldY 35 111 ?_ _ rfl rfl (by kernel_rfl) (by kernel_rfl) (by kernel_rfl) (fun _ _ _ h => h) rfl (by assumption) ?_ ?_
          rotate_left
          · (intro w hSw; (try dsimp only at hSw); go_simp; (try with_reducible rfl))
          try simp only [List.setIfInBounds_toArray, List.set_cons_zero, List.set_cons_succ]
          refine heldY 36 112 ?_ _ rfl rfl (by kernel_rfl) (by kernel_rfl) (by kernel_rfl) (fun _ _ _ h => h) rfl (by assumption) ?_ ?_
          rotate_left
          · (intro w hSw; (try dsimp only at hSw); go_simp; (try with_reducible rfl))
          try simp only [List.setIfInBounds_toArray, List.set_cons_zero, List.set_cons_succ]
          refine heldY 37 113 ?_ _ rfl rfl (by kernel_rfl) (by kernel_rfl) (by kernel_rfl) (fun _ _ _ h => h) rfl (by assumption) ?_ ?_
          rotate_left
          · (intro w hSw; (try dsimp only at hSw); go_simp; (try with_reducible rfl))
          try simp only [List.setIfInBounds_toArray, List.set_cons_zero, List.set_cons_succ]
          refine heldY 38 114 ?_ _ rfl rfl (by kernel_rfl) (by kernel_rfl) (by kernel_rfl) (fun _ _ _ h => h) rfl (by assumption) ?_ ?_
          rotate_left
          · (intro w hSw; (try dsimp only at hSw); go_simp; (try with_reducible rfl))
          try simp only [List.setIfInBounds_toArray, List.set_cons_zero, List.set_cons_succ]
          refine heldY 39 115 ?_ _ rfl rfl (by kernel_rfl) (by kernel_rfl) (by kernel_rfl) (fun _ _ _ h => h) rfl (by assumption) ?_ ?_
          rotate_left
          · (intro w hSw; (try dsimp only at hSw); go_simp; (try with_reducible rfl))
          try simp only [List.setIfInBounds_toArray, List.set_cons_zero, List.set_cons_succ]
          refine heldY 40 116 ?_ _ rfl rfl (by kernel_rfl) (by kernel_rfl) (by kernel_rfl) (fun _ _ _ h => h) rfl (by assumption) ?_ ?_
          rotate_left
          · (intro w hSw; (try dsimp only at hSw); go_simp; (try with_reducible rfl))
          try simp only [List.setIfInBounds_toArray, List.set_cons_zero, List.set_cons_succ]
          refine wpAnyH_ready (rs := [41]) (by kernel_rfl) (by simp) ?_
          refine AllReadyH.cons rfl (fun K hK => ?_) AllReadyH.nil
          go_simp
          (go_at_call 13; (with_reducible refine (SM _ (BE _ (by assumption))).mono ?_); rintro e w9 ⟨rfl, hb⟩)
          refine hK.out _ _ ?_ (fun hHeld => ?_)
          · (try dsimp only); (first | assumption | exact hs | exact AtF.dr (w := W0) (l := [(⟨w.heap.size, 5, none⟩, .slice (some ⟨cb, co, none⟩) m cc), (⟨w.heap.size + 1, 5, none⟩, .slice (some ⟨db, dO, none⟩) m dc), (⟨cb, co + k * 3, none⟩, .string S1), (⟨cb, co + k * 3 + 1, none⟩, .int .i64 z), (⟨cb, co + k * 3 + 2, none⟩, .slice p0 p1 p2), (⟨db, dO + k * 3, none⟩, .string S1), (⟨db, dO + k * 3 + 1, none⟩, .int .i64 z), (⟨db, dO + k * 3 + 2, none⟩, .slice r0 r1 r2)]) hs | exact AtF.dr (w := W0) (l := [(⟨w.heap.size, 5, none⟩, .slice (some ⟨cb, co, none⟩) m cc), (⟨w.heap.size + 1, 5, none⟩, .slice (some ⟨db, dO, none⟩) m dc), (⟨cb, co + k * 3, none⟩, .string S1), (⟨cb, co + k * 3 + 1, none⟩, .int .i64 z), (⟨cb, co + k * 3 + 2, none⟩, .slice p0 p1 p2), (⟨db, dO + k * 3, none⟩, .string S1), (⟨db, dO + k * 3 + 1, none⟩, .int .i64 z), (⟨db, dO + k * 3 + 2, none⟩, .slice r0 r1 r2)]) (by assumption) | exact AtF.on (w := W0) (l := [(⟨w.heap.size, 5, none⟩, .slice (some ⟨cb, co, none⟩) m cc), (⟨w.heap.size + 1, 5, none⟩, .slice (some ⟨db, dO, none⟩) m dc), (⟨cb, co + k * 3, none⟩, .string S1), (⟨cb, co + k * 3 + 1, none⟩, .int .i64 z), (⟨cb, co + k * 3 + 2, none⟩, .slice p0 p1 p2), (⟨db, dO + k * 3, none⟩, .string S1), (⟨db, dO + k * 3 + 1, none⟩, .int .i64 z), (⟨db, dO + k * 3 + 2, none⟩, .slice r0 r1 r2)]) (by assumption) (by assumption) | exact AtF.al (w := W0) (l := [(⟨w.heap.size, 5, none⟩, .slice (some ⟨cb, co, none⟩) m cc), (⟨w.heap.size + 1, 5, none⟩, .slice (some ⟨db, dO, none⟩) m dc), (⟨cb, co + k * 3, none⟩, .string S1), (⟨cb, co + k * 3 + 1, none⟩, .int .i64 z), (⟨cb, co + k * 3 + 2, none⟩, .slice p0 p1 p2), (⟨db, dO + k * 3, none⟩, .string S1), (⟨db, dO + k * 3 + 1, none⟩, .int .i64 z), (⟨db, dO + k * 3 + 2, none⟩, .slice r0 r1 r2)]) (by assumption) _ | exact AtF.ald (w := W0) (l := [(⟨w.heap.size, 5, none⟩, .slice (some ⟨cb, co, none⟩) m cc), (⟨w.heap.size + 1, 5, none⟩, .slice (some ⟨db, dO, none⟩) m dc), (⟨cb, co + k * 3, none⟩, .string S1), (⟨cb, co + k * 3 + 1, none⟩, .int .i64 z), (⟨cb, co + k * 3 + 2, none⟩, .slice p0 p1 p2), (⟨db, dO + k * 3, none⟩, .string S1), (⟨db, dO + k * 3 + 1, none⟩, .int .i64 z), (⟨db, dO + k * 3 + 2, none⟩, .slice r0 r1 r2)]) (by assumption) _ | exact AtF.al (w := W0) (l := [(⟨w.heap.size, 5, none⟩, .slice (some ⟨cb, co, none⟩) m cc), (⟨w.heap.size + 1, 5, none⟩, .slice (some ⟨db, dO, none⟩) m dc), (⟨cb, co + k * 3, none⟩, .string S1), (⟨cb, co + k * 3 + 1, none⟩, .int .i64 z), (⟨cb, co + k * 3 + 2, none⟩, .slice p0 p1 p2), (⟨db, dO + k * 3, none⟩, .string S1), (⟨db, dO + k * 3 + 1, none⟩, .int .i64 z), (⟨db, dO + k * 3 + 2, none⟩, .slice r0 r1 r2)]) hs _ | exact AtF.ald (w := W0) (l := [(⟨w.heap.size, 5, none⟩, .slice (some ⟨cb, co, none⟩) m cc), (⟨w.heap.size + 1, 5, none⟩, .slice (some ⟨db, dO, none⟩) m dc), (⟨cb, co + k * 3, none⟩, .string S1), (⟨cb, co + k * 3 + 1, none⟩, .int .i64 z), (⟨cb, co + k * 3 + 2, none⟩, .slice p0 p1 p2), (⟨db, dO + k * 3, none⟩, .string S1), (⟨db, dO + k * 3 + 1, none⟩, .int .i64 z), (⟨db, dO + k * 3 + 2, none⟩, .slice r0 r1 r2)]) hs _)
          clear hK K
          try simp only [Act.put, List.setIfInBounds_toArray, List.set_cons_zero, List.set_cons_succ]
          refine heldY 42 118 ?_ _ rfl rfl (by kernel_rfl) (by kernel_rfl) (by kernel_rfl) (fun _ _ _ h => h) rfl (by assumption) ?_ ?_
          rotate_left
          · (intro w hSw; (try dsimp only at hSw); go_simp; (try with_reducible rfl))
          try simp only [List.setIfInBounds_toArray, List.set_cons_zero, List.set_cons_succ]
          refine heldY 43 119 ?_ _ rfl rfl (by kernel_rfl) (by kernel_rfl) (by kernel_rfl) (fun _ _ _ h => h) rfl (by assumption) ?_ ?_
          rotate_left
          · (intro w hSw; (try dsimp only at hSw); go_simp; (try with_reducible rfl))
          try simp only [List.setIfInBounds_toArray, List.set_cons_zero, List.set_cons_succ]
          refine wpAnyH_done (by kernel_rfl) ?_ _
          have HW4 := Lib.hid (BE _ hHeld)
          clear hHeld BE hs
          go_wp2
          go_roundw
          case rel => exact ⟨k + 1, by omega, by go_num, HW4⟩
          case measure => simp [intOf]; omega
        · obtain rfl : m = k := by omega
          clear hBW
          go_wp2
          go_ret
          exact ⟨rfl, HB.out.trans (HW.out.mono HB.out.size)⟩
end Go.Proofs.YtnfhccnicojdcaaGreatDoor
namespace Go.Proofs.YtnfhccnicojdcaaGreatDoor
open Go.RowKit
theorem bytesWorld_orZ (w w' : World) (h : w' = w ∨ ∃ t, w' = Lib.bytesWorld w 5 t) : Below w.heap.size w w' := by
  rcases h with rfl | ⟨t, rfl⟩
  · exact Below.refl _ _
  · exact Lib.bytesWorld_below w _ t
set_option maxHeartbeats 2000000 in
theorem intZ_ok (s : ByteArray) (hs : s.size ≤ 1000) (v : Int) (hv : Lib.atoiAll s.data.toList = .ok v) (hi : Lib.itoa v = s.data.toList) (w : World) (h : LaidZ w) :
    Calls Tryz.prog 99 #[.string s] w fun e w' => e = .returned (.tuple #[.int .i64 v, .int .i64 0]) ∧ Below w.heap.size w w' := by
  have H : Calls Tryz.prog 130 #[.string s] w fun e w' => e = .returned (.tuple #[.int .i64 v, .nilIface]) ∧ Below w.heap.size w w' :=
    (Any.strconv_Atoi_ok Tryz.laysC172 s (by omega) v hv w).mono fun e w' he => ⟨he.1, bytesWorld_orZ w w' he.2⟩
  obtain ⟨hv0, hv1⟩ := Lib.atoiAll_bounds hv
  have T := fun W (hb : Below w.heap.size w W) => textZ_any v hv0 hv1 W (h.on hb)
  have hq := eqT (⟨(Lib.itoa v).toArray⟩ : ByteArray) s
  rw [bytesOf, decide_eq_true hi] at hq
  generalize (⟨(Lib.itoa v).toArray⟩ : ByteArray) = S at *
  clear hv hi h hs hv0 hv1
  go_enter Tryz.func99, Tryz.ntmps99
  go_wp2_with (first
    | (go_at_call 130; (with_reducible refine H.mono ?_); rintro e w1 ⟨rfl, hb⟩; have HB1 := Lib.hid hb; clear hb)
    | (go_at_call 60; (with_reducible refine (T _ HB1.out).mono ?_); rintro e w2 ⟨rfl, hb⟩; have HB2 := Lib.hid (HB1.out.trans (hb.mono HB1.out.size)); clear hb))
  go_ret2
  exact ⟨rfl, HB2.out⟩
theorem int5 (w : World) (h : LaidZ w) : Calls Tryz.prog 99 #[.string ⟨#[53]⟩] w fun e w' => e = .returned (.tuple #[.int .i64 5, .int .i64 0]) ∧ Below w.heap.size w w' :=
  intZ_ok ⟨#[53]⟩ (by decide) 5 (by decide +kernel) (by decide +kernel) w h
theorem int1 (w : World) (h : LaidZ w) : Calls Tryz.prog 99 #[.string ⟨#[49]⟩] w fun e w' => e = .returned (.tuple #[.int .i64 1, .int .i64 0]) ∧ Below w.heap.size w w' :=
  intZ_ok ⟨#[49]⟩ (by decide) 1 (by decide +kernel) (by decide +kernel) w h
-- read's closure
/-- The lines that are left lie in a box. -/
theorem next_nil (b : Nat) (a : Option Addr) (c : Nat) (W : World) (hc : W.cell? ⟨b, 0, none⟩ = some (.slice a 0 c)) :
    Calls Tryz.prog 97 #[.pointer (some ⟨b, 0, none⟩)] W fun e w' => e = .returned (.string ⟨#[]⟩) ∧ w' = W := by
  go_enter Tryz.func97, Tryz.ntmps97
  go_wp2
  go_ret
  exact ⟨rfl, rfl⟩
theorem next_cons (b : Nat) (v : Value) (x : Bs) (l : List Bs) (hl : l.length ≤ 90000) (w W : World) (h : HoldT w v (x :: l)) (hW : Below w.heap.size w W) (hc : W.cell? ⟨b, 0, none⟩ = some v) (hf : W.frozen? ⟨b, 0, none⟩ = false) :
    Calls Tryz.prog 97 #[.pointer (some ⟨b, 0, none⟩)] W fun e w' => ∃ v', e = .returned (.string ⟨x.toArray⟩) ∧ HoldT w v' l ∧ w' = W.setCell ⟨b, 0, none⟩ v' := by
  obtain ⟨a, c, bb, o, rfl, hcc, ha, hcell⟩ := h
  obtain ⟨rfl, hbw⟩ := ha (by simp)
  have h0 := (hW.cell (p := ⟨bb, o + 0, none⟩) hbw).trans (hcell 0 x rfl)
  rw [Nat.add_zero] at h0
  have HC : Hid (∀ q, q = c - 1 → HoldT w (.slice (some ⟨bb, o + 1, none⟩) l.length q) l) := Lib.hid (fun q hq => ⟨some ⟨bb, o + 1, none⟩, q, bb, o + 1, rfl, by subst hq; simp at hcc; omega, fun _ => ⟨rfl, hbw⟩, fun j y hy => by
    have := hcell (j + 1) y (by simpa using hy)
    rw [show o + 1 + j = o + (j + 1) by omega]; exact this⟩)
  have HC0 : Hid (l.length = 0 → HoldT w (.slice (some ⟨bb, o, none⟩) l.length 0) l) := Lib.hid (fun e => ⟨some ⟨bb, o, none⟩, 0, bb, o, rfl, by omega, fun g => absurd g (by omega), fun j y hy => absurd (List.getElem?_eq_some_iff.1 hy).1 (by omega)⟩)
  rw [show (x :: l).length = l.length + 1 from rfl] at hcc hc
  generalize l.length = n at *
  have j1 : (1 : Int) ≤ (n : Int) + 1 := by omega
  have j2 : (n : Int) + 1 ≤ (c : Int) := by omega
  clear hcell ha hW
  generalize (⟨x.toArray⟩ : ByteArray) = X at *
  go_enter Tryz.func97, Tryz.ntmps97
  go_wp2
  all_goals
    go_ret
    first | exact ⟨rfl, _, HC.out _ rfl, rfl⟩ | exact ⟨rfl, _, HC0.out (by omega), rfl⟩
end Go.Proofs.YtnfhccnicojdcaaGreatDoor
namespace Go.Proofs.YtnfhccnicojdcaaGreatDoor
open Go.RowKit Go.Shelf
theorem heap_set {W : World} {b i : Nat} {cs : Array Value} {t : TypeId} (u : Value) (h : W.heap[b]? = some (.cells cs t (0, 0))) : (W.setCell ⟨b, i, none⟩ u).heap[b]? = some (.cells (cs.setIfInBounds i u) t (0, 0)) := by
  obtain ⟨hlt, hk⟩ := Array.getElem?_eq_some_iff.1 h
  show (W.heap.modify b _)[b]? = _
  rw [Array.getElem?_eq_getElem (by rw [Array.size_modify]; exact hlt), Array.getElem_modify_self, hk]
  rfl
structure Rd (w W : World) (v : Value) (cs ds : Array Value) : Prop where
  h3 : W.heap[w.heap.size]? = some (.cells #[v] 30 (0, 0))
  h4 : W.heap[w.heap.size + 1]? = some (.cells ds 26 (0, 0))
  h6 : W.heap[w.heap.size + 1 + 1]? = some (.cells cs 26 (0, 0))
  b : Below w.heap.size w W
theorem lt_heap {W : World} {k : Nat} {o : Obj} (h : W.heap[k]? = some o) : k < W.heap.size := (Array.getElem?_eq_some_iff.1 h).1
theorem Rd.on {w W W' : World} {v : Value} {cs ds : Array Value} (h : Rd w W v cs ds) (hb : Below W.heap.size W W') : Rd w W' v cs ds :=
  ⟨(hb.block _ (lt_heap h.h3)).trans h.h3, (hb.block _ (lt_heap h.h4)).trans h.h4, (hb.block _ (lt_heap h.h6)).trans h.h6, h.b.trans (hb.mono h.b.size)⟩
theorem Rd.set3 {w W : World} {v : Value} {cs ds : Array Value} (h : Rd w W v cs ds) (u : Value) : Rd w (W.setCell ⟨w.heap.size, 0, none⟩ u) u cs ds :=
  ⟨heap_set u h.h3, (Below.heap_setCell _ _ _ _ (by first | (simp; done) | (simp; omega))).trans h.h4, (Below.heap_setCell _ _ _ _ (by first | (simp; done) | (simp; omega))).trans h.h6, h.b.setCell (p := ⟨w.heap.size, 0, none⟩) (Nat.le_refl _) _⟩
theorem Rd.set6 {w W : World} {v : Value} {cs ds : Array Value} (h : Rd w W v cs ds) (i : Nat) (u : Value) : Rd w (W.setCell ⟨w.heap.size + 1 + 1, i, none⟩ u) v (cs.setIfInBounds i u) ds :=
  ⟨(Below.heap_setCell _ _ _ _ (by first | (simp; done) | (simp; omega))).trans h.h3, (Below.heap_setCell _ _ _ _ (by first | (simp; done) | (simp; omega))).trans h.h4, heap_set u h.h6, h.b.setCell (p := ⟨w.heap.size + 1 + 1, i, none⟩) (by first | (simp; done) | (simp; omega)) _⟩
theorem Rd.grown {w W W' : World} {v : Value} {cs ds : Array Value} {row : Option Nat} (h : Rd w W v cs ds) (hg : W.grownBy W' row) (hr : ∀ k, row = some k → w.heap.size + 3 ≤ k) : Rd w W' v cs ds :=
  ⟨(hg.block _ (lt_heap h.h3) (fun e => by have := hr _ e.symm; omega)).trans h.h3, (hg.block _ (lt_heap h.h4) (fun e => by have := hr _ e.symm; omega)).trans h.h4, (hg.block _ (lt_heap h.h6) (fun e => by have := hr _ e.symm; omega)).trans h.h6, h.b.grown hg h.b.size (fun k hk => by have := hr k hk; omega)⟩
theorem nextR {w W : World} {v : Value} {cs ds : Array Value} {x : Bs} {l : List Bs} (h : Rd w W v cs ds) (hl : l.length ≤ 90000) (hv : HoldT w v (x :: l)) :
    Calls Tryz.prog 97 #[.pointer (some ⟨w.heap.size, 0, none⟩)] W fun e w' => e = .returned (.string ⟨x.toArray⟩) ∧ ∃ v', HoldT w v' l ∧ Rd w w' v' cs ds ∧ (∀ k, w.heap.size + 3 ≤ k → w'.heap[k]? = W.heap[k]?) ∧ w'.heap.size = W.heap.size :=
  (next_cons w.heap.size v x l hl w W hv h.b (cell_heap h.h3 rfl) (frozen_of_row _ _ 0 _ _ h.h3)).mono fun e w' ⟨v', he, hv', hw⟩ => ⟨he, v', hv', by rw [hw]; exact h.set3 v', fun k hk => by rw [hw]; exact Below.heap_setCell _ _ _ _ (by simp; omega), by rw [hw]; exact World.size_setCell _ _ _⟩
abbrev linesX : List Bs := [[97, 117, 116, 111], [47, 120], [], [47, 97], [53], [47, 98], [53], [47, 99], [49], []]
abbrev altX (nm : Value) (a1 a2 a3 a4 a5 : Value) : Array Value := #[nm, a1, a2, a3, a4, a5]
def pathX : Nat → ByteArray
  | 0 => ⟨#[47, 97]⟩
  | 1 => ⟨#[47, 98]⟩
  | 2 => ⟨#[47, 99]⟩
  | _ => ⟨#[]⟩
def restX : Nat → List Bs
  | 0 => [[53], [47, 98], [53], [47, 99], [49], []]
  | 1 => [[53], [47, 99], [49], []]
  | 2 => [[49], []]
  | _ => []
abbrev chX : List Cv := [(([47, 97], 5, []), .slice none 0 0), (([47, 98], 5, []), .slice none 0 0), (([47, 99], 1, []), .slice none 0 0)]
abbrev OwnC (w : World) (base : Nat) (v : Value) (l : List Cv) : Prop := OwnV 32 3 w base v (l.map cellsC)
theorem cellsC_len (l : List Cv) : ∀ r ∈ l.map cellsC, r.length = 3 := fun r hr => by obtain ⟨x, _, rfl⟩ := List.mem_map.1 hr; rfl
theorem OwnC.app {w' : World} {base : Nat} {v' : Value} {l : List Cv} {x : Cv} (h : w'.ownsRow base 32 3 v' (l.length + 1) ((l.map cellsC).flatten ++ cellsC x)) : OwnC w' base v' (l ++ [x]) := by
  have := OwnV.app (T := 32) (k := 3) (rows := l.map cellsC) (r := cellsC x) (cellsC_len l) rfl (by rw [List.length_map]; exact h)
  unfold OwnC; rw [List.map_append]; exact this
theorem infoC : (Tryz.prog.info? 32).map (fun i => (i.zero, i.size, i.bytes)) = some (some (.agg #[.string ⟨#[]⟩, .int .i64 0, .slice none 0 0]), 3, 48) := by kernel_rfl
theorem OW8 {w W W' : World} {v : Value} {n : Nat} {xs : List Value} (hb : ∀ k, w.heap.size + 3 ≤ k → W'.heap[k]? = W.heap[k]?) (h : World.ownsRow W (w.heap.size + 1 + 1 + 1) 32 3 v n xs) : World.ownsRow W' (w.heap.size + 1 + 1 + 1) 32 3 v n xs := by
  refine ⟨h.1, ?_⟩
  rcases h.2 with hn | ⟨g, cap, cur, hv, hb', hg, rest⟩
  · exact .inl hn
  · exact .inr ⟨g, cap, cur, hv, hb', (hb g (by omega)).trans hg, rest⟩
abbrev six (W : World) (b : Nat) (u0 u1 u2 u3 u4 u5 : Value) : World := (((((W.setCell ⟨b, 0, none⟩ u0).setCell ⟨b, 1, none⟩ u1).setCell ⟨b, 2, none⟩ u2).setCell ⟨b, 3, none⟩ u3).setCell ⟨b, 4, none⟩ u4).setCell ⟨b, 5, none⟩ u5
theorem six_cells {W : World} {b : Nat} {a0 a1 a2 a3 a4 a5 : Value} {t : TypeId} (u0 u1 u2 u3 u4 u5 : Value) (h : W.heap[b]? = some (.cells #[a0, a1, a2, a3, a4, a5] t (0, 0))) :
    (six W b u0 u1 u2 u3 u4 u5).cell? ⟨b, 0, none⟩ = some u0 ∧ (six W b u0 u1 u2 u3 u4 u5).cell? ⟨b, 1, none⟩ = some u1 ∧ (six W b u0 u1 u2 u3 u4 u5).cell? ⟨b, 2, none⟩ = some u2 ∧ (six W b u0 u1 u2 u3 u4 u5).cell? ⟨b, 3, none⟩ = some u3 ∧ (six W b u0 u1 u2 u3 u4 u5).cell? ⟨b, 4, none⟩ = some u4 ∧ (six W b u0 u1 u2 u3 u4 u5).cell? ⟨b, 5, none⟩ = some u5 := by
  have h0 : (W.setCell ⟨b, 0, none⟩ u0).heap[b]? = some (.cells #[u0, a1, a2, a3, a4, a5] t (0, 0)) := by have := heap_set (i := 0) u0 h; simpa using this
  have h1 : ((W.setCell ⟨b, 0, none⟩ u0).setCell ⟨b, 1, none⟩ u1).heap[b]? = some (.cells #[u0, u1, a2, a3, a4, a5] t (0, 0)) := by have := heap_set (i := 1) u1 h0; simpa using this
  have h2 : (((W.setCell ⟨b, 0, none⟩ u0).setCell ⟨b, 1, none⟩ u1).setCell ⟨b, 2, none⟩ u2).heap[b]? = some (.cells #[u0, u1, u2, a3, a4, a5] t (0, 0)) := by have := heap_set (i := 2) u2 h1; simpa using this
  have h3 : ((((W.setCell ⟨b, 0, none⟩ u0).setCell ⟨b, 1, none⟩ u1).setCell ⟨b, 2, none⟩ u2).setCell ⟨b, 3, none⟩ u3).heap[b]? = some (.cells #[u0, u1, u2, u3, a4, a5] t (0, 0)) := by have := heap_set (i := 3) u3 h2; simpa using this
  have h4 : (((((W.setCell ⟨b, 0, none⟩ u0).setCell ⟨b, 1, none⟩ u1).setCell ⟨b, 2, none⟩ u2).setCell ⟨b, 3, none⟩ u3).setCell ⟨b, 4, none⟩ u4).heap[b]? = some (.cells #[u0, u1, u2, u3, u4, a5] t (0, 0)) := by have := heap_set (i := 4) u4 h3; simpa using this
  have h5 : ((((((W.setCell ⟨b, 0, none⟩ u0).setCell ⟨b, 1, none⟩ u1).setCell ⟨b, 2, none⟩ u2).setCell ⟨b, 3, none⟩ u3).setCell ⟨b, 4, none⟩ u4).setCell ⟨b, 5, none⟩ u5).heap[b]? = some (.cells #[u0, u1, u2, u3, u4, u5] t (0, 0)) := by have := heap_set (i := 5) u5 h4; simpa using this
  exact ⟨cell_heap (i := 0) h5 (by simp), cell_heap (i := 1) h5 (by simp), cell_heap (i := 2) h5 (by simp), cell_heap (i := 3) h5 (by simp), cell_heap (i := 4) h5 (by simp), cell_heap (i := 5) h5 (by simp)⟩
theorem six_below {B : Nat} {w W : World} (h : Below B w W) {b : Nat} (hb : B ≤ b) (u0 u1 u2 u3 u4 u5 : Value) : Below B w (six W b u0 u1 u2 u3 u4 u5) :=
  (((((h.setCell (p := ⟨b, 0, none⟩) hb u0).setCell (p := ⟨b, 1, none⟩) hb u1).setCell (p := ⟨b, 2, none⟩) hb u2).setCell (p := ⟨b, 3, none⟩) hb u3).setCell (p := ⟨b, 4, none⟩) hb u4).setCell (p := ⟨b, 5, none⟩) hb u5
theorem six_heap (W : World) (b k : Nat) (hk : b < k) (u0 u1 u2 u3 u4 u5 : Value) : ∀ g, k ≤ g → (six W b u0 u1 u2 u3 u4 u5).heap[g]? = W.heap[g]? := fun g hg => by
  have hn : g ≠ b := by omega
  exact (Below.heap_setCell _ _ _ _ hn).trans ((Below.heap_setCell _ _ _ _ hn).trans ((Below.heap_setCell _ _ _ _ hn).trans ((Below.heap_setCell _ _ _ _ hn).trans ((Below.heap_setCell _ _ _ _ hn).trans (Below.heap_setCell _ _ _ _ hn)))))
def lenX (w W : World) : Nat := match W.cell? ⟨w.heap.size, 0, none⟩ with
  | some (.slice _ n _) => n
  | _ => 0
theorem Rd.len {w W : World} {v : Value} {cs ds : Array Value} {l : List Bs} (h : Rd w W v cs ds) (hv : HoldT w v l) : lenX w W = l.length := by
  obtain ⟨a, c, b, o, e, _⟩ := hv
  subst e
  have := cell_heap (i := 0) h.h3 rfl
  simp only [lenX, this]; rfl
set_option maxRecDepth 100000 in
set_option maxHeartbeats 32000000 in
theorem readX_any (NM : ByteArray) (v : Value) (w : World) (hL : LaidZ w) (hv : HoldT w v linesX) :
    Calls Tryz.prog 63 #[.string NM, v] w fun e w' => ∃ cv, e = .returned (.agg #[.string NM, .string ⟨#[47, 120]⟩, .bool false, .string ⟨#[47, 97]⟩, .slice none 0 0, cv]) ∧ HoldC w' cv [(([47, 97], 5, []), .slice none 0 0), (([47, 98], 5, []), .slice none 0 0), (([47, 99], 1, []), .slice none 0 0)] ∧ Below w.heap.size w w' := by
  obtain ⟨va, vc, hve⟩ : ∃ a c, v = .slice a 10 c := by obtain ⟨a, c, b, o, e, _⟩ := hv; exact ⟨a, c, e⟩
  subst hve
  have HR0 : Hid (Rd w (((w.alloc (.cells #[.slice va 10 vc] 30)).alloc (.cells #[.string ⟨#[]⟩, .string ⟨#[]⟩, .bool false, .string ⟨#[]⟩, .slice none 0 0, .slice none 0 0] 26)).alloc (.cells #[.string NM, .string ⟨#[]⟩, .bool false, .string ⟨#[]⟩, .slice none 0 0, .slice none 0 0] 26)) (.slice va 10 vc) #[.string NM, .string ⟨#[]⟩, .bool false, .string ⟨#[]⟩, .slice none 0 0, .slice none 0 0] #[.string ⟨#[]⟩, .string ⟨#[]⟩, .bool false, .string ⟨#[]⟩, .slice none 0 0, .slice none 0 0]) := Lib.hid (by
    have a1 := heap_alloc_new w (.cells #[.slice va 10 vc] 30)
    have b1 := (Below.refl w.heap.size w).alloc (Nat.le_refl _) (.cells #[.slice va 10 vc] 30)
    have a2 := heap_alloc_new (w.alloc (.cells #[.slice va 10 vc] 30)) (.cells #[.string ⟨#[]⟩, .string ⟨#[]⟩, .bool false, .string ⟨#[]⟩, .slice none 0 0, .slice none 0 0] 26)
    have b2 := (Below.refl (w.alloc (.cells #[.slice va 10 vc] 30)).heap.size (w.alloc (.cells #[.slice va 10 vc] 30))).alloc (Nat.le_refl _) (.cells #[.string ⟨#[]⟩, .string ⟨#[]⟩, .bool false, .string ⟨#[]⟩, .slice none 0 0, .slice none 0 0] 26)
    have a3 := heap_alloc_new ((w.alloc (.cells #[.slice va 10 vc] 30)).alloc (.cells #[.string ⟨#[]⟩, .string ⟨#[]⟩, .bool false, .string ⟨#[]⟩, .slice none 0 0, .slice none 0 0] 26)) (.cells #[.string NM, .string ⟨#[]⟩, .bool false, .string ⟨#[]⟩, .slice none 0 0, .slice none 0 0] 26)
    have b3 := (Below.refl ((w.alloc (.cells #[.slice va 10 vc] 30)).alloc (.cells #[.string ⟨#[]⟩, .string ⟨#[]⟩, .bool false, .string ⟨#[]⟩, .slice none 0 0, .slice none 0 0] 26)).heap.size ((w.alloc (.cells #[.slice va 10 vc] 30)).alloc (.cells #[.string ⟨#[]⟩, .string ⟨#[]⟩, .bool false, .string ⟨#[]⟩, .slice none 0 0, .slice none 0 0] 26))).alloc (Nat.le_refl _) (.cells #[.string NM, .string ⟨#[]⟩, .bool false, .string ⟨#[]⟩, .slice none 0 0, .slice none 0 0] 26)
    have c1 := (b2.block _ (lt_heap a1)).trans a1
    have c2 := (b3.block _ (lt_heap c1)).trans c1
    have c3 := (b3.block _ (lt_heap a2)).trans a2
    rw [World.size_alloc] at c3
    rw [World.size_alloc, World.size_alloc] at a3
    exact ⟨c2, c3, a3, b1.trans ((b2.trans (b3.mono b2.size)).mono b1.size)⟩)
  have HV0 := Lib.hid hv
  clear hv
  have CP := fun W => Tryz.strings_CutPrefix ⟨#[97, 117, 116, 111]⟩ ⟨#[109, 97, 110, 117, 97, 108, 32]⟩ W
  rw [show Lib.trimPrefix (ByteArray.mk #[97, 117, 116, 111]).data.toList (ByteArray.mk #[109, 97, 110, 117, 97, 108, 32]).data.toList = [97, 117, 116, 111] from by decide +kernel, show Lib.hasPrefix (ByteArray.mk #[97, 117, 116, 111]).data.toList (ByteArray.mk #[109, 97, 110, 117, 97, 108, 32]).data.toList = false from by decide +kernel] at CP
  go_enter Tryz.func63, Tryz.ntmps63
  go_wp2_with (go_at_call 97; (with_reducible refine (nextR HR0.out (by simp) HV0.out).mono ?_); rintro e w1 ⟨rfl, v1, hv1, hr1, -⟩; have HV1 := Lib.hid hv1; have HR1 := Lib.hid hr1; clear hv1 hr1; refine Hid.out ?_)
  have p2 := cell_heap (i := 2) HR1.out.h6 rfl
  have p3 := cell_heap (i := 3) HR1.out.h6 rfl
  have f2 := frozen_of_row _ _ 2 _ _ HR1.out.h6
  have f3 := frozen_of_row _ _ 3 _ _ HR1.out.h6
  have HR2 := Lib.hid ((HR1.out.set6 3 (.string ⟨#[97, 117, 116, 111]⟩)).set6 2 (.bool false))
  refine Lib.hid ?_
  go_wp2_with (first
    | (go_at_call 98; (with_reducible refine (CP _).mono ?_); rintro e w2 ⟨rfl, rfl⟩)
    | (go_at_call 97; (with_reducible refine (nextR HR2.out (by simp) HV1.out).mono ?_); rintro e w4 ⟨rfl, v4, hv4, hr4, -⟩; have HV4 := Lib.hid hv4; have HR4 := Lib.hid hr4; clear hv4 hr4; refine Hid.out ?_))
  have p1 := cell_heap (i := 1) HR4.out.h6 rfl
  have f1 := frozen_of_row _ _ 1 _ _ HR4.out.h6
  have HR5 := Lib.hid (HR4.out.set6 1 (.string ⟨#[47, 120]⟩))
  clear p2 p3 f2 f3 CP HR0 HR1 HR2 HV0 HV1
  refine Lib.hid ?_
  go_wp2_with (go_at_call 97; (with_reducible refine (nextR HR5.out (by simp) HV4.out).mono ?_); rintro e w6 ⟨rfl, v6, hv6, hr6, -⟩; have HV6 := Lib.hid hv6; have HR6 := Lib.hid hr6; clear hv6 hr6; refine Hid.out ?_)
  clear HR4 HR5 HV4 p1 f1
  refine Lib.hid ?_
  go_wp2
  go_loopw [7] (fun u wr => u = .string ⟨#[]⟩ ∧ Hid (wr = w6)) (fun _ _ => 0)
  case atStart => exact ⟨rfl, Lib.hid rfl⟩
  case round =>
    obtain ⟨rfl, HW⟩ := hrel
    obtain rfl := HW.out
    go_wp2_with (go_at_call 97; (with_reducible refine (nextR HR6.out (by simp) HV6.out).mono ?_); rintro e w7 ⟨rfl, v7, hv7, hr7, -⟩; have HV7 := Lib.hid hv7; have HR7 := Lib.hid hr7; clear hv7 hr7; refine Hid.out ?_)
    have HR7' : Hid (Rd w w7 v7 #[.string NM, .string ⟨#[47, 120]⟩, .bool false, .string ⟨#[97, 117, 116, 111]⟩, .slice none 0 0, .slice none 0 0] #[.string ⟨#[]⟩, .string ⟨#[]⟩, .bool false, .string ⟨#[]⟩, .slice none 0 0, .slice none 0 0]) := HR7
    clear HR7 HR6 HV6 HW
    refine Lib.hid ?_
    obtain ⟨i0, hi, hz0, hz1, hz2'⟩ := info_parts infoC
    go_wp2
    go_loopw [8] (fun p wr => ∃ (k : Nat) (vk u : Value), k ≤ 3 ∧ p = .string (pathX k) ∧ Hid (HoldT w vk (restX k)) ∧ Hid (Rd w wr vk #[.string NM, .string ⟨#[47, 120]⟩, .bool false, .string ⟨#[97, 117, 116, 111]⟩, .slice none 0 0, u] #[.string ⟨#[]⟩, .string ⟨#[]⟩, .bool false, .string ⟨#[]⟩, .slice none 0 0, .slice none 0 0]) ∧ Hid (OwnC wr (w.heap.size + 1 + 1 + 1) u (chX.take k))) (fun _ wr => lenX w wr)
    case atStart => exact ⟨0, v7, .slice none 0 0, by omega, rfl, HV7, HR7', Lib.hid (OwnV.nil _ _ _ _)⟩
    clear HV7 HR7'
    case round =>
      obtain ⟨k, vk, u, hk, hpk, HVK, HRK, HO⟩ := hrel
      rcases (show k = 0 ∨ k = 1 ∨ k = 2 ∨ k = 3 by omega) with rfl | rfl | rfl | rfl
      · have HVk : Hid (HoldT w vk [[53], [47, 98], [53], [47, 99], [49], []]) := HVK
        have HOk : Hid (OwnC wr (w.heap.size + 1 + 1 + 1) u (chX.take 0)) := HO
        have hp : u8 = .string ⟨#[47, 97]⟩ := hpk
        subst hp
        obtain ⟨ua, uc, hu⟩ := OwnV.form HOk.out
        rw [show ((chX.take 0).map cellsC).length = 0 from rfl] at hu
        subst hu
        have n0 := eqTL (⟨#[47, 97]⟩ : ByteArray) []
        rw [show decide ((ByteArray.mk #[47, 97]).data.toList = []) = false from by decide +kernel] at n0
        have hlen := HRK.out.len HVk.out
        have IN := fun W (hb : Below w.heap.size w W) => int5 W (hL.on hb)
        go_wp2_with (first
          | (go_at_call 97; (with_reducible refine (nextR HRK.out (by simp) HVk.out).mono ?_); rintro e w8 ⟨rfl, v8, hv8, hr8, hk8, hz8⟩; have HK8 := Lib.hid hk8; have HZ8 := Lib.hid hz8; have HV8 := Lib.hid hv8; have HR8 := Lib.hid hr8; clear hv8 hr8 hk8 hz8; have HO8 : Hid (World.ownsRow w8 (w.heap.size + 1 + 1 + 1) 32 3 (.slice ua 0 uc) 0 (((chX.take 0).map cellsC).flatten)) := Lib.hid (OW8 HK8.out HOk.out.2))
          | (go_at_call 99; (with_reducible refine (IN _ HR8.out.b).mono ?_); rintro e w9 ⟨rfl, hb⟩; have HR9 := Lib.hid (HR8.out.on hb); have HB89 := Lib.hid hb; clear hb; refine Hid.out ?_))
        have HO9 : Hid (World.ownsRow w9 (w.heap.size + 1 + 1 + 1) 32 3 (.slice ua 0 uc) 0 (((chX.take 0).map cellsC).flatten)) := Lib.hid (World.ownsRow.kept HO8.out (grownV HB89.out) (by cases Value.ownBlock _ <;> simp))
        have B10 := (Below.refl w9.heap.size w9).alloc (Nat.le_refl _) (.cells #[.string ⟨#[47, 97]⟩, .int .i64 5, .slice none 0 0] 32)
        have HR10 := Lib.hid (HR9.out.on B10)
        have HX10 := Lib.hid (heap_alloc_new w9 (.cells #[.string ⟨#[47, 97]⟩, .int .i64 5, .slice none 0 0] 32))
        have HO10 := Lib.hid (World.ownsRow.alloc HO9.out (.cells #[.string ⟨#[47, 97]⟩, .int .i64 5, .slice none 0 0] 32))
        have hz10 := HR10.out.b.size
        have hz3 : w.heap.size + 1 + 1 < w9.heap.size := lt_heap HR9.out.h6
        have p4 := cell_heap (i := 4) HR10.out.h6 rfl
        clear IN n0 HB89 HR8 HO8 HO9 HK8 HZ8 HRK HVk HOk HO HVK B10
        refine Lib.hid ?_
        go_wp2
        generalize w9.alloc (.cells #[.string ⟨#[47, 97]⟩, .int .i64 5, .slice none 0 0] 32) = W10 at *
        go_loopw [60] (fun i wr => i = .int .i64 0 ∧ Hid (wr = W10)) (fun _ _ => 0)
        case atStart => exact ⟨rfl, Lib.hid rfl⟩
        clear p4
        case round =>
          obtain ⟨rfl, HW⟩ := hrel
          obtain rfl := HW.out
          have p4 := cell_heap (i := 4) HR10.out.h6 rfl
          have p5 := cell_heap (i := 5) HR10.out.h6 rfl
          have hz4 : w.heap.size + 1 + 1 < wr.heap.size := lt_heap HR10.out.h6
          have g0 := cell_heap (i := 0) HX10.out rfl
          have g1 := cell_heap (i := 1) HX10.out rfl
          have g2 := cell_heap (i := 2) HX10.out rfl
          go_wp2_with (first
            | (at_builtin; refine wpList_append_own _ rfl _ _ 22 rfl (w.heap.size + 1 + 1 + 1) 32 i0 _ 3 48 Tryz.underlying22 hi hz0 hz1 hz2' rfl (by decide) _ _ _ rfl (World.ownsRow.alloc HO10.out _) ⟨wr.heap.size, 0, none⟩ 1 1 [.string ⟨#[47, 97]⟩, .int .i64 5, .slice none 0 0] rfl rfl (by intro j u hj; match j, hj with | 0, hj => simp at hj; subst hj; simp [Addr.add] | 1, hj => simp at hj; subst hj; simp [Addr.add] | 2, hj => simp at hj; subst hj; simp [Addr.add]) (by intro u hu; simp at hu; rcases hu with rfl | rfl | rfl <;> rfl) (by unfold maxLen; omega) (by omega) (by simp; omega) ?_; intro v11 w11 ho11 hg11 _; (have hge := fun g e => (World.ownsRow.lt HO10.out g e).1); (have hR11 := (HR10.out.on ((Below.refl wr.heap.size wr).alloc (Nat.le_refl _) _)).grown hg11 (fun g e => by have := hge g e; omega)); (have p55 := cell_heap (i := 5) hR11.h6 rfl); (have f5 := frozen_of_row _ _ 5 _ _ hR11.h6); (have HR11 := Lib.hid (hR11.set6 5 v11)); (have HO11 : Hid (OwnC (w11.setCell ⟨w.heap.size + 1 + 1, 5, none⟩ v11) (w.heap.size + 1 + 1 + 1) v11 (chX.take 1)) := Lib.hid (OwnC.app (l := chX.take 0) (x := (([47, 97], 5, []), .slice none 0 0)) (OW8 (w := w) (W := w11) (W' := w11.setCell ⟨w.heap.size + 1 + 1, 5, none⟩ v11) (fun g hg => Below.heap_setCell _ _ _ _ (by simp; omega)) ho11))); (obtain ⟨a11, c11, e11⟩ := OwnV.form HO11.out); (rw [show ((chX.take 1).map cellsC).length = 1 from rfl] at e11); subst e11; clear hR11 hge ho11 hg11 p4 p5 g0 g1 g2 HR10 HX10 HO10 HR9 hz3 hz10 hz4)
            | (go_at_call 97; (with_reducible refine (nextR HR11.out (by simp) HV8.out).mono ?_); rintro e w12 ⟨rfl, v12, hv12, hr12, hk12, hz12⟩; have HK12 := Lib.hid hk12; have HZ12 := Lib.hid hz12; have HV12 := Lib.hid hv12; have HR12 := Lib.hid hr12; clear hv12 hr12 hk12 hz12; refine Hid.out ?_))
          have hlen12 := HR12.out.len HV12.out
          have HO12 := Lib.hid (And.intro HO11.out.1 (OW8 HK12.out HO11.out.2))
          refine Lib.hid ?_
          go_wp2
          all_goals exact ⟨⟨1, _, _, by omega, rfl, HV12, HR12, HO12⟩, by rw [hlen12, hlen]; decide⟩
      · have HVk : Hid (HoldT w vk [[53], [47, 99], [49], []]) := HVK
        have HOk : Hid (OwnC wr (w.heap.size + 1 + 1 + 1) u (chX.take 1)) := HO
        have hp : u8 = .string ⟨#[47, 98]⟩ := hpk
        subst hp
        obtain ⟨ua, uc, hu⟩ := OwnV.form HOk.out
        rw [show ((chX.take 1).map cellsC).length = 1 from rfl] at hu
        subst hu
        have n0 := eqTL (⟨#[47, 98]⟩ : ByteArray) []
        rw [show decide ((ByteArray.mk #[47, 98]).data.toList = []) = false from by decide +kernel] at n0
        have hlen := HRK.out.len HVk.out
        have IN := fun W (hb : Below w.heap.size w W) => int5 W (hL.on hb)
        go_wp2_with (first
          | (go_at_call 97; (with_reducible refine (nextR HRK.out (by simp) HVk.out).mono ?_); rintro e w8 ⟨rfl, v8, hv8, hr8, hk8, hz8⟩; have HK8 := Lib.hid hk8; have HZ8 := Lib.hid hz8; have HV8 := Lib.hid hv8; have HR8 := Lib.hid hr8; clear hv8 hr8 hk8 hz8; have HO8 : Hid (World.ownsRow w8 (w.heap.size + 1 + 1 + 1) 32 3 (.slice ua 1 uc) 1 (((chX.take 1).map cellsC).flatten)) := Lib.hid (OW8 HK8.out HOk.out.2))
          | (go_at_call 99; (with_reducible refine (IN _ HR8.out.b).mono ?_); rintro e w9 ⟨rfl, hb⟩; have HR9 := Lib.hid (HR8.out.on hb); have HB89 := Lib.hid hb; clear hb; refine Hid.out ?_))
        have HO9 : Hid (World.ownsRow w9 (w.heap.size + 1 + 1 + 1) 32 3 (.slice ua 1 uc) 1 (((chX.take 1).map cellsC).flatten)) := Lib.hid (World.ownsRow.kept HO8.out (grownV HB89.out) (by cases Value.ownBlock _ <;> simp))
        have B10 := (Below.refl w9.heap.size w9).alloc (Nat.le_refl _) (.cells #[.string ⟨#[47, 98]⟩, .int .i64 5, .slice none 0 0] 32)
        have HR10 := Lib.hid (HR9.out.on B10)
        have HX10 := Lib.hid (heap_alloc_new w9 (.cells #[.string ⟨#[47, 98]⟩, .int .i64 5, .slice none 0 0] 32))
        have HO10 := Lib.hid (World.ownsRow.alloc HO9.out (.cells #[.string ⟨#[47, 98]⟩, .int .i64 5, .slice none 0 0] 32))
        have hz10 := HR10.out.b.size
        have hz3 : w.heap.size + 1 + 1 < w9.heap.size := lt_heap HR9.out.h6
        have p4 := cell_heap (i := 4) HR10.out.h6 rfl
        clear IN n0 HB89 HR8 HO8 HO9 HK8 HZ8 HRK HVk HOk HO HVK B10
        refine Lib.hid ?_
        go_wp2
        generalize w9.alloc (.cells #[.string ⟨#[47, 98]⟩, .int .i64 5, .slice none 0 0] 32) = W10 at *
        go_loopw [60] (fun i wr => i = .int .i64 0 ∧ Hid (wr = W10)) (fun _ _ => 0)
        case atStart => exact ⟨rfl, Lib.hid rfl⟩
        clear p4
        case round =>
          obtain ⟨rfl, HW⟩ := hrel
          obtain rfl := HW.out
          have p4 := cell_heap (i := 4) HR10.out.h6 rfl
          have p5 := cell_heap (i := 5) HR10.out.h6 rfl
          have hz4 : w.heap.size + 1 + 1 < wr.heap.size := lt_heap HR10.out.h6
          have g0 := cell_heap (i := 0) HX10.out rfl
          have g1 := cell_heap (i := 1) HX10.out rfl
          have g2 := cell_heap (i := 2) HX10.out rfl
          go_wp2_with (first
            | (at_builtin; refine wpList_append_own _ rfl _ _ 22 rfl (w.heap.size + 1 + 1 + 1) 32 i0 _ 3 48 Tryz.underlying22 hi hz0 hz1 hz2' rfl (by decide) _ _ _ rfl (World.ownsRow.alloc HO10.out _) ⟨wr.heap.size, 0, none⟩ 1 1 [.string ⟨#[47, 98]⟩, .int .i64 5, .slice none 0 0] rfl rfl (by intro j u hj; match j, hj with | 0, hj => simp at hj; subst hj; simp [Addr.add] | 1, hj => simp at hj; subst hj; simp [Addr.add] | 2, hj => simp at hj; subst hj; simp [Addr.add]) (by intro u hu; simp at hu; rcases hu with rfl | rfl | rfl <;> rfl) (by unfold maxLen; omega) (by omega) (by simp; omega) ?_; intro v11 w11 ho11 hg11 _; (have hge := fun g e => (World.ownsRow.lt HO10.out g e).1); (have hR11 := (HR10.out.on ((Below.refl wr.heap.size wr).alloc (Nat.le_refl _) _)).grown hg11 (fun g e => by have := hge g e; omega)); (have p55 := cell_heap (i := 5) hR11.h6 rfl); (have f5 := frozen_of_row _ _ 5 _ _ hR11.h6); (have HR11 := Lib.hid (hR11.set6 5 v11)); (have HO11 : Hid (OwnC (w11.setCell ⟨w.heap.size + 1 + 1, 5, none⟩ v11) (w.heap.size + 1 + 1 + 1) v11 (chX.take 2)) := Lib.hid (OwnC.app (l := chX.take 1) (x := (([47, 98], 5, []), .slice none 0 0)) (OW8 (w := w) (W := w11) (W' := w11.setCell ⟨w.heap.size + 1 + 1, 5, none⟩ v11) (fun g hg => Below.heap_setCell _ _ _ _ (by simp; omega)) ho11))); (obtain ⟨a11, c11, e11⟩ := OwnV.form HO11.out); (rw [show ((chX.take 2).map cellsC).length = 2 from rfl] at e11); subst e11; clear hR11 hge ho11 hg11 p4 p5 g0 g1 g2 HR10 HX10 HO10 HR9 hz3 hz10 hz4)
            | (go_at_call 97; (with_reducible refine (nextR HR11.out (by simp) HV8.out).mono ?_); rintro e w12 ⟨rfl, v12, hv12, hr12, hk12, hz12⟩; have HK12 := Lib.hid hk12; have HZ12 := Lib.hid hz12; have HV12 := Lib.hid hv12; have HR12 := Lib.hid hr12; clear hv12 hr12 hk12 hz12; refine Hid.out ?_))
          have hlen12 := HR12.out.len HV12.out
          have HO12 := Lib.hid (And.intro HO11.out.1 (OW8 HK12.out HO11.out.2))
          refine Lib.hid ?_
          go_wp2
          all_goals exact ⟨⟨2, _, _, by omega, rfl, HV12, HR12, HO12⟩, by rw [hlen12, hlen]; decide⟩
      · have HVk : Hid (HoldT w vk [[49], []]) := HVK
        have HOk : Hid (OwnC wr (w.heap.size + 1 + 1 + 1) u (chX.take 2)) := HO
        have hp : u8 = .string ⟨#[47, 99]⟩ := hpk
        subst hp
        obtain ⟨ua, uc, hu⟩ := OwnV.form HOk.out
        rw [show ((chX.take 2).map cellsC).length = 2 from rfl] at hu
        subst hu
        have n0 := eqTL (⟨#[47, 99]⟩ : ByteArray) []
        rw [show decide ((ByteArray.mk #[47, 99]).data.toList = []) = false from by decide +kernel] at n0
        have hlen := HRK.out.len HVk.out
        have IN := fun W (hb : Below w.heap.size w W) => int1 W (hL.on hb)
        go_wp2_with (first
          | (go_at_call 97; (with_reducible refine (nextR HRK.out (by simp) HVk.out).mono ?_); rintro e w8 ⟨rfl, v8, hv8, hr8, hk8, hz8⟩; have HK8 := Lib.hid hk8; have HZ8 := Lib.hid hz8; have HV8 := Lib.hid hv8; have HR8 := Lib.hid hr8; clear hv8 hr8 hk8 hz8; have HO8 : Hid (World.ownsRow w8 (w.heap.size + 1 + 1 + 1) 32 3 (.slice ua 2 uc) 2 (((chX.take 2).map cellsC).flatten)) := Lib.hid (OW8 HK8.out HOk.out.2))
          | (go_at_call 99; (with_reducible refine (IN _ HR8.out.b).mono ?_); rintro e w9 ⟨rfl, hb⟩; have HR9 := Lib.hid (HR8.out.on hb); have HB89 := Lib.hid hb; clear hb; refine Hid.out ?_))
        have HO9 : Hid (World.ownsRow w9 (w.heap.size + 1 + 1 + 1) 32 3 (.slice ua 2 uc) 2 (((chX.take 2).map cellsC).flatten)) := Lib.hid (World.ownsRow.kept HO8.out (grownV HB89.out) (by cases Value.ownBlock _ <;> simp))
        have B10 := (Below.refl w9.heap.size w9).alloc (Nat.le_refl _) (.cells #[.string ⟨#[47, 99]⟩, .int .i64 1, .slice none 0 0] 32)
        have HR10 := Lib.hid (HR9.out.on B10)
        have HX10 := Lib.hid (heap_alloc_new w9 (.cells #[.string ⟨#[47, 99]⟩, .int .i64 1, .slice none 0 0] 32))
        have HO10 := Lib.hid (World.ownsRow.alloc HO9.out (.cells #[.string ⟨#[47, 99]⟩, .int .i64 1, .slice none 0 0] 32))
        have hz10 := HR10.out.b.size
        have hz3 : w.heap.size + 1 + 1 < w9.heap.size := lt_heap HR9.out.h6
        have p4 := cell_heap (i := 4) HR10.out.h6 rfl
        clear IN n0 HB89 HR8 HO8 HO9 HK8 HZ8 HRK HVk HOk HO HVK B10
        refine Lib.hid ?_
        go_wp2
        generalize w9.alloc (.cells #[.string ⟨#[47, 99]⟩, .int .i64 1, .slice none 0 0] 32) = W10 at *
        go_loopw [60] (fun i wr => i = .int .i64 0 ∧ Hid (wr = W10)) (fun _ _ => 0)
        case atStart => exact ⟨rfl, Lib.hid rfl⟩
        clear p4
        case round =>
          obtain ⟨rfl, HW⟩ := hrel
          obtain rfl := HW.out
          have p4 := cell_heap (i := 4) HR10.out.h6 rfl
          have p5 := cell_heap (i := 5) HR10.out.h6 rfl
          have hz4 : w.heap.size + 1 + 1 < wr.heap.size := lt_heap HR10.out.h6
          have g0 := cell_heap (i := 0) HX10.out rfl
          have g1 := cell_heap (i := 1) HX10.out rfl
          have g2 := cell_heap (i := 2) HX10.out rfl
          go_wp2_with (first
            | (at_builtin; refine wpList_append_own _ rfl _ _ 22 rfl (w.heap.size + 1 + 1 + 1) 32 i0 _ 3 48 Tryz.underlying22 hi hz0 hz1 hz2' rfl (by decide) _ _ _ rfl (World.ownsRow.alloc HO10.out _) ⟨wr.heap.size, 0, none⟩ 1 1 [.string ⟨#[47, 99]⟩, .int .i64 1, .slice none 0 0] rfl rfl (by intro j u hj; match j, hj with | 0, hj => simp at hj; subst hj; simp [Addr.add] | 1, hj => simp at hj; subst hj; simp [Addr.add] | 2, hj => simp at hj; subst hj; simp [Addr.add]) (by intro u hu; simp at hu; rcases hu with rfl | rfl | rfl <;> rfl) (by unfold maxLen; omega) (by omega) (by simp; omega) ?_; intro v11 w11 ho11 hg11 _; (have hge := fun g e => (World.ownsRow.lt HO10.out g e).1); (have hR11 := (HR10.out.on ((Below.refl wr.heap.size wr).alloc (Nat.le_refl _) _)).grown hg11 (fun g e => by have := hge g e; omega)); (have p55 := cell_heap (i := 5) hR11.h6 rfl); (have f5 := frozen_of_row _ _ 5 _ _ hR11.h6); (have HR11 := Lib.hid (hR11.set6 5 v11)); (have HO11 : Hid (OwnC (w11.setCell ⟨w.heap.size + 1 + 1, 5, none⟩ v11) (w.heap.size + 1 + 1 + 1) v11 (chX.take 3)) := Lib.hid (OwnC.app (l := chX.take 2) (x := (([47, 99], 1, []), .slice none 0 0)) (OW8 (w := w) (W := w11) (W' := w11.setCell ⟨w.heap.size + 1 + 1, 5, none⟩ v11) (fun g hg => Below.heap_setCell _ _ _ _ (by simp; omega)) ho11))); (obtain ⟨a11, c11, e11⟩ := OwnV.form HO11.out); (rw [show ((chX.take 3).map cellsC).length = 3 from rfl] at e11); subst e11; clear hR11 hge ho11 hg11 p4 p5 g0 g1 g2 HR10 HX10 HO10 HR9 hz3 hz10 hz4)
            | (go_at_call 97; (with_reducible refine (nextR HR11.out (by simp) HV8.out).mono ?_); rintro e w12 ⟨rfl, v12, hv12, hr12, hk12, hz12⟩; have HK12 := Lib.hid hk12; have HZ12 := Lib.hid hz12; have HV12 := Lib.hid hv12; have HR12 := Lib.hid hr12; clear hv12 hr12 hk12 hz12; refine Hid.out ?_))
          have hlen12 := HR12.out.len HV12.out
          have HO12 := Lib.hid (And.intro HO11.out.1 (OW8 HK12.out HO11.out.2))
          refine Lib.hid ?_
          go_wp2
          all_goals exact ⟨⟨3, _, _, by omega, rfl, HV12, HR12, HO12⟩, by rw [hlen12, hlen]; decide⟩
      · have hp : u8 = .string ⟨#[]⟩ := hpk
        have HOk : Hid (OwnC wr (w.heap.size + 1 + 1 + 1) u chX) := HO
        subst hp
        obtain ⟨ua, uc, hu⟩ := OwnV.form HOk.out
        rw [show (chX.map cellsC).length = 3 from rfl] at hu
        subst hu
        have HH : Hid (HoldC wr (.slice ua 3 uc) chX) := Lib.hid ⟨OwnV.holds HOk.out, fun x hx => by simp at hx; rcases hx with rfl | rfl | rfl <;> exact ⟨none, 0, 0, 0, rfl, Nat.le_refl _, fun h => absurd h (by simp), fun j u hj => by simp at hj⟩⟩
        have n0 := eqTL (⟨#[]⟩ : ByteArray) []
        rw [show decide ((ByteArray.mk #[]).data.toList = []) = true from by decide +kernel] at n0
        have BC := fun W h => bestC_any (.slice ua 3 uc) chX (by decide) W h
        rw [show bestC chX = 0 from by decide +kernel] at BC
        have p5 := cell_heap (i := 5) HRK.out.h6 rfl
        clear HVK HO
        go_wp2_with (go_at_call 11; (with_reducible refine (BC wr HH.out).mono ?_); rintro e w8 ⟨rfl, hb⟩; have HR8 := Lib.hid (HRK.out.on hb); have HH8 := Lib.hid (HoldC.on HH.out hb); have HO8 := Lib.hid (OwnV.on HOk.out hb); clear hb; refine Hid.out ?_)
        clear BC n0 HH HRK p5 HOk
        have p2 := cell_heap (i := 2) HR8.out.h6 rfl
        have p3 := cell_heap (i := 3) HR8.out.h6 rfl
        have p5 := cell_heap (i := 5) HR8.out.h6 rfl
        have f3 := frozen_of_row _ _ 3 _ _ HR8.out.h6
        obtain ⟨a8, c8, b8, o8, e8, hc8, ha8, hcell8⟩ := HoldC.parts HH8.out
        simp only [Value.slice.injEq] at e8
        obtain ⟨rfl, -, rfl⟩ := e8
        obtain ⟨rfl, hb8⟩ := ha8 (by decide)
        have d0 := (hcell8 0 (([47, 97], 5, []), .slice none 0 0) rfl).1
        rw [show o8 + 0 * 3 = o8 from by omega] at d0
        have HR9 := Lib.hid (HR8.out.set6 3 (.string ⟨#[47, 97]⟩))
        have HO9 : Hid (OwnC (w8.setCell ⟨w.heap.size + 1 + 1, 3, none⟩ (.string ⟨#[47, 97]⟩)) (w.heap.size + 1 + 1 + 1) (.slice (some ⟨b8, o8, none⟩) 3 uc) chX) := Lib.hid (And.intro HO8.out.1 (OW8 (w := w) (W := w8) (W' := w8.setCell ⟨w.heap.size + 1 + 1, 3, none⟩ (.string ⟨#[47, 97]⟩)) (fun g hg => Below.heap_setCell _ _ _ _ (by simp; omega)) HO8.out.2))
        have q0 := cell_heap (i := 0) HR9.out.h6 rfl
        have q1 := cell_heap (i := 1) HR9.out.h6 rfl
        have q2 := cell_heap (i := 2) HR9.out.h6 rfl
        have q3 := cell_heap (i := 3) HR9.out.h6 rfl
        have q4 := cell_heap (i := 4) HR9.out.h6 rfl
        have q5 := cell_heap (i := 5) HR9.out.h6 rfl
        have r0 := cell_heap (i := 0) HR9.out.h4 rfl
        have g0 := frozen_of_row _ _ 0 _ _ HR9.out.h4
        have r1 := cell_heap (i := 1) HR9.out.h4 rfl
        have g1 := frozen_of_row _ _ 1 _ _ HR9.out.h4
        have r2 := cell_heap (i := 2) HR9.out.h4 rfl
        have g2 := frozen_of_row _ _ 2 _ _ HR9.out.h4
        have r3 := cell_heap (i := 3) HR9.out.h4 rfl
        have g3 := frozen_of_row _ _ 3 _ _ HR9.out.h4
        have r4 := cell_heap (i := 4) HR9.out.h4 rfl
        have g4 := frozen_of_row _ _ 4 _ _ HR9.out.h4
        have r5 := cell_heap (i := 5) HR9.out.h4 rfl
        have g5 := frozen_of_row _ _ 5 _ _ HR9.out.h4
        refine Lib.hid ?_
        go_wp2
        obtain ⟨k0, k1, k2, k3, k4, k5⟩ := six_cells (.string NM) (.string ⟨#[47, 120]⟩) (.bool false) (.string ⟨#[47, 97]⟩) (.slice none 0 0) (.slice (some ⟨b8, o8, none⟩) 3 uc) HR9.out.h4
        have HBX := six_below HR9.out.b (b := w.heap.size + 1) (by omega) (.string NM) (.string ⟨#[47, 120]⟩) (.bool false) (.string ⟨#[47, 97]⟩) (.slice none 0 0) (.slice (some ⟨b8, o8, none⟩) 3 uc)
        have HOX := OW8 (w := w) (six_heap (w8.setCell ⟨w.heap.size + 1 + 1, 3, none⟩ (.string ⟨#[47, 97]⟩)) (w.heap.size + 1) (w.heap.size + 3) (by omega) (.string NM) (.string ⟨#[47, 120]⟩) (.bool false) (.string ⟨#[47, 97]⟩) (.slice none 0 0) (.slice (some ⟨b8, o8, none⟩) 3 uc)) HO9.out.2
        exact bodyPost_ret (v := .agg #[.string NM, .string ⟨#[47, 120]⟩, .bool false, .string ⟨#[47, 97]⟩, .slice none 0 0, .slice (some ⟨b8, o8, none⟩) 3 uc]) (by simp [results, Tryz.results63, go_sem, k0, k1, k2, k3, k4, k5]) rfl ⟨_, rfl, ⟨OwnV.holds (T := 32) ⟨HO9.out.1, HOX⟩, fun x hx => by simp at hx; rcases hx with rfl | rfl | rfl <;> exact ⟨none, 0, 0, 0, rfl, Nat.le_refl _, fun h => absurd h (by simp), fun j u hj => by simp at hj⟩⟩, HBX⟩
end Go.Proofs.YtnfhccnicojdcaaGreatDoor
namespace Go.Proofs.YtnfhccnicojdcaaGreatDoor
open Go.RowKit Go.Shelf
theorem joinN_any (v : Value) (ls : List Bs) (h0 : 0 < ls.length) (hl : ls.length ≤ 90000) (hs : ∀ p ∈ ls, p.length ≤ 4000) (w : World) (h : HoldT w v ls) :
    Calls Tryz.prog 61 #[v, .string ⟨#[10]⟩] w fun e w' => e = .returned (.string ⟨(joinC 10 ls).toArray⟩) ∧ Below w.heap.size w w' := by
  obtain ⟨a, c, b, o, rfl, hc, ha, hcell⟩ := h
  obtain ⟨rfl, hb⟩ := ha h0
  have hm : (ls.map fun l => ByteArray.mk l.toArray).map (fun x => x.data.toList) = ls := by
    rw [List.map_map]; conv => rhs; rw [← List.map_id ls]
    exact List.map_congr_left (fun l _ => by simp)
  have hj := joinC_len2 10 4000 ls hs
  have hjj : ls.length * 4001 ≤ 90000 * 4001 := Nat.mul_le_mul_right _ hl
  have := Tryz.strings_Join b o c (ls.map fun l => ByteArray.mk l.toArray) ⟨#[10]⟩ w (fun j x hx => by
    rw [List.getElem?_map] at hx
    cases hg : ls[j]? with
    | none => rw [hg] at hx; cases hx
    | some l => rw [hg] at hx; obtain rfl := Option.some.inj hx; exact hcell j l hg) hb (by rw [List.length_map]; omega) (by rw [List.length_map]; exact hc) (by rw [hm]; show (Lib.join ls [10]).length ≤ _; rw [join_isC]; omega)
  rw [hm, List.length_map, show (ByteArray.mk #[10]).data.toList = [10] from rfl, join_isC] at this
  exact this
abbrev wAuto : Bs := [97, 117, 116, 111]
def rowE (c : Cv) : List Bs := [c.1.1, Lib.itoa c.1.2.1]
def linesE (x : Av) : List Bs := [wAuto, x.lk, []] ++ x.ch.flatMap rowE ++ [[]]
def textE (x : Av) : Bs := joinC 10 (linesE x) ++ [10]
abbrev S17 (w2 : World) (b7 : Nat) (a0 a1 a2 : Value) (t : TypeId) (V : World) : Prop := V.cell? ⟨b7, 0, none⟩ = some a0 ∧ V.cell? ⟨b7, 1, none⟩ = some a1 ∧ V.heap[b7]? = some (.cells #[a0, a1, a2] t (0, 0)) ∧ Below w2.heap.size w2 V
theorem S17.on {w2 V V' : World} {b7 : Nat} {a0 a1 a2 : Value} {t : TypeId} (h : S17 w2 b7 a0 a1 a2 t V) (hb : Below V.heap.size V V') : S17 w2 b7 a0 a1 a2 t V' := by
  have l := World.block_lt_of_cell? _ _ h.1
  exact ⟨(hb.cell (p := ⟨b7, 0, none⟩) l).trans h.1, (hb.cell (p := ⟨b7, 1, none⟩) l).trans h.2.1, (hb.block b7 l).trans h.2.2.1, h.2.2.2.trans (hb.mono h.2.2.2.size)⟩
theorem S17.grown {w2 V V' : World} {b7 : Nat} {a0 a1 a2 : Value} {t : TypeId} {row : Option Nat} (h : S17 w2 b7 a0 a1 a2 t V) (hg : V.grownBy V' row) (hne : some b7 ≠ row) (hr : ∀ k, row = some k → w2.heap.size ≤ k) : S17 w2 b7 a0 a1 a2 t V' := by
  have l := World.block_lt_of_cell? _ _ h.1
  have hh := (hg.block b7 l hne).trans h.2.2.1
  exact ⟨cell_heap hh rfl, cell_heap hh rfl, hh, h.2.2.2.grown hg h.2.2.2.size hr⟩
theorem S17.new {w2 V : World} {a0 a1 a2 : Value} {t : TypeId} (hb : Below w2.heap.size w2 V) : S17 w2 V.heap.size a0 a1 a2 t (V.alloc (.cells #[a0, a1, a2] t)) := by
  have hh := heap_alloc_new V (.cells #[a0, a1, a2] t)
  exact ⟨cell_heap hh rfl, cell_heap hh rfl, hh, hb.alloc hb.size _⟩
theorem OwnT.on17 {w w' : World} {base : Nat} {v : Value} {n : Nat} {xs : List Value} (h : World.ownsRow w base 9 1 v n xs) (hb : Below w.heap.size w w') : World.ownsRow w' base 9 1 v n xs :=
  World.ownsRow.kept h (grownV hb) (by cases Value.ownBlock v <;> simp)
set_option maxRecDepth 100000 in
set_option maxHeartbeats 32000000 in
theorem printE_any (x : Av) (hg : GoodA x) (hf : FewOne x) (hmn : x.mn = false) (hsl : x.sl = []) (hN : ∀ c ∈ x.ch, c.2 = .slice none 0 0) (w : World) (hL : LaidZ w) (h : InA w x) :
    Calls Tryz.prog 32 #[agZA x] w fun e w' => e = .returned (.tuple #[.string (bsT (textE x)), .int .i64 0]) ∧ Below w.heap.size w w' := by
  have B1 := (Below.refl w.heap.size w).alloc (Nat.le_refl _) (.cells #[.string (⟨x.nm.toArray⟩ : ByteArray), .string (⟨x.lk.toArray⟩ : ByteArray), .bool x.mn, .string (⟨x.cr.toArray⟩ : ByteArray), x.sv, x.cv] 26)
  obtain ⟨x0, x1, x2, x3, x4, x5⟩ := boxV6 w (.string (⟨x.nm.toArray⟩ : ByteArray)) (.string (⟨x.lk.toArray⟩ : ByteArray)) (.bool x.mn) (.string (⟨x.cr.toArray⟩ : ByteArray)) x.sv x.cv 26
  have RA1 := fun W (hb : Below w.heap.size w W) => rightA_any x hf.sm W (hL.p.on hb) (h.on hb)
  rw [rightA_yes hg] at RA1
  have hd := hg.smd hf
  have hn1 := hg.ch.few
  have hn0 := hg.ch.some
  have hlk := hd.lk
  obtain ⟨sa, sc, sb, so, hsv, -⟩ := HoldS.parts h.1
  rw [hsl] at hsv
  obtain ⟨ca, cc, cb, co, hcv, hcc, hca, hccell⟩ := HoldC.parts h.2
  obtain ⟨rfl, hcb⟩ := hca hn0
  obtain ⟨L0, hL0⟩ : ∃ q : ByteArray, (⟨x.lk.toArray⟩ : ByteArray) = q := ⟨_, rfl⟩
  have HL0 : Hid (L0.data.toList = x.lk) := Lib.hid (by rw [← hL0])
  unfold agZA at RA1 ⊢
  rw [hsv, hcv, hmn, hL0] at RA1 B1 x0 x1 x2 x3 x4 x5
  rw [hsv, hcv, hmn, hL0]
  rw [show ([] : List Sv).length = 0 from rfl] at RA1 B1 x0 x1 x2 x3 x4 x5
  rw [show ([] : List Sv).length = 0 from rfl]
  obtain ⟨cn, hcn⟩ : ∃ n, x.ch.length = n := ⟨_, rfl⟩
  rw [hcn] at RA1 B1 x0 x1 x2 x3 x4 x5 hn0 hn1 hcc
  rw [hcn]
  have HCN := Lib.hid hcn
  have HCC := Lib.hid hccell
  have HLZ := Lib.hid hL
  have HB1 := Lib.hid B1
  have HNN := Lib.hid hN
  have HCM := Lib.hid (show ∀ c ∈ x.ch, c.1.1.length ≤ 300 ∧ -2147483648 ≤ c.1.2.1 ∧ c.1.2.1 ≤ 2147483647 from fun c hc => ⟨(hd.cs c hc).1, (hd.cs c hc).2.2.1, (hd.cs c hc).2.2.2.1⟩)
  have HLE := Lib.hid (show linesE x = [wAuto, x.lk, []] ++ x.ch.flatMap rowE ++ [[]] from rfl)
  have HTE := Lib.hid (show textE x = joinC 10 (linesE x) ++ [10] from rfl)
  have l0 := World.block_lt_of_cell? _ _ x0
  generalize (⟨x.nm.toArray⟩ : ByteArray) = N0 at *
  generalize (⟨x.cr.toArray⟩ : ByteArray) = R0 at *
  obtain ⟨i0, hi, hz0, hz1, hz2'⟩ := info_parts infoS
  clear hL0 hsv hcv hcn hccell hca h hd hg hf hL B1 hmn hsl hN
  go_enter Tryz.func32, Tryz.ntmps32
  go_wp2_with (go_at_call 35; (with_reducible refine (RA1 _ HB1.out).mono ?_); rintro e w2 ⟨rfl, hb⟩; have HB2 := Lib.hid (HB1.out.trans (hb.mono HB1.out.size)); have hl2 := Nat.lt_of_lt_of_le l0 hb.size; have y1 := (hb.cell (p := ⟨w.heap.size, 1, none⟩) l0).trans x1; have y2 := (hb.cell (p := ⟨w.heap.size, 2, none⟩) l0).trans x2; have y4 := (hb.cell (p := ⟨w.heap.size, 4, none⟩) l0).trans x4; have y5 := (hb.cell (p := ⟨w.heap.size, 5, none⟩) l0).trans x5; clear hb x0 x1 x2 x3 x4 x5)
  have HM := OwnT.made w2 [⟨#[97, 117, 116, 111]⟩, L0] (by simp [maxLen])
  have HM2 : Hid (OwnT (w2.alloc (.cells #[.string ⟨#[97, 117, 116, 111]⟩, .string L0] 9)) w2.heap.size (.slice (some ⟨w2.heap.size, 0, none⟩) 2 2) [wAuto, x.lk]) := Lib.hid (by rw [← HL0.out]; exact HM)
  have HBM := Lib.hid ((Below.refl w2.heap.size w2).alloc (Nat.le_refl _) (.cells #[.string ⟨#[97, 117, 116, 111]⟩, .string L0] 9))
  have HY : Hid (∀ W, Below w2.heap.size w2 W → W.cell? ⟨w.heap.size, 4, none⟩ = some (.slice sa 0 sc) ∧ W.cell? ⟨w.heap.size, 5, none⟩ = some (.slice (some ⟨cb, co, none⟩) cn cc)) := Lib.hid (fun W hb => ⟨(hb.cell (p := ⟨w.heap.size, 4, none⟩) hl2).trans y4, (hb.cell (p := ⟨w.heap.size, 5, none⟩) hl2).trans y5⟩)
  clear HM y1 y2 y4 y5 RA1 l0
  generalize w2.alloc (.cells #[.string ⟨#[97, 117, 116, 111]⟩, .string L0] 9) = W3 at *
  go_loopw [4, 25] (fun u i wr => ∃ k : Nat, k ≤ 0 ∧ i = .int .i64 k ∧ u = .slice (some ⟨w2.heap.size, 0, none⟩) 2 2 ∧ Hid (wr = W3)) (fun _ i _ => 0 - (intOf i).toNat)
  case atStart => exact ⟨0, by omega, rfl, rfl, Lib.hid rfl⟩
  case round =>
    obtain ⟨k, hk, rfl, rfl, HW⟩ := hrel
    obtain rfl : k = 0 := by omega
    obtain rfl := HW.out
    obtain ⟨y4, y5⟩ := HY.out _ HBM.out
    have ho3 : World.ownsRow wr w2.heap.size 9 1 (.slice (some ⟨w2.heap.size, 0, none⟩) 2 2) 2 (txts [wAuto, x.lk]) := HM2.out
    have HO3 := Lib.hid ho3
    clear ho3 HM2 hk HW
    go_wp2_with (at_builtin; refine wpList_append_own _ rfl _ _ 30 rfl w2.heap.size 9 i0 (.string ⟨#[]⟩) 1 16 Tryz.underlying30 hi hz0 hz1 hz2' rfl (by decide) _ _ _ rfl (World.ownsRow.alloc HO3.out _) ⟨wr.heap.size, 0, none⟩ 1 1 [.string ⟨#[]⟩] rfl rfl ?c1 ?c2 ?c3 ?c4 ?c5 ?_)
    case c1 => intro j u hj; match j, hj with | 0, hj => simp at hj; subst hj; simp [Addr.add, World.cell?_alloc_new]
    case c2 => intro u hu; simp at hu; subst hu; rfl
    case c3 => unfold maxLen; omega
    case c4 => omega
    case c5 => have := HBM.out.size; simp; omega
    · intro v' w4 hown' hgrow _
      have HO4 : Hid (OwnT w4 w2.heap.size v' ([wAuto, x.lk, []] ++ (x.ch.take 0).flatMap rowE)) := Lib.hid (by
        have := OwnT.app (ls := [wAuto, x.lk]) (l := []) (show (ByteArray.mk #[]).data.toList = [] from rfl) hown'
        simpa using this)
      have HB4 : Hid (Below w2.heap.size w2 w4) := Lib.hid ((HBM.out.alloc HBM.out.size _).grown hgrow (by have := HBM.out.size; simp; omega) (fun k hk => (World.ownsRow.lt HO3.out k hk).1))
      obtain ⟨z4, z5⟩ := HY.out _ HB4.out
      clear hown' hgrow y4 y5 HO3 HBM
      go_wp2
      go_loopw [4, 43] (fun u i wr => ∃ k : Nat, k ≤ cn ∧ i = .int .i64 k ∧ Hid (OwnT wr w2.heap.size u ([wAuto, x.lk, []] ++ (x.ch.take k).flatMap rowE)) ∧ Hid (Below w2.heap.size w2 wr)) (fun _ i _ => cn - (intOf i).toNat)
      case atStart => exact ⟨0, by omega, rfl, HO4, HB4⟩
      clear z4 z5 HO4 HB4
      case round =>
        obtain ⟨k, hk, rfl, HO, HB⟩ := hrel
        have hsz := HB.out.size
        by_cases hlt : k < cn
        · obtain ⟨y, hx⟩ : ∃ y, x.ch[k]? = some y := ⟨_, List.getElem?_eq_getElem (by rw [HCN.out]; exact hlt)⟩
          have hym := List.mem_of_getElem? hx
          have hBW := HB2.out.trans (HB.out.mono HB2.out.size)
          obtain ⟨c0, c1, c2⟩ := HCC.out k y hx
          rw [← hBW.cell (p := ⟨cb, co + k * 3, none⟩) hcb] at c0
          rw [← hBW.cell (p := ⟨cb, co + k * 3 + 1, none⟩) hcb] at c1
          rw [← hBW.cell (p := ⟨cb, co + k * 3 + 2, none⟩) hcb] at c2
          rw [HNN.out y hym] at c2
          have hcm := HCM.out y hym
          have TX := fun W (hb : Below w.heap.size w W) => textZ_any y.1.2.1 (by omega) (by omega) W (HLZ.out.on hb)
          have i0' : (0 : Int) ≤ (k : Int) := by omega
          have i1 : (k : Int) < (cn : Int) := by omega
          have hsn : [wAuto, x.lk, []] ++ (x.ch.take (k + 1)).flatMap rowE = (([wAuto, x.lk, []] ++ (x.ch.take k).flatMap rowE) ++ [y.1.1]) ++ [Lib.itoa y.1.2.1] := by rw [List.take_add_one, hx, List.flatMap_append]; simp [rowE]
          obtain ⟨N, hN⟩ : ∃ N, [wAuto, x.lk, []] ++ (x.ch.take k).flatMap rowE = N := ⟨_, rfl⟩
          have hnl : N.length = 3 + 2 * k := by
            rw [← hN, List.length_append]
            have : ∀ (l : List Cv), (l.flatMap rowE).length = 2 * l.length := fun l => by
              induction l with
              | nil => rfl
              | cons c l ih => rw [List.flatMap_cons, List.length_append, ih, List.length_cons]; simp [rowE]; omega
            rw [this, List.length_take, HCN.out]
            simp; omega
          rw [hN] at HO hsn
          obtain ⟨C0, hC0⟩ : ∃ q : ByteArray, (⟨y.1.1.toArray⟩ : ByteArray) = q := ⟨_, rfl⟩
          obtain ⟨I0, hI0⟩ : ∃ q : ByteArray, (⟨(Lib.itoa y.1.2.1).toArray⟩ : ByteArray) = q := ⟨_, rfl⟩
          have HC0 : C0.data.toList = y.1.1 := by rw [← hC0]
          have HI0 : I0.data.toList = Lib.itoa y.1.2.1 := by rw [← hI0]
          have HAPP : Hid (∀ v' w3, w3.ownsRow w2.heap.size 9 1 v' (3 + 2 * k + 2) (txts N ++ [.string C0, .string I0]) → OwnT w3 w2.heap.size v' ([wAuto, x.lk, []] ++ (x.ch.take (k + 1)).flatMap rowE)) := Lib.hid (fun v' w3 h => by
            rw [hsn]
            unfold OwnT txts at *
            rw [List.length_append, List.length_append, hnl, List.map_append, List.map_append, ← HC0, ← HI0]
            simpa using h)
          obtain ⟨ua, uc, hu⟩ : ∃ ua uc, u4 = .slice ua (3 + 2 * k) uc := by
            obtain ⟨a, c, b, o, e, _⟩ := HO.out.holds
            rw [hnl] at e
            exact ⟨_, _, e⟩
          subst hu
          have HO2 : Hid (World.ownsRow wr w2.heap.size 9 1 (.slice ua (3 + 2 * k) uc) (3 + 2 * k) (txts N)) := Lib.hid (by have := HO.out; unfold OwnT at this; rw [hnl] at this; exact this)
          rw [hC0] at c0
          simp only [hI0] at TX
          obtain ⟨z, hz⟩ : ∃ z, y.1.2.1 = z := ⟨_, rfl⟩
          rw [hz] at c1 TX
          have hs := S17.new (a0 := .string C0) (a1 := .int .i64 z) (a2 := .slice none 0 0) (t := 32) HB.out
          have HW4 := Lib.hid ((Below.refl wr.heap.size wr).alloc (Nat.le_refl _) (.cells #[.string C0, .int .i64 z, .slice none 0 0] 32))
          clear hx hym hBW hcm hsn hN hnl hC0 hI0 HC0 HI0 hz HO
          go_wp2
          generalize wr.alloc (.cells #[.string C0, .int .i64 z, .slice none 0 0] 32) = W4 at *
          have BE := fun (V : World) (h : V.cell? ⟨wr.heap.size, 0, none⟩ = some (.string C0) ∧ V.cell? ⟨wr.heap.size, 1, none⟩ = some (.int .i64 z) ∧ V.heap[wr.heap.size]? = some (.cells #[.string C0, .int .i64 z, .slice none 0 0] 32 (0, 0)) ∧ Below w2.heap.size w2 V) => (h.2.2.2 : Below w2.heap.size w2 V)
          refine wp_region_held_drew (S := (fun V => V.cell? ⟨wr.heap.size, 0, none⟩ = some (.string C0) ∧ V.cell? ⟨wr.heap.size, 1, none⟩ = some (.int .i64 z) ∧ V.heap[wr.heap.size]? = some (.cells #[.string C0, .int .i64 z, .slice none 0 0] 32 (0, 0)) ∧ Below w2.heap.size w2 V)) (by kernel_rfl) ?_ (fun hHeld => ?_)
          · (try dsimp only); (first | assumption | exact hs | exact S17.on hs (Below.refl _ _).drew | exact S17.on (by assumption) (Below.refl _ _).drew | exact S17.on (by assumption) (by assumption) | exact S17.on (by assumption) ((Below.refl _ _).alloc (Nat.le_refl _) _) | exact S17.on (by assumption) ((Below.refl _ _).alloc (Nat.le_refl _) _).drew)
          refine heldY 0 47 ?_ _ rfl rfl (by kernel_rfl) (by kernel_rfl) (by kernel_rfl) (fun _ _ _ h => h) rfl (by assumption) ?_ ?_
          rotate_left
          · (intro w hSw; (try dsimp only at hSw); go_simp; (try with_reducible rfl))
          try simp only [List.setIfInBounds_toArray, List.set_cons_zero, List.set_cons_succ]
          refine heldY 1 48 ?_ _ rfl rfl (by kernel_rfl) (by kernel_rfl) (by kernel_rfl) (fun _ _ _ h => h) rfl (by assumption) ?_ ?_
          rotate_left
          · (intro w hSw; (try dsimp only at hSw); go_simp; (try with_reducible rfl))
          try simp only [List.setIfInBounds_toArray, List.set_cons_zero, List.set_cons_succ]
          refine heldY 2 49 ?_ _ rfl rfl (by kernel_rfl) (by kernel_rfl) (by kernel_rfl) (fun _ _ _ h => h) rfl (by assumption) ?_ ?_
          rotate_left
          · (intro w hSw; (try dsimp only at hSw); go_simp; (try with_reducible rfl))
          try simp only [List.setIfInBounds_toArray, List.set_cons_zero, List.set_cons_succ]
          refine heldY 3 50 ?_ _ rfl rfl (by kernel_rfl) (by kernel_rfl) (by kernel_rfl) (fun _ _ _ h => h) rfl (by assumption) ?_ ?_
          rotate_left
          · (intro w hSw; (try dsimp only at hSw); go_simp; (try with_reducible rfl))
          try simp only [List.setIfInBounds_toArray, List.set_cons_zero, List.set_cons_succ]
          refine heldY 4 51 ?_ _ rfl rfl (by kernel_rfl) (by kernel_rfl) (by kernel_rfl) (fun _ _ _ h => h) rfl (by assumption) ?_ ?_
          rotate_left
          · (intro w hSw; (try dsimp only at hSw); go_simp; (try with_reducible rfl))
          try simp only [List.setIfInBounds_toArray, List.set_cons_zero, List.set_cons_succ]
          refine wpAnyH_ready (rs := [5]) (by kernel_rfl) (by simp) ?_
          refine AllReadyH.cons rfl (fun K hK => ?_) AllReadyH.nil
          go_simp
          (go_at_call 60; (with_reducible refine (TX _ (HB2.out.trans ((BE _ (by assumption)).mono HB2.out.size))).mono ?_); rintro e w17 ⟨rfl, hb⟩; have HX17 : Hid (Below wr.heap.size wr w17) := Lib.hid (HW4.out.trans (((Below.refl W4.heap.size W4).drew.trans hb).mono HW4.out.size)); have HO17 : Hid (World.ownsRow w17 w2.heap.size 9 1 (.slice ua (3 + 2 * k) uc) (3 + 2 * k) (txts N)) := Lib.hid (OwnT.on17 HO2.out HX17.out))
          refine hK.out _ _ ?_ (fun hHeld => ?_)
          · (try dsimp only); (first | assumption | exact hs | exact S17.on hs (Below.refl _ _).drew | exact S17.on (by assumption) (Below.refl _ _).drew | exact S17.on (by assumption) (by assumption) | exact S17.on (by assumption) ((Below.refl _ _).alloc (Nat.le_refl _) _) | exact S17.on (by assumption) ((Below.refl _ _).alloc (Nat.le_refl _) _).drew)
          clear hK K
          try simp only [Act.put, List.setIfInBounds_toArray, List.set_cons_zero, List.set_cons_succ]
          refine wpAnyH_ready (rs := [6]) (by kernel_rfl) (by simp) ?_
          refine AllReadyH.cons rfl (fun K hK => ?_) AllReadyH.nil
          go_simp
          refine hK.out _ _ ?_ (fun hHeld => ?_)
          · (try dsimp only); (first | assumption | exact hs | exact S17.on hs (Below.refl _ _).drew | exact S17.on (by assumption) (Below.refl _ _).drew | exact S17.on (by assumption) (by assumption) | exact S17.on (by assumption) ((Below.refl _ _).alloc (Nat.le_refl _) _) | exact S17.on (by assumption) ((Below.refl _ _).alloc (Nat.le_refl _) _).drew)
          clear hK K
          try simp only [Act.put, List.setIfInBounds_toArray, List.set_cons_zero, List.set_cons_succ]
          refine wpAnyH_ready (rs := [7]) (by kernel_rfl) (by simp) ?_
          refine AllReadyH.cons rfl (fun K hK => ?_) AllReadyH.nil
          (refine step_append_lies _ rfl _ _ 30 rfl w2.heap.size 9 i0 (.string ⟨#[]⟩) 1 16 Tryz.underlying30 hi hz0 hz1 hz2' rfl (by decide) _ _ _ rfl (World.ownsRow.alloc HO17.out _) ⟨w17.heap.size, 0, none⟩ 2 2 [.string C0, .string I0] rfl rfl (fun j u hj => by obtain ⟨b0, b1⟩ := boxV2 w17 (.string C0) (.string I0) 9; rw [Addr.add_lit]; match j, hj with | 0, hj => simp at hj; subst hj; exact b0 | 1, hj => simp at hj; subst hj; exact b1) (by simp [Value.oneCell']) (by decide) (by unfold maxLen; omega) (by omega) (by have := HX17.out.size; simp; omega) _ rfl ?_; intro g cap w20 hown' hgrow h4 h5; have HO20 := Lib.hid (HAPP.out _ _ hown'); have hs := S17.grown (w2 := w2) (by assumption) hgrow (by intro e; have := (World.ownsRow.lt HO17.out _ e.symm).2; have := (World.ownsRow.lt HO2.out _ e.symm).2; omega) (fun q hq => (World.ownsRow.lt HO17.out q hq).1))
          refine hK.out _ _ ?_ (fun hHeld => ?_)
          · (try dsimp only); (first | assumption | exact hs | exact S17.on hs (Below.refl _ _).drew | exact S17.on (by assumption) (Below.refl _ _).drew | exact S17.on (by assumption) (by assumption) | exact S17.on (by assumption) ((Below.refl _ _).alloc (Nat.le_refl _) _) | exact S17.on (by assumption) ((Below.refl _ _).alloc (Nat.le_refl _) _).drew)
          clear hK K
          try simp only [Act.put, List.setIfInBounds_toArray]
          try simp only [List.set_cons_succ]
          try simp only [List.set_cons_zero]
          refine heldY 8 4 ?_ _ rfl rfl (by kernel_rfl) (by kernel_rfl) (by kernel_rfl) (fun _ _ _ h => h) rfl (by assumption) ?_ ?_
          rotate_left
          · (intro w hSw; (try dsimp only at hSw); go_simp; (try with_reducible rfl))
          try simp only [List.setIfInBounds_toArray, List.set_cons_zero, List.set_cons_succ]
          refine wpAnyH_done (by kernel_rfl) ?_ _
          have HH7 := Lib.hid hHeld.2.2.1
          have HB20 := Lib.hid (BE _ hHeld)
          have ho20 : World.ownsRow w20 w2.heap.size 9 1 (.slice (some ⟨g, 0, none⟩) (3 + 2 * k + 2) cap) (3 + 2 * k + 2) (txts N ++ [.string C0, .string I0]) := hown'
          have HOW := Lib.hid ho20
          have t2 := cell_heap (i := 2) HH7.out rfl
          obtain ⟨z4, z5⟩ := HY.out _ HB20.out
          clear hHeld hs BE TX hown' hgrow h4 h5 ho20
          go_wp2_with (at_builtin; refine wpList_append_own_none rfl _ _ 30 rfl w2.heap.size 9 i0 1 Tryz.underlying30 hi _ _ _ rfl HOW.out rfl ?_)
          go_roundw
          case rel => exact ⟨k + 1, by omega, by go_num, HO20, HB20⟩
          case measure => simp [intOf]; omega
        · obtain rfl : cn = k := by omega
          have hO := HO.out
          rw [List.take_of_length_le (by rw [HCN.out]; omega)] at hO
          obtain ⟨N, hN⟩ : ∃ N, [wAuto, x.lk, []] ++ x.ch.flatMap rowE = N := ⟨_, rfl⟩
          have hnl : N.length = 3 + 2 * cn := by
            rw [← hN, List.length_append]
            have : ∀ (l : List Cv), (l.flatMap rowE).length = 2 * l.length := fun l => by
              induction l with
              | nil => rfl
              | cons c l ih => rw [List.flatMap_cons, List.length_append, ih, List.length_cons]; simp [rowE]; omega
            rw [this, HCN.out]
            first | omega | (simp; omega) | simp
          have hsm : ∀ p ∈ N ++ [[]], p.length ≤ 4000 := fun p hp => by
            rw [← hN] at hp
            simp only [List.mem_append, List.mem_cons, List.mem_flatMap, List.not_mem_nil, or_false] at hp
            rcases hp with ((rfl | rfl | rfl) | ⟨c, hc, hp⟩) | rfl
            · decide
            · omega
            · decide
            · have hcm := HCM.out c hc
              have := Lib.itoa_length_le c.1.2.1 (by omega) (by omega)
              simp only [rowE, List.mem_cons, List.not_mem_nil, or_false] at hp
              rcases hp with rfl | rfl <;> omega
            · decide
          have HLN := Lib.hid (show linesE x = N ++ [[]] from by rw [HLE.out, hN])
          rw [hN] at hO
          obtain ⟨ua, uc, hu⟩ : ∃ ua uc, u4 = .slice ua (3 + 2 * cn) uc := by
            obtain ⟨a, c, b, o, e, _⟩ := hO.holds
            rw [hnl] at e
            exact ⟨_, _, e⟩
          subst hu
          have HO2 : Hid (World.ownsRow wr w2.heap.size 9 1 (.slice ua (3 + 2 * cn) uc) (3 + 2 * cn) (txts N)) := Lib.hid (by have := hO; unfold OwnT at this; rw [hnl] at this; exact this)
          have HAPP : Hid (∀ v' w3, w3.ownsRow w2.heap.size 9 1 v' (3 + 2 * cn + 1) (txts N ++ [.string ⟨#[]⟩]) → HoldT w3 v' (N ++ [[]])) := Lib.hid (fun v' w3 h => (OwnT.app (ls := N) (l := []) rfl (by rw [hnl]; exact h)).holds)
          have JN := fun W v (hv : HoldT W v (N ++ [[]])) => joinN_any v (N ++ [[]]) (by simp) (by rw [List.length_append, hnl]; simp; omega) hsm W hv
          have hjl := joinC_len2 10 4000 (N ++ [[]]) hsm
          have hjn : (N ++ [[]]).length * 4001 ≤ 600000 := by rw [List.length_append, hnl]; simp; omega
          obtain ⟨T, hT⟩ : ∃ T : ByteArray, (⟨(joinC 10 (N ++ [[]])).toArray⟩ : ByteArray) = T := ⟨_, rfl⟩
          have hTs : T.size ≤ 600000 := by rw [← hT, sizeOf, bytesOf]; omega
          have HF : Hid (bsT (textE x) = T ++ ⟨#[10]⟩) := Lib.hid (by rw [HTE.out, HLN.out]; exact (strOf (by rw [← hT]; simp)).symm)
          simp only [hT] at JN
          have h1s : ∀ x, (ByteArray.mk #[x]).size = 1 := fun _ => rfl
          have q3 : ¬ 9223372036854775807 < T.size + 1 := by omega
          clear hT hjl hjn hsm hN hO HO hlt hnl
          go_wp2_with (at_builtin; refine wpList_append_own _ rfl _ _ 30 rfl w2.heap.size 9 i0 (.string ⟨#[]⟩) 1 16 Tryz.underlying30 hi hz0 hz1 hz2' rfl (by decide) _ _ _ rfl (World.ownsRow.alloc HO2.out _) ⟨wr.heap.size, 0, none⟩ 1 1 [.string ⟨#[]⟩] rfl rfl ?c1 ?c2 ?c3 ?c4 ?c5 ?_)
          case c1 => intro j u hj; match j, hj with | 0, hj => simp at hj; subst hj; simp [Addr.add, World.cell?_alloc_new]
          case c2 => intro u hu; simp at hu; subst hu; rfl
          case c3 => unfold maxLen; omega
          case c4 => omega
          case c5 => have := HB.out.size; simp; omega
          · intro v' w5 hown' hgrow _
            have HH5 := Lib.hid (HAPP.out _ _ hown')
            have HB5 : Hid (Below w2.heap.size w2 w5) := Lib.hid ((HB.out.alloc hsz _).grown hgrow (by simp; omega) (fun k hk => (World.ownsRow.lt HO2.out k hk).1))
            have J5 := JN _ _ HH5.out
            clear hown' hgrow
            go_wp2_with (go_at_call 61; (with_reducible refine J5.mono ?_); rintro e w6 ⟨rfl, hb⟩; have HB6 := Lib.hid (HB2.out.trans ((HB5.out.trans (hb.mono HB5.out.size)).mono HB2.out.size)); clear hb)
            go_ret2
            exact ⟨(by rw [HF.out]; rfl), HB6.out⟩
end Go.Proofs.YtnfhccnicojdcaaGreatDoor
namespace Go.Proofs.YtnfhccnicojdcaaGreatDoor
open Go.RowKit
def textX : Bs := [97, 117, 116, 111, 10, 47, 120, 10, 10, 47, 97, 10, 53, 10, 47, 98, 10, 53, 10, 47, 99, 10, 49, 10, 10]
abbrev exX (cv : Value) : Av := ⟨[120], [47, 120], false, [47, 97], [], chX, .slice none 0 0, cv⟩
theorem goodX (cv : Value) : GoodA (exX cv) where
  nm := show nameB [120] = true by decide +kernel
  lk := show plZ [47, 120] = true by decide +kernel
  sl := ⟨by simp, fun i s hs => by simp at hs, by unfold linksA; simp⟩
  ch := ⟨by simp, by simp, fun i c hc => by
    match i, hc with
    | 0, hc => simp at hc; subst hc; exact ⟨show rightC 0 (([47, 97], 5, []), Value.slice none 0 0) = true by decide +kernel, fun y h0 hy => absurd h0 (by omega)⟩
    | 1, hc => simp at hc; subst hc; exact ⟨show rightC 0 (([47, 98], 5, []), Value.slice none 0 0) = true by decide +kernel, fun y h0 hy => by simp at hy; subst hy; decide +kernel⟩
    | 2, hc => simp at hc; subst hc; exact ⟨show rightC 0 (([47, 99], 1, []), Value.slice none 0 0) = true by decide +kernel, fun y h0 hy => by simp at hy; subst hy; decide +kernel⟩
    | i + 3, hc => simp at hc⟩
  cr := ⟨show 0 ≤ idxC chX [47, 97] by decide +kernel, .inr (show idxC chX [47, 97] = bestC chX by decide +kernel)⟩
theorem fewX (cv : Value) : FewOne (exX cv) where
  nm := by simp
  lk := by simp
  cr := by simp
  sl := by simp
  ch := by simp
  ss := fun s hs => by simp at hs
  cs := fun c hc => by simp at hc; rcases hc with rfl | rfl | rfl <;> exact ⟨by simp, by simp, fun q hq => by simp at hq⟩
theorem textX_is (cv : Value) : textE (exX cv) = textX := show textE (exX (.slice none 0 0)) = textX by decide +kernel
theorem linesX_is : linesO textX = some linesX := by decide +kernel
theorem nilX (cv : Value) : ∀ c ∈ (exX cv).ch, c.2 = .slice none 0 0 := fun c hc => by simp at hc; rcases hc with rfl | rfl | rfl <;> rfl
theorem printX (cv : Value) (w : World) (hL : LaidZ w) (h : InA w (exX cv)) : Calls Tryz.prog 32 #[.agg #[.string ⟨#[120]⟩, .string ⟨#[47, 120]⟩, .bool false, .string ⟨#[47, 97]⟩, .slice none 0 0, cv]] w fun e w' => e = .returned (.tuple #[.string (bsT textX), .int .i64 0]) ∧ Below w.heap.size w w' := by
  have := printE_any (exX cv) (goodX cv) (fewX cv) rfl rfl (nilX cv) w hL h
  rw [textX_is] at this
  exact this
theorem six_other (W : World) (b g : Nat) (hn : g ≠ b) (u0 u1 u2 u3 u4 u5 : Value) : (six W b u0 u1 u2 u3 u4 u5).heap[g]? = W.heap[g]? :=
  (Below.heap_setCell _ _ _ _ hn).trans ((Below.heap_setCell _ _ _ _ hn).trans ((Below.heap_setCell _ _ _ _ hn).trans ((Below.heap_setCell _ _ _ _ hn).trans ((Below.heap_setCell _ _ _ _ hn).trans (Below.heap_setCell _ _ _ _ hn)))))
theorem six_size (W : World) (b : Nat) (u0 u1 u2 u3 u4 u5 : Value) : (six W b u0 u1 u2 u3 u4 u5).heap.size = W.heap.size := by
  unfold six; rw [World.size_setCell, World.size_setCell, World.size_setCell, World.size_setCell, World.size_setCell, World.size_setCell]
theorem holdX_other {W W' : World} {v : Value} {B : Nat} {a0 a1 a2 a3 a4 a5 : Value} {t : TypeId} (h : HoldC W v chX) (hB : W.heap[B]? = some (.cells #[a0, a1, a2, a3, a4, a5] t (0, 0))) (hs : W'.heap.size = W.heap.size) (ho : ∀ g, g ≠ B → W'.heap[g]? = W.heap[g]?) : HoldC W' v chX := by
  obtain ⟨⟨a, c, b, o, e, hc, ha, hcell⟩, -⟩ := h
  have hlast := hcell 2 (cellsC (([47, 99], 1, []), .slice none 0 0)) rfl 2 (.slice none 0 0) (by omega) rfl
  have hne : b ≠ B := fun g => by
    subst g
    simp [World.cell?, hB] at hlast
  have hbk := ho b hne
  refine ⟨⟨a, c, b, o, e, hc, fun h0 => ⟨(ha h0).1, by rw [hs]; exact (ha h0).2⟩, fun j r hj i y hi hy => ?_⟩, fun x hx => ?_⟩
  · rw [World.cell?_of_block (w := W) hbk]
    exact hcell j r hj i y hi hy
  · simp at hx; rcases hx with rfl | rfl | rfl <;> exact ⟨none, 0, 0, 0, rfl, Nat.le_refl _, fun h => absurd h (by simp), fun j u hj => by simp at hj⟩
theorem holdX_six {W : World} {v : Value} {B : Nat} {a0 a1 a2 a3 a4 a5 : Value} {t : TypeId} (h : HoldC W v chX) (hB : W.heap[B]? = some (.cells #[a0, a1, a2, a3, a4, a5] t (0, 0))) (u0 u1 u2 u3 u4 u5 : Value) : HoldC (six W B u0 u1 u2 u3 u4 u5) v chX :=
  holdX_other h hB (six_size W B u0 u1 u2 u3 u4 u5) (fun g hg => six_other W B g hg u0 u1 u2 u3 u4 u5)
set_option maxRecDepth 100000 in
set_option maxHeartbeats 8000000 in
theorem parseX (w : World) (hL : LaidZ w) : Calls Tryz.prog 33 #[.string ⟨#[120]⟩, .string (bsT textX)] w fun e w' => ∃ cv, e = .returned (.tuple #[.agg #[.string ⟨#[120]⟩, .string ⟨#[47, 120]⟩, .bool false, .string ⟨#[47, 97]⟩, .slice none 0 0, cv], .int .i64 0]) ∧ InA w' (exX cv) ∧ Below w.heap.size w w' := by
  have SL := fun W => slines_any (bsT textX) (by decide) W
  unfold PLinesPost at SL
  have HSL : Hid (∀ v (z : Int) w' (k : Nat), (∀ ls, linesO (bsT textX).data.toList = some ls → z = 0 ∧ OwnT w' k v ls) → z = 0 ∧ HoldT w' v linesX) := Lib.hid (fun v z w' k h => by
    obtain ⟨h1, h2⟩ := h linesX (by rw [bytesOf]; exact linesX_is)
    exact ⟨h1, h2.holds⟩)
  have RX := fun v W (hb : Below w.heap.size w W) (hv : HoldT W v linesX) => readX_any ⟨#[120]⟩ v W (hL.on hb) hv
  have PX := fun cv W (hb : Below w.heap.size w W) (hv : InA W (exX cv)) => printX cv W (hL.on hb) hv
  have e1 := eqT (bsT textX) (bsT textX)
  rw [decide_eq_true rfl] at e1
  generalize bsT textX = S at *
  clear hL
  have HB0 := Lib.hid ((Below.refl w.heap.size w).alloc (Nat.le_refl _) (.cells #[.string ⟨#[]⟩, .string ⟨#[]⟩, .bool false, .string ⟨#[]⟩, .slice none 0 0, .slice none 0 0] 26))
  have HX0 := Lib.hid (heap_alloc_new w (.cells #[.string ⟨#[]⟩, .string ⟨#[]⟩, .bool false, .string ⟨#[]⟩, .slice none 0 0, .slice none 0 0] 26))
  go_enter Tryz.func33, Tryz.ntmps33
  go_wp2_with (go_at_call 62; (with_reducible refine (SL _).mono ?_); rintro e w1 ⟨v, z, rfl, h1, -, hb⟩; obtain ⟨rfl, hv⟩ := HSL.out _ _ _ _ h1; have HV := Lib.hid hv; have HBX := Lib.hid hb; have HB1 := Lib.hid (HB0.out.trans (hb.mono HB0.out.size)); clear h1 hv hb; refine Hid.out ?_)
  have HX1 := Lib.hid ((HBX.out.block w.heap.size (lt_heap HX0.out)).trans HX0.out)
  clear SL HSL HBX HX0 HB0
  refine Lib.hid ?_
  go_wp2_with (go_at_call 63; (with_reducible refine (RX _ _ HB1.out HV.out).mono ?_); rintro e w2 ⟨cv, rfl, hc, hb⟩; have HC2 := Lib.hid hc; have HB2 := Lib.hid (HB1.out.trans (hb.mono HB1.out.size)); have HX2 := Lib.hid ((hb.block w.heap.size (lt_heap HX1.out)).trans HX1.out); clear hc hb; refine Hid.out ?_)
  clear RX HX1 HV HB1
  obtain ⟨xa, xn, xc, hcv⟩ : ∃ a n c, cv = .slice a n c := by obtain ⟨⟨a, c, b, o, e, _⟩, _⟩ := HC2.out; exact ⟨_, _, _, e⟩
  subst hcv
  have hb3 := (Below.refl w2.heap.size w2).alloc (Nat.le_refl _) (.cells #[.string ⟨#[120]⟩, .string ⟨#[47, 120]⟩, .bool false, .string ⟨#[47, 97]⟩, .slice none 0 0, .slice xa xn xc] 26)
  have HB3 := Lib.hid (HB2.out.trans (hb3.mono HB2.out.size))
  have HC3 : Hid (InA (w2.alloc (.cells #[.string ⟨#[120]⟩, .string ⟨#[47, 120]⟩, .bool false, .string ⟨#[47, 97]⟩, .slice none 0 0, .slice xa xn xc] 26)) (exX (.slice xa xn xc))) := Lib.hid ⟨HoldV.nil 2 _, HC2.out.on hb3⟩
  have HX3 := Lib.hid ((hb3.block w.heap.size (lt_heap HX2.out)).trans HX2.out)
  have HY3 := Lib.hid (heap_alloc_new w2 (.cells #[.string ⟨#[120]⟩, .string ⟨#[47, 120]⟩, .bool false, .string ⟨#[47, 97]⟩, .slice none 0 0, .slice xa xn xc] 26))
  have hz2 := HB2.out.size
  have hlt : w.heap.size < w2.heap.size := lt_heap HX2.out
  clear hb3 HC2 HX2
  refine Lib.hid ?_
  go_wp2_with (go_at_call 32; (with_reducible refine (PX _ _ HB3.out HC3.out).mono ?_); rintro e w3 ⟨rfl, hb⟩; have HB4 := Lib.hid (HB3.out.trans (hb.mono HB3.out.size)); have HC4 := Lib.hid (InA.on HC3.out hb); have HX4 := Lib.hid ((hb.block w.heap.size (lt_heap HX3.out)).trans HX3.out); have HY4 := Lib.hid ((hb.block w2.heap.size (lt_heap HY3.out)).trans HY3.out); clear hb; refine Hid.out ?_)
  clear PX HB3 HC3 HX3 HY3 HB2
  have y0 := cell_heap (i := 0) HY4.out rfl
  have y1 := cell_heap (i := 1) HY4.out rfl
  have y2 := cell_heap (i := 2) HY4.out rfl
  have y3 := cell_heap (i := 3) HY4.out rfl
  have y4 := cell_heap (i := 4) HY4.out rfl
  have y5 := cell_heap (i := 5) HY4.out rfl
  have x0 := cell_heap (i := 0) HX4.out rfl
  have x1 := cell_heap (i := 1) HX4.out rfl
  have x2 := cell_heap (i := 2) HX4.out rfl
  have x3 := cell_heap (i := 3) HX4.out rfl
  have x4 := cell_heap (i := 4) HX4.out rfl
  have x5 := cell_heap (i := 5) HX4.out rfl
  have f0 := frozen_of_row _ _ 0 _ _ HX4.out
  have f1 := frozen_of_row _ _ 1 _ _ HX4.out
  have f2 := frozen_of_row _ _ 2 _ _ HX4.out
  have f3 := frozen_of_row _ _ 3 _ _ HX4.out
  have f4 := frozen_of_row _ _ 4 _ _ HX4.out
  have f5 := frozen_of_row _ _ 5 _ _ HX4.out
  refine Lib.hid ?_
  go_wp2
  obtain ⟨k0, k1, k2, k3, k4, k5⟩ := six_cells (.string ⟨#[120]⟩) (.string ⟨#[47, 120]⟩) (.bool false) (.string ⟨#[47, 97]⟩) (.slice none 0 0) (.slice xa xn xc) HX4.out
  have HBX := six_below HB4.out (b := w.heap.size) (Nat.le_refl _) (.string ⟨#[120]⟩) (.string ⟨#[47, 120]⟩) (.bool false) (.string ⟨#[47, 97]⟩) (.slice none 0 0) (.slice xa xn xc)
  exact bodyPost_ret (v := .tuple #[.agg #[.string ⟨#[120]⟩, .string ⟨#[47, 120]⟩, .bool false, .string ⟨#[47, 97]⟩, .slice none 0 0, .slice xa xn xc], .int .i64 0]) (by simp [results, Tryz.results33, go_sem, k0, k1, k2, k3, k4, k5]) rfl ⟨_, rfl, ⟨HoldV.nil 2 _, holdX_six HC4.out.2 HX4.out _ _ _ _ _ _⟩, HBX⟩
end Go.Proofs.YtnfhccnicojdcaaGreatDoor
namespace Go.Proofs.YtnfhccnicojdcaaGreatDoor
open Go.RowKit
abbrev rowX : Obj := (.cells #[.string ⟨#[47, 97]⟩, .int .i64 5, .slice none 0 0, .string ⟨#[47, 98]⟩, .int .i64 5, .slice none 0 0, .string ⟨#[47, 99]⟩, .int .i64 1, .slice none 0 0] 32)
theorem holdX_new (w : World) : HoldC (w.alloc rowX) (.slice (some ⟨w.heap.size, 0, none⟩) 3 3) chX := by
  have h := heap_alloc_new w rowX
  refine ⟨⟨_, 3, w.heap.size, 0, rfl, Nat.le_refl _, fun _ => ⟨rfl, by simp⟩, fun j r hj i y hi hy => ?_⟩, fun x hx => ?_⟩
  · match j, hj with
    | 0, hj => simp at hj; subst hj; (match i, hi, hy with
      | 0, _, hy => simp at hy; subst hy; exact cell_heap (i := 0) h rfl
      | 1, _, hy => simp at hy; subst hy; exact cell_heap (i := 1) h rfl
      | 2, _, hy => simp at hy; subst hy; exact cell_heap (i := 2) h rfl)
    | 1, hj => simp at hj; subst hj; (match i, hi, hy with
      | 0, _, hy => simp at hy; subst hy; exact cell_heap (i := 3) h rfl
      | 1, _, hy => simp at hy; subst hy; exact cell_heap (i := 4) h rfl
      | 2, _, hy => simp at hy; subst hy; exact cell_heap (i := 5) h rfl)
    | 2, hj => simp at hj; subst hj; (match i, hi, hy with
      | 0, _, hy => simp at hy; subst hy; exact cell_heap (i := 6) h rfl
      | 1, _, hy => simp at hy; subst hy; exact cell_heap (i := 7) h rfl
      | 2, _, hy => simp at hy; subst hy; exact cell_heap (i := 8) h rfl)
    | j + 3, hj => simp at hj
  · simp at hx; rcases hx with rfl | rfl | rfl <;> exact ⟨none, 0, 0, 0, rfl, Nat.le_refl _, fun h => absurd h (by simp), fun j u hj => by simp at hj⟩
theorem alikeX (a b : Value) : Alike (exX a) (exX b) := ⟨rfl, rfl, rfl, rfl, rfl, rfl⟩
theorem sameX (a b : Value) (w : World) (ha : InA w (exX a)) (hb : InA w (exX b)) : Calls Tryz.prog 34 #[.agg #[.string ⟨#[120]⟩, .string ⟨#[47, 120]⟩, .bool false, .string ⟨#[47, 97]⟩, .slice none 0 0, a], .agg #[.string ⟨#[120]⟩, .string ⟨#[47, 120]⟩, .bool false, .string ⟨#[47, 97]⟩, .slice none 0 0, b]] w fun e w' => e = .returned (.bool true) ∧ Below w.heap.size w w' :=
  sameOne_ref (exX a) (exX b) ⟨by simp, by simp, fun c hc => by simp at hc; rcases hc with rfl | rfl | rfl <;> simp⟩ (alikeX a b) w ha hb
theorem rightX (a : Value) (w : World) (hL : LaidZ w) (ha : InA w (exX a)) : Calls Tryz.prog 35 #[.agg #[.string ⟨#[120]⟩, .string ⟨#[47, 120]⟩, .bool false, .string ⟨#[47, 97]⟩, .slice none 0 0, a]] w fun e w' => e = .returned (.bool true) ∧ Below w.heap.size w w' := by
  have := rightA_any (exX a) (fewX a).sm w hL.p ha
  rw [rightA_yes (goodX a)] at this
  exact this
theorem bestX (a : Value) (w : World) (h : HoldC w a chX) : Calls Tryz.prog 11 #[a] w fun e w' => e = .returned (.int .i64 0) ∧ Below w.heap.size w w' := by
  have := bestC_any a chX (by simp) w h
  rw [show bestC chX = 0 from by decide +kernel] at this
  exact this
set_option maxRecDepth 100000 in
set_option maxHeartbeats 8000000 in
theorem awake11 (w : World) (hL : LaidZ w) : Calls Tryz.prog 10 #[] w fun e w' => e = .returned (.bool true) ∧ Below w.heap.size w w' := by
  have B1 := (Below.refl w.heap.size w).alloc (Nat.le_refl _) rowX
  have C1 := holdX_new w
  have z1 : (w.alloc rowX).heap.size = w.heap.size + 1 := World.size_alloc _ _
  have b2 := (Below.refl (w.alloc rowX).heap.size (w.alloc rowX)).alloc (Nat.le_refl _) (.cells #[.string ⟨#[120]⟩, .string ⟨#[47, 120]⟩, .bool false, .string ⟨#[47, 97]⟩, .slice none 0 0, .slice (some ⟨w.heap.size, 0, none⟩) 3 3] 26)
  have HB2 := Lib.hid (B1.trans (b2.mono B1.size))
  have HC2 := Lib.hid (HoldC.on C1 b2)
  have HX2 := Lib.hid (heap_alloc_new (w.alloc rowX) (.cells #[.string ⟨#[120]⟩, .string ⟨#[47, 120]⟩, .bool false, .string ⟨#[47, 97]⟩, .slice none 0 0, .slice (some ⟨w.heap.size, 0, none⟩) 3 3] 26))
  rw [z1] at HX2
  have PR := fun cv W (hb : Below w.heap.size w W) (h : InA W (exX cv)) => printX cv W (hL.on hb) h
  have PA := fun W (hb : Below w.heap.size w W) => parseX W (hL.on hb)
  have SA := fun a b W h1 h2 => sameX a b W h1 h2
  have RI := fun a W (hb : Below w.heap.size w W) h1 => rightX a W (hL.on hb) h1
  have BE := fun a W h1 => bestX a W h1
  have HIN := Lib.hid (fun (W : World) (cv : Value) (h : HoldC W cv chX) => (⟨HoldV.nil 2 W, h⟩ : InA W (exX cv)))
  have e1 : ((bsT textX).toList == ([97, 117, 116, 111, 10, 47, 120, 10, 10, 47, 97, 10, 53, 10, 47, 98, 10, 53, 10, 47, 99, 10, 49, 10, 10] : List UInt8)) = true := by decide +kernel
  generalize bsT textX = S at *
  unfold rowX at HB2 HC2 HX2
  clear B1 C1 z1 b2 hL
  go_enter Tryz.func10, Tryz.ntmps10
  go_wp2_with (go_at_call 32; (with_reducible refine (PR _ _ HB2.out (HIN.out _ _ HC2.out)).mono ?_); rintro e w3 ⟨rfl, hb⟩; have HB3 := Lib.hid (HB2.out.trans (hb.mono HB2.out.size)); have HC3 := Lib.hid (HoldC.on HC2.out hb); have HX3 := Lib.hid ((hb.block (w.heap.size + 1) (lt_heap HX2.out)).trans HX2.out); clear hb; refine Hid.out ?_)
  clear PR HB2 HC2 HX2
  refine Lib.hid ?_
  go_wp2_with (go_at_call 33; (with_reducible refine (PA _ HB3.out).mono ?_); rintro e w4 ⟨cv, rfl, hi, hb⟩; have HB4 := Lib.hid (HB3.out.trans (hb.mono HB3.out.size)); have HC4 := Lib.hid (HoldC.on HC3.out hb); have HI4 := Lib.hid hi; have HX4 := Lib.hid ((hb.block (w.heap.size + 1) (lt_heap HX3.out)).trans HX3.out); clear hb hi; refine Hid.out ?_)
  clear PA HB3 HC3 HX3
  obtain ⟨ya, yn, yc, hcv⟩ : ∃ a n c, cv = .slice a n c := formAc HI4.out
  subst hcv
  have hb5 := (Below.refl w4.heap.size w4).alloc (Nat.le_refl _) (.cells #[.string ⟨#[120]⟩, .string ⟨#[47, 120]⟩, .bool false, .string ⟨#[47, 97]⟩, .slice none 0 0, .slice ya yn yc] 26)
  have HB5 := Lib.hid (HB4.out.trans (hb5.mono HB4.out.size))
  have HC5 := Lib.hid (HoldC.on HC4.out hb5)
  have HI5 := Lib.hid (InA.on HI4.out hb5)
  have HX5 := Lib.hid ((hb5.block (w.heap.size + 1) (lt_heap HX4.out)).trans HX4.out)
  have HY5 := Lib.hid (heap_alloc_new w4 (.cells #[.string ⟨#[120]⟩, .string ⟨#[47, 120]⟩, .bool false, .string ⟨#[47, 97]⟩, .slice none 0 0, .slice ya yn yc] 26))
  have hlt := lt_heap HX4.out
  clear HB4 HC4 HI4 HX4 hb5
  refine Lib.hid ?_
  go_wp2_with (first
    | (go_at_call 11; (with_reducible refine (BE _ _ HC5.out).mono ?_); rintro e w6 ⟨rfl, hb⟩; have HB6 := Lib.hid (HB5.out.trans (hb.mono HB5.out.size)); have HC6 := Lib.hid (HoldC.on HC5.out hb); have HI6 := Lib.hid (InA.on HI5.out hb); have hx := (hb.block (w.heap.size + 1) (lt_heap HX5.out)).trans HX5.out; have hy := (hb.block w4.heap.size (lt_heap HY5.out)).trans HY5.out; have x0 := cell_heap (i := 0) hx rfl; have x1 := cell_heap (i := 1) hx rfl; have x2 := cell_heap (i := 2) hx rfl; have x3 := cell_heap (i := 3) hx rfl; have x4 := cell_heap (i := 4) hx rfl; have x5 := cell_heap (i := 5) hx rfl; have y0 := cell_heap (i := 0) hy rfl; have y1 := cell_heap (i := 1) hy rfl; have y2 := cell_heap (i := 2) hy rfl; have y3 := cell_heap (i := 3) hy rfl; have y4 := cell_heap (i := 4) hy rfl; have y5 := cell_heap (i := 5) hy rfl; have HX6 := Lib.hid hx; clear hx hy hb)
    | (go_at_call 34; (with_reducible refine (SA _ _ _ (HIN.out _ _ HC6.out) HI6.out).mono ?_); rintro e w7 ⟨rfl, hb⟩; have HB7 := Lib.hid (HB6.out.trans (hb.mono HB6.out.size)); have HC7 := Lib.hid (HoldC.on HC6.out hb); have hx := (hb.block (w.heap.size + 1) (lt_heap HX6.out)).trans HX6.out; have x0 := cell_heap (i := 0) hx rfl; have x1 := cell_heap (i := 1) hx rfl; have x2 := cell_heap (i := 2) hx rfl; have x3 := cell_heap (i := 3) hx rfl; have x4 := cell_heap (i := 4) hx rfl; have x5 := cell_heap (i := 5) hx rfl; clear hx hb)
    | (go_at_call 35; (with_reducible refine (RI _ _ HB7.out (HIN.out _ _ HC7.out)).mono ?_); rintro e w8 ⟨rfl, hb⟩; have HB8 := Lib.hid (HB7.out.trans (hb.mono HB7.out.size)); clear hb))
  go_ret
  exact ⟨rfl, HB8.out⟩
end Go.Proofs.YtnfhccnicojdcaaGreatDoor
