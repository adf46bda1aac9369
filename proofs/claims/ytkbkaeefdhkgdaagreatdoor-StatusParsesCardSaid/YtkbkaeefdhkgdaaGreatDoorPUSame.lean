import Derived.Test.YtkbkaeefdhkgdaaGreatDoorPUKey
import Derived.Test.YtkbkaeefdhkgdaaGreatDoorPQRefLong
namespace Go.Proofs.YtkbkaeefdhkgdaaGreatDoor
open Go.RowKit
set_option maxRecDepth 100000 in
set_option maxHeartbeats 4000000 in
theorem same2_ref (u v : Value) (l : List Bs) (hl : l.length ≤ 90000) (w : World) (h1 : HoldT w u l) (h2 : HoldT w v l) : Calls Tryz.prog 76 #[u, v] w fun e w' => e = .returned (.bool true) ∧ ∃ q, w' = w.drewN q := by
  obtain ⟨a1, c1, b1, o1, rfl, hc1, ha1, hl1⟩ := h1
  obtain ⟨a2, c2, b2, o2, rfl, hc2, ha2, hl2⟩ := h2
  have H1 := Lib.hid hl1
  have H2 := Lib.hid hl2
  obtain ⟨n, hN⟩ : ∃ n, l.length = n := ⟨_, rfl⟩
  rw [hN] at hc1 ha1 hc2 ha2 hl ⊢
  have HN := Lib.hid hN
  clear hl1 hl2 hN
  go_enter Tryz.func76, Tryz.ntmps76
  go_wp2
  go_loopw [5] (fun i wr => ∃ k : Nat, k ≤ n ∧ i = .int .i64 k ∧ Hid (∃ q, wr = w.drewN q)) (fun i _ => n - (intOf i).toNat)
  case atStart => exact ⟨0, by omega, rfl, Lib.hid ⟨0, rfl⟩⟩
  case round =>
    obtain ⟨k, hk, rfl, HQ⟩ := hrel
    by_cases hlt : k < n
    · obtain ⟨rfl, hbw1⟩ := ha1 (by omega)
      obtain ⟨rfl, hbw2⟩ := ha2 (by omega)
      obtain ⟨x, hx⟩ : ∃ x, l[k]? = some x := ⟨_, List.getElem?_eq_getElem (by rw [HN.out]; exact hlt)⟩
      obtain ⟨q, hw⟩ := HQ.out
      have d0 := H1.out k x hx
      have f0 := H2.out k x hx
      rw [← World.cell?_drewN w q] at d0 f0
      rw [← hw] at d0 f0
      have HMM : Hid (∀ m', ∃ q, wr.drewN m' = w.drewN q) := Lib.hid (fun m' => ⟨q + m', by rw [hw, World.drewN_drewN]⟩)
      generalize (⟨x.toArray⟩ : ByteArray) = X at *
      have q0 := eqT X X
      rw [decide_eq_true rfl] at q0
      clear hx hw HQ
      go_wp2
      go_quiet (fail)
      go_wp2
      go_roundw
      case rel => exact ⟨k + 1, by omega, by go_num, Lib.hid (HMM.out _)⟩
      case measure => simp [intOf]; omega
    · obtain rfl : k = n := by omega
      clear hlt
      go_wp2
      go_ret
      exact ⟨rfl, HQ.out⟩
theorem same2_below (u v : Value) (l : List Bs) (hl : l.length ≤ 90000) (w : World) (h1 : HoldT w u l) (h2 : HoldT w v l) : Calls Tryz.prog 76 #[u, v] w fun e w' => e = .returned (.bool true) ∧ Below w.heap.size w w' := (same2_ref u v l hl w h1 h2).mono (fun e w' ⟨he, q, hq⟩ => ⟨he, by rw [hq]; exact belowQ (Below.refl _ _) q⟩)
structure AlikeU (a b : Uv) : Prop where
  nm : a.nm = b.nm
  vr : a.vr = b.vr
  st : a.st = b.st
  dp : fsts a.dp = fsts b.dp
  cn : a.cn = b.cn
  rp : a.rp = b.rp
  cf : a.cf = b.cf
  pd : a.pd = b.pd
  aw : a.aw = b.aw
theorem AlikeU.refl (a : Uv) : AlikeU a a := ⟨rfl, rfl, rfl, rfl, rfl, rfl, rfl, rfl, rfl⟩
structure NotHugeU (a : Uv) : Prop where
  dn : a.dp.length ≤ 90000
  dp : ∀ p ∈ a.dp, p.1.length ≤ 90000
  cn : a.cn.length ≤ 90000
  rp : a.rp.length ≤ 90000
  cf : a.cf.length ≤ 90000
  pd : a.pd.length ≤ 90000
  aw : a.aw.length ≤ 90000
set_option maxRecDepth 100000 in
set_option maxHeartbeats 8000000 in
theorem sameOneU_ref (a b : Uv) (h9 : NotHugeU a) (hab : AlikeU a b) (w : World) (ha : InU w a) (hb : InU w b) :
    Calls Tryz.prog 29 #[agZU a, agZU b] w fun e w' => e = .returned (.bool true) ∧ Below w.heap.size w w' := by
  obtain ⟨b1, b2, b3, b4, b5, b6, b7, b8, b9, dv', cv', rv', fv', pv', av'⟩ := b
  obtain ⟨rfl, rfl, rfl, hdp, rfl, rfl, rfl, rfl, rfl⟩ := hab
  dsimp only at hdp
  obtain ⟨a3, n3, m3, q3⟩ := formU3 ha
  obtain ⟨a4, n4, m4, q4⟩ := formU4 ha
  obtain ⟨a5, n5, m5, q5⟩ := formU5 ha
  obtain ⟨a7, n7, m7, q7⟩ := formU7 ha
  obtain ⟨a8, n8, m8, q8⟩ := formU8 ha
  obtain ⟨d3, i3, j3, r3⟩ := formU3 hb
  obtain ⟨d4, i4, j4, r4⟩ := formU4 hb
  obtain ⟨d5, i5, j5, r5⟩ := formU5 hb
  obtain ⟨d7, i7, j7, r7⟩ := formU7 hb
  obtain ⟨d8, i8, j8, r8⟩ := formU8 hb
  obtain ⟨a6, m6, sb, so, q6, hsc, hsa, hscell⟩ := HoldW2.parts ha.cf
  obtain ⟨d6, j6, tb, tO, r6, htc, hta, htcell⟩ := HoldW2.parts hb.cf
  dsimp only at r3 r4 r5 r6 r7 r8 hta htc htcell
  have S7 := fun W (g : Below w.heap.size w W) => sameG_ref a.dv dv' a.dp b4 hdp h9.dn h9.dp W (HoldGs.on ha.dp g) (HoldGs.on hb.dp g)
  have SL := fun W (g : Below w.heap.size w W) => (sameQ_ref a.cv cv' a.cn h9.cn W (HoldV.on ha.cn g) (HoldV.on hb.cn g)).mono (fun _ w' hp => (⟨hp.1, by obtain ⟨q, hq⟩ := hp.2; rw [hq]; exact belowQ (Below.refl _ _) q⟩ : _ ∧ Below W.heap.size W w'))
  have SR := fun W (g : Below w.heap.size w W) => same2_below a.rv rv' a.rp h9.rp W (ha.rp.on g) (hb.rp.on g)
  have SP := fun W (g : Below w.heap.size w W) => same2_below a.pv pv' a.pd h9.pd W (ha.pd.on g) (hb.pd.on g)
  have SA := fun W (g : Below w.heap.size w W) => same2_below a.av av' a.aw h9.aw W (ha.aw.on g) (hb.aw.on g)
  have h91 := h9.cf
  unfold agZU
  dsimp only
  simp only [q3, q4, q5, q6, q7, q8, r3, r4, r5, r6, r7, r8] at S7 SL SR SP SA ⊢
  obtain ⟨n, hN⟩ : ∃ n, a.cf.length = n := ⟨_, rfl⟩
  have HN := Lib.hid hN
  have HS := Lib.hid hscell
  have HT := Lib.hid htcell
  rw [hN] at hsa hta hsc htc h91 ⊢
  generalize (⟨a.nm.toArray⟩ : ByteArray) = N0 at *
  generalize (⟨a.vr.toArray⟩ : ByteArray) = V0 at *
  generalize a.st = st at *
  have e0 := eqT N0 N0
  have e1 := eqT V0 V0
  rw [decide_eq_true rfl] at e0 e1
  have e2 : (st == st) = true := by simp
  clear q3 q4 q5 q6 q7 q8 r3 r4 r5 r6 r7 r8 hscell htcell hN h9 hdp ha hb
  obtain ⟨x0, x1, x2, x3, x4, x5, x6, x7, x8⟩ := boxV9 w (.string N0) (.string V0) (.int .i64 st) (.slice a3 n3 m3) (.slice a4 n4 m4) (.slice a5 n5 m5) (.slice a6 n m6) (.slice a7 n7 m7) (.slice a8 n8 m8) 43
  obtain ⟨y0, y1, y2, y3, y4, y5, y6, y7, y8⟩ := boxV9 (w.alloc (.cells #[.string N0, .string V0, .int .i64 st, .slice a3 n3 m3, .slice a4 n4 m4, .slice a5 n5 m5, .slice a6 n m6, .slice a7 n7 m7, .slice a8 n8 m8] 43)) (.string N0) (.string V0) (.int .i64 st) (.slice d3 i3 j3) (.slice d4 i4 j4) (.slice d5 i5 j5) (.slice d6 n j6) (.slice d7 i7 j7) (.slice d8 i8 j8) 43
  rw [World.size_alloc] at y0 y1 y2 y3 y4 y5 y6 y7 y8
  have B1 := (Below.refl w.heap.size w).alloc (Nat.le_refl _) (.cells #[.string N0, .string V0, .int .i64 st, .slice a3 n3 m3, .slice a4 n4 m4, .slice a5 n5 m5, .slice a6 n m6, .slice a7 n7 m7, .slice a8 n8 m8] 43)
  have hB2 := (Below.refl (w.alloc (.cells #[.string N0, .string V0, .int .i64 st, .slice a3 n3 m3, .slice a4 n4 m4, .slice a5 n5 m5, .slice a6 n m6, .slice a7 n7 m7, .slice a8 n8 m8] 43)).heap.size (w.alloc (.cells #[.string N0, .string V0, .int .i64 st, .slice a3 n3 m3, .slice a4 n4 m4, .slice a5 n5 m5, .slice a6 n m6, .slice a7 n7 m7, .slice a8 n8 m8] 43))).alloc (Nat.le_refl _) (.cells #[.string N0, .string V0, .int .i64 st, .slice d3 i3 j3, .slice d4 i4 j4, .slice d5 i5 j5, .slice d6 n j6, .slice d7 i7 j7, .slice d8 i8 j8] 43)
  have l0 := World.block_lt_of_cell? _ _ x0
  have x0 := (hB2.cell (p := ⟨w.heap.size, 0, none⟩) l0).trans x0
  have x1 := (hB2.cell (p := ⟨w.heap.size, 1, none⟩) l0).trans x1
  have x2 := (hB2.cell (p := ⟨w.heap.size, 2, none⟩) l0).trans x2
  have x3 := (hB2.cell (p := ⟨w.heap.size, 3, none⟩) l0).trans x3
  have x4 := (hB2.cell (p := ⟨w.heap.size, 4, none⟩) l0).trans x4
  have x5 := (hB2.cell (p := ⟨w.heap.size, 5, none⟩) l0).trans x5
  have x6 := (hB2.cell (p := ⟨w.heap.size, 6, none⟩) l0).trans x6
  have x7 := (hB2.cell (p := ⟨w.heap.size, 7, none⟩) l0).trans x7
  have x8 := (hB2.cell (p := ⟨w.heap.size, 8, none⟩) l0).trans x8
  have HB := Lib.hid (B1.trans (hB2.mono B1.size))
  have l1 := World.block_lt_of_cell? _ _ x0
  have l2 := World.block_lt_of_cell? _ _ y0
  clear l0 hB2 B1
  go_enter Tryz.func29, Tryz.ntmps29
  go_wp2
  generalize ((w.alloc (.cells #[.string N0, .string V0, .int .i64 st, .slice a3 n3 m3, .slice a4 n4 m4, .slice a5 n5 m5, .slice a6 n m6, .slice a7 n7 m7, .slice a8 n8 m8] 43)).alloc (.cells #[.string N0, .string V0, .int .i64 st, .slice d3 i3 j3, .slice d4 i4 j4, .slice d5 i5 j5, .slice d6 n j6, .slice d7 i7 j7, .slice d8 i8 j8] 43)) = W0 at *
  have HX : Hid (∀ W, Below W0.heap.size W0 W → (W.cell? ⟨w.heap.size, 3, none⟩ = some (.slice a3 n3 m3) ∧ W.cell? ⟨w.heap.size, 4, none⟩ = some (.slice a4 n4 m4) ∧ W.cell? ⟨w.heap.size, 5, none⟩ = some (.slice a5 n5 m5) ∧ W.cell? ⟨w.heap.size, 6, none⟩ = some (.slice a6 n m6) ∧ W.cell? ⟨w.heap.size, 7, none⟩ = some (.slice a7 n7 m7) ∧ W.cell? ⟨w.heap.size, 8, none⟩ = some (.slice a8 n8 m8)) ∧ (W.cell? ⟨w.heap.size + 1, 3, none⟩ = some (.slice d3 i3 j3) ∧ W.cell? ⟨w.heap.size + 1, 4, none⟩ = some (.slice d4 i4 j4) ∧ W.cell? ⟨w.heap.size + 1, 5, none⟩ = some (.slice d5 i5 j5) ∧ W.cell? ⟨w.heap.size + 1, 6, none⟩ = some (.slice d6 n j6) ∧ W.cell? ⟨w.heap.size + 1, 7, none⟩ = some (.slice d7 i7 j7) ∧ W.cell? ⟨w.heap.size + 1, 8, none⟩ = some (.slice d8 i8 j8))) := Lib.hid (fun W hW => by
    have p := fun i => hW.cell (p := ⟨w.heap.size, i, none⟩) l1
    have q := fun i => hW.cell (p := ⟨w.heap.size + 1, i, none⟩) l2
    exact ⟨⟨(p 3).trans x3, (p 4).trans x4, (p 5).trans x5, (p 6).trans x6, (p 7).trans x7, (p 8).trans x8⟩, (q 3).trans y3, (q 4).trans y4, (q 5).trans y5, (q 6).trans y6, (q 7).trans y7, (q 8).trans y8⟩)
  clear x0 x1 x2 x3 x4 x5 x6 x7 x8 y0 y1 y2 y3 y4 y5 y6 y7 y8 l1 l2
  go_loopw [5] (fun i wr => ∃ k : Nat, k ≤ n ∧ i = .int .i64 k ∧ Hid (Below W0.heap.size W0 wr)) (fun i _ => n - (intOf i).toNat)
  case atStart => exact ⟨0, by omega, rfl, Lib.hid (Below.refl _ _)⟩
  case round =>
    obtain ⟨k, hk, rfl, HW⟩ := hrel
    have hBW := HB.out.trans (HW.out.mono HB.out.size)
    obtain ⟨⟨x3, x4, x5, x6, x7, x8⟩, y3, y4, y5, y6, y7, y8⟩ := HX.out _ HW.out
    by_cases hlt : k < n
    · obtain ⟨rfl, hsb⟩ := hsa (by omega)
      obtain ⟨rfl, htb⟩ := hta (by omega)
      obtain ⟨s, hx⟩ : ∃ s, a.cf[k]? = some s := ⟨_, List.getElem?_eq_getElem (by rw [HN.out]; exact hlt)⟩
      obtain ⟨c0, c1⟩ := HS.out k s hx
      obtain ⟨d0, d1⟩ := HT.out k s hx
      rw [← hBW.cell (p := ⟨sb, so + k * 2, none⟩) hsb] at c0
      rw [← hBW.cell (p := ⟨sb, so + k * 2 + 1, none⟩) hsb] at c1
      rw [← hBW.cell (p := ⟨tb, tO + k * 2, none⟩) htb] at d0
      rw [← hBW.cell (p := ⟨tb, tO + k * 2 + 1, none⟩) htb] at d1
      generalize (⟨s.1.toArray⟩ : ByteArray) = S1 at *
      generalize (⟨s.2.toArray⟩ : ByteArray) = S2 at *
      have q0 := eqT S1 S1
      have q1 := eqT S2 S2
      rw [decide_eq_true rfl] at q0 q1
      have i0 : (0 : Int) ≤ (k : Int) := by omega
      have i1 : (k : Int) < (n : Int) := by omega
      have hs := And.intro x6 (And.intro y6 (And.intro c0 (And.intro c1 (And.intro d0 (And.intro d1 HW.out)))))
      clear hx hBW x3 x4 x5 x7 x8 y3 y4 y5 y7 y8
      go_wp2
      have KQ := Lib.hid (atK W0 [(⟨w.heap.size, 6, none⟩, .slice (some ⟨sb, so, none⟩) n m6), (⟨w.heap.size + 1, 6, none⟩, .slice (some ⟨tb, tO, none⟩) n j6), (⟨sb, so + k * 2, none⟩, .string S1), (⟨sb, so + k * 2 + 1, none⟩, .string S2), (⟨tb, tO + k * 2, none⟩, .string S1), (⟨tb, tO + k * 2 + 1, none⟩, .string S2)])
      have BE := fun (V : World) (h : V.cell? ⟨w.heap.size, 6, none⟩ = some (.slice (some ⟨sb, so, none⟩) n m6) ∧ V.cell? ⟨w.heap.size + 1, 6, none⟩ = some (.slice (some ⟨tb, tO, none⟩) n j6) ∧ V.cell? ⟨sb, so + k * 2, none⟩ = some (.string S1) ∧ V.cell? ⟨sb, so + k * 2 + 1, none⟩ = some (.string S2) ∧ V.cell? ⟨tb, tO + k * 2, none⟩ = some (.string S1) ∧ V.cell? ⟨tb, tO + k * 2 + 1, none⟩ = some (.string S2) ∧ Below W0.heap.size W0 V) => AtF.be (w := W0) (l := [(⟨w.heap.size, 6, none⟩, .slice (some ⟨sb, so, none⟩) n m6), (⟨w.heap.size + 1, 6, none⟩, .slice (some ⟨tb, tO, none⟩) n j6), (⟨sb, so + k * 2, none⟩, .string S1), (⟨sb, so + k * 2 + 1, none⟩, .string S2), (⟨tb, tO + k * 2, none⟩, .string S1), (⟨tb, tO + k * 2 + 1, none⟩, .string S2)]) h
      refine wp_region_held_drew (S := (fun V => V.cell? ⟨w.heap.size, 6, none⟩ = some (.slice (some ⟨sb, so, none⟩) n m6) ∧ V.cell? ⟨w.heap.size + 1, 6, none⟩ = some (.slice (some ⟨tb, tO, none⟩) n j6) ∧ V.cell? ⟨sb, so + k * 2, none⟩ = some (.string S1) ∧ V.cell? ⟨sb, so + k * 2 + 1, none⟩ = some (.string S2) ∧ V.cell? ⟨tb, tO + k * 2, none⟩ = some (.string S1) ∧ V.cell? ⟨tb, tO + k * 2 + 1, none⟩ = some (.string S2) ∧ Below W0.heap.size W0 V)) (by kernel_rfl) ?_ (fun hHeld => ?_)
      · (try dsimp only); (first | assumption | exact hs | exact KQ.out.dr _ hs | exact KQ.out.dr _ (by assumption) | exact KQ.out.on _ _ (by assumption) (by assumption) | exact KQ.out.al _ _ (by assumption) | exact KQ.out.ald _ _ (by assumption) | exact KQ.out.al _ _ hs | exact KQ.out.ald _ _ hs)
      refine heldY 0 41 ?_ _ rfl rfl (by kernel_rfl) (by kernel_rfl) (by kernel_rfl) (fun _ _ _ h => h) rfl (by assumption) ?_ ?_
      rotate_left
      · (intro w hSw; (try dsimp only at hSw); go_simp; (try with_reducible rfl))
      try simp only [List.setIfInBounds_toArray, List.set_cons_zero, List.set_cons_succ]
      refine heldY 1 42 ?_ _ rfl rfl (by kernel_rfl) (by kernel_rfl) (by kernel_rfl) (fun _ _ _ h => h) rfl (by assumption) ?_ ?_
      rotate_left
      · (intro w hSw; (try dsimp only at hSw); go_simp; (try with_reducible rfl))
      try simp only [List.setIfInBounds_toArray, List.set_cons_zero, List.set_cons_succ]
      refine heldY 2 43 ?_ _ rfl rfl (by kernel_rfl) (by kernel_rfl) (by kernel_rfl) (fun _ _ _ h => h) rfl (by assumption) ?_ ?_
      rotate_left
      · (intro w hSw; (try dsimp only at hSw); go_simp; (try with_reducible rfl))
      try simp only [List.setIfInBounds_toArray, List.set_cons_zero, List.set_cons_succ]
      refine heldY 3 44 ?_ _ rfl rfl (by kernel_rfl) (by kernel_rfl) (by kernel_rfl) (fun _ _ _ h => h) rfl (by assumption) ?_ ?_
      rotate_left
      · (intro w hSw; (try dsimp only at hSw); go_simp; (try with_reducible rfl))
      try simp only [List.setIfInBounds_toArray, List.set_cons_zero, List.set_cons_succ]
      refine heldY 4 45 ?_ _ rfl rfl (by kernel_rfl) (by kernel_rfl) (by kernel_rfl) (fun _ _ _ h => h) rfl (by assumption) ?_ ?_
      rotate_left
      · (intro w hSw; (try dsimp only at hSw); go_simp; (try with_reducible rfl))
      try simp only [List.setIfInBounds_toArray, List.set_cons_zero, List.set_cons_succ]
      refine heldY 5 46 ?_ _ rfl rfl (by kernel_rfl) (by kernel_rfl) (by kernel_rfl) (fun _ _ _ h => h) rfl (by assumption) ?_ ?_
      rotate_left
      · (intro w hSw; (try dsimp only at hSw); go_simp; (try with_reducible rfl))
      try simp only [List.setIfInBounds_toArray, List.set_cons_zero, List.set_cons_succ]
      refine heldY 6 47 ?_ _ rfl rfl (by kernel_rfl) (by kernel_rfl) (by kernel_rfl) (fun _ _ _ h => h) rfl (by assumption) ?_ ?_
      rotate_left
      · (intro w hSw; (try dsimp only at hSw); go_simp; (try with_reducible rfl))
      try simp only [List.setIfInBounds_toArray, List.set_cons_zero, List.set_cons_succ]
      refine heldY 7 48 ?_ _ rfl rfl (by kernel_rfl) (by kernel_rfl) (by kernel_rfl) (fun _ _ _ h => h) rfl (by assumption) ?_ ?_
      rotate_left
      · (intro w hSw; (try dsimp only at hSw); go_simp; (try with_reducible rfl))
      try simp only [List.setIfInBounds_toArray, List.set_cons_zero, List.set_cons_succ]
      refine heldY 8 49 ?_ _ rfl rfl (by kernel_rfl) (by kernel_rfl) (by kernel_rfl) (fun _ _ _ h => h) rfl (by assumption) ?_ ?_
      rotate_left
      · (intro w hSw; (try dsimp only at hSw); go_simp; (try with_reducible rfl))
      try simp only [List.setIfInBounds_toArray, List.set_cons_zero, List.set_cons_succ]
      refine heldY 9 50 ?_ _ rfl rfl (by kernel_rfl) (by kernel_rfl) (by kernel_rfl) (fun _ _ _ h => h) rfl (by assumption) ?_ ?_
      rotate_left
      · (intro w hSw; (try dsimp only at hSw); go_simp; (try with_reducible rfl))
      try simp only [List.setIfInBounds_toArray, List.set_cons_zero, List.set_cons_succ]
      refine heldY 10 51 ?_ _ rfl rfl (by kernel_rfl) (by kernel_rfl) (by kernel_rfl) (fun _ _ _ h => h) rfl (by assumption) ?_ ?_
      rotate_left
      · (intro w hSw; (try dsimp only at hSw); go_simp; (try with_reducible rfl))
      try simp only [List.setIfInBounds_toArray, List.set_cons_zero, List.set_cons_succ]
      refine wpAnyH_done (by kernel_rfl) ?_ _
      have HW4 := Lib.hid (BE _ hHeld)
      clear hHeld BE hs
      go_wp2
      go_roundw
      case rel => exact ⟨k + 1, by omega, by go_num, HW4⟩
      case measure => simp [intOf]; omega
    · obtain rfl : k = n := by omega
      have HB0 := Lib.hid hBW
      have HZ0 := HW
      clear hBW
      go_wp2_with (first
        | (go_at_call 76; (with_reducible refine (SA _ HB4.out).mono ?_); rintro e w5 ⟨rfl, hb⟩; have HB5 := Lib.hid (HB4.out.trans (hb.mono HB4.out.size)); clear hb)
        | (go_at_call 76; (with_reducible refine (SP _ HB3.out).mono ?_); rintro e w4 ⟨rfl, hb⟩; have HB4 := Lib.hid (HB3.out.trans (hb.mono HB3.out.size)); have HZ4 := Lib.hid (HZ3.out.trans (hb.mono HZ3.out.size)); clear hb; obtain ⟨⟨x3, x4, x5, x6, x7, x8⟩, y3, y4, y5, y6, y7, y8⟩ := HX.out _ HZ4.out)
        | (go_at_call 76; (with_reducible refine (SR _ HB2.out).mono ?_); rintro e w3 ⟨rfl, hb⟩; have HB3 := Lib.hid (HB2.out.trans (hb.mono HB2.out.size)); have HZ3 := Lib.hid (HZ2.out.trans (hb.mono HZ2.out.size)); clear hb; obtain ⟨⟨x3, x4, x5, x6, x7, x8⟩, y3, y4, y5, y6, y7, y8⟩ := HX.out _ HZ3.out)
        | (go_at_call 75; (with_reducible refine (SL _ HB1.out).mono ?_); rintro e w2 ⟨rfl, hb⟩; have HB2 := Lib.hid (HB1.out.trans (hb.mono HB1.out.size)); have HZ2 := Lib.hid (HZ1.out.trans (hb.mono HZ1.out.size)); clear hb; obtain ⟨⟨x3, x4, x5, x6, x7, x8⟩, y3, y4, y5, y6, y7, y8⟩ := HX.out _ HZ2.out)
        | (go_at_call 74; (with_reducible refine (S7 _ HB0.out).mono ?_); rintro e w1 ⟨rfl, hb⟩; have HB1 := Lib.hid (HB0.out.trans (hb.mono HB0.out.size)); have HZ1 := Lib.hid (HZ0.out.trans (hb.mono HZ0.out.size)); clear hb; obtain ⟨⟨x3, x4, x5, x6, x7, x8⟩, y3, y4, y5, y6, y7, y8⟩ := HX.out _ HZ1.out))
      go_ret
      exact ⟨rfl, HB5.out⟩
set_option maxRecDepth 100000 in
set_option maxHeartbeats 8000000 in
theorem sameU_ref (u v : Value) (l L : List Uv) (hlen : L.length = l.length) (hal : ∀ (k : Nat) x y, l[k]? = some x → L[k]? = some y → AlikeU x y) (hl : l.length ≤ 90000) (h9 : ∀ a ∈ l, NotHugeU a) (w : World) (h1 : HoldU w u l) (h2 : HoldU w v L) :
    Calls Tryz.prog 12 #[u, v] w fun e w' => e = .returned (.bool true) ∧ Below w.heap.size w w' := by
  have HRS := Lib.hid (fun (k : Nat) x y (hx : l[k]? = some x) (hy : L[k]? = some y) W (hb : Below w.heap.size w W) => sameOneU_ref x y (h9 x (List.mem_of_getElem? hx)) (hal k x y hx hy) W ((h1.2 x (List.mem_of_getElem? hx)).on hb) ((h2.2 y (List.mem_of_getElem? hy)).on hb))
  have HIN := Lib.hid h1.2
  have HIN2 := Lib.hid h2.2
  have HAL := Lib.hid hal
  obtain ⟨a, c, b, o, rfl, hc, ha, hcell⟩ := h1.parts
  obtain ⟨a', c', b', o', rfl, hc', ha', hcell'⟩ := h2.parts
  have HC := Lib.hid hcell
  have HD := Lib.hid hcell'
  obtain ⟨n, hN⟩ : ∃ n, l.length = n := ⟨_, rfl⟩
  rw [hlen] at hc' ha' ⊢
  rw [hN] at hc ha hc' ha' hl hlen ⊢
  have HN := Lib.hid hN
  have HN2 := Lib.hid hlen
  clear hcell hcell' hN h1 h2 h9 hlen hal
  go_enter Tryz.func12, Tryz.ntmps12
  go_wp2
  go_loopw [5] (fun i wr => ∃ k : Nat, k ≤ n ∧ i = .int .i64 k ∧ Hid (Below w.heap.size w wr)) (fun i _ => n - (intOf i).toNat)
  case atStart => exact ⟨0, by omega, rfl, Lib.hid (Below.refl _ _)⟩
  case round =>
    obtain ⟨k, hk, rfl, HB⟩ := hrel
    by_cases hlt : k < n
    · obtain ⟨rfl, hbw⟩ := ha (by omega)
      obtain ⟨rfl, hbw'⟩ := ha' (by omega)
      obtain ⟨x, hx⟩ : ∃ x, l[k]? = some x := ⟨_, List.getElem?_eq_getElem (by rw [HN.out]; exact hlt)⟩
      obtain ⟨y, hy⟩ : ∃ x, L[k]? = some x := ⟨_, List.getElem?_eq_getElem (by rw [HN2.out]; exact hlt)⟩
      have RS := HRS.out k x y hx hy
      obtain ⟨g0, g1, g2, -⟩ := HAL.out k x y hx hy
      obtain ⟨c0, c1, c2, c3, c4, c5, c6, c7, c8⟩ := HC.out k x hx
      obtain ⟨d0, d1, d2, d3', d4', d5', d6', d7', d8'⟩ := HD.out k y hy
      rw [← HB.out.cell (p := ⟨b, o + k * 9, none⟩) hbw] at c0
      rw [← HB.out.cell (p := ⟨b', o' + k * 9, none⟩) hbw'] at d0
      rw [← HB.out.cell (p := ⟨b, o + k * 9 + 1, none⟩) hbw] at c1
      rw [← HB.out.cell (p := ⟨b', o' + k * 9 + 1, none⟩) hbw'] at d1
      rw [← HB.out.cell (p := ⟨b, o + k * 9 + 2, none⟩) hbw] at c2
      rw [← HB.out.cell (p := ⟨b', o' + k * 9 + 2, none⟩) hbw'] at d2
      rw [← HB.out.cell (p := ⟨b, o + k * 9 + 3, none⟩) hbw] at c3
      rw [← HB.out.cell (p := ⟨b', o' + k * 9 + 3, none⟩) hbw'] at d3'
      rw [← HB.out.cell (p := ⟨b, o + k * 9 + 4, none⟩) hbw] at c4
      rw [← HB.out.cell (p := ⟨b', o' + k * 9 + 4, none⟩) hbw'] at d4'
      rw [← HB.out.cell (p := ⟨b, o + k * 9 + 5, none⟩) hbw] at c5
      rw [← HB.out.cell (p := ⟨b', o' + k * 9 + 5, none⟩) hbw'] at d5'
      rw [← HB.out.cell (p := ⟨b, o + k * 9 + 6, none⟩) hbw] at c6
      rw [← HB.out.cell (p := ⟨b', o' + k * 9 + 6, none⟩) hbw'] at d6'
      rw [← HB.out.cell (p := ⟨b, o + k * 9 + 7, none⟩) hbw] at c7
      rw [← HB.out.cell (p := ⟨b', o' + k * 9 + 7, none⟩) hbw'] at d7'
      rw [← HB.out.cell (p := ⟨b, o + k * 9 + 8, none⟩) hbw] at c8
      rw [← HB.out.cell (p := ⟨b', o' + k * 9 + 8, none⟩) hbw'] at d8'
      obtain ⟨a3, n3, m3, q3⟩ := formU3 (HIN.out x (List.mem_of_getElem? hx))
      obtain ⟨d3, i3, j3, r3⟩ := formU3 (HIN2.out y (List.mem_of_getElem? hy))
      obtain ⟨a4, n4, m4, q4⟩ := formU4 (HIN.out x (List.mem_of_getElem? hx))
      obtain ⟨d4, i4, j4, r4⟩ := formU4 (HIN2.out y (List.mem_of_getElem? hy))
      obtain ⟨a5, n5, m5, q5⟩ := formU5 (HIN.out x (List.mem_of_getElem? hx))
      obtain ⟨d5, i5, j5, r5⟩ := formU5 (HIN2.out y (List.mem_of_getElem? hy))
      obtain ⟨a6, n6, m6, q6⟩ := formU6 (HIN.out x (List.mem_of_getElem? hx))
      obtain ⟨d6, i6, j6, r6⟩ := formU6 (HIN2.out y (List.mem_of_getElem? hy))
      obtain ⟨a7, n7, m7, q7⟩ := formU7 (HIN.out x (List.mem_of_getElem? hx))
      obtain ⟨d7, i7, j7, r7⟩ := formU7 (HIN2.out y (List.mem_of_getElem? hy))
      obtain ⟨a8, n8, m8, q8⟩ := formU8 (HIN.out x (List.mem_of_getElem? hx))
      obtain ⟨d8, i8, j8, r8⟩ := formU8 (HIN2.out y (List.mem_of_getElem? hy))
      unfold agZU at RS
      simp only [← g0, ← g1, ← g2, q3, q4, q5, q6, q7, q8, r3, r4, r5, r6, r7, r8] at RS c3 c4 c5 c6 c7 c8 d0 d1 d2 d3' d4' d5' d6' d7' d8'
      clear q3 q4 q5 q6 q7 q8 r3 r4 r5 r6 r7 r8 g0 g1 g2 hx hy
      generalize (⟨x.nm.toArray⟩ : ByteArray) = X0 at *
      generalize (⟨x.vr.toArray⟩ : ByteArray) = X1 at *
      generalize x.st = z2 at *
      have hs := And.intro c0 (And.intro c1 (And.intro c2 (And.intro c3 (And.intro c4 (And.intro c5 (And.intro c6 (And.intro c7 (And.intro c8 (And.intro d0 (And.intro d1 (And.intro d2 (And.intro d3' (And.intro d4' (And.intro d5' (And.intro d6' (And.intro d7' (And.intro d8' (HB.out))))))))))))))))))
      have j0 : (0 : Int) ≤ (k : Int) := by omega
      have j1 : (k : Int) < (n : Int) := by omega
      clear c0 c1 c2 c3 c4 c5 c6 c7 c8 d0 d1 d2 d3' d4' d5' d6' d7' d8' HRS HIN HIN2 HAL HC HD
      go_wp2
      have KQ := Lib.hid (atK w [(⟨b, o + k * 9, none⟩, .string X0), (⟨b, o + k * 9 + 1, none⟩, .string X1), (⟨b, o + k * 9 + 2, none⟩, .int .i64 z2), (⟨b, o + k * 9 + 3, none⟩, .slice a3 n3 m3), (⟨b, o + k * 9 + 4, none⟩, .slice a4 n4 m4), (⟨b, o + k * 9 + 5, none⟩, .slice a5 n5 m5), (⟨b, o + k * 9 + 6, none⟩, .slice a6 n6 m6), (⟨b, o + k * 9 + 7, none⟩, .slice a7 n7 m7), (⟨b, o + k * 9 + 8, none⟩, .slice a8 n8 m8), (⟨b', o' + k * 9, none⟩, .string X0), (⟨b', o' + k * 9 + 1, none⟩, .string X1), (⟨b', o' + k * 9 + 2, none⟩, .int .i64 z2), (⟨b', o' + k * 9 + 3, none⟩, .slice d3 i3 j3), (⟨b', o' + k * 9 + 4, none⟩, .slice d4 i4 j4), (⟨b', o' + k * 9 + 5, none⟩, .slice d5 i5 j5), (⟨b', o' + k * 9 + 6, none⟩, .slice d6 i6 j6), (⟨b', o' + k * 9 + 7, none⟩, .slice d7 i7 j7), (⟨b', o' + k * 9 + 8, none⟩, .slice d8 i8 j8)])
      have BE := fun (V : World) (h : V.cell? ⟨b, o + k * 9, none⟩ = some (.string X0) ∧ V.cell? ⟨b, o + k * 9 + 1, none⟩ = some (.string X1) ∧ V.cell? ⟨b, o + k * 9 + 2, none⟩ = some (.int .i64 z2) ∧ V.cell? ⟨b, o + k * 9 + 3, none⟩ = some (.slice a3 n3 m3) ∧ V.cell? ⟨b, o + k * 9 + 4, none⟩ = some (.slice a4 n4 m4) ∧ V.cell? ⟨b, o + k * 9 + 5, none⟩ = some (.slice a5 n5 m5) ∧ V.cell? ⟨b, o + k * 9 + 6, none⟩ = some (.slice a6 n6 m6) ∧ V.cell? ⟨b, o + k * 9 + 7, none⟩ = some (.slice a7 n7 m7) ∧ V.cell? ⟨b, o + k * 9 + 8, none⟩ = some (.slice a8 n8 m8) ∧ V.cell? ⟨b', o' + k * 9, none⟩ = some (.string X0) ∧ V.cell? ⟨b', o' + k * 9 + 1, none⟩ = some (.string X1) ∧ V.cell? ⟨b', o' + k * 9 + 2, none⟩ = some (.int .i64 z2) ∧ V.cell? ⟨b', o' + k * 9 + 3, none⟩ = some (.slice d3 i3 j3) ∧ V.cell? ⟨b', o' + k * 9 + 4, none⟩ = some (.slice d4 i4 j4) ∧ V.cell? ⟨b', o' + k * 9 + 5, none⟩ = some (.slice d5 i5 j5) ∧ V.cell? ⟨b', o' + k * 9 + 6, none⟩ = some (.slice d6 i6 j6) ∧ V.cell? ⟨b', o' + k * 9 + 7, none⟩ = some (.slice d7 i7 j7) ∧ V.cell? ⟨b', o' + k * 9 + 8, none⟩ = some (.slice d8 i8 j8) ∧ Below w.heap.size w V) => AtF.be (w := w) (l := [(⟨b, o + k * 9, none⟩, .string X0), (⟨b, o + k * 9 + 1, none⟩, .string X1), (⟨b, o + k * 9 + 2, none⟩, .int .i64 z2), (⟨b, o + k * 9 + 3, none⟩, .slice a3 n3 m3), (⟨b, o + k * 9 + 4, none⟩, .slice a4 n4 m4), (⟨b, o + k * 9 + 5, none⟩, .slice a5 n5 m5), (⟨b, o + k * 9 + 6, none⟩, .slice a6 n6 m6), (⟨b, o + k * 9 + 7, none⟩, .slice a7 n7 m7), (⟨b, o + k * 9 + 8, none⟩, .slice a8 n8 m8), (⟨b', o' + k * 9, none⟩, .string X0), (⟨b', o' + k * 9 + 1, none⟩, .string X1), (⟨b', o' + k * 9 + 2, none⟩, .int .i64 z2), (⟨b', o' + k * 9 + 3, none⟩, .slice d3 i3 j3), (⟨b', o' + k * 9 + 4, none⟩, .slice d4 i4 j4), (⟨b', o' + k * 9 + 5, none⟩, .slice d5 i5 j5), (⟨b', o' + k * 9 + 6, none⟩, .slice d6 i6 j6), (⟨b', o' + k * 9 + 7, none⟩, .slice d7 i7 j7), (⟨b', o' + k * 9 + 8, none⟩, .slice d8 i8 j8)]) h
      refine wp_region_held_drew (S := (fun V => V.cell? ⟨b, o + k * 9, none⟩ = some (.string X0) ∧ V.cell? ⟨b, o + k * 9 + 1, none⟩ = some (.string X1) ∧ V.cell? ⟨b, o + k * 9 + 2, none⟩ = some (.int .i64 z2) ∧ V.cell? ⟨b, o + k * 9 + 3, none⟩ = some (.slice a3 n3 m3) ∧ V.cell? ⟨b, o + k * 9 + 4, none⟩ = some (.slice a4 n4 m4) ∧ V.cell? ⟨b, o + k * 9 + 5, none⟩ = some (.slice a5 n5 m5) ∧ V.cell? ⟨b, o + k * 9 + 6, none⟩ = some (.slice a6 n6 m6) ∧ V.cell? ⟨b, o + k * 9 + 7, none⟩ = some (.slice a7 n7 m7) ∧ V.cell? ⟨b, o + k * 9 + 8, none⟩ = some (.slice a8 n8 m8) ∧ V.cell? ⟨b', o' + k * 9, none⟩ = some (.string X0) ∧ V.cell? ⟨b', o' + k * 9 + 1, none⟩ = some (.string X1) ∧ V.cell? ⟨b', o' + k * 9 + 2, none⟩ = some (.int .i64 z2) ∧ V.cell? ⟨b', o' + k * 9 + 3, none⟩ = some (.slice d3 i3 j3) ∧ V.cell? ⟨b', o' + k * 9 + 4, none⟩ = some (.slice d4 i4 j4) ∧ V.cell? ⟨b', o' + k * 9 + 5, none⟩ = some (.slice d5 i5 j5) ∧ V.cell? ⟨b', o' + k * 9 + 6, none⟩ = some (.slice d6 i6 j6) ∧ V.cell? ⟨b', o' + k * 9 + 7, none⟩ = some (.slice d7 i7 j7) ∧ V.cell? ⟨b', o' + k * 9 + 8, none⟩ = some (.slice d8 i8 j8) ∧ Below w.heap.size w V)) (by kernel_rfl) ?_ (fun hHeld => ?_)
      · (try dsimp only); (first | assumption | exact hs | exact KQ.out.dr _ hs | exact KQ.out.dr _ (by assumption) | exact KQ.out.on _ _ (by assumption) (by assumption) | exact KQ.out.al _ _ (by assumption) | exact KQ.out.ald _ _ (by assumption) | exact KQ.out.al _ _ hs | exact KQ.out.ald _ _ hs)
      refine heldY 0 17 ?_ _ rfl rfl (by kernel_rfl) (by kernel_rfl) (by kernel_rfl) (fun _ _ _ h => h) rfl (by assumption) ?_ ?_
      rotate_left
      · (intro w hSw; (try dsimp only at hSw); go_simp; (try with_reducible rfl))
      try simp only [List.setIfInBounds_toArray, List.set_cons_zero, List.set_cons_succ]
      refine heldY 1 18 ?_ _ rfl rfl (by kernel_rfl) (by kernel_rfl) (by kernel_rfl) (fun _ _ _ h => h) rfl (by assumption) ?_ ?_
      rotate_left
      · (intro w hSw; (try dsimp only at hSw); go_simp; (try with_reducible rfl))
      try simp only [List.setIfInBounds_toArray, List.set_cons_zero, List.set_cons_succ]
      refine heldY 2 19 ?_ _ rfl rfl (by kernel_rfl) (by kernel_rfl) (by kernel_rfl) (fun _ _ _ h => h) rfl (by assumption) ?_ ?_
      rotate_left
      · (intro w hSw; (try dsimp only at hSw); go_simp; (try with_reducible rfl))
      try simp only [List.setIfInBounds_toArray, List.set_cons_zero, List.set_cons_succ]
      refine heldY 3 20 ?_ _ rfl rfl (by kernel_rfl) (by kernel_rfl) (by kernel_rfl) (fun _ _ _ h => h) rfl (by assumption) ?_ ?_
      rotate_left
      · (intro w hSw; (try dsimp only at hSw); go_simp; (try with_reducible rfl))
      try simp only [List.setIfInBounds_toArray, List.set_cons_zero, List.set_cons_succ]
      refine heldY 4 21 ?_ _ rfl rfl (by kernel_rfl) (by kernel_rfl) (by kernel_rfl) (fun _ _ _ h => h) rfl (by assumption) ?_ ?_
      rotate_left
      · (intro w hSw; (try dsimp only at hSw); go_simp; (try with_reducible rfl))
      try simp only [List.setIfInBounds_toArray, List.set_cons_zero, List.set_cons_succ]
      refine heldY 5 22 ?_ _ rfl rfl (by kernel_rfl) (by kernel_rfl) (by kernel_rfl) (fun _ _ _ h => h) rfl (by assumption) ?_ ?_
      rotate_left
      · (intro w hSw; (try dsimp only at hSw); go_simp; (try with_reducible rfl))
      try simp only [List.setIfInBounds_toArray, List.set_cons_zero, List.set_cons_succ]
      refine heldY 6 23 ?_ _ rfl rfl (by kernel_rfl) (by kernel_rfl) (by kernel_rfl) (fun _ _ _ h => h) rfl (by assumption) ?_ ?_
      rotate_left
      · (intro w hSw; (try dsimp only at hSw); go_simp; (try with_reducible rfl))
      try simp only [List.setIfInBounds_toArray, List.set_cons_zero, List.set_cons_succ]
      refine heldY 7 24 ?_ _ rfl rfl (by kernel_rfl) (by kernel_rfl) (by kernel_rfl) (fun _ _ _ h => h) rfl (by assumption) ?_ ?_
      rotate_left
      · (intro w hSw; (try dsimp only at hSw); go_simp; (try with_reducible rfl))
      try simp only [List.setIfInBounds_toArray, List.set_cons_zero, List.set_cons_succ]
      refine wpAnyH_ready (rs := [8]) (by kernel_rfl) (by simp) ?_
      refine AllReadyH.cons rfl (fun K hK => ?_) AllReadyH.nil
      go_simp
      (go_at_call 29; (with_reducible refine (RS _ (BE _ (by assumption))).mono ?_); rintro e w3 ⟨rfl, hb⟩)
      refine hK.out _ _ ?_ (fun hHeld => ?_)
      · (try dsimp only); (first | assumption | exact hs | exact KQ.out.dr _ hs | exact KQ.out.dr _ (by assumption) | exact KQ.out.on _ _ (by assumption) (by assumption) | exact KQ.out.al _ _ (by assumption) | exact KQ.out.ald _ _ (by assumption) | exact KQ.out.al _ _ hs | exact KQ.out.ald _ _ hs)
      clear hK K
      try simp only [Act.put, List.setIfInBounds_toArray, List.set_cons_zero, List.set_cons_succ]
      refine heldY 9 26 ?_ _ rfl rfl (by kernel_rfl) (by kernel_rfl) (by kernel_rfl) (fun _ _ _ h => h) rfl (by assumption) ?_ ?_
      rotate_left
      · (intro w hSw; (try dsimp only at hSw); go_simp; (try with_reducible rfl))
      try simp only [List.setIfInBounds_toArray, List.set_cons_zero, List.set_cons_succ]
      refine wpAnyH_done (by kernel_rfl) ?_ _
      have HW3 := Lib.hid (BE _ hHeld)
      clear hHeld
      go_wp2
      go_roundw
      case rel => exact ⟨k + 1, by omega, by go_num, HW3⟩
      case measure => simp [intOf]; omega
    · obtain rfl : k = n := by omega
      clear hlt
      go_wp2
      go_ret
      exact ⟨rfl, HB.out⟩
end Go.Proofs.YtkbkaeefdhkgdaaGreatDoor
