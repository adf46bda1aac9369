/-
  cellarerlaw08's Few: it tells something; where it tells true the records are few and small; nothing old turns.
-/
import Derived.Test.YtkcamfcjkjiijaaGreatDoorPEpHold
import Derived.Test.YtkcamfcjkjiijaaGreatDoorPBRefAll
import Derived.IntWalk
namespace Go.Proofs.YtkcamfcjkjiijaaGreatDoor
open Go.RowKit
set_option maxRecDepth 100000 in
set_option maxHeartbeats 4000000 in
theorem allLong_ref (v : Value) (l : List Gv) (hl : l.length ≤ 500) (hs : ∀ x ∈ l, x.1.length ≤ maxLen) (hg : (fsts l).any longG = true) (w : World) (h : HoldGs w v l) : Calls Tryz.prog 67 #[v] w (TwoP (allE (fsts l)) w) := by
  have HE : Hid (∀ w', Below w.heap.size w w' → TwoP (allE (fsts l)) w (.returned (.tuple #[.string ⟨#[]⟩, .int .i64 22])) w') := Lib.hid (fun w' hb => ⟨by unfold allE; rw [if_pos (by rw [hg]; simp)], hb⟩)
  obtain ⟨a, c, b, o, rfl, hc, ha, hcell⟩ := h.parts
  have HC := Lib.hid hcell
  have HG := Lib.hid h
  have HS := Lib.hid hs
  obtain ⟨n, hN⟩ : ∃ n, l.length = n := ⟨_, rfl⟩
  rw [hN] at hc ha hl ⊢
  have HN := Lib.hid hN
  have HA := Lib.hid hg
  clear hcell hN h hs hg
  go_enter Tryz.func67, Tryz.ntmps67
  go_wp2
  go_loop [4] (fun i => ∃ k : Nat, k ≤ n ∧ i = .int .i64 k ∧ Hid (∀ (j : Nat) y, j < k → l[j]? = some y → longG y.1 = false)) (fun i => n - (intOf i).toNat)
  case atStart => exact ⟨0, by omega, rfl, Lib.hid (fun j y hj => by omega)⟩
  case round =>
    obtain ⟨k, hk, rfl, H⟩ := hrel
    by_cases hlt : k < n
    · obtain ⟨rfl, hbw⟩ := ha (by omega)
      obtain ⟨⟨g0, sv⟩, hx⟩ : ∃ x, l[k]? = some x := ⟨_, List.getElem?_eq_getElem (by rw [HN.out]; exact hlt)⟩
      have hgx := HG.out.2 _ (List.mem_of_getElem? hx)
      have hsm := HS.out _ (List.mem_of_getElem? hx)
      have c0 := HC.out k _ hx
      dsimp only at c0 hgx hsm
      obtain ⟨sa, sc, -, -, hsv, -⟩ := hgx.parts
      subst hsv
      unfold maxLen at hsm
      by_cases h64 : 64 < g0.length
      · generalize g0.length = gn at *
        clear hx hgx H
        go_wp2
        go_ret2
        exact HE.out _ (Below.refl _ _)
      · have HX : Hid (∀ (j : Nat) y, j < k + 1 → l[j]? = some y → longG y.1 = false) := Lib.hid (fun j y hj hy => by
          by_cases e : j = k
          · subst e
            rw [hx] at hy; cases hy
            unfold longG; exact decide_eq_false h64
          · exact H.out j y (by omega) hy)
        generalize g0.length = gn at *
        clear hx hgx H
        go_wp2
        go_round
        case rel => exact ⟨k + 1, by omega, by go_num, HX⟩
        case measure => simp [intOf]; omega
    · exfalso
      have HLG := long_miss (fun j y hy => H.out j y (by have := (List.getElem?_eq_some_iff.1 hy).1; rw [HN.out] at this; omega) hy)
      rw [HA.out] at HLG
      cases HLG
theorem allFit_ref (v : Value) (l : List Gv) (hl : l.length ≤ 500) (hs : ∀ x ∈ l, BigQ x.1 ∧ x.1.length ≤ maxLen) (w : World) (h : HoldGs w v l) : Calls Tryz.prog 67 #[v] w (TwoP (allE (fsts l)) w) := by
  by_cases hg : (fsts l).any longG = true
  · exact allLong_ref v l hl (fun x hx => (hs x hx).2) hg w h
  · refine allEBig_ref v l hl (fun x hx => ⟨(hs x hx).1, ?_⟩) w h
    have := List.any_eq_false.1 (Bool.eq_false_iff.2 hg) x.1 (List.mem_map.2 ⟨x, hx, rfl⟩)
    unfold longG at this
    have : ¬ 64 < x.1.length := by simpa using this
    omega
def FewUP (l : List Uv) (w : World) (e : Ending) (w' : World) : Prop := ∃ fb : Bool, e = .returned (.bool fb) ∧ (fb = true → FewU l) ∧ Below w.heap.size w w'
set_option maxRecDepth 100000 in
set_option maxHeartbeats 32000000 in
theorem fewU_any (v : Value) (l : List Uv) (hb : l.length ≤ maxLen) (hf : ∀ x ∈ l, FitU x) (w : World) (h : HoldU w v l) : Calls Tryz.prog 32 #[v] w (FewUP l w) := by
  have HIN := Lib.hid h.2
  obtain ⟨a, c, b, o, rfl, hc, ha, hcell⟩ := h.parts
  have HC := Lib.hid hcell
  have HF := Lib.hid hf
  have HNO : Hid (∀ w', Below w.heap.size w w' → FewUP l w (.returned (.bool false)) w') := Lib.hid (fun w' hb => ⟨false, rfl, (fun e => by cases e), hb⟩)
  have HYES : Hid (∀ w', FewU l → Below w.heap.size w w' → FewUP l w (.returned (.bool true)) w') := Lib.hid (fun w' hf hb => ⟨true, rfl, fun _ => hf, hb⟩)
  obtain ⟨n, hN⟩ : ∃ n, l.length = n := ⟨_, rfl⟩
  rw [hN] at hc ha hb ⊢
  have HN := Lib.hid hN
  unfold maxLen at hb
  clear hcell hN h hf
  by_cases h70 : 70 < n
  · go_enter Tryz.func32, Tryz.ntmps32
    go_wp2
    go_ret
    exact HNO.out _ (Below.refl _ _)
  go_enter Tryz.func32, Tryz.ntmps32
  go_wp2
  go_loopw [3, 4] (fun s i wr => ∃ (k : Nat) (z : Int), k ≤ n ∧ i = .int .i64 k ∧ s = .int .i64 z ∧ 0 ≤ z ∧ z ≤ 4000 ∧ Hid (∀ (j : Nat) x, j < k → l[j]? = some x → FewR x) ∧ Hid (Below w.heap.size w wr)) (fun _ i _ => n - (intOf i).toNat)
  case atStart => exact ⟨0, 0, by omega, rfl, rfl, by omega, by omega, Lib.hid (fun j x hj => by omega), Lib.hid (Below.refl _ _)⟩
  case round =>
    obtain ⟨k, z, hk, rfl, rfl, hz0, hz, HK, HB⟩ := hrel
    have hsz := HB.out.size
    by_cases hlt : k < n
    · obtain ⟨rfl, hbw⟩ := ha (by omega)
      obtain ⟨x, hx⟩ : ∃ x, l[k]? = some x := ⟨_, List.getElem?_eq_getElem (by rw [HN.out]; exact hlt)⟩
      obtain ⟨c0, c1, c2, c3, c4, c5, c6, c7, c8⟩ := HC.out k _ hx
      rw [← HB.out.cell (p := ⟨b, o + k * 9, none⟩) hbw] at c0
      rw [← HB.out.cell (p := ⟨b, o + k * 9 + 1, none⟩) hbw] at c1
      rw [← HB.out.cell (p := ⟨b, o + k * 9 + 2, none⟩) hbw] at c2
      rw [← HB.out.cell (p := ⟨b, o + k * 9 + 3, none⟩) hbw] at c3
      rw [← HB.out.cell (p := ⟨b, o + k * 9 + 4, none⟩) hbw] at c4
      rw [← HB.out.cell (p := ⟨b, o + k * 9 + 5, none⟩) hbw] at c5
      rw [← HB.out.cell (p := ⟨b, o + k * 9 + 6, none⟩) hbw] at c6
      rw [← HB.out.cell (p := ⟨b, o + k * 9 + 7, none⟩) hbw] at c7
      rw [← HB.out.cell (p := ⟨b, o + k * 9 + 8, none⟩) hbw] at c8
      have hm := List.mem_of_getElem? hx
      have HFT := Lib.hid (HF.out _ hm)
      obtain ⟨z1, z2, z3, -, z4, -, z5, -, z6, -, z7, -, z8, -⟩ := HF.out _ hm
      unfold maxLen at z1 z2 z3 z4 z5 z6 z7 z8
      have B3 := (Below.refl wr.heap.size wr).alloc (Nat.le_refl _) (.cells #[.string (⟨x.nm.toArray⟩ : ByteArray), .string (⟨x.vr.toArray⟩ : ByteArray), .int .i64 x.st, x.dv, x.cv, x.rv, x.fv, x.pv, x.av] 71)
      have hin := (HIN.out _ hm).on (HB.out.trans (B3.mono hsz))
      have HIX := Lib.hid hin
      obtain ⟨a3, m3, b3, o3, e3, hc3, ha3, hl3⟩ := HoldGs.parts hin.dp
      obtain ⟨a4, m4, b4, o4, e4, hc4, ha4, hl4⟩ := HoldQ.parts hin.cn
      obtain ⟨a5, m5, b5, o5, e5, hc5, ha5, hl5⟩ := hin.rp
      obtain ⟨a6, m6, b6, o6, e6, hc6, ha6, hl6⟩ := HoldW2.parts hin.cf
      obtain ⟨a7, m7, b7, o7, e7, hc7, ha7, hl7⟩ := hin.pd
      obtain ⟨a8, m8, b8, o8, e8, hc8, ha8, hl8⟩ := hin.aw
      have L3 := Lib.hid hl3
      have L4 := Lib.hid hl4
      have L5 := Lib.hid hl5
      have L6 := Lib.hid hl6
      have L7 := Lib.hid hl7
      have L8 := Lib.hid hl8
      obtain ⟨x0, x1, x2, x3, x4, x5, x6, x7, x8⟩ := boxV9 wr (.string (⟨x.nm.toArray⟩ : ByteArray)) (.string (⟨x.vr.toArray⟩ : ByteArray)) (.int .i64 x.st) x.dv x.cv x.rv x.fv x.pv x.av 71
      have HB3 := Lib.hid (HB.out.trans (B3.mono hsz))
      have HKK : Hid (FewR x → ∀ (j : Nat) y, j < k + 1 → l[j]? = some y → FewR y) := Lib.hid (fun g j y hj hy => by
        by_cases e : j = k
        · subst e; rw [hx] at hy; cases hy; exact g
        · exact HK.out j y (by omega) hy)
      have ALL := fun (g : x.dp.length ≤ 500) W (hb : Below (wr.alloc (.cells #[.string (⟨x.nm.toArray⟩ : ByteArray), .string (⟨x.vr.toArray⟩ : ByteArray), .int .i64 x.st, x.dv, x.cv, x.rv, x.fv, x.pv, x.av] 71)).heap.size (wr.alloc (.cells #[.string (⟨x.nm.toArray⟩ : ByteArray), .string (⟨x.vr.toArray⟩ : ByteArray), .int .i64 x.st, x.dv, x.cv, x.rv, x.fv, x.pv, x.av] 71)) W) => allFit_ref x.dv x.dp g HFT.out.dp W (HoldGs.on HIX.out.dp hb)
      unfold TwoP at ALL
      obtain ⟨X, hX⟩ : ∃ X : ByteArray, (⟨x.nm.toArray⟩ : ByteArray) = X := ⟨_, rfl⟩
      obtain ⟨Y, hY⟩ : ∃ Y : ByteArray, (⟨x.vr.toArray⟩ : ByteArray) = Y := ⟨_, rfl⟩
      obtain ⟨T, hT⟩ : ∃ T : ByteArray, bsT (allE (fsts x.dp)).1 = T := ⟨_, rfl⟩
      obtain ⟨zt, hzt⟩ : ∃ z : Int, (allE (fsts x.dp)).2 = z := ⟨_, rfl⟩
      obtain ⟨st, hst⟩ : ∃ z : Int, x.st = z := ⟨_, rfl⟩
      have sX : X.size = x.nm.length := by rw [← hX, sizeOf, bytesOf]
      have sY : Y.size = x.vr.length := by rw [← hY, sizeOf, bytesOf]
      have sT : T.size = (allE (fsts x.dp)).1.length := by rw [← hT, sizeOf, bytesOf]
      have zX : X.size ≤ 9223372036854775807 := by omega
      have zY : Y.size ≤ 9223372036854775807 := by omega
      have HSX := Lib.hid sX
      have HSY := Lib.hid sY
      have HST := Lib.hid sT
      simp only [hX, hY, hst, hT, hzt, e3, e4, e5, e6, e7, e8] at c0 c1 c2 c3 c4 c5 c6 c7 c8 x0 x1 x2 x3 x4 x5 x6 x7 x8 B3 HB3 HIX ALL L3 L4 L5 L6 L7 L8 ha3 ha4 ha5 ha6 ha7 ha8
      obtain ⟨n3, hn3⟩ : ∃ n, x.dp.length = n := ⟨_, rfl⟩
      obtain ⟨n4, hn4⟩ : ∃ n, x.cn.length = n := ⟨_, rfl⟩
      obtain ⟨n5, hn5⟩ : ∃ n, x.rp.length = n := ⟨_, rfl⟩
      obtain ⟨n6, hn6⟩ : ∃ n, x.cf.length = n := ⟨_, rfl⟩
      obtain ⟨n7, hn7⟩ : ∃ n, x.pd.length = n := ⟨_, rfl⟩
      obtain ⟨n8, hn8⟩ : ∃ n, x.aw.length = n := ⟨_, rfl⟩
      rw [hn3] at z3 hc3 ha3 ALL
      rw [hn4] at z4 hc4 ha4
      rw [hn5] at z5 hc5 ha5
      rw [hn6] at z6 hc6 ha6
      rw [hn7] at z7 hc7 ha7
      rw [hn8] at z8 hc8 ha8
      simp only [hn3, hn4, hn5, hn6, hn7, hn8] at c3 c4 c5 c6 c7 c8 x3 x4 x5 x6 x7 x8 x0 x1 x2 B3 HB3 HIX ALL L3 L4 L5 L6 L7 L8 ha3 ha4 ha5 ha6 ha7 ha8
      have N3 := Lib.hid hn3
      have N4 := Lib.hid hn4
      have N5 := Lib.hid hn5
      have N6 := Lib.hid hn6
      have N7 := Lib.hid hn7
      have N8 := Lib.hid hn8
      clear hX hY hT hzt hst sX sY sT z1 z2 hx hm hin hl3 hl4 hl5 hl6 hl7 hl8 hn3 hn4 hn5 hn6 hn7 hn8 HK e3 e4 e5 e6 e7 e8
      by_cases g3 : 70 < n3
      · as_aux_lemma =>
          go_wp2
          go_ret
          exact HNO.out _ HB3.out
      by_cases g4 : 70 < n4
      · as_aux_lemma =>
          go_wp2
          go_ret
          exact HNO.out _ HB3.out
      by_cases g5 : 70 < n5
      · as_aux_lemma =>
          go_wp2
          go_ret
          exact HNO.out _ HB3.out
      by_cases g6 : 70 < n6
      · as_aux_lemma =>
          go_wp2
          go_ret
          exact HNO.out _ HB3.out
      by_cases g7 : 70 < n7
      · as_aux_lemma =>
          go_wp2
          go_ret
          exact HNO.out _ HB3.out
      by_cases g8 : 70 < n8
      · as_aux_lemma =>
          go_wp2
          go_ret
          exact HNO.out _ HB3.out
      have ALL := ALL (by omega)
      have hlt9 : wr.heap.size < (wr.alloc (.cells #[.string X, .string Y, .int .i64 st, .slice a3 n3 m3, .slice a4 n4 m4, .slice a5 n5 m5, .slice a6 n6 m6, .slice a7 n7 m7, .slice a8 n8 m8] 71)).heap.size := by simp
      have HW3 : Hid (∀ W, Below (wr.alloc (.cells #[.string X, .string Y, .int .i64 st, .slice a3 n3 m3, .slice a4 n4 m4, .slice a5 n5 m5, .slice a6 n6 m6, .slice a7 n7 m7, .slice a8 n8 m8] 71)).heap.size (wr.alloc (.cells #[.string X, .string Y, .int .i64 st, .slice a3 n3 m3, .slice a4 n4 m4, .slice a5 n5 m5, .slice a6 n6 m6, .slice a7 n7 m7, .slice a8 n8 m8] 71)) W → W.cell? ⟨wr.heap.size, 0, none⟩ = some (.string X) ∧ W.cell? ⟨wr.heap.size, 1, none⟩ = some (.string Y) ∧ W.cell? ⟨wr.heap.size, 3, none⟩ = some (.slice a3 n3 m3) ∧ W.cell? ⟨wr.heap.size, 4, none⟩ = some (.slice a4 n4 m4) ∧ W.cell? ⟨wr.heap.size, 5, none⟩ = some (.slice a5 n5 m5) ∧ W.cell? ⟨wr.heap.size, 6, none⟩ = some (.slice a6 n6 m6) ∧ W.cell? ⟨wr.heap.size, 7, none⟩ = some (.slice a7 n7 m7) ∧ W.cell? ⟨wr.heap.size, 8, none⟩ = some (.slice a8 n8 m8)) := Lib.hid (fun W hW => by
        have q := fun i => hW.cell (p := ⟨wr.heap.size, i, none⟩) hlt9
        exact ⟨(q 0).trans x0, (q 1).trans x1, (q 3).trans x3, (q 4).trans x4, (q 5).trans x5, (q 6).trans x6, (q 7).trans x7, (q 8).trans x8⟩)
      have HR3 := Lib.hid (Below.refl (wr.alloc (.cells #[.string X, .string Y, .int .i64 st, .slice a3 n3 m3, .slice a4 n4 m4, .slice a5 n5 m5, .slice a6 n6 m6, .slice a7 n7 m7, .slice a8 n8 m8] 71)).heap.size (wr.alloc (.cells #[.string X, .string Y, .int .i64 st, .slice a3 n3 m3, .slice a4 n4 m4, .slice a5 n5 m5, .slice a6 n6 m6, .slice a7 n7 m7, .slice a8 n8 m8] 71)))
      clear B3 hlt9
      go_upto_region 11 with (go_at_call 67; (with_reducible refine (ALL _ HR3.out).mono ?_); rintro e w4 ⟨rfl, hb⟩; have HB4 := Lib.hid hb; clear hb; obtain ⟨x0, x1, x3, x4, x5, x6, x7, x8⟩ := HW3.out _ HB4.out)
      have HB3' := HB3
      have hB3s := HB3.out.size
      clear HB HB3 c0 c1 c2 c3 c4 c5 c6 c7 c8 HR3 ALL
      generalize (wr.alloc (.cells #[.string X, .string Y, .int .i64 st, .slice a3 n3 m3, .slice a4 n4 m4, .slice a5 n5 m5, .slice a6 n6 m6, .slice a7 n7 m7, .slice a8 n8 m8] 71)) = W3 at *
      generalize wr.heap.size = bx at *
      have HUZ : Hid (UptoU x 0) := Lib.hid (UptoU.zero x)
      go_wp2
      go_loopw [3, 8] (fun s i wr => ∃ (t : Nat) (zz : Int), t ≤ 70 ∧ i = .int .i64 t ∧ s = .int .i64 zz ∧ 20 ≤ zz ∧ zz ≤ 20000 ∧ Hid (20 + min (X.size : Int) 4000 + min (Y.size : Int) 4000 + min (T.size : Int) 4000 ≤ zz ∧ (0 < t → zz ≤ 4000) ∧ UptoU x t) ∧ Hid (Below W3.heap.size W3 wr)) (fun _ i _ => 70 - (intOf i).toNat)
      case atStart => exact ⟨0, _, by omega, rfl, rfl, by omega, by omega, Lib.hid ⟨by omega, fun h => by omega, HUZ.out⟩, HB4⟩
      case round =>
        obtain ⟨t, zz, ht, rfl, rfl, hzz0, hzz1, HV, HBX⟩ := hrel
        clear x0 x1 x3 x4 x5 x6 x7 x8
        obtain ⟨-, -, x3, x4, x5, x6, x7, x8⟩ := HW3.out _ HBX.out
        by_cases ht70 : t < 70
        · go_upto_region 15 with fail
          go_cut [99] from 82 to 191 (fun s wx => ∃ bb : Bool, s = .bool bb ∧ wx = wr ∧ Hid (bb = false → ∀ g, x.dp[t]? = some g → g.1.length ≤ 70))
          case first => as_aux_lemma =>
            by_cases h3 : t < n3
            · obtain ⟨rfl, hb3⟩ := ha3 (by omega)
              obtain ⟨⟨g0, sv⟩, hg⟩ : ∃ x', x.dp[t]? = some x' := ⟨_, List.getElem?_eq_getElem (by rw [N3.out]; exact h3)⟩
              have d0 := L3.out t _ hg
              dsimp only at d0
              rw [← HBX.out.cell (p := ⟨b3, o3 + t, none⟩) hb3] at d0
              obtain ⟨ga, gc, -, -, hsv, -⟩ := HoldQ.parts (HIX.out.dp.2 _ (List.mem_of_getElem? hg))
              dsimp only at hsv
              subst hsv
              have HG : Hid (decide ((70 : Int) < (g0.length : Int)) = false → ∀ g, x.dp[t]? = some g → g.1.length ≤ 70) := Lib.hid (fun q g h => by rw [hg] at h; cases h; have := of_decide_eq_false q; show g0.length ≤ 70; omega)
              have hgz := (HFT.out.dp _ (List.mem_of_getElem? hg)).2
              unfold maxLen at hgz
              dsimp only at hgz
              clear hg
              generalize g0.length = gn at *
              go_wp2
              go_meet
              case rel => exact ⟨_, rfl, rfl, HG⟩
            · have HG : Hid (∀ g, x.dp[t]? = some g → g.1.length ≤ 70) := Lib.hid (fun g h => by have := (List.getElem?_eq_some_iff.1 h).1; rw [N3.out] at this; omega)
              go_wp2
              go_meet
              case rel => exact ⟨_, rfl, rfl, Lib.hid (fun _ => HG.out)⟩
          case rest =>
            obtain ⟨bb, rfl, rfl, HG3⟩ := hcut
            cases bb
            case true => as_aux_lemma =>
              go_wp2
              go_ret
              exact HNO.out _ (HB3'.out.trans (HBX.out.mono hB3s))
            have G3 := Lib.hid (HG3.out rfl)
            clear HG3
            clear x3 x4 x5 x6 x7 x8
            obtain ⟨-, -, x3, x4, x5, x6, x7, x8⟩ := HW3.out _ HBX.out
            go_upto_if 104 with fail
            go_cut [3] from 82 to 191 (fun s wx => ∃ zn : Int, s = .int .i64 zn ∧ zz ≤ zn ∧ zn ≤ zz + 8000 ∧ Hid (zn ≤ 4000 → ∀ r, x.cn[t]? = some r → r.1.length ≤ 4000 ∧ r.2.2.length ≤ 4000) ∧ Hid (Below W3.heap.size W3 wx))
            case first => as_aux_lemma =>
              by_cases h4 : t < n4
              · obtain ⟨rfl, hb4⟩ := ha4 (by omega)
                obtain ⟨r, hr⟩ : ∃ x', x.cn[t]? = some x' := ⟨_, List.getElem?_eq_getElem (by rw [N4.out]; exact h4)⟩
                obtain ⟨d0, -, d1⟩ := L4.out t r hr
                rw [← HBX.out.cell (p := ⟨b4, o4 + t * 3, none⟩) hb4] at d0
                rw [← HBX.out.cell (p := ⟨b4, o4 + t * 3 + 2, none⟩) hb4] at d1
                have hft := HFT.out.cq _ (List.mem_of_getElem? hr)
                unfold maxLen at hft
                obtain ⟨P0, hP0⟩ : ∃ q : ByteArray, bsT r.1 = q := ⟨_, rfl⟩
                have sP0 : P0.size = r.1.length := by rw [← hP0, sizeOf, bytesOf]
                have zP0 : P0.size ≤ 9223372036854775807 := by rw [sP0]; exact hft.1
                rw [hP0] at d0
                obtain ⟨P1, hP1⟩ : ∃ q : ByteArray, bsT r.2.2 = q := ⟨_, rfl⟩
                have sP1 : P1.size = r.2.2.length := by rw [← hP1, sizeOf, bytesOf]
                have zP1 : P1.size ≤ 9223372036854775807 := by rw [sP1]; exact hft.2.2
                rw [hP1] at d1
                have HG : Hid (zz + (min (P0.size : Int) 4000 + min (P1.size : Int) 4000) ≤ 4000 → ∀ r, x.cn[t]? = some r → r.1.length ≤ 4000 ∧ r.2.2.length ≤ 4000) := Lib.hid (fun q r h => by rw [hr] at h; cases h; exact ⟨by omega, by omega⟩)
                clear hr hft hP0 sP0 hP1 sP1
                have e1 : IntKind.i64.wrap (min (P0.size : Int) 4000 + min (P1.size : Int) 4000) = min (P0.size : Int) 4000 + min (P1.size : Int) 4000 := IntWalk.i64_in _ (by omega)
                have e2 : IntKind.i64.wrap (zz + (min (P0.size : Int) 4000 + min (P1.size : Int) 4000)) = zz + (min (P0.size : Int) 4000 + min (P1.size : Int) 4000) := IntWalk.i64_in _ (by omega)
                have i0 : (0 : Int) ≤ (t : Int) := by omega
                have i1 : (t : Int) < (n4 : Int) := by omega
                have hs := And.intro x4 (And.intro d0 (And.intro d1 HBX.out))
                go_wp2
                have BE := fun (V : World) (h : V.cell? ⟨bx, 4, none⟩ = some (.slice (some ⟨b4, o4, none⟩) n4 m4) ∧ V.cell? ⟨b4, o4 + t * 3, none⟩ = some (.string P0) ∧ V.cell? ⟨b4, o4 + t * 3 + 2, none⟩ = some (.string P1) ∧ Below W3.heap.size W3 V) => AtF.be (w := W3) (l := [(⟨bx, 4, none⟩, .slice (some ⟨b4, o4, none⟩) n4 m4), (⟨b4, o4 + t * 3, none⟩, .string P0), (⟨b4, o4 + t * 3 + 2, none⟩, .string P1)]) h
                refine wp_region_held_drew (S := (fun V => V.cell? ⟨bx, 4, none⟩ = some (.slice (some ⟨b4, o4, none⟩) n4 m4) ∧ V.cell? ⟨b4, o4 + t * 3, none⟩ = some (.string P0) ∧ V.cell? ⟨b4, o4 + t * 3 + 2, none⟩ = some (.string P1) ∧ Below W3.heap.size W3 V)) (by kernel_rfl) ?_ (fun hHeld => ?_)
                · (try dsimp only); (first | assumption | exact hs | exact AtF.dr (w := W3) (l := [(⟨bx, 4, none⟩, .slice (some ⟨b4, o4, none⟩) n4 m4), (⟨b4, o4 + t * 3, none⟩, .string P0), (⟨b4, o4 + t * 3 + 2, none⟩, .string P1)]) hs | exact AtF.dr (w := W3) (l := [(⟨bx, 4, none⟩, .slice (some ⟨b4, o4, none⟩) n4 m4), (⟨b4, o4 + t * 3, none⟩, .string P0), (⟨b4, o4 + t * 3 + 2, none⟩, .string P1)]) (by assumption) | exact AtF.on (w := W3) (l := [(⟨bx, 4, none⟩, .slice (some ⟨b4, o4, none⟩) n4 m4), (⟨b4, o4 + t * 3, none⟩, .string P0), (⟨b4, o4 + t * 3 + 2, none⟩, .string P1)]) (by assumption) (by assumption) | exact AtF.al (w := W3) (l := [(⟨bx, 4, none⟩, .slice (some ⟨b4, o4, none⟩) n4 m4), (⟨b4, o4 + t * 3, none⟩, .string P0), (⟨b4, o4 + t * 3 + 2, none⟩, .string P1)]) (by assumption) _ | exact AtF.ald (w := W3) (l := [(⟨bx, 4, none⟩, .slice (some ⟨b4, o4, none⟩) n4 m4), (⟨b4, o4 + t * 3, none⟩, .string P0), (⟨b4, o4 + t * 3 + 2, none⟩, .string P1)]) (by assumption) _ | exact AtF.al (w := W3) (l := [(⟨bx, 4, none⟩, .slice (some ⟨b4, o4, none⟩) n4 m4), (⟨b4, o4 + t * 3, none⟩, .string P0), (⟨b4, o4 + t * 3 + 2, none⟩, .string P1)]) hs _ | exact AtF.ald (w := W3) (l := [(⟨bx, 4, none⟩, .slice (some ⟨b4, o4, none⟩) n4 m4), (⟨b4, o4 + t * 3, none⟩, .string P0), (⟨b4, o4 + t * 3 + 2, none⟩, .string P1)]) hs _)
                refine heldY 0 105 ?_ _ rfl rfl (by kernel_rfl) (by kernel_rfl) (by kernel_rfl) (fun _ _ _ h => h) rfl (by assumption) ?_ ?_
                rotate_left
                · (intro w hSw; (try dsimp only at hSw); go_simp; (try with_reducible rfl))
                try simp only [List.setIfInBounds_toArray, List.set_cons_zero, List.set_cons_succ]
                refine heldY 1 106 ?_ _ rfl rfl (by kernel_rfl) (by kernel_rfl) (by kernel_rfl) (fun _ _ _ h => h) rfl (by assumption) ?_ ?_
                rotate_left
                · (intro w hSw; (try dsimp only at hSw); go_simp; (try with_reducible rfl))
                try simp only [List.setIfInBounds_toArray, List.set_cons_zero, List.set_cons_succ]
                refine heldY 2 107 ?_ _ rfl rfl (by kernel_rfl) (by kernel_rfl) (by kernel_rfl) (fun _ _ _ h => h) rfl (by assumption) ?_ ?_
                rotate_left
                · (intro w hSw; (try dsimp only at hSw); go_simp; (try with_reducible rfl))
                try simp only [List.setIfInBounds_toArray, List.set_cons_zero, List.set_cons_succ]
                refine heldY 3 108 ?_ _ rfl rfl (by kernel_rfl) (by kernel_rfl) (by kernel_rfl) (fun _ _ _ h => h) rfl (by assumption) ?_ ?_
                rotate_left
                · (intro w hSw; (try dsimp only at hSw); go_simp; (try with_reducible rfl))
                try simp only [List.setIfInBounds_toArray, List.set_cons_zero, List.set_cons_succ]
                refine heldY 4 109 ?_ _ rfl rfl (by kernel_rfl) (by kernel_rfl) (by kernel_rfl) (fun _ _ _ h => h) rfl (by assumption) ?_ ?_
                rotate_left
                · (intro w hSw; (try dsimp only at hSw); go_simp; (try with_reducible rfl))
                try simp only [List.setIfInBounds_toArray, List.set_cons_zero, List.set_cons_succ]
                refine heldY 5 110 ?_ _ rfl rfl (by kernel_rfl) (by kernel_rfl) (by kernel_rfl) (fun _ _ _ h => h) rfl (by assumption) ?_ ?_
                rotate_left
                · (intro w hSw; (try dsimp only at hSw); go_simp; (try with_reducible rfl))
                try simp only [List.setIfInBounds_toArray, List.set_cons_zero, List.set_cons_succ]
                refine heldY 6 111 ?_ _ rfl rfl (by kernel_rfl) (by kernel_rfl) (by kernel_rfl) (fun _ _ _ h => h) rfl (by assumption) ?_ ?_
                rotate_left
                · (intro w hSw; (try dsimp only at hSw); go_simp; (try with_reducible rfl))
                try simp only [List.setIfInBounds_toArray, List.set_cons_zero, List.set_cons_succ]
                refine heldY 7 112 ?_ _ rfl rfl (by kernel_rfl) (by kernel_rfl) (by kernel_rfl) (fun _ _ _ h => h) rfl (by assumption) ?_ ?_
                rotate_left
                · (intro w hSw; (try dsimp only at hSw); go_simp; (try with_reducible rfl))
                try simp only [List.setIfInBounds_toArray, List.set_cons_zero, List.set_cons_succ]
                refine heldY 8 113 ?_ _ rfl rfl (by kernel_rfl) (by kernel_rfl) (by kernel_rfl) (fun _ _ _ h => h) rfl (by assumption) ?_ ?_
                rotate_left
                · (intro w hSw; (try dsimp only at hSw); go_simp; (try with_reducible rfl))
                try simp only [List.setIfInBounds_toArray, List.set_cons_zero, List.set_cons_succ]
                refine heldY 9 114 ?_ _ rfl rfl (by kernel_rfl) (by kernel_rfl) (by kernel_rfl) (fun _ _ _ h => h) rfl (by assumption) ?_ ?_
                rotate_left
                · (intro w hSw; (try dsimp only at hSw); go_simp; (try with_reducible rfl))
                try simp only [List.setIfInBounds_toArray, List.set_cons_zero, List.set_cons_succ]
                refine heldY 10 115 ?_ _ rfl rfl (by kernel_rfl) (by kernel_rfl) (by kernel_rfl) (fun _ _ _ h => h) rfl (by assumption) ?_ ?_
                rotate_left
                · (intro w hSw; (try dsimp only at hSw); go_simp; (try with_reducible rfl))
                try simp only [List.setIfInBounds_toArray, List.set_cons_zero, List.set_cons_succ]
                refine heldY 11 116 ?_ _ rfl rfl (by kernel_rfl) (by kernel_rfl) (by kernel_rfl) (fun _ _ _ h => h) rfl (by assumption) ?_ ?_
                rotate_left
                · (intro w hSw; (try dsimp only at hSw); go_simp; (try with_reducible rfl))
                try simp only [List.setIfInBounds_toArray, List.set_cons_zero, List.set_cons_succ]
                refine heldY 12 117 ?_ _ rfl rfl (by kernel_rfl) (by kernel_rfl) (by kernel_rfl) (fun _ _ _ h => h) rfl (by assumption) ?_ ?_
                rotate_left
                · (intro w hSw; (try dsimp only at hSw); go_simp; (try with_reducible rfl))
                try simp only [List.setIfInBounds_toArray, List.set_cons_zero, List.set_cons_succ]
                refine heldY 13 118 ?_ _ rfl rfl (by kernel_rfl) (by kernel_rfl) (by kernel_rfl) (fun _ _ _ h => h) rfl (by assumption) ?_ ?_
                rotate_left
                · (intro w hSw; (try dsimp only at hSw); go_simp; (try with_reducible rfl))
                try simp only [List.setIfInBounds_toArray, List.set_cons_zero, List.set_cons_succ]
                refine heldY 14 119 ?_ _ rfl rfl (by kernel_rfl) (by kernel_rfl) (by kernel_rfl) (fun _ _ _ h => h) rfl (by assumption) ?_ ?_
                rotate_left
                · (intro w hSw; (try dsimp only at hSw); go_simp; (try with_reducible rfl))
                try simp only [List.setIfInBounds_toArray, List.set_cons_zero, List.set_cons_succ]
                refine heldY 15 120 ?_ _ rfl rfl (by kernel_rfl) (by kernel_rfl) (by kernel_rfl) (fun _ _ _ h => h) rfl (by assumption) ?_ ?_
                rotate_left
                · (intro w hSw; (try dsimp only at hSw); go_simp; (try with_reducible rfl))
                try simp only [List.setIfInBounds_toArray, List.set_cons_zero, List.set_cons_succ]
                refine heldY 16 121 ?_ _ rfl rfl (by kernel_rfl) (by kernel_rfl) (by kernel_rfl) (fun _ _ _ h => h) rfl (by assumption) ?_ ?_
                rotate_left
                · (intro w hSw; (try dsimp only at hSw); go_simp; (try with_reducible rfl))
                try simp only [List.setIfInBounds_toArray, List.set_cons_zero, List.set_cons_succ]
                refine heldY 17 122 ?_ _ rfl rfl (by kernel_rfl) (by kernel_rfl) (by kernel_rfl) (fun _ _ _ h => h) rfl (by assumption) ?_ ?_
                rotate_left
                · (intro w hSw; (try dsimp only at hSw); go_simp; (try with_reducible rfl))
                try simp only [List.setIfInBounds_toArray, List.set_cons_zero, List.set_cons_succ]
                refine heldY 18 123 ?_ _ rfl rfl (by kernel_rfl) (by kernel_rfl) (by kernel_rfl) (fun _ _ _ h => h) rfl (by assumption) ?_ ?_
                rotate_left
                · (intro w hSw; (try dsimp only at hSw); go_simp; (try with_reducible rfl))
                try simp only [List.setIfInBounds_toArray, List.set_cons_zero, List.set_cons_succ]
                refine heldY 19 3 ?_ _ rfl rfl (by kernel_rfl) (by kernel_rfl) (by kernel_rfl) (fun _ _ _ h => h) rfl (by assumption) ?_ ?_
                rotate_left
                · (intro w hSw; (try dsimp only at hSw); go_simp; (try with_reducible rfl))
                try simp only [List.setIfInBounds_toArray, List.set_cons_zero, List.set_cons_succ]
                refine wpAnyH_done (by kernel_rfl) ?_ _
                have HW := Lib.hid (BE _ hHeld)
                clear hHeld e1 e2
                go_wp2
                go_meet
                case rel => exact ⟨_, rfl, by omega, by omega, HG, HW⟩
              · have HG : Hid (∀ r, x.cn[t]? = some r → r.1.length ≤ 4000 ∧ r.2.2.length ≤ 4000) := Lib.hid (fun r h => by have := (List.getElem?_eq_some_iff.1 h).1; rw [N4.out] at this; omega)
                go_wp2
                go_meet
                case rel => exact ⟨zz, rfl, by omega, by omega, Lib.hid (fun _ => HG.out), HBX⟩
            case rest =>
              obtain ⟨zz4, rfl, y4, z4y, G4, HB4⟩ := hcut
              clear x3 x4 x5 x6 x7 x8
              obtain ⟨-, -, x3, x4, x5, x6, x7, x8⟩ := HW3.out _ HB4.out
              go_upto_if 128 with fail
              go_cut [3] from 82 to 191 (fun s wx => ∃ zn : Int, s = .int .i64 zn ∧ zz4 ≤ zn ∧ zn ≤ zz4 + 8000 ∧ Hid (zn ≤ 4000 → ∀ r, x.rp[t]? = some r → r.length ≤ 4000) ∧ Hid (Below W3.heap.size W3 wx))
              case first => as_aux_lemma =>
                by_cases h5 : t < n5
                · obtain ⟨rfl, hb5⟩ := ha5 (by omega)
                  obtain ⟨r, hr⟩ : ∃ x', x.rp[t]? = some x' := ⟨_, List.getElem?_eq_getElem (by rw [N5.out]; exact h5)⟩
                  have d0 := L5.out t r hr
                  rw [← HB4.out.cell (p := ⟨b5, o5 + t, none⟩) hb5] at d0
                  have hft := HFT.out.rp _ (List.mem_of_getElem? hr)
                  unfold maxLen at hft
                  obtain ⟨P0, hP0⟩ : ∃ q : ByteArray, (⟨r.toArray⟩ : ByteArray) = q := ⟨_, rfl⟩
                  have sP0 : P0.size = r.length := by rw [← hP0, sizeOf, bytesOf]
                  have zP0 : P0.size ≤ 9223372036854775807 := by rw [sP0]; exact hft
                  rw [hP0] at d0
                  have HG : Hid (zz4 + (min (P0.size : Int) 4000) ≤ 4000 → ∀ r, x.rp[t]? = some r → r.length ≤ 4000) := Lib.hid (fun q r h => by rw [hr] at h; cases h; exact by omega)
                  clear hr hft hP0 sP0
                  have HW := HB4
                  go_wp2
                  go_meet
                  case rel => exact ⟨_, rfl, by omega, by omega, HG, HW⟩
                · have HG : Hid (∀ r, x.rp[t]? = some r → r.length ≤ 4000) := Lib.hid (fun r h => by have := (List.getElem?_eq_some_iff.1 h).1; rw [N5.out] at this; omega)
                  go_wp2
                  go_meet
                  case rel => exact ⟨zz4, rfl, by omega, by omega, Lib.hid (fun _ => HG.out), HB4⟩
              case rest =>
                obtain ⟨zz5, rfl, y5, z5y, G5, HB5⟩ := hcut
                clear x3 x4 x5 x6 x7 x8
                obtain ⟨-, -, x3, x4, x5, x6, x7, x8⟩ := HW3.out _ HB5.out
                go_upto_if 142 with fail
                go_cut [3] from 82 to 191 (fun s wx => ∃ zn : Int, s = .int .i64 zn ∧ zz5 ≤ zn ∧ zn ≤ zz5 + 8000 ∧ Hid (zn ≤ 4000 → ∀ r, x.cf[t]? = some r → r.1.length ≤ 4000 ∧ r.2.length ≤ 4000) ∧ Hid (Below W3.heap.size W3 wx))
                case first => as_aux_lemma =>
                  by_cases h6 : t < n6
                  · obtain ⟨rfl, hb6⟩ := ha6 (by omega)
                    obtain ⟨r, hr⟩ : ∃ x', x.cf[t]? = some x' := ⟨_, List.getElem?_eq_getElem (by rw [N6.out]; exact h6)⟩
                    obtain ⟨d0, d1⟩ := L6.out t r hr
                    rw [← HB5.out.cell (p := ⟨b6, o6 + t * 2, none⟩) hb6] at d0
                    rw [← HB5.out.cell (p := ⟨b6, o6 + t * 2 + 1, none⟩) hb6] at d1
                    have hft := HFT.out.cf _ (List.mem_of_getElem? hr)
                    unfold maxLen at hft
                    obtain ⟨P0, hP0⟩ : ∃ q : ByteArray, (⟨(r.1).toArray⟩ : ByteArray) = q := ⟨_, rfl⟩
                    have sP0 : P0.size = r.1.length := by rw [← hP0, sizeOf, bytesOf]
                    have zP0 : P0.size ≤ 9223372036854775807 := by rw [sP0]; exact hft.1
                    rw [hP0] at d0
                    obtain ⟨P1, hP1⟩ : ∃ q : ByteArray, (⟨(r.2).toArray⟩ : ByteArray) = q := ⟨_, rfl⟩
                    have sP1 : P1.size = r.2.length := by rw [← hP1, sizeOf, bytesOf]
                    have zP1 : P1.size ≤ 9223372036854775807 := by rw [sP1]; exact hft.2
                    rw [hP1] at d1
                    have HG : Hid (zz5 + (min (P0.size : Int) 4000 + min (P1.size : Int) 4000) ≤ 4000 → ∀ r, x.cf[t]? = some r → r.1.length ≤ 4000 ∧ r.2.length ≤ 4000) := Lib.hid (fun q r h => by rw [hr] at h; cases h; exact ⟨by omega, by omega⟩)
                    clear hr hft hP0 sP0 hP1 sP1
                    have e1 : IntKind.i64.wrap (min (P0.size : Int) 4000 + min (P1.size : Int) 4000) = min (P0.size : Int) 4000 + min (P1.size : Int) 4000 := IntWalk.i64_in _ (by omega)
                    have e2 : IntKind.i64.wrap (zz5 + (min (P0.size : Int) 4000 + min (P1.size : Int) 4000)) = zz5 + (min (P0.size : Int) 4000 + min (P1.size : Int) 4000) := IntWalk.i64_in _ (by omega)
                    have i0 : (0 : Int) ≤ (t : Int) := by omega
                    have i1 : (t : Int) < (n6 : Int) := by omega
                    have hs := And.intro x6 (And.intro d0 (And.intro d1 HB5.out))
                    go_wp2
                    have BE := fun (V : World) (h : V.cell? ⟨bx, 6, none⟩ = some (.slice (some ⟨b6, o6, none⟩) n6 m6) ∧ V.cell? ⟨b6, o6 + t * 2, none⟩ = some (.string P0) ∧ V.cell? ⟨b6, o6 + t * 2 + 1, none⟩ = some (.string P1) ∧ Below W3.heap.size W3 V) => AtF.be (w := W3) (l := [(⟨bx, 6, none⟩, .slice (some ⟨b6, o6, none⟩) n6 m6), (⟨b6, o6 + t * 2, none⟩, .string P0), (⟨b6, o6 + t * 2 + 1, none⟩, .string P1)]) h
                    refine wp_region_held_drew (S := (fun V => V.cell? ⟨bx, 6, none⟩ = some (.slice (some ⟨b6, o6, none⟩) n6 m6) ∧ V.cell? ⟨b6, o6 + t * 2, none⟩ = some (.string P0) ∧ V.cell? ⟨b6, o6 + t * 2 + 1, none⟩ = some (.string P1) ∧ Below W3.heap.size W3 V)) (by kernel_rfl) ?_ (fun hHeld => ?_)
                    · (try dsimp only); (first | assumption | exact hs | exact AtF.dr (w := W3) (l := [(⟨bx, 6, none⟩, .slice (some ⟨b6, o6, none⟩) n6 m6), (⟨b6, o6 + t * 2, none⟩, .string P0), (⟨b6, o6 + t * 2 + 1, none⟩, .string P1)]) hs | exact AtF.dr (w := W3) (l := [(⟨bx, 6, none⟩, .slice (some ⟨b6, o6, none⟩) n6 m6), (⟨b6, o6 + t * 2, none⟩, .string P0), (⟨b6, o6 + t * 2 + 1, none⟩, .string P1)]) (by assumption) | exact AtF.on (w := W3) (l := [(⟨bx, 6, none⟩, .slice (some ⟨b6, o6, none⟩) n6 m6), (⟨b6, o6 + t * 2, none⟩, .string P0), (⟨b6, o6 + t * 2 + 1, none⟩, .string P1)]) (by assumption) (by assumption) | exact AtF.al (w := W3) (l := [(⟨bx, 6, none⟩, .slice (some ⟨b6, o6, none⟩) n6 m6), (⟨b6, o6 + t * 2, none⟩, .string P0), (⟨b6, o6 + t * 2 + 1, none⟩, .string P1)]) (by assumption) _ | exact AtF.ald (w := W3) (l := [(⟨bx, 6, none⟩, .slice (some ⟨b6, o6, none⟩) n6 m6), (⟨b6, o6 + t * 2, none⟩, .string P0), (⟨b6, o6 + t * 2 + 1, none⟩, .string P1)]) (by assumption) _ | exact AtF.al (w := W3) (l := [(⟨bx, 6, none⟩, .slice (some ⟨b6, o6, none⟩) n6 m6), (⟨b6, o6 + t * 2, none⟩, .string P0), (⟨b6, o6 + t * 2 + 1, none⟩, .string P1)]) hs _ | exact AtF.ald (w := W3) (l := [(⟨bx, 6, none⟩, .slice (some ⟨b6, o6, none⟩) n6 m6), (⟨b6, o6 + t * 2, none⟩, .string P0), (⟨b6, o6 + t * 2 + 1, none⟩, .string P1)]) hs _)
                    refine heldY 0 143 ?_ _ rfl rfl (by kernel_rfl) (by kernel_rfl) (by kernel_rfl) (fun _ _ _ h => h) rfl (by assumption) ?_ ?_
                    rotate_left
                    · (intro w hSw; (try dsimp only at hSw); go_simp; (try with_reducible rfl))
                    try simp only [List.setIfInBounds_toArray, List.set_cons_zero, List.set_cons_succ]
                    refine heldY 1 144 ?_ _ rfl rfl (by kernel_rfl) (by kernel_rfl) (by kernel_rfl) (fun _ _ _ h => h) rfl (by assumption) ?_ ?_
                    rotate_left
                    · (intro w hSw; (try dsimp only at hSw); go_simp; (try with_reducible rfl))
                    try simp only [List.setIfInBounds_toArray, List.set_cons_zero, List.set_cons_succ]
                    refine heldY 2 145 ?_ _ rfl rfl (by kernel_rfl) (by kernel_rfl) (by kernel_rfl) (fun _ _ _ h => h) rfl (by assumption) ?_ ?_
                    rotate_left
                    · (intro w hSw; (try dsimp only at hSw); go_simp; (try with_reducible rfl))
                    try simp only [List.setIfInBounds_toArray, List.set_cons_zero, List.set_cons_succ]
                    refine heldY 3 146 ?_ _ rfl rfl (by kernel_rfl) (by kernel_rfl) (by kernel_rfl) (fun _ _ _ h => h) rfl (by assumption) ?_ ?_
                    rotate_left
                    · (intro w hSw; (try dsimp only at hSw); go_simp; (try with_reducible rfl))
                    try simp only [List.setIfInBounds_toArray, List.set_cons_zero, List.set_cons_succ]
                    refine heldY 4 147 ?_ _ rfl rfl (by kernel_rfl) (by kernel_rfl) (by kernel_rfl) (fun _ _ _ h => h) rfl (by assumption) ?_ ?_
                    rotate_left
                    · (intro w hSw; (try dsimp only at hSw); go_simp; (try with_reducible rfl))
                    try simp only [List.setIfInBounds_toArray, List.set_cons_zero, List.set_cons_succ]
                    refine heldY 5 148 ?_ _ rfl rfl (by kernel_rfl) (by kernel_rfl) (by kernel_rfl) (fun _ _ _ h => h) rfl (by assumption) ?_ ?_
                    rotate_left
                    · (intro w hSw; (try dsimp only at hSw); go_simp; (try with_reducible rfl))
                    try simp only [List.setIfInBounds_toArray, List.set_cons_zero, List.set_cons_succ]
                    refine heldY 6 149 ?_ _ rfl rfl (by kernel_rfl) (by kernel_rfl) (by kernel_rfl) (fun _ _ _ h => h) rfl (by assumption) ?_ ?_
                    rotate_left
                    · (intro w hSw; (try dsimp only at hSw); go_simp; (try with_reducible rfl))
                    try simp only [List.setIfInBounds_toArray, List.set_cons_zero, List.set_cons_succ]
                    refine heldY 7 150 ?_ _ rfl rfl (by kernel_rfl) (by kernel_rfl) (by kernel_rfl) (fun _ _ _ h => h) rfl (by assumption) ?_ ?_
                    rotate_left
                    · (intro w hSw; (try dsimp only at hSw); go_simp; (try with_reducible rfl))
                    try simp only [List.setIfInBounds_toArray, List.set_cons_zero, List.set_cons_succ]
                    refine heldY 8 151 ?_ _ rfl rfl (by kernel_rfl) (by kernel_rfl) (by kernel_rfl) (fun _ _ _ h => h) rfl (by assumption) ?_ ?_
                    rotate_left
                    · (intro w hSw; (try dsimp only at hSw); go_simp; (try with_reducible rfl))
                    try simp only [List.setIfInBounds_toArray, List.set_cons_zero, List.set_cons_succ]
                    refine heldY 9 152 ?_ _ rfl rfl (by kernel_rfl) (by kernel_rfl) (by kernel_rfl) (fun _ _ _ h => h) rfl (by assumption) ?_ ?_
                    rotate_left
                    · (intro w hSw; (try dsimp only at hSw); go_simp; (try with_reducible rfl))
                    try simp only [List.setIfInBounds_toArray, List.set_cons_zero, List.set_cons_succ]
                    refine heldY 10 153 ?_ _ rfl rfl (by kernel_rfl) (by kernel_rfl) (by kernel_rfl) (fun _ _ _ h => h) rfl (by assumption) ?_ ?_
                    rotate_left
                    · (intro w hSw; (try dsimp only at hSw); go_simp; (try with_reducible rfl))
                    try simp only [List.setIfInBounds_toArray, List.set_cons_zero, List.set_cons_succ]
                    refine heldY 11 154 ?_ _ rfl rfl (by kernel_rfl) (by kernel_rfl) (by kernel_rfl) (fun _ _ _ h => h) rfl (by assumption) ?_ ?_
                    rotate_left
                    · (intro w hSw; (try dsimp only at hSw); go_simp; (try with_reducible rfl))
                    try simp only [List.setIfInBounds_toArray, List.set_cons_zero, List.set_cons_succ]
                    refine heldY 12 155 ?_ _ rfl rfl (by kernel_rfl) (by kernel_rfl) (by kernel_rfl) (fun _ _ _ h => h) rfl (by assumption) ?_ ?_
                    rotate_left
                    · (intro w hSw; (try dsimp only at hSw); go_simp; (try with_reducible rfl))
                    try simp only [List.setIfInBounds_toArray, List.set_cons_zero, List.set_cons_succ]
                    refine heldY 13 156 ?_ _ rfl rfl (by kernel_rfl) (by kernel_rfl) (by kernel_rfl) (fun _ _ _ h => h) rfl (by assumption) ?_ ?_
                    rotate_left
                    · (intro w hSw; (try dsimp only at hSw); go_simp; (try with_reducible rfl))
                    try simp only [List.setIfInBounds_toArray, List.set_cons_zero, List.set_cons_succ]
                    refine heldY 14 157 ?_ _ rfl rfl (by kernel_rfl) (by kernel_rfl) (by kernel_rfl) (fun _ _ _ h => h) rfl (by assumption) ?_ ?_
                    rotate_left
                    · (intro w hSw; (try dsimp only at hSw); go_simp; (try with_reducible rfl))
                    try simp only [List.setIfInBounds_toArray, List.set_cons_zero, List.set_cons_succ]
                    refine heldY 15 158 ?_ _ rfl rfl (by kernel_rfl) (by kernel_rfl) (by kernel_rfl) (fun _ _ _ h => h) rfl (by assumption) ?_ ?_
                    rotate_left
                    · (intro w hSw; (try dsimp only at hSw); go_simp; (try with_reducible rfl))
                    try simp only [List.setIfInBounds_toArray, List.set_cons_zero, List.set_cons_succ]
                    refine heldY 16 159 ?_ _ rfl rfl (by kernel_rfl) (by kernel_rfl) (by kernel_rfl) (fun _ _ _ h => h) rfl (by assumption) ?_ ?_
                    rotate_left
                    · (intro w hSw; (try dsimp only at hSw); go_simp; (try with_reducible rfl))
                    try simp only [List.setIfInBounds_toArray, List.set_cons_zero, List.set_cons_succ]
                    refine heldY 17 160 ?_ _ rfl rfl (by kernel_rfl) (by kernel_rfl) (by kernel_rfl) (fun _ _ _ h => h) rfl (by assumption) ?_ ?_
                    rotate_left
                    · (intro w hSw; (try dsimp only at hSw); go_simp; (try with_reducible rfl))
                    try simp only [List.setIfInBounds_toArray, List.set_cons_zero, List.set_cons_succ]
                    refine heldY 18 161 ?_ _ rfl rfl (by kernel_rfl) (by kernel_rfl) (by kernel_rfl) (fun _ _ _ h => h) rfl (by assumption) ?_ ?_
                    rotate_left
                    · (intro w hSw; (try dsimp only at hSw); go_simp; (try with_reducible rfl))
                    try simp only [List.setIfInBounds_toArray, List.set_cons_zero, List.set_cons_succ]
                    refine heldY 19 3 ?_ _ rfl rfl (by kernel_rfl) (by kernel_rfl) (by kernel_rfl) (fun _ _ _ h => h) rfl (by assumption) ?_ ?_
                    rotate_left
                    · (intro w hSw; (try dsimp only at hSw); go_simp; (try with_reducible rfl))
                    try simp only [List.setIfInBounds_toArray, List.set_cons_zero, List.set_cons_succ]
                    refine wpAnyH_done (by kernel_rfl) ?_ _
                    have HW := Lib.hid (BE _ hHeld)
                    clear hHeld e1 e2
                    go_wp2
                    go_meet
                    case rel => exact ⟨_, rfl, by omega, by omega, HG, HW⟩
                  · have HG : Hid (∀ r, x.cf[t]? = some r → r.1.length ≤ 4000 ∧ r.2.length ≤ 4000) := Lib.hid (fun r h => by have := (List.getElem?_eq_some_iff.1 h).1; rw [N6.out] at this; omega)
                    go_wp2
                    go_meet
                    case rel => exact ⟨zz5, rfl, by omega, by omega, Lib.hid (fun _ => HG.out), HB5⟩
                case rest =>
                  obtain ⟨zz6, rfl, y6, z6y, G6, HB6⟩ := hcut
                  clear x3 x4 x5 x6 x7 x8
                  obtain ⟨-, -, x3, x4, x5, x6, x7, x8⟩ := HW3.out _ HB6.out
                  go_upto_if 166 with fail
                  go_cut [3] from 82 to 191 (fun s wx => ∃ zn : Int, s = .int .i64 zn ∧ zz6 ≤ zn ∧ zn ≤ zz6 + 8000 ∧ Hid (zn ≤ 4000 → ∀ r, x.pd[t]? = some r → r.length ≤ 4000) ∧ Hid (Below W3.heap.size W3 wx))
                  case first => as_aux_lemma =>
                    by_cases h7 : t < n7
                    · obtain ⟨rfl, hb7⟩ := ha7 (by omega)
                      obtain ⟨r, hr⟩ : ∃ x', x.pd[t]? = some x' := ⟨_, List.getElem?_eq_getElem (by rw [N7.out]; exact h7)⟩
                      have d0 := L7.out t r hr
                      rw [← HB6.out.cell (p := ⟨b7, o7 + t, none⟩) hb7] at d0
                      have hft := HFT.out.pd _ (List.mem_of_getElem? hr)
                      unfold maxLen at hft
                      obtain ⟨P0, hP0⟩ : ∃ q : ByteArray, (⟨r.toArray⟩ : ByteArray) = q := ⟨_, rfl⟩
                      have sP0 : P0.size = r.length := by rw [← hP0, sizeOf, bytesOf]
                      have zP0 : P0.size ≤ 9223372036854775807 := by rw [sP0]; exact hft
                      rw [hP0] at d0
                      have HG : Hid (zz6 + (min (P0.size : Int) 4000) ≤ 4000 → ∀ r, x.pd[t]? = some r → r.length ≤ 4000) := Lib.hid (fun q r h => by rw [hr] at h; cases h; exact by omega)
                      clear hr hft hP0 sP0
                      have HW := HB6
                      go_wp2
                      go_meet
                      case rel => exact ⟨_, rfl, by omega, by omega, HG, HW⟩
                    · have HG : Hid (∀ r, x.pd[t]? = some r → r.length ≤ 4000) := Lib.hid (fun r h => by have := (List.getElem?_eq_some_iff.1 h).1; rw [N7.out] at this; omega)
                      go_wp2
                      go_meet
                      case rel => exact ⟨zz6, rfl, by omega, by omega, Lib.hid (fun _ => HG.out), HB6⟩
                  case rest =>
                    obtain ⟨zz7, rfl, y7, z7y, G7, HB7⟩ := hcut
                    clear x3 x4 x5 x6 x7 x8
                    obtain ⟨-, -, x3, x4, x5, x6, x7, x8⟩ := HW3.out _ HB7.out
                    go_upto_if 180 with fail
                    go_cut [3] from 82 to 191 (fun s wx => ∃ zn : Int, s = .int .i64 zn ∧ zz7 ≤ zn ∧ zn ≤ zz7 + 8000 ∧ Hid (zn ≤ 4000 → ∀ r, x.aw[t]? = some r → r.length ≤ 4000) ∧ Hid (Below W3.heap.size W3 wx))
                    case first => as_aux_lemma =>
                      by_cases h8 : t < n8
                      · obtain ⟨rfl, hb8⟩ := ha8 (by omega)
                        obtain ⟨r, hr⟩ : ∃ x', x.aw[t]? = some x' := ⟨_, List.getElem?_eq_getElem (by rw [N8.out]; exact h8)⟩
                        have d0 := L8.out t r hr
                        rw [← HB7.out.cell (p := ⟨b8, o8 + t, none⟩) hb8] at d0
                        have hft := HFT.out.aw _ (List.mem_of_getElem? hr)
                        unfold maxLen at hft
                        obtain ⟨P0, hP0⟩ : ∃ q : ByteArray, (⟨r.toArray⟩ : ByteArray) = q := ⟨_, rfl⟩
                        have sP0 : P0.size = r.length := by rw [← hP0, sizeOf, bytesOf]
                        have zP0 : P0.size ≤ 9223372036854775807 := by rw [sP0]; exact hft
                        rw [hP0] at d0
                        have HG : Hid (zz7 + (min (P0.size : Int) 4000) ≤ 4000 → ∀ r, x.aw[t]? = some r → r.length ≤ 4000) := Lib.hid (fun q r h => by rw [hr] at h; cases h; exact by omega)
                        clear hr hft hP0 sP0
                        have HW := HB7
                        go_wp2
                        go_meet
                        case rel => exact ⟨_, rfl, by omega, by omega, HG, HW⟩
                      · have HG : Hid (∀ r, x.aw[t]? = some r → r.length ≤ 4000) := Lib.hid (fun r h => by have := (List.getElem?_eq_some_iff.1 h).1; rw [N8.out] at this; omega)
                        go_wp2
                        go_meet
                        case rel => exact ⟨zz7, rfl, by omega, by omega, Lib.hid (fun _ => HG.out), HB7⟩
                    case rest =>
                      obtain ⟨zz8, rfl, y8, z8y, G8, HB8⟩ := hcut
                      by_cases hbig : 4000 < zz8
                      · as_aux_lemma =>
                          go_wp2
                          go_ret
                          exact HNO.out _ (HB3'.out.trans (HB8.out.mono hB3s))
                      · have HU : Hid (20 + min (X.size : Int) 4000 + min (Y.size : Int) 4000 + min (T.size : Int) 4000 ≤ zz8 ∧ (0 < t + 1 → zz8 ≤ 4000) ∧ UptoU x (t + 1)) := Lib.hid ⟨by have := HV.out.1; omega, fun _ => by omega, HV.out.2.2.next G3.out (G4.out (by omega)) (G5.out (by omega)) (G6.out (by omega)) (G7.out (by omega)) (G8.out (by omega))⟩
                        clear G3 G4 G5 G6 G7 G8 HV
                        go_wp2
                        go_roundw
                        case rel => exact ⟨t + 1, zz8, by omega, by go_num, rfl, by omega, by omega, HU, HB8⟩
                        case measure => simp [intOf]; omega
        · obtain rfl : t = 70 := by omega
          have hz4 : zz ≤ 4000 := HV.out.2.1 (by omega)
          have HFR : Hid (FewR x) := Lib.hid (HV.out.2.2.few (by have := HV.out.1; rw [← HSX.out]; omega) (by have := HV.out.1; rw [← HSY.out]; omega) (by have := HV.out.1; rw [← HST.out]; omega) (by rw [N3.out]; omega) (by rw [N4.out]; omega) (by rw [N5.out]; omega) (by rw [N6.out]; omega) (by rw [N7.out]; omega) (by rw [N8.out]; omega))
          have HKN := Lib.hid (HKK.out HFR.out)
          have HBN := Lib.hid (HB3'.out.trans (HBX.out.mono hB3s))
          clear HV HFR HKK
          go_wp2
          go_roundw
          case rel => exact ⟨k + 1, zz, by omega, by go_num, rfl, by omega, hz4, HKN, HBN⟩
          case measure => simp [intOf]; omega
    · obtain rfl : k = n := by omega
      have HFF : Hid (FewU l) := Lib.hid ⟨by rw [HN.out]; omega, fun x hx => by
        obtain ⟨j, hj, rfl⟩ := List.mem_iff_getElem.1 hx
        exact HK.out j _ (by rw [← HN.out]; exact hj) (List.getElem?_eq_getElem hj)⟩
      clear hlt ha HK
      go_wp2
      go_ret
      exact HYES.out _ HFF.out HB.out
end Go.Proofs.YtkcamfcjkjiijaaGreatDoor
