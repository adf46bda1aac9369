/-
  cellarerlaw11's Few: it tells something; where it tells true the alternatives are few and small; nothing old turns.
-/
import Derived.Test.YtkcamfcjkjiijaaGreatDoorPZHold
namespace Go.Proofs.YtkcamfcjkjiijaaGreatDoor
open Go.RowKit
def FewAP (l : List Av) (w : World) (e : Ending) (w' : World) : Prop := ∃ fb : Bool, e = .returned (.bool fb) ∧ (fb = true → FewA l) ∧ Below w.heap.size w w'
set_option maxRecDepth 100000 in
set_option maxHeartbeats 16000000 in
theorem fewA_any (v : Value) (l : List Av) (hb : l.length ≤ maxLen) (hf : ∀ x ∈ l, FitA x) (w : World) (h : HoldA w v l) : Calls Tryz.prog 68 #[v] w (FewAP l w) := by
  have HIN := Lib.hid h.2
  obtain ⟨a, c, b, o, rfl, hc, ha, hcell⟩ := h.parts
  have HC := Lib.hid hcell
  have HF := Lib.hid hf
  have HNO : Hid (∀ w', Below w.heap.size w w' → FewAP l w (.returned (.bool false)) w') := Lib.hid (fun w' hb => ⟨false, rfl, (fun e => by cases e), hb⟩)
  have HYES : Hid (∀ w', FewA l → Below w.heap.size w w' → FewAP l w (.returned (.bool true)) w') := Lib.hid (fun w' hf hb => ⟨true, rfl, fun _ => hf, hb⟩)
  obtain ⟨n, hN⟩ : ∃ n, l.length = n := ⟨_, rfl⟩
  rw [hN] at hc ha hb ⊢
  have HN := Lib.hid hN
  unfold maxLen at hb
  clear hcell hN h hf
  by_cases h70 : 70 < n
  · go_enter Tryz.func68, Tryz.ntmps68
    go_wp2
    go_ret
    exact HNO.out _ (Below.refl _ _)
  go_enter Tryz.func68, Tryz.ntmps68
  go_wp2
  go_loopw [3, 4] (fun s i wr => ∃ k z : Nat, k ≤ n ∧ i = .int .i64 k ∧ s = .int .i64 z ∧ z ≤ 3000 ∧ Hid (∀ (j : Nat) x, j < k → l[j]? = some x → FewOne x) ∧ Hid (Below w.heap.size w wr)) (fun _ i _ => n - (intOf i).toNat)
  case atStart => exact ⟨0, 0, by omega, rfl, rfl, by omega, Lib.hid (fun j x hj => by omega), Lib.hid (Below.refl _ _)⟩
  case round =>
    obtain ⟨k, z, hk, rfl, rfl, hz, HK, HB⟩ := hrel
    have hsz := HB.out.size
    by_cases hlt : k < n
    · obtain ⟨rfl, hbw⟩ := ha (by omega)
      obtain ⟨⟨nm, lk, mn, cr, sl, ch, sv, cv⟩, hx⟩ : ∃ x, l[k]? = some x := ⟨_, List.getElem?_eq_getElem (by rw [HN.out]; exact hlt)⟩
      obtain ⟨c0, c1, c2, c3, c4, c5⟩ := HC.out k _ hx
      try dsimp only at c0 c1 c2 c3 c4 c5
      rw [← HB.out.cell (p := ⟨b, o + k * 6, none⟩) hbw] at c0
      rw [← HB.out.cell (p := ⟨b, o + k * 6 + 1, none⟩) hbw] at c1
      rw [← HB.out.cell (p := ⟨b, o + k * 6 + 2, none⟩) hbw] at c2
      rw [← HB.out.cell (p := ⟨b, o + k * 6 + 3, none⟩) hbw] at c3
      rw [← HB.out.cell (p := ⟨b, o + k * 6 + 4, none⟩) hbw] at c4
      rw [← HB.out.cell (p := ⟨b, o + k * 6 + 5, none⟩) hbw] at c5
      have hm := List.mem_of_getElem? hx
      have fit := HF.out _ hm
      obtain ⟨z1, z2, z3, z4, z5, z6, z7⟩ := fit
      try dsimp only at z1 z2 z3 z4 z5 z6 z7
      unfold maxLen at z1 z2 z3 z4 z5
      have B3 := (Below.refl wr.heap.size wr).alloc (Nat.le_refl _) (.cells #[.string (⟨nm.toArray⟩ : ByteArray), .string (⟨lk.toArray⟩ : ByteArray), .bool mn, .string (⟨cr.toArray⟩ : ByteArray), sv, cv] 115)
      have hin := (HIN.out _ hm).on (HB.out.trans (B3.mono hsz))
      have hS : HoldS _ sv sl := hin.1
      have hCh : HoldC _ cv ch := hin.2
      clear hin
      have HCI := Lib.hid hCh.2
      obtain ⟨sa, sc, sb, so, rfl, hsc, hsa, hscell⟩ := hS.parts
      obtain ⟨ca, cc, cb, co, rfl, hcc, hca, hccell⟩ := hCh.parts
      have HSC := Lib.hid hscell
      have HCC := Lib.hid hccell
      have HZ6 := Lib.hid z6
      have HZ7 := Lib.hid z7
      obtain ⟨x0, x1, x2, x3, x4, x5⟩ := boxV6 wr (.string (⟨nm.toArray⟩ : ByteArray)) (.string (⟨lk.toArray⟩ : ByteArray)) (.bool mn) (.string (⟨cr.toArray⟩ : ByteArray)) (.slice sa sl.length sc) (.slice ca ch.length cc) 115
      have HB3 := Lib.hid (HB.out.trans (B3.mono hsz))
      have HKK : Hid (nm.length ≤ 300 → lk.length ≤ 300 → cr.length ≤ 300 → sl.length ≤ 70 → ch.length ≤ 70 → (∀ s ∈ sl, FewS s) → (∀ c ∈ ch, FewC c) → ∀ (j : Nat) x, j < k + 1 → l[j]? = some x → FewOne x) := Lib.hid (fun g1 g2 g3 g4 g5 g6 g7 j y hj hy => by
        by_cases e : j = k
        · subst e; rw [hx] at hy; cases hy; exact ⟨g1, g2, g3, g4, g5, g6, g7⟩
        · exact HK.out j y (by omega) hy)
      obtain ⟨X, hX⟩ : ∃ X : ByteArray, (⟨nm.toArray⟩ : ByteArray) = X := ⟨_, rfl⟩
      obtain ⟨Y, hY⟩ : ∃ Y : ByteArray, (⟨lk.toArray⟩ : ByteArray) = Y := ⟨_, rfl⟩
      obtain ⟨U, hU⟩ : ∃ U : ByteArray, (⟨cr.toArray⟩ : ByteArray) = U := ⟨_, rfl⟩
      have sX : X.size = nm.length := by rw [← hX, sizeOf, bytesOf]
      have sY : Y.size = lk.length := by rw [← hY, sizeOf, bytesOf]
      have sU : U.size = cr.length := by rw [← hU, sizeOf, bytesOf]
      simp only [hX, hY, hU] at c0 c1 c3 x0 x1 x3 HB3 HSC HCC HCI x2 x4 x5 hsa hca B3
      obtain ⟨sn, hSN⟩ : ∃ sn, sl.length = sn := ⟨_, rfl⟩
      obtain ⟨cn, hCN⟩ : ∃ cn, ch.length = cn := ⟨_, rfl⟩
      rw [hSN] at z4 x4 c4 hsc hsa HKK
      rw [hCN] at z5 x5 c5 hcc hca HKK
      simp only [hSN, hCN] at HB3 HSC HCC HCI x0 x1 x2 x3 x4 x5 hsa hca B3
      have HSN := Lib.hid hSN
      have HCN := Lib.hid hCN
      rw [← sX, ← sY, ← sU] at HKK
      have zX : X.size ≤ 9223372036854775807 := by omega
      have zY : Y.size ≤ 9223372036854775807 := by omega
      have zU : U.size ≤ 9223372036854775807 := by omega
      clear hX hY hU sX sY sU z1 z2 z3 z6 z7 hx hm hS hCh hscell hccell hSN hCN HK B3
      by_cases g1 : 300 < X.size
      · go_wp2
        go_ret
        exact HNO.out _ HB3.out
      by_cases g2 : 300 < Y.size
      · go_wp2
        go_ret
        exact HNO.out _ HB3.out
      by_cases g3 : 300 < U.size
      · go_wp2
        go_ret
        exact HNO.out _ HB3.out
      by_cases g4 : 70 < sn
      · go_wp2
        go_ret
        exact HNO.out _ HB3.out
      by_cases g5 : 70 < cn
      · go_wp2
        go_ret
        exact HNO.out _ HB3.out
      go_wp2
      clear c0 c1 c2 c3 c4 c5
      have HKX := Lib.hid (HKK.out (by omega) (by omega) (by omega) (by omega) (by omega))
      clear HKK
      generalize wr.alloc (.cells #[.string X, .string Y, .bool mn, .string U, .slice sa sn sc, .slice ca cn cc] 115) = W3 at *
      generalize hbx : wr.heap.size = bx at *
      go_loop [6] (fun i => ∃ k2 : Nat, k2 ≤ sn ∧ i = .int .i64 k2 ∧ Hid (∀ (j : Nat) s, j < k2 → sl[j]? = some s → FewS s)) (fun i => sn - (intOf i).toNat)
      case atStart => exact ⟨0, by omega, rfl, Lib.hid (fun j s hj => by omega)⟩
      case round =>
        obtain ⟨k2, hk2, rfl, HS2⟩ := hrel
        by_cases hlt2 : k2 < sn
        · obtain ⟨rfl, hsb⟩ := hsa (by omega)
          obtain ⟨⟨s1, s2⟩, hs⟩ : ∃ s, sl[k2]? = some s := ⟨_, List.getElem?_eq_getElem (by rw [HSN.out]; exact hlt2)⟩
          obtain ⟨d0, d1⟩ := HSC.out k2 _ hs
          have fs := HZ6.out _ (List.mem_of_getElem? hs)
          unfold FitS maxLen at fs
          dsimp only at d0 d1 fs
          obtain ⟨S1, hS1⟩ : ∃ X : ByteArray, (⟨s1.toArray⟩ : ByteArray) = X := ⟨_, rfl⟩
          obtain ⟨S2, hS2⟩ : ∃ X : ByteArray, (⟨s2.toArray⟩ : ByteArray) = X := ⟨_, rfl⟩
          have t1 : S1.size = s1.length := by rw [← hS1, sizeOf, bytesOf]
          have t2 : S2.size = s2.length := by rw [← hS2, sizeOf, bytesOf]
          rw [hS1] at d0
          rw [hS2] at d1
          have HS3 : Hid (S1.size ≤ 300 → S2.size ≤ 300 → ∀ (j : Nat) s, j < k2 + 1 → sl[j]? = some s → FewS s) := Lib.hid (fun g1 g2 j s hj hy => by
            by_cases e : j = k2
            · subst e; rw [hs] at hy; cases hy; exact ⟨by show s1.length ≤ 300; omega, by show s2.length ≤ 300; omega⟩
            · exact HS2.out j s (by omega) hy)
          have y1 : S1.size ≤ 9223372036854775807 := by omega
          have y2 : S2.size ≤ 9223372036854775807 := by omega
          clear hS1 hS2 t1 t2 fs hs HS2
          by_cases e1 : 300 < S1.size
          · go_wp2
            go_ret
            exact HNO.out _ HB3.out
          by_cases e2 : 300 < S2.size
          · go_wp2
            go_ret
            exact HNO.out _ HB3.out
          have HS4 := Lib.hid (HS3.out (by omega) (by omega))
          clear HS3
          go_wp2
          go_round
          case rel => exact ⟨k2 + 1, by omega, by go_num, HS4⟩
          case measure => simp [intOf]; omega
        · obtain rfl : k2 = sn := by omega
          have HSS : Hid (∀ s ∈ sl, FewS s) := Lib.hid (fun s hs => by
            obtain ⟨j, hj⟩ := List.mem_iff_getElem?.1 hs
            exact HS2.out j s (by have := (List.getElem?_eq_some_iff.1 hj).1; rw [HSN.out] at this; exact this) hj)
          clear hlt2 HS2
          go_wp2
          go_loop [3, 7] (fun s i => ∃ k3 z : Nat, k3 ≤ cn ∧ i = .int .i64 k3 ∧ s = .int .i64 z ∧ z ≤ 3000 ∧ Hid (∀ (j : Nat) y, j < k3 → ch[j]? = some y → FewC y)) (fun _ i => cn - (intOf i).toNat)
          case atStart => exact ⟨0, z, by omega, rfl, rfl, hz, Lib.hid (fun j s hj => by omega)⟩
          case round =>
            obtain ⟨k3, zz, hk3, rfl, rfl, hzz, HC3⟩ := hrel
            by_cases hlt3 : k3 < cn
            · obtain ⟨rfl, hcb⟩ := hca (by omega)
              obtain ⟨⟨⟨p, pr, qs⟩, qv⟩, hy⟩ : ∃ y, ch[k3]? = some y := ⟨_, List.getElem?_eq_getElem (by rw [HCN.out]; exact hlt3)⟩
              obtain ⟨d0, d1, d2⟩ := HCC.out k3 _ hy
              have fc := HZ7.out _ (List.mem_of_getElem? hy)
              have hq := HCI.out _ (List.mem_of_getElem? hy)
              unfold FitC maxLen at fc
              dsimp only at d0 d1 d2 fc hq
              obtain ⟨qa, qc, qb, qo, rfl, hqc, hqa, hqcell⟩ := hq
              have HQC := Lib.hid hqcell
              obtain ⟨f1, f2, f3⟩ := fc
              have HF3 := Lib.hid f3
              obtain ⟨P1, hP1⟩ : ∃ X : ByteArray, (⟨p.toArray⟩ : ByteArray) = X := ⟨_, rfl⟩
              have t1 : P1.size = p.length := by rw [← hP1, sizeOf, bytesOf]
              rw [hP1] at d0
              obtain ⟨qn, hQN⟩ : ∃ qn, qs.length = qn := ⟨_, rfl⟩
              have HC4 : Hid (P1.size ≤ 300 → qn ≤ 70 → (∀ q ∈ qs, q.length ≤ 3000) → ∀ (j : Nat) y, j < k3 + 1 → ch[j]? = some y → FewC y) := Lib.hid (fun g1 g2 g3 j y' hj hy' => by
                by_cases e : j = k3
                · subst e; rw [hy] at hy'; cases hy'; exact ⟨by show p.length ≤ 300; omega, by show qs.length ≤ 70; omega, g3⟩
                · exact HC3.out j y' (by omega) hy')
              rw [hQN] at d2 hqc hqa f2
              have HQN := Lib.hid hQN
              have y1 : P1.size ≤ 9223372036854775807 := by omega
              clear hP1 t1 f1 f3 hy HC3 hqcell hQN
              by_cases e1 : 300 < P1.size
              · go_wp2
                go_ret
                exact HNO.out _ HB3.out
              by_cases e2 : 70 < qn
              · go_wp2
                go_ret
                exact HNO.out _ HB3.out
              have HC5 := Lib.hid (HC4.out (by omega) (by omega))
              clear HC4
              go_wp2
              go_loop [3, 8] (fun s i => ∃ k4 z : Nat, k4 ≤ qn ∧ i = .int .i64 k4 ∧ s = .int .i64 z ∧ z ≤ 3000 ∧ Hid (∀ (j : Nat) y, j < k4 → qs[j]? = some y → y.length ≤ 3000)) (fun _ i => qn - (intOf i).toNat)
              case atStart => exact ⟨0, zz, by omega, rfl, rfl, hzz, Lib.hid (fun j s hj => by omega)⟩
              case round =>
                obtain ⟨k4, z4, hk4, rfl, rfl, hz4, HQ4⟩ := hrel
                by_cases hlt4 : k4 < qn
                · obtain ⟨rfl, hqb⟩ := hqa (by omega)
                  obtain ⟨q, hq⟩ : ∃ y, qs[k4]? = some y := ⟨_, List.getElem?_eq_getElem (by rw [HQN.out]; exact hlt4)⟩
                  have e0 := HQC.out k4 _ hq
                  have fq := HF3.out _ (List.mem_of_getElem? hq)
                  obtain ⟨Q1, hQ1⟩ : ∃ X : ByteArray, (⟨q.toArray⟩ : ByteArray) = X := ⟨_, rfl⟩
                  have t1 : Q1.size = q.length := by rw [← hQ1, sizeOf, bytesOf]
                  rw [hQ1] at e0
                  have HQ5 : Hid (Q1.size ≤ 3000 → ∀ (j : Nat) y, j < k4 + 1 → qs[j]? = some y → y.length ≤ 3000) := Lib.hid (fun g1 j y' hj hy' => by
                    by_cases e : j = k4
                    · subst e; rw [hq] at hy'; cases hy'; omega
                    · exact HQ4.out j y' (by omega) hy')
                  have yq : Q1.size ≤ 9223372036854775807 := by omega
                  clear hQ1 t1 fq hq HQ4
                  obtain ⟨m, hmn, hmc⟩ : ∃ m : Nat, min (Q1.size : Int) 3000 = (m : Int) ∧ ((m = Q1.size ∧ Q1.size ≤ 3000) ∨ m = 3000) := by
                    by_cases g : Q1.size ≤ 3000
                    · exact ⟨Q1.size, by omega, .inl ⟨rfl, g⟩⟩
                    · exact ⟨3000, by omega, .inr rfl⟩
                  have hm3 : m ≤ 3000 := by omega
                  by_cases g : 3000 < z4 + (1 + m)
                  · have gz : (3000 : Int) < (z4 : Int) + (1 + (m : Int)) := by omega
                    go_wp2
                    go_ret
                    exact HNO.out _ HB3.out
                  · have hmle : Q1.size ≤ 3000 := by omega
                    have HQ6 := Lib.hid (HQ5.out hmle)
                    clear HQ5
                    have gz : ¬ (3000 : Int) < (z4 : Int) + (1 + (m : Int)) := by omega
                    go_wp2
                    go_round
                    case rel => exact ⟨k4 + 1, z4 + (1 + m), by omega, by go_num, by go_num, by omega, HQ6⟩
                    case measure => simp [intOf]; omega
                · obtain rfl : k4 = qn := by omega
                  have HQQ : Hid (∀ q ∈ qs, q.length ≤ 3000) := Lib.hid (fun q hq => by
                    obtain ⟨j, hj⟩ := List.mem_iff_getElem?.1 hq
                    exact HQ4.out j q (by have := (List.getElem?_eq_some_iff.1 hj).1; rw [HQN.out] at this; exact this) hj)
                  have HC6 := Lib.hid (HC5.out HQQ.out)
                  clear hlt4 HQ4 HC5
                  go_wp2
                  go_round
                  case rel => exact ⟨k3 + 1, z4, by omega, by go_num, rfl, hz4, HC6⟩
                  case measure => simp [intOf]; omega
            · obtain rfl : k3 = cn := by omega
              have HCCC : Hid (∀ y ∈ ch, FewC y) := Lib.hid (fun y hy => by
                obtain ⟨j, hj⟩ := List.mem_iff_getElem?.1 hy
                exact HC3.out j y (by have := (List.getElem?_eq_some_iff.1 hj).1; rw [HCN.out] at this; exact this) hj)
              have HKY := Lib.hid (HKX.out HSS.out HCCC.out)
              clear hlt3 HC3 HKX HSS HCCC
              by_cases g : 3000 < zz + (k2 + k3)
              · have gz : (3000 : Int) < (zz : Int) + ((k2 : Int) + (k3 : Int)) := by omega
                go_wp2
                go_ret
                exact HNO.out _ HB3.out
              · have gz : ¬ (3000 : Int) < (zz : Int) + ((k2 : Int) + (k3 : Int)) := by omega
                go_wp2
                go_roundw
                case rel => exact ⟨k + 1, zz + (k2 + k3), by omega, by go_num, by go_num, by omega, HKY, HB3⟩
                case measure => simp [intOf]; omega
    · obtain rfl : k = n := by omega
      have HX : Hid (FewA l) := Lib.hid ⟨by rw [HN.out]; omega, fun x hx => by
        obtain ⟨j, hj⟩ := List.mem_iff_getElem?.1 hx
        exact HK.out j x (by have := (List.getElem?_eq_some_iff.1 hj).1; rw [HN.out] at this; exact this) hj⟩
      clear hlt HK
      go_wp2
      go_ret
      exact HYES.out _ HX.out HB.out
end Go.Proofs.YtkcamfcjkjiijaaGreatDoor
