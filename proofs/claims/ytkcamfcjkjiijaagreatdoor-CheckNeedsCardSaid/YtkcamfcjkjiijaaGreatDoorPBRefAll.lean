/-
  The reference's All and List, of relations of any size: what each returns; nothing old turns.
-/
import Derived.Test.YtkcamfcjkjiijaaGreatDoorPQGroup2
import Derived.Test.YtkcamfcjkjiijaaGreatDoorPQAll
import Derived.Test.YtkcamfcjkjiijaaGreatDoorPOdMath
import Derived.Test.YtkcamfcjkjiijaaGreatDoorPQOnes
namespace Go.Proofs.YtkcamfcjkjiijaaGreatDoor
open Go.RowKit
set_option maxHeartbeats 2000000 in
theorem nameBig_ref (s : ByteArray) (hs : s.size ≤ maxLen) (w : World) : Calls Tryz.prog 106 #[.string s] w fun e w' => e = .returned (.bool (nameB s.data.toList)) ∧ w = w' := by
  unfold maxLen at hs
  obtain ⟨B, HB⟩ : ∃ B, Hid (nameB s.data.toList = B) := ⟨_, rfl⟩
  rw [HB.out]
  go_enter Tryz.func106, Tryz.ntmps106
  go_wp2
  go_loop [3] (fun i => ∃ k : Nat, k ≤ s.size ∧ i = .int .i64 k ∧ Hid (NameTo s.data.toList k)) (fun i => s.size - (intOf i).toNat)
  case atStart => exact ⟨0, by omega, rfl, Lib.hid ⟨by simp, fun h => absurd h (by omega)⟩⟩
  case round =>
    obtain ⟨k, hk, rfl, H⟩ := hrel
    by_cases hlt : k < s.size
    · have hc := s[k].toNat_lt
      rcases cls s[k].toNat with h | h | h | h
      · have HN : Hid (NameTo s.data.toList (k + 1)) := Lib.hid (nameTo_next hlt H.out ((inB_iff _).2 (.inl ((alB_iff _).2 (.inl h)))) (fun _ => (alB_iff _).2 (.inl h)))
        obtain ⟨ha, hb⟩ := h
        go_wp2
        go_round
        case rel => exact ⟨k + 1, by omega, by go_num, HN⟩
        case measure => simp [intOf]; omega
      · have HN : Hid (NameTo s.data.toList (k + 1)) := Lib.hid (nameTo_next hlt H.out ((inB_iff _).2 (.inl ((alB_iff _).2 (.inr h)))) (fun _ => (alB_iff _).2 (.inr h)))
        obtain ⟨ha, hb⟩ := h
        go_wp2
        go_round
        case rel => exact ⟨k + 1, by omega, by go_num, HN⟩
        case measure => simp [intOf]; omega
      · have hm : markB s[k] = true := (markB_iff _).2 h
        have hna : ¬ alB s[k] = true := fun e => by have := (alB_iff _).1 e; omega
        by_cases hk0 : k = 0
        · have HR : Hid (false = B) := Lib.hid (by rw [← HB.out]; exact (name_bad0 (by omega) (by subst hk0; exact hna)).symm)
          have hkb : ((k : Int) == 0) = true := by simp [hk0]
          clear hm hna hk0
          rcases h with h | h | h
          all_goals
            go_wp2
            go_ret
            exact ⟨ret_bool HR.out, rfl⟩
        · have HN : Hid (NameTo s.data.toList (k + 1)) := Lib.hid (nameTo_next hlt H.out ((inB_iff _).2 (.inr hm)) (fun e => absurd e hk0))
          have hkb : ((k : Int) == 0) = false := by simp [hk0]
          clear hm hna
          rcases h with h | h | h
          all_goals
            go_wp2
            go_round
            case rel => exact ⟨k + 1, by omega, by go_num, HN⟩
            case measure => simp [intOf]; omega
      · have HR : Hid (false = B) := Lib.hid (by rw [← HB.out]; exact (name_bad hlt (inB_no (fun e => by have := (alB_iff _).1 e; omega) (fun e => by have := (markB_iff _).1 e; omega))).symm)
        rcases h with h | ⟨h, h'⟩ | ⟨h, h1, h2, h3⟩
        · go_wp2
          go_ret
          exact ⟨ret_bool HR.out, rfl⟩
        · go_wp2
          go_ret
          exact ⟨ret_bool HR.out, rfl⟩
        · have h1' : ((s[k].toNat : Int) == 43) = false := by simp; omega
          have h2' : ((s[k].toNat : Int) == 45) = false := by simp; omega
          have h3' : ((s[k].toNat : Int) == 46) = false := by simp; omega
          go_wp2
          go_ret
          exact ⟨ret_bool HR.out, rfl⟩
    · obtain rfl : k = s.size := by omega
      have HE := Lib.hid ((name_end H.out).symm.trans HB.out)
      clear hlt HB H
      by_cases h1 : 1 ≤ s.size
      · go_wp2
        go_ret
        exact ⟨ret_bool (by rw [← HE.out, decide_eq_true h1, Bool.true_and, Bool.eq_iff_iff]; simp only [decide_eq_true_eq]; omega), rfl⟩
      · go_wp2
        go_ret
        exact ⟨ret_bool (by rw [← HE.out, decide_eq_false h1]; simp), rfl⟩
set_option maxRecDepth 100000 in
set_option maxHeartbeats 8000000 in
theorem parseBig_ref (s : ByteArray) (hs : s.size ≤ maxLen) (w : World) : Calls Tryz.prog 107 #[.string s] w (ParsePost s.data.toList w) := by
  have hl := sizeOf s
  by_cases h4 : s.size ≤ 4000
  · exact parse_ref s h4 w
  have h80 : 80 < s.size := by omega
  · have HP : Hid (∀ e w', e = .returned (.tuple #[.agg #[.int .i64 0, .string ⟨#[]⟩, .string ⟨#[]⟩], .int .i64 8]) → Below w.heap.size w w' → ParsePost s.data.toList w e w') := Lib.hid (fun e w' h g => ⟨by rw [parseV_long (by omega)]; exact h, g⟩)
    clear hl
    unfold maxLen at hs
    go_enter Tryz.func107, Tryz.ntmps107
    go_wp2
    exact bodyPost_ret (v := .tuple #[.agg #[.int .i64 0, .string ⟨#[]⟩, .string ⟨#[]⟩], .int .i64 8]) (by simp [results, Tryz.results107, go_sem]) rfl (HP.out _ _ rfl ((((Below.refl _ _).alloc (Nat.le_refl _) _).alloc (by simp) _).alloc (by simp; omega) _))
set_option maxRecDepth 100000 in
set_option maxHeartbeats 8000000 in
theorem rightQBig_ref (n o v : ByteArray) (hn : n.size ≤ maxLen) (hv : v.size ≤ maxLen) (w : World) :
    Calls Tryz.prog 90 #[.agg #[.string n, .string o, .string v]] w fun e w' => e = .returned (.bool (rightR (n.data.toList, o.data.toList, v.data.toList))) ∧ Below w.heap.size w w' := by
  have NM := fun w => nameBig_ref n hn w
  have PV := fun w => parseBig_ref v hv w
  unfold ParsePost parseV verV at PV
  obtain ⟨R, hR⟩ : ∃ R, rightR (n.data.toList, o.data.toList, v.data.toList) = R := ⟨_, rfl⟩
  have hrt := right_to (n.data.toList, o.data.toList, v.data.toList)
  rw [hR] at hrt ⊢
  have hez := emptyT o
  have hev := emptyT v
  have e1 := eqTL o [60, 60]
  have e2 := eqTL o [60, 61]
  have e3 := eqTL o [61]
  have e4 := eqTL o [62, 61]
  have e5 := eqTL o [62, 62]
  have hal : ∀ (o : Obj), Below w.heap.size w (w.alloc o) := fun o => (Below.refl _ _).alloc (Nat.le_refl _) _
  have HAL := Lib.hid hal
  have hbn := box3New w n o v 75
  clear hR hal
  cases hrt with
  | name h =>
    simp only [] at h
    simp only [h] at NM
    clear e1 e2 e3 e4 e5 hez hev
    go_enter Tryz.func90, Tryz.ntmps90
    go_wp2_with (go_at_call 106; (with_reducible refine (NM _).mono ?_); rintro e w1 ⟨rfl, rfl⟩)
    go_ret
    exact ⟨rfl, HAL.out _⟩
  | bare h h2 =>
    simp only [] at h h2
    simp only [h] at NM
    have ho : o.size = 0 := by rw [sizeOf, h2]; rfl
    rw [decide_eq_true ho] at hez
    have hvv : decide (v.data.toList = []) = decide (v.size = 0) := by
      congr 1
      rw [sizeOf, List.length_eq_zero_iff]
    simp only [hvv]
    rw [← hev]
    clear e1 e2 e3 e4 e5 ho h h2 hev hvv
    go_enter Tryz.func90, Tryz.ntmps90
    go_wp2_with (go_at_call 106; (with_reducible refine (NM _).mono ?_); rintro e w1 ⟨rfl, rfl⟩)
    go_ret
    exact ⟨rfl, HAL.out _⟩
  | op h h2 =>
    simp only [] at h h2
    simp only [h] at NM
    have ho : ¬ o.size = 0 := fun e => h2 (List.eq_nil_of_length_eq_zero (by rw [← sizeOf]; exact e))
    rw [decide_eq_false ho] at hez
    obtain ⟨b1, b2, b3, b4, b5, g1, g2, g3, g4, g5, hop⟩ : ∃ b1 b2 b3 b4 b5, (o.toList == [60, 60]) = b1 ∧ (o.toList == [60, 61]) = b2 ∧ (o.toList == [61]) = b3 ∧ (o.toList == [62, 61]) = b4 ∧ (o.toList == [62, 62]) = b5 ∧ opB o.data.toList = ((((b1 || b2) || b3) || b4) || b5) := ⟨_, _, _, _, _, e1, e2, e3, e4, e5, rfl⟩
    have hways : (b1 = true) ∨ (b1 = false ∧ b2 = true) ∨ (b1 = false ∧ b2 = false ∧ b3 = true) ∨ (b1 = false ∧ b2 = false ∧ b3 = false ∧ b4 = true) ∨ (b1 = false ∧ b2 = false ∧ b3 = false ∧ b4 = false ∧ b5 = true) ∨ (b1 = false ∧ b2 = false ∧ b3 = false ∧ b4 = false ∧ b5 = false) := by
      cases b1 <;> cases b2 <;> cases b3 <;> cases b4 <;> cases b5 <;> simp
    obtain ⟨k, hk⟩ : ∃ k : Int, (parseE v.data.toList).2 = k := ⟨_, rfl⟩
    obtain ⟨z, hz⟩ : ∃ z : Int, (parseE v.data.toList).1.1 = z := ⟨_, rfl⟩
    obtain ⟨U, hU⟩ : ∃ U : ByteArray, (⟨((parseE v.data.toList).1.2.1).toArray⟩ : ByteArray) = U := ⟨_, rfl⟩
    obtain ⟨V, hV⟩ : ∃ V : ByteArray, (⟨((parseE v.data.toList).1.2.2).toArray⟩ : ByteArray) = V := ⟨_, rfl⟩
    simp only [hk, hz, hU, hV] at PV ⊢
    obtain ⟨kb, hkb⟩ : ∃ kb, (k == 0) = kb := ⟨_, rfl⟩
    have hkd : decide (k = 0) = kb := by rw [← hkb]; rfl
    rw [hkd]
    obtain ⟨p0, p1, p2⟩ := hbn
    have HBX := Lib.hid (And.intro p0 (And.intro p1 p2))
    clear e1 e2 e3 e4 e5 ho h h2 hev hk hz hU hV hkd
    rcases hways with rfl | ⟨rfl, rfl⟩ | ⟨rfl, rfl, rfl⟩ | ⟨rfl, rfl, rfl, rfl⟩ | ⟨rfl, rfl, rfl, rfl, rfl⟩ | ⟨rfl, rfl, rfl, rfl, rfl⟩
    all_goals
      simp only [Bool.true_or, Bool.or_true, Bool.or_false] at hop
      rw [hop]
      clear hop
      go_enter Tryz.func90, Tryz.ntmps90
      go_wp2_with (first
        | (go_at_call 106; (with_reducible refine (NM _).mono ?_); rintro e w1 ⟨rfl, rfl⟩)
        | (go_at_call 107; (with_reducible refine (PV _).mono ?_); rintro e w2 ⟨rfl, hb⟩; obtain ⟨q0, q1, q2⟩ := box3 HBX.out (hb.trans ((Below.refl _ w2).alloc hb.size (.cells #[.int .i64 z, .string U, .string V] 147))); have HB := Lib.hid (((HAL.out _).trans (hb.mono (HAL.out _).size)).alloc (Nat.le_trans (HAL.out _).size hb.size) (.cells #[.int .i64 z, .string U, .string V] 147)); clear hb))
      go_ret
      exact ⟨rfl, HB.out⟩
end Go.Proofs.YtkcamfcjkjiijaaGreatDoor
namespace Go.Proofs.YtkcamfcjkjiijaaGreatDoor
open Go.RowKit
set_option maxRecDepth 100000 in
set_option maxHeartbeats 16000000 in
theorem allEBig_ref (v : Value) (l : List Gv) (hl : l.length ≤ 500) (hs : BigG l) (w : World) (h : HoldGs w v l) : Calls Tryz.prog 67 #[v] w (TwoP (allE (fsts l)) w) := by
  obtain ⟨i0, hi, hz0, hz1, hz2'⟩ := info_parts infoT
  obtain ⟨a, c, b, o, rfl, hc, ha, hcell⟩ := h.parts
  have hfl : (fsts l).length = l.length := List.length_map ..
  have HE : Hid (allE (fsts l) = if decide (64 < l.length) || (fsts l).any longG then ([], 22) else if (fsts l).any badG then ([], 1) else (textA (fsts l), 0)) := Lib.hid (by unfold allE; rw [hfl])
  have HC := Lib.hid hcell
  have HG := Lib.hid h
  have HS := Lib.hid hs
  obtain ⟨n, hN⟩ : ∃ n, l.length = n := ⟨_, rfl⟩
  rw [hN] at hc ha hl HE ⊢
  have HN := Lib.hid hN
  clear hcell hN h hs hfl
  have H22 : Hid ((decide (64 < n) = true ∨ (fsts l).any longG = true) → ∀ w', Below w.heap.size w w' → TwoP (allE (fsts l)) w (.returned (.tuple #[.string ⟨#[]⟩, .int .i64 22])) w') := Lib.hid (fun hq w' hb => ⟨by rw [HE.out, if_pos (by rcases hq with e | e <;> rw [e] <;> simp)], hb⟩)
  have H1 : Hid (decide (64 < n) = false → (fsts l).any longG = false → (fsts l).any badG = true → ∀ w', Below w.heap.size w w' → TwoP (allE (fsts l)) w (.returned (.tuple #[.string ⟨#[]⟩, .int .i64 1])) w') := Lib.hid (fun q1 q2 q3 w' hb => ⟨by rw [HE.out, if_neg (by rw [q1, q2]; simp), if_pos q3], hb⟩)
  have H0 : Hid (decide (64 < n) = false → (fsts l).any longG = false → (fsts l).any badG = false → ∀ R w', R = bsT (textA (fsts l)) → Below w.heap.size w w' → TwoP (allE (fsts l)) w (.returned (.tuple #[.string R, .int .i64 0])) w') := Lib.hid (fun q1 q2 q3 R w' hR hb => ⟨by rw [HE.out, if_neg (by rw [q1, q2]; simp), if_neg (by rw [q3]; simp), hR], hb⟩)
  clear HE
  go_enter Tryz.func67, Tryz.ntmps67
  go_wp2
  go_loop [4] (fun i => ∃ k : Nat, k ≤ n ∧ i = .int .i64 k ∧ Hid (∀ (j : Nat) y, j < k → l[j]? = some y → longG y.1 = false)) (fun i => n - (intOf i).toNat)
  case atStart => exact ⟨0, by omega, rfl, Lib.hid (fun j y hj => by omega)⟩
  case round =>
    obtain ⟨k, hk, rfl, H⟩ := hrel
    by_cases hlt : k < n
    · obtain ⟨rfl, hbw⟩ := ha (by omega)
      obtain ⟨⟨g0, sv⟩, hx⟩ : ∃ x, l[k]? = some x := ⟨_, List.getElem?_eq_getElem (by rw [HN.out]; exact hlt)⟩
      have hgx := HG.out.2 _ (List.mem_of_getElem? hx)
      have hsm := HS.out _ (List.mem_of_getElem? hx)
      have c0 := HC.out k _ hx
      dsimp only at c0 hgx hsm
      obtain ⟨sa, sc, -, -, hsv, -⟩ := hgx.parts
      subst hsv
      by_cases h64 : 64 < g0.length
      · have G := Lib.hid (H22.out (.inr (long_hit hx (by unfold longG; exact decide_eq_true h64))))
        have hsz := hsm.2
        generalize g0.length = gn at *
        clear hx hgx hsm H H1 H0
        go_wp2
        go_ret2
        exact G.out _ (Below.refl _ _)
      · have HX : Hid (∀ (j : Nat) y, j < k + 1 → l[j]? = some y → longG y.1 = false) := Lib.hid (fun j y hj hy => by
          by_cases e : j = k
          · subst e
            rw [hx] at hy; cases hy
            unfold longG; exact decide_eq_false h64
          · exact H.out j y (by omega) hy)
        have hsz := hsm.2
        generalize g0.length = gn at *
        clear hx hgx hsm H
        go_wp2
        go_round
        case rel => exact ⟨k + 1, by omega, by go_num, HX⟩
        case measure => simp [intOf]; omega
    · obtain rfl : k = n := by omega
      have HLG := Lib.hid (long_miss (fun j y hy => H.out j y (by have := (List.getElem?_eq_some_iff.1 hy).1; rw [HN.out] at this; exact this) hy))
      clear hlt H
      by_cases h64 : 64 < k
      · have G := Lib.hid (H22.out (.inl (decide_eq_true h64)))
        clear H1 H0
        go_wp2
        go_ret2
        exact G.out _ (Below.refl _ _)
      have G1 := Lib.hid (H1.out (decide_eq_false h64) HLG.out)
      have G0 := Lib.hid (H0.out (decide_eq_false h64) HLG.out)
      clear H1 H0 H22 HLG
      go_wp2
      go_loopw [5, 6] (fun u i wr => ∃ k' : Nat, k' ≤ k ∧ i = .int .i64 k' ∧ Hid (OwnT wr w.heap.size u ((fsts (l.take k')).map textG)) ∧ Hid (∀ (j : Nat) y, j < k' → l[j]? = some y → badG y.1 = false) ∧ Hid (Below w.heap.size w wr)) (fun _ i _ => k - (intOf i).toNat)
      case atStart => exact ⟨0, by omega, rfl, Lib.hid (OwnT.nil _ _), Lib.hid (fun j y hj => by omega), Lib.hid (Below.refl _ _)⟩
      case round =>
        obtain ⟨t, ht, rfl, HO, H, HB⟩ := hrel
        have hsz := HB.out.size
        obtain ⟨wo, rfl⟩ : ∃ wo : World, wo = wr := ⟨_, rfl⟩
        by_cases hlt : t < k
        · obtain ⟨rfl, hbw⟩ := ha (by omega)
          obtain ⟨⟨g0, sv⟩, hx⟩ : ∃ x, l[t]? = some x := ⟨_, List.getElem?_eq_getElem (by rw [HN.out]; exact hlt)⟩
          have hgx := HG.out.2 _ (List.mem_of_getElem? hx)
          have hsm := HS.out _ (List.mem_of_getElem? hx)
          have c0 := HC.out t _ hx
          dsimp only at c0 hgx hsm
          have HC0 : Hid (∀ W, Below w.heap.size w W → W.cell? ⟨b, o + t, none⟩ = some sv) := Lib.hid (fun W hW => (hW.cell (p := ⟨b, o + t, none⟩) hbw).trans c0)
          obtain ⟨sa, sc, sb, so, hsv, hsc, hsa, hscell⟩ := hgx.parts
          subst hsv
          have HIC := Lib.hid hscell
          have HSM := Lib.hid hsm
          obtain ⟨m, hM⟩ : ∃ m, g0.length = m := ⟨_, rfl⟩
          have hm500 : m ≤ 500 := by rw [← hM]; exact hsm.2
          rw [hM] at hsc hsa HC0
          have HM := Lib.hid hM
          have HX := Lib.hid hx
          clear hx hgx hsm c0 hscell hM
          go_wp2
          go_loopw [7, 8] (fun own i wr => ∃ q : Nat, q ≤ m ∧ i = .int .i64 q ∧ Hid (OwnT wr wo.heap.size own ((g0.take q).map textR)) ∧ Hid (∀ (j : Nat) y, j < q → g0[j]? = some y → rightR y = true) ∧ Hid (Below wo.heap.size wo wr)) (fun _ i _ => m - (intOf i).toNat)
          case atStart => exact ⟨0, by omega, rfl, Lib.hid (OwnT.nil _ _), Lib.hid (fun j y hj => by omega), Lib.hid (Below.refl _ _)⟩
          case round =>
            obtain ⟨q, hq, rfl, HO2, H2, HB2⟩ := hrel
            have HBW := Lib.hid (HB.out.trans (HB2.out.mono hsz))
            have hszw := HBW.out.size
            have hszo := HB2.out.size
            have c0 := HC0.out _ HBW.out
            by_cases hqm : q < m
            · obtain ⟨rfl, hsbw⟩ := hsa (by omega)
              obtain ⟨⟨p, z, y⟩, hf⟩ : ∃ f, g0[q]? = some f := ⟨_, List.getElem?_eq_getElem (by rw [HM.out]; exact hqm)⟩
              obtain ⟨d0, d1, d2⟩ := HIC.out q _ hf
              have hx3 := HSM.out.1 _ (List.mem_of_getElem? hf)
              dsimp only at d0 d1 d2 hx3
              rw [← HBW.out.cell (p := ⟨sb, so + q * 3, none⟩) hsbw] at d0
              rw [← HBW.out.cell (p := ⟨sb, so + q * 3 + 1, none⟩) hsbw] at d1
              rw [← HBW.out.cell (p := ⟨sb, so + q * 3 + 2, none⟩) hsbw] at d2
              have RR := fun W => rightQBig_ref (bsT p) (bsT z) (bsT y) (by rw [sizeOf, bytesOf]; omega) (by rw [sizeOf, bytesOf]; omega) W
              have TX := fun (hrr : rightR (p, z, y) = true) W => text_ref7 (bsT p) (bsT z) (bsT y) (by rw [sizeOf, bytesOf]; exact Nat.le_trans (smallR_right hrr).1 (by omega)) (by rw [sizeOf, bytesOf]; exact Nat.le_trans (smallR_right hrr).2.1 (by omega)) (by rw [sizeOf, bytesOf]; exact Nat.le_trans (smallR_right hrr).2.2 (by omega)) W
              rw [bytesOf, bytesOf, bytesOf] at RR TX
              obtain ⟨T, hT⟩ : ∃ T : ByteArray, (⟨(textR (p, z, y)).toArray⟩ : ByteArray) = T := ⟨_, rfl⟩
              have HT : Hid (T.data.toList = textR (p, z, y)) := Lib.hid (by rw [← hT])
              rw [hT] at TX
              have HSN := map_snocQ textR hf
              have hlen : ((g0.take q).map textR).length = q := by rw [List.length_map, List.length_take, HM.out]; omega
              obtain ⟨L, hLL⟩ : ∃ L, (g0.take q).map textR = L := ⟨_, rfl⟩
              rw [hLL] at HO2 hlen HSN
              have HSN := Lib.hid HSN
              have HLEN := Lib.hid hlen
              obtain ⟨r, hr⟩ : ∃ r, rightR (p, z, y) = r := ⟨_, rfl⟩
              rw [hr] at RR
              have HF := Lib.hid hf
              generalize bsT p = P at *
              generalize bsT z = Z at *
              generalize bsT y = Y at *
              cases r
              · have HBAD : Hid (badG g0 = true) := Lib.hid (by unfold badG; rw [all_badQ HF.out hr]; simp)
                have G := Lib.hid (G1.out (bad_hit HX.out HBAD.out))
                clear hf hT hlen hx3 hLL hr TX HO2 H2 H
                go_wp2_with (go_at_call 90; (with_reducible refine (RR _).mono ?_); rintro e w4 ⟨rfl, hb⟩; have HB4 := Lib.hid (HBW.out.trans (hb.mono hszw)); clear hb RR)
                go_ret2
                exact G.out _ HB4.out
              · have H3 : Hid (∀ (j : Nat) y, j < q + 1 → g0[j]? = some y → rightR y = true) := Lib.hid (fun j y hj hy => by
                  by_cases e : j = q
                  · subst e; rw [HF.out] at hy; cases hy; exact hr
                  · exact H2.out j y (by omega) hy)
                have TX := TX hr
                clear hf hT hlen hx3 hLL hr H2
                go_wp2_with (first
                  | (go_at_call 90; (with_reducible refine (RR _).mono ?_); rintro e w4 ⟨rfl, hb⟩; have hb4 := HB2.out.trans (hb.mono hszo); have HB4 := Lib.hid hb4; have HBW4 := Lib.hid (HB.out.trans (hb4.mono hsz)); have c1 := HC0.out _ HBW4.out; have e0 := (hb.cell (p := ⟨sb, so + q * 3, none⟩) (Nat.lt_of_lt_of_le hsbw hszw)).trans d0; have e1 := (hb.cell (p := ⟨sb, so + q * 3 + 1, none⟩) (Nat.lt_of_lt_of_le hsbw hszw)).trans d1; have e2 := (hb.cell (p := ⟨sb, so + q * 3 + 2, none⟩) (Nat.lt_of_lt_of_le hsbw hszw)).trans d2; have HO4 := Lib.hid (OwnT.onQ HO2.out hb); clear hb hb4 RR d0 d1 d2 c0 HO2)
                  | (go_at_call 91; (with_reducible refine (TX _).mono ?_); rintro e w5 ⟨rfl, hb⟩; have HB5 := Lib.hid (HB4.out.trans (hb.mono HB4.out.size)); have HO5 := Lib.hid (OwnT.onQ HO4.out hb); have hz5 := HB5.out.size; clear hb TX)
                  | (at_builtin; refine wpList_append_own _ rfl _ _ 33 rfl wo.heap.size 9 i0 _ 1 16 Tryz.underlying33 hi hz0 hz1 hz2' rfl (by decide) _ _ _ rfl (World.ownsRow.alloc HO5.out _) ⟨w5.heap.size, 0, none⟩ 1 1 [.string T] rfl rfl (by intro j u hj; match j, hj with | 0, hj => simp at hj; subst hj; simp [Addr.add]) (by intro u hu; simp at hu; subst hu; rfl) (by rw [HLEN.out]; unfold maxLen; omega) (by rw [HLEN.out]; omega) (by simp; omega) ?_))
                intro v' w6 hown' hgrow _
                have HO6 : Hid (OwnT w6 wo.heap.size v' ((g0.take (q + 1)).map textR)) := Lib.hid (by rw [HSN.out]; exact OwnT.app HT.out hown')
                have HB6 : Hid (Below wo.heap.size wo w6) := Lib.hid (belowG HB5.out HO5.out hgrow (Nat.le_refl _) hz5)
                clear hown' hgrow
                go_wp2
                go_roundw
                case rel => exact ⟨q + 1, by omega, by go_num, HO6, H3, HB6⟩
                case measure => simp [intOf]; omega
            · obtain rfl : q = m := by omega
              have hall : g0.all rightR = true := all_takeQ (fun j y hy => H2.out j y (by have := (List.getElem?_eq_some_iff.1 hy).1; rw [HM.out] at this; exact this) hy)
              have HTK : Hid ((g0.take q).map textR = g0.map textR) := Lib.hid (by rw [List.take_of_length_le (by rw [HM.out]; omega)])
              have hown := HO2.out
              rw [HTK.out] at hown
              obtain ⟨oa, oc, hov⟩ := OwnT.formQ hown
              rw [List.length_map, HM.out] at hov
              subst hov
              by_cases h0 : q = 0
              · have G := Lib.hid (G1.out (bad_hit HX.out (by unfold badG; rw [HM.out, decide_eq_true h0]; rfl)))
                have e1 : ((q : Int) == 0) = true := by rw [h0]; rfl
                clear hown hall H2 H HO2 h0
                go_wp2
                go_ret2
                exact G.out _ HBW.out
              · have HNB : Hid (badG g0 = false) := Lib.hid (by unfold badG; rw [HM.out, decide_eq_false h0, hall]; rfl)
                have e1 : ((q : Int) == 0) = false := by rw [beq_eq_false_iff_ne]; omega
                have J := join6_any ⟨#[32, 124, 32]⟩ (by decide) _ (g0.map textR) (by rw [List.length_map, HM.out]; omega) (fun p hp => by
                  obtain ⟨x, hx, rfl⟩ := List.mem_map.1 hp
                  have := textR_len (smallR_right (List.all_eq_true.1 hall x hx)); omega) wr hown.holds
                obtain ⟨T, hT⟩ : ∃ T : ByteArray, bsT (Lib.join (g0.map textR) (ByteArray.mk #[32, 124, 32]).data.toList) = T := ⟨_, rfl⟩
                have HT : Hid (T.data.toList = textG g0) := Lib.hid (by rw [← hT]; rfl)
                rw [hT] at J
                have HNX : Hid (∀ (j : Nat) y, j < t + 1 → l[j]? = some y → badG y.1 = false) := Lib.hid (fun j y hj hy => by
                  by_cases e : j = t
                  · subst e; rw [HX.out] at hy; cases hy; exact HNB.out
                  · exact H.out j y (by omega) hy)
                have hsn : (fsts (l.take (t + 1))).map textG = (fsts (l.take t)).map textG ++ [textG g0] := by
                  rw [take_snocQ HX.out]; simp [fsts]
                have hlen : ((fsts (l.take t)).map textG).length = t := by rw [List.length_map, List.length_map, List.length_take, HN.out]; omega
                have HOW := Lib.hid (OwnT.onQ HO.out HB2.out)
                obtain ⟨L, hLL⟩ : ∃ L, (fsts (l.take t)).map textG = L := ⟨_, rfl⟩
                rw [hLL] at hsn hlen HOW
                have HSN := Lib.hid hsn
                have HLEN := Lib.hid hlen
                clear hown hall H2 H HO2 h0 hT hsn hlen hLL HO
                go_wp2_with (first
                  | (go_at_call 92; (with_reducible refine J.mono ?_); rintro e w4 ⟨rfl, rfl⟩; clear J)
                  | (at_builtin; refine wpList_append_own _ rfl _ _ 33 rfl w.heap.size 9 i0 _ 1 16 Tryz.underlying33 hi hz0 hz1 hz2' rfl (by decide) _ _ _ rfl (World.ownsRow.alloc HOW.out _) ⟨wr.heap.size, 0, none⟩ 1 1 [.string T] rfl rfl (by intro j u hj; match j, hj with | 0, hj => simp at hj; subst hj; simp [Addr.add]) (by intro u hu; simp at hu; subst hu; rfl) (by rw [HLEN.out]; unfold maxLen; omega) (by rw [HLEN.out]; omega) (by simp; omega) ?_))
                intro v' w6 hown' hgrow _
                have HO6 : Hid (OwnT w6 w.heap.size v' ((fsts (l.take (t + 1))).map textG)) := Lib.hid (by rw [HSN.out]; exact OwnT.app HT.out hown')
                have HB6 : Hid (Below w.heap.size w w6) := Lib.hid (belowG HBW.out HOW.out hgrow (Nat.le_refl _) hszw)
                clear hown' hgrow
                go_wp2
                go_roundw
                case rel => exact ⟨t + 1, by omega, by go_num, HO6, HNX, HB6⟩
                case measure => simp [intOf]; omega
        · obtain rfl : t = k := by omega
          have HTK : Hid ((fsts (l.take t)).map textG = (fsts l).map textG) := Lib.hid (by rw [List.take_of_length_le (by rw [HN.out]; omega)])
          have G := Lib.hid (G0.out (bad_miss (fun j y hy => H.out j y (by have := (List.getElem?_eq_some_iff.1 hy).1; rw [HN.out] at this; exact this) hy)))
          have hown := HO.out
          rw [HTK.out] at hown
          have J := join6_any ⟨#[44, 32]⟩ (by decide) _ ((fsts l).map textG) (by rw [List.length_map, List.length_map, HN.out]; omega) (fun p hp => by
            obtain ⟨g, hg, rfl⟩ := List.mem_map.1 hp
            obtain ⟨x, hx, rfl⟩ := List.mem_map.1 hg
            have hh := HS.out x hx
            obtain ⟨j, hj⟩ := List.mem_iff_getElem?.1 hx
            have hb := H.out j x (by have := (List.getElem?_eq_some_iff.1 hj).1; rw [HN.out] at this; exact this) hj
            have := textG_len (smallQ_right (goodG_right (by rw [hb]; simp))) hh.2; omega) wo hown.holds
          clear hlt H hown HO
          go_wp2_with (go_at_call 92; (with_reducible refine J.mono ?_); rintro e w4 ⟨rfl, rfl⟩; clear J)
          go_ret2
          exact G.out _ _ (by unfold textA fsts; rw [List.map_map]) HB.out
end Go.Proofs.YtkcamfcjkjiijaaGreatDoor
