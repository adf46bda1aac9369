/-
  The program's Order, Parse, Compare and Holds of versions at any size. Condition: LaidV.
-/
import Derived.Test.YtkcamfcjkjiijaaGreatDoorPNdA
namespace Go.Proofs.YtkcamfcjkjiijaaGreatDoor
open Go.RowKit
set_option maxRecDepth 100000 in
set_option maxHeartbeats 16000000 in
theorem order_anyB (a b : ByteArray) (ha : a.size ≤ 9223372036854775807) (hb : b.size ≤ 9223372036854775807) (w : World) : Calls Tryz.prog 134 #[.string a, .string b] w fun e w' => e = .returned (.int .i64 (order a.data.toList b.data.toList)) ∧ Below w.heap.size w w' := by
  obtain ⟨R, HR⟩ : ∃ R, Hid (order a.data.toList b.data.toList = R) := ⟨_, rfl⟩
  rw [HR.out]
  go_enter Tryz.func134, Tryz.ntmps134
  go_wp2
  go_step3
  go_wp2
  go_step3
  go_wp2
  go_loopg [0, 1] (a.size + b.size) (fun g x y wr => ∃ A B : ByteArray, x = .string A ∧ y = .string B ∧ A.size ≤ 9223372036854775807 ∧ B.size ≤ 9223372036854775807 ∧ A.size + B.size ≤ g ∧ Hid (order A.data.toList B.data.toList = R) ∧ Hid (Below w.heap.size w wr))
  case atStart => exact ⟨a, b, rfl, rfl, ha, hb, Nat.le_refl _, HR, Lib.hid (Below.refl _ _)⟩
  case round =>
    obtain ⟨A, B, rfl, rfl, hA, hB, hg, H, HB⟩ := hrel
    clear HR ha hb
    by_cases he : A.size = 0 ∧ B.size = 0
    · obtain ⟨h1, h2⟩ := he
      have e1 : A.toList.isEmpty = true := by rw [emptyT, decide_eq_true h1]
      have e2 : B.toList.isEmpty = true := by rw [emptyT, decide_eq_true h2]
      have HZ : Hid (R = 0) := Lib.hid (by rw [← H.out, nil_of h1, nil_of h2]; exact order_end)
      clear h1 h2 H
      go_wp2
      try rw [Exit.noGoto_ret]
      go_ret
      exact ⟨reti HZ.out.symm, HB.out⟩
    · have HE : Hid (A.toList.isEmpty = false ∨ (A.toList.isEmpty = true ∧ B.toList.isEmpty = false)) := Lib.hid (by
        rw [emptyT, emptyT]
        by_cases h1 : A.size = 0
        · have h2 : ¬ B.size = 0 := fun h2 => he ⟨h1, h2⟩
          right; simp [h1, h2]
        · left; simp [h1])
      have HNE := Lib.hid he
      clear he
      have W1 := fun w => weight_any A w
      have W2 := fun w => weight_any B w
      have CI := fun x y w => cmpI x y w
      by_cases hxy : atW A.data.toList = atW B.data.toList
      · by_cases hx0 : atW A.data.toList = 0
        · have HS := Lib.hid (order_num hx0 (hxy ▸ hx0))
          have HLT : Hid (((noughts A.data.toList).dropWhile dgB).length + ((noughts B.data.toList).dropWhile dgB).length < A.size + B.size) := Lib.hid (by
            have a1 := (noughts_take A.data.toList).2
            have b1 := (noughts_take B.data.toList).2
            rw [a1, b1]
            have la := sizeOf A
            have lb := sizeOf B
            have ka := drop_le A.data.toList
            have kb := drop_le B.data.toList
            by_cases h1 : A.size = 0
            · have : B.data.toList ≠ [] := fun e => HNE.out ⟨h1, by rw [sizeOf, e]; rfl⟩
              have := stop_lt (hxy ▸ hx0) this
              omega
            · have : A.data.toList ≠ [] := fun e => h1 (by rw [sizeOf, e]; rfl)
              have := stop_lt hx0 this
              omega)
          rw [hx0] at W1
          rw [← hxy, hx0] at W2
          have T1 := fun w => trim_any A w
          have T2 := fun w => trim_any B w
          obtain ⟨A1, hA1⟩ : ∃ A1 : ByteArray, A1 = ⟨(noughts A.data.toList).toArray⟩ := ⟨_, rfl⟩
          obtain ⟨B1, hB1⟩ : ∃ B1 : ByteArray, B1 = ⟨(noughts B.data.toList).toArray⟩ := ⟨_, rfl⟩
          have lA : A1.data.toList = noughts A.data.toList := by rw [hA1]
          have lB : B1.data.toList = noughts B.data.toList := by rw [hB1]
          have sA : A1.size ≤ A.size := by rw [sizeOf, lA, sizeOf]; exact (List.dropWhile_sublist _).length_le
          have sB : B1.size ≤ B.size := by rw [sizeOf, lB, sizeOf]; exact (List.dropWhile_sublist _).length_le
          rw [← hA1] at T1
          rw [← hB1] at T2
          have HS2 : Hid (R = if numR 0 A1.data.toList B1.data.toList ≠ 0 then numR 0 A1.data.toList B1.data.toList else order (A1.data.toList.dropWhile dgB) (B1.data.toList.dropWhile dgB)) := Lib.hid (by rw [lA, lB, ← H.out]; exact HS.out)
          have HL2 : Hid ((A1.data.toList.dropWhile dgB).length + (B1.data.toList.dropWhile dgB).length < A.size + B.size) := Lib.hid (by rw [lA, lB]; exact HLT.out)
          obtain ⟨V, HV⟩ : ∃ V, Hid (numR 0 A1.data.toList B1.data.toList = V) := ⟨_, rfl⟩
          obtain ⟨P, HP⟩ : ∃ P, Hid (A1.data.toList.dropWhile dgB = P) := ⟨_, rfl⟩
          obtain ⟨Q, HQ⟩ : ∃ Q, Hid (B1.data.toList.dropWhile dgB = Q) := ⟨_, rfl⟩
          have HSR : Hid (R = if V ≠ 0 then V else order P Q) := Lib.hid (by rw [← HV.out, ← HP.out, ← HQ.out]; exact HS2.out)
          have HPQ : Hid (P.length + Q.length < A.size + B.size) := Lib.hid (by rw [← HP.out, ← HQ.out]; exact HL2.out)
          clear hA1 hB1 lA lB HS HS2 HL2 HLT hxy hx0 H HNE CI
          rcases HE.out with e1 | ⟨e1, e2⟩ <;> clear HE
          all_goals
            go_wp2_with (first | (go_at_call 156; first | ((with_reducible refine (W1 _).mono ?_); clear W1; rintro e w1 ⟨rfl, rfl⟩) | ((with_reducible refine (W2 _).mono ?_); clear W2; rintro e w1 ⟨rfl, rfl⟩)) | (go_at_call 157; first | ((with_reducible refine (T1 _).mono ?_); clear T1; rintro e w1 ⟨rfl, rfl⟩) | ((with_reducible refine (T2 _).mono ?_); clear T2; rintro e w1 ⟨rfl, rfl⟩)))
            go_loopg [0, 1, 7] (A1.size + B1.size) (fun g x y f wx => ∃ (X Y : ByteArray) (z : Int), x = .string X ∧ y = .string Y ∧ f = .int .i64 z ∧ X.size ≤ 9223372036854775807 ∧ Y.size ≤ 9223372036854775807 ∧ X.size + Y.size ≤ g ∧ Hid (numR z X.data.toList Y.data.toList = V ∧ X.data.toList.dropWhile dgB = P ∧ Y.data.toList.dropWhile dgB = Q) ∧ Hid (Below w.heap.size w wx))
            case atStart => exact ⟨A1, B1, 0, rfl, rfl, rfl, by omega, by omega, Nat.le_refl _, Lib.hid ⟨HV.out, HP.out, HQ.out⟩, HB⟩
            case round =>
              obtain ⟨X, Y, z, rfl, rfl, rfl, hX, hY, hg2, HI, HB2⟩ := hrel
              have D1 := fun w => begins_any X w
              have D2 := fun w => begins_any Y w
              clear HV HP HQ HB
              cases hx : headDg X.data.toList
              · cases hy : headDg Y.data.toList
                · rw [hx] at D1
                  rw [hy] at D2
                  have hv := numR_end z hx hy
                  have hp := (take_none hx).2
                  have hq := (take_none hy).2
                  rw [HI.out.1] at hv
                  rw [HI.out.2.1] at hp
                  rw [HI.out.2.2] at hq
                  by_cases hz : z = 0
                  · have HN : Hid (order X.data.toList Y.data.toList = R) := Lib.hid (by rw [HSR.out, hv, if_neg (by omega), hp, hq])
                    have HM : X.size + Y.size < A.size + B.size := by have := HPQ.out; rw [hp, hq] at this; rw [sizeOf X, sizeOf Y]; exact this
                    subst hz
                    clear hv hp hq hx hy HI
                    go_wp2_with (go_at_call 158; first | ((with_reducible refine (D1 _).mono ?_); clear D1; rintro e w1 ⟨rfl, rfl⟩) | ((with_reducible refine (D2 _).mono ?_); clear D2; rintro e w1 ⟨rfl, rfl⟩))
                    go_roundg (X.size + Y.size)
                    case measure => omega
                    case rel => exact ⟨X, Y, rfl, rfl, hX, hY, Nat.le_refl _, HN, HB2⟩
                  · have HN : Hid (z = R) := Lib.hid (by rw [HSR.out, hv, if_pos hz])
                    have hz' : (z != 0) = true := by simpa using hz
                    clear hv hp hq hx hy HI hz
                    go_wp2_with (go_at_call 158; first | ((with_reducible refine (D1 _).mono ?_); clear D1; rintro e w1 ⟨rfl, rfl⟩) | ((with_reducible refine (D2 _).mono ?_); clear D2; rintro e w1 ⟨rfl, rfl⟩))
                    try rw [Exit.noGoto_ret]
                    go_ret
                    exact ⟨reti HN.out, HB2.out⟩
                · rw [hx] at D1
                  rw [hy] at D2
                  have HN : Hid (-1 = R) := Lib.hid (by rw [HSR.out, ← HI.out.1, numR_b z hx hy, if_pos (by decide)])
                  clear hx hy HI
                  go_wp2_with (go_at_call 158; first | ((with_reducible refine (D1 _).mono ?_); clear D1; rintro e w1 ⟨rfl, rfl⟩) | ((with_reducible refine (D2 _).mono ?_); clear D2; rintro e w1 ⟨rfl, rfl⟩))
                  try rw [Exit.noGoto_ret]
                  go_ret
                  exact ⟨reti HN.out, HB2.out⟩
              · cases hy : headDg Y.data.toList
                · rw [hx] at D1
                  rw [hy] at D2
                  have HN : Hid (1 = R) := Lib.hid (by rw [HSR.out, ← HI.out.1, numR_a z hx hy, if_pos (by decide)])
                  clear hx hy HI
                  go_wp2_with (go_at_call 158; first | ((with_reducible refine (D1 _).mono ?_); clear D1; rintro e w1 ⟨rfl, rfl⟩) | ((with_reducible refine (D2 _).mono ?_); clear D2; rintro e w1 ⟨rfl, rfl⟩))
                  try rw [Exit.noGoto_ret]
                  go_ret
                  exact ⟨reti HN.out, HB2.out⟩
                · rw [hx] at D1
                  rw [hy] at D2
                  have hx0 : 0 < X.size := Nat.pos_of_ne_zero fun e => by rw [headDg_nil e] at hx; cases hx
                  have hy0 : 0 < Y.size := Nat.pos_of_ne_zero fun e => by rw [headDg_nil e] at hy; cases hy
                  have CB := fun w => cmpB X[0] Y[0] w
                  have hc := X[0].toNat_lt
                  have hd := Y[0].toNat_lt
                  have HN : Hid (numR (orI z (sgn X[0].toNat Y[0].toNat)) (X.extract 1 X.size).data.toList (Y.extract 1 Y.size).data.toList = V ∧ (X.extract 1 X.size).data.toList.dropWhile dgB = P ∧ (Y.extract 1 Y.size).data.toList.dropWhile dgB = Q) := Lib.hid (by
                    obtain ⟨i1, i2, i3⟩ := HI.out
                    rw [head_cons hx0] at hx
                    rw [head_cons hy0] at hy
                    rw [tail_of hx0, tail_of hy0]
                    rw [cons_of hx0, cons_of hy0, numR_both z hx hy] at i1
                    rw [cons_of hx0, tail_dg hx] at i2
                    rw [cons_of hy0, tail_dg hy] at i3
                    exact ⟨i1, i2, i3⟩)
                  generalize sgn X[0].toNat Y[0].toNat = q at *
                  clear hx hy HI
                  go_upto_region 12 with (go_at_call 158; first | ((with_reducible refine (D1 _).mono ?_); clear D1; rintro e w1 ⟨rfl, rfl⟩) | ((with_reducible refine (D2 _).mono ?_); clear D2; rintro e w1 ⟨rfl, rfl⟩))
                  go_cut [7] (fun s7 wx => s7 = .int .i64 (orI z q) ∧ Hid (Below w.heap.size w wx))
                  case first =>
                    go_region_with (first | (go_at_call 159; (with_reducible refine (CB _).mono ?_); rintro e w1 ⟨rfl, rfl⟩) | (go_at_call 132; refine (or2 _ z q _ (by simp [World.cell?_alloc_new]) (by simp [World.cell?_alloc_new])).mono ?_; rintro e w1 ⟨rfl, rfl⟩))
                    all_goals
                      go_wp2
                      go_meet
                      case rel => exact ⟨rfl, Lib.hid (by first | exact belowQ (HB2.out.alloc HB2.out.size _) _ | exact HB2.out.alloc HB2.out.size _ | exact belowQ ((belowQ HB2.out _).alloc (belowQ HB2.out _).size _) _ | exact (belowQ HB2.out _).alloc (belowQ HB2.out _).size _)⟩
                  case rest =>
                    obtain ⟨rfl, HB3⟩ := hcut
                    go_wp2
                    go_region
                    go_wp2
                    go_roundg ((X.size - 1) + (Y.size - 1))
                    case measure => omega
                    case rel => exact ⟨_, _, _, rfl, rfl, rfl, by rw [ByteArray.size_extract]; omega, by rw [ByteArray.size_extract]; omega, by rw [ByteArray.size_extract, ByteArray.size_extract]; omega, HN, Lib.hid (belowQ HB3.out _)⟩
        · have HG : Hid (0 < A.size ∧ 0 < B.size ∧ order (A.extract 1 A.size).data.toList (B.extract 1 B.size).data.toList = R) := Lib.hid (by
            have ha0 : 0 < A.size := Nat.pos_of_ne_zero fun e => hx0 (at_nil e)
            have hb0 : 0 < B.size := Nat.pos_of_ne_zero fun e => hx0 (hxy.trans (at_nil e))
            have ka : dgB A[0] = false := by
              cases g : dgB A[0]
              · rfl
              · exact absurd (at_dg ha0 g) hx0
            have kb : dgB B[0] = false := by
              cases g : dgB B[0]
              · rfl
              · exact absurd (hxy.trans (at_dg hb0 g)) hx0
            refine ⟨ha0, hb0, ?_⟩
            have := H.out
            rw [at_no ha0 ka, at_no hb0 kb] at hxy
            rw [cons_of ha0, cons_of hb0, order_skip ka kb hxy] at this
            rw [tail_of ha0, tail_of hb0]
            exact this)
          obtain ⟨ha0, hb0, hgo⟩ := HG.out
          have HN := Lib.hid hgo
          have hxn : (atW A.data.toList != 0) = true := by simpa using hx0
          rw [← hxy] at W2
          have e1 : A.toList.isEmpty = false := by rw [emptyT, decide_eq_false (by omega)]
          generalize atW A.data.toList = x at *
          clear hgo HG H HE HNE hxy hx0 CI
          go_wp2_with (first | (go_at_call 156; first | ((with_reducible refine (W1 _).mono ?_); clear W1; rintro e w1 ⟨rfl, rfl⟩) | ((with_reducible refine (W2 _).mono ?_); clear W2; rintro e w1 ⟨rfl, rfl⟩)))
          go_region
          go_wp2
          go_roundg ((A.size - 1) + (B.size - 1))
          case measure => omega
          case rel => exact ⟨_, _, rfl, rfl, by rw [ByteArray.size_extract]; omega, by rw [ByteArray.size_extract]; omega, by rw [ByteArray.size_extract, ByteArray.size_extract]; omega, HN, Lib.hid (belowQ HB.out _)⟩
      · have HG : Hid (sgn (atW A.data.toList) (atW B.data.toList) = R) := Lib.hid (by rw [← H.out, order_ne hxy])
        have hne : (atW A.data.toList != atW B.data.toList) = true := by simpa using hxy
        generalize atW A.data.toList = x at *
        generalize atW B.data.toList = y at *
        clear hxy H HNE
        rcases HE.out with e1 | ⟨e1, e2⟩ <;> clear HE
        all_goals
          go_wp2_with (first | (go_at_call 156; first | ((with_reducible refine (W1 _).mono ?_); clear W1; rintro e w1 ⟨rfl, rfl⟩) | ((with_reducible refine (W2 _).mono ?_); clear W2; rintro e w1 ⟨rfl, rfl⟩)) | (go_at_call 133; refine (CI _ _ _).mono ?_; rintro e w1 ⟨rfl, rfl⟩))
          try rw [Exit.noGoto_ret]
          go_ret
          exact ⟨reti HG.out, HB.out⟩
end Go.Proofs.YtkcamfcjkjiijaaGreatDoor
namespace Go.Proofs.YtkcamfcjkjiijaaGreatDoor
open Go.RowKit
set_option maxRecDepth 100000 in
set_option maxHeartbeats 8000000 in
theorem parse_anyB (s : ByteArray) (hs : s.size ≤ 9223372036854775807) (w : World) (h : LaidV w) : Calls Tryz.prog 154 #[.string s] w (ParsePost s.data.toList w) := by
  have hl := sizeOf s
  by_cases h4 : s.size ≤ 4000
  · exact parse_any s h4 w h
  have h80 : 80 < s.size := by omega
  have HP : Hid (∀ e w', e = .returned (.tuple #[.agg #[.int .i64 0, .string ⟨#[]⟩, .string ⟨#[]⟩], .int .i64 8]) → Below w.heap.size w w' → ParsePost s.data.toList w e w') := Lib.hid (fun e w' h g => ⟨by rw [parseV_long (by omega)]; exact h, g⟩)
  clear hl h
  go_enter Tryz.func154, Tryz.ntmps154
  go_wp2
  exact bodyPost_ret (v := .tuple #[.agg #[.int .i64 0, .string ⟨#[]⟩, .string ⟨#[]⟩], .int .i64 8]) (by simp [results, Tryz.results154, go_sem]) rfl (HP.out _ _ rfl ((Below.refl _ _).alloc (Nat.le_refl _) _))

theorem taken_partsB (s : ByteArray) (hs : s.size  ≤ 9223372036854775807) : ∃ (z : Int) (U V : ByteArray), U.size  ≤ 9223372036854775807 ∧ V.size  ≤ 9223372036854775807 ∧ VerAt s z U V ∧
    ∀ w, LaidV w → Calls Tryz.prog 131 #[.string s] w fun e w' => e = .returned (.agg #[.int .i64 z, .string U, .string V]) ∧ Below w.heap.size w w' := by
  obtain ⟨z, U, V, k, hk, hz, hz', hU, hV, ok1, bad1, e1⟩ := parse_partsB s hs
  have P := fun (w : World) (h : LaidV w) => parse_anyB s hs w h
  unfold ParsePost at P
  simp only [e1] at P
  have key : ∀ w, LaidV w → ∀ (z' : Int) (U' V' : ByteArray), (k = 0 → (z', U', V') = (z, U, V)) → (k ≠ 0 → (z', U', V') = (0, s, ⟨#[48]⟩)) → Calls Tryz.prog 131 #[.string s] w fun e w' => e = .returned (.agg #[.int .i64 z', .string U', .string V']) ∧ Below w.heap.size w w' := by
    intro w h z' U' V' hy hn
    have Q := P _ (LaidV.al (Lib.hid h) (.cells #[.int .i64 0, .string ⟨#[]⟩, .string ⟨#[]⟩] 147))
    have HR := Lib.hid (BoxV.new w 0 ⟨#[]⟩ ⟨#[]⟩ 147)
    have HB0 : Hid (Below w.heap.size w (w.alloc (.cells #[.int .i64 0, .string ⟨#[]⟩, .string ⟨#[]⟩] 147))) := Lib.hid ((Below.refl _ _).alloc (Nat.le_refl _) _)
    clear P ok1 bad1 e1 h
    rcases hk with rfl | rfl | rfl
    · have e := hy rfl
      simp only [Prod.mk.injEq] at e
      obtain ⟨rfl, rfl, rfl⟩ := e
      clear hy hn
      go_enter Tryz.func131, Tryz.ntmps131
      go_wp2_with (go_at_call 154; refine Q.mono ?_; rintro e w2 ⟨rfl, hb⟩; obtain ⟨r0, r1, r2, rf⟩ := (HR.out.on hb).al (.cells #[.int .i64 z', .string U', .string V'] 147); have hsz := szA hb; have HBX := Lib.hid ((fin HB0.out hb).alloc (fin HB0.out hb).size (.cells #[.int .i64 z', .string U', .string V'] 147)); clear hb Q)
      obtain ⟨k0, k1, k2, _⟩ := BoxV.put ⟨r0, r1, r2, rf⟩ z' U' V'
      exact bodyPost_ret (v := .agg #[.int .i64 z', .string U', .string V']) (by simp [results, Tryz.results131, go_sem, k0, k1, k2]) rfl ⟨rfl, putV_below HBX.out (Nat.le_refl _) _ _ _⟩
    all_goals
      have e := hn (by decide)
      simp only [Prod.mk.injEq] at e
      obtain ⟨rfl, rfl, rfl⟩ := e
      clear hy hn
      go_enter Tryz.func131, Tryz.ntmps131
      go_wp2_with (go_at_call 154; refine Q.mono ?_; rintro e w2 ⟨rfl, hb⟩; obtain ⟨r0, r1, r2, rf⟩ := (HR.out.on hb).al (.cells #[.int .i64 z, .string U, .string V] 147); have hsz := szA hb; have HBX := Lib.hid ((fin HB0.out hb).alloc (fin HB0.out hb).size (.cells #[.int .i64 z, .string U, .string V] 147)); clear hb Q)
      obtain ⟨k0, k1, k2, _⟩ := BoxV.put ⟨r0, r1, r2, rf⟩ 0 U' ⟨#[48]⟩
      exact bodyPost_ret (v := .agg #[.int .i64 0, .string U', .string ⟨#[48]⟩]) (by simp [results, Tryz.results131, go_sem, k0, k1, k2]) rfl ⟨rfl, putV_below HBX.out (Nat.le_refl _) _ _ _⟩
  by_cases h0 : k = 0
  · exact ⟨z, U, V, by omega, by omega, (ok1 h0).1, fun w h => key w h z U V (fun _ => rfl) (fun g => absurd h0 g)⟩
  · exact ⟨0, s, ⟨#[48]⟩, by omega, by decide, (bad1 h0).1, fun w h => key w h 0 s ⟨#[48]⟩ (fun g => absurd g h0) (fun _ => rfl)⟩
set_option maxRecDepth 100000 in
set_option maxHeartbeats 8000000 in
theorem compare_anyB (a b : ByteArray) (ha : a.size  ≤ 9223372036854775807) (hb : b.size  ≤ 9223372036854775807) (w : World) (h : LaidV w) :
    Calls Tryz.prog 109 #[.string a, .string b] w fun e w' => e = .returned (.int .i64 (compareV a.data.toList b.data.toList)) ∧ Below w.heap.size w w' := by
  obtain ⟨x1, A1, B1, hA1, hB1, HA, T1⟩ := taken_partsB a ha
  obtain ⟨x2, A2, B2, hA2, hB2, HC, T2⟩ := taken_partsB b hb
  have hcp := compare_parts HA HC
  have O1 := fun w => order_anyB A1 A2 hA1 hA2 w
  have O2 := fun w => order_anyB B1 B2 hB1 hB2 w
  have CI := fun x y w => cmpI x y w
  have CC := fun w => cmpI x1 x2 w
  generalize sgn x1 x2 = f at *
  generalize order A1.data.toList A2.data.toList = c at *
  generalize order B1.data.toList B2.data.toList = d at *
  have HF : Hid (orI f (orI c d) = compareV a.data.toList b.data.toList) := Lib.hid (by rw [hcp]; unfold orI; rfl)
  have HL := Lib.hid h
  clear hcp HA HC h CI
  generalize compareV a.data.toList b.data.toList = R at *
  go_enter Tryz.func109, Tryz.ntmps109
  go_wp2_with (go_at_call 131; first
    | ((with_reducible refine (T1 _ HL.out).mono ?_); clear T1; rintro e w1 ⟨rfl, hb1⟩; have HB1 := Lib.hid hb1; have HL1 := Lib.hid (HL.out.on hb1); clear hb1)
    | ((with_reducible refine (T2 _ HL1.out).mono ?_); clear T2; rintro e w2 ⟨rfl, hb2⟩; have HB2 := Lib.hid (fin HB1.out hb2); clear hb2))
  have HT := Two.new w w2 x1 x2 A1 B1 A2 B2 147 HB2.out
  obtain ⟨W0, hW0⟩ : ∃ W0, W0 = (w2.alloc (.cells #[.int .i64 x1, .string A1, .string B1] 147)).alloc (.cells #[.int .i64 x2, .string A2, .string B2] 147) := ⟨_, rfl⟩
  rw [← hW0] at HT ⊢
  generalize w2.heap.size = b0 at *
  clear hW0 HB2 HB1 HL HL1 ha hb hA1 hB1 hA2 hB2
  obtain ⟨h0, h1, h2, h3, h4, h5, h6⟩ := HT
  go_region_held3 (fun W => W.cell? ⟨b0, 0, none⟩ = some (.int .i64 x1) ∧ W.cell? ⟨b0, 1, none⟩ = some (.string A1) ∧ W.cell? ⟨b0, 2, none⟩ = some (.string B1) ∧
  W.cell? ⟨b0 + 1, 0, none⟩ = some (.int .i64 x2) ∧ W.cell? ⟨b0 + 1, 1, none⟩ = some (.string A2) ∧ W.cell? ⟨b0 + 1, 2, none⟩ = some (.string B2) ∧ Below w.heap.size w W)
    (first | assumption | exact Two.dr ⟨h0, h1, h2, h3, h4, h5, h6⟩ | exact ⟨h0, h1, h2, h3, h4, h5, h6⟩ | exact Two.on (by assumption) (by assumption) | exact Two.dr (by assumption) | exact Two.al (by assumption) _ | exact Two.ald (by assumption) _)
    (first | (go_at_call 133; (with_reducible refine (CC _).mono ?_); rintro e w3 ⟨rfl, rfl⟩) | (go_at_call 134; first | ((with_reducible refine (O1 _).mono ?_); rintro e w3 ⟨rfl, hb⟩) | ((with_reducible refine (O2 _).mono ?_); rintro e w3 ⟨rfl, hb⟩)) | (go_at_call 132; refine (or3 _ f c d _ (by simp [World.cell?_alloc_new]) (by simp [World.cell?_alloc_new]) (by simp [World.cell?_alloc_new])).mono ?_; rintro e w3 ⟨rfl, rfl⟩))
  all_goals
    rename_i hHeld
    go_wp2
    go_ret
    exact ⟨reti HF.out, hHeld.2.2.2.2.2.2⟩
set_option maxRecDepth 100000 in
set_option maxHeartbeats 8000000 in
theorem holds_anyB (a op b : ByteArray) (ha : a.size  ≤ 9223372036854775807) (hb : b.size  ≤ 9223372036854775807) (w : World) (h : LaidV w) :
    Calls Tryz.prog 96 #[.string a, .string op, .string b] w fun e w' => e = .returned (.bool (holdsV a.data.toList op.data.toList b.data.toList)) ∧ Below w.heap.size w w' := by
  have C := compare_anyB a b ha hb w h
  clear h
  rw [holdsV_is]
  have vc := compareV_good.vals a.data.toList b.data.toList
  generalize compareV a.data.toList b.data.toList = c at *
  obtain ⟨R, HR⟩ : ∃ R, Hid (holdsB c op.data.toList = R) := ⟨_, rfl⟩
  rw [HR.out]
  have s0 := emptyL op
  have s1 := eqTL op [60, 60]
  have s2 := eqTL op [60, 61]
  have s3 := eqTL op [61]
  have s4 := eqTL op [62, 61]
  have s5 := eqTL op [62, 62]
  have ways : op.data.toList = [] ∨ op.data.toList = [60, 60] ∨ op.data.toList = [60, 61] ∨ op.data.toList = [61] ∨ op.data.toList = [62, 61] ∨ op.data.toList = [62, 62] ∨ (op.data.toList ≠ [] ∧ op.data.toList ≠ [60, 60] ∧ op.data.toList ≠ [60, 61] ∧ op.data.toList ≠ [61] ∧ op.data.toList ≠ [62, 61] ∧ op.data.toList ≠ [62, 62]) := by
    by_cases h0 : op.data.toList = []
    · exact .inl h0
    · by_cases h1 : op.data.toList = [60, 60]
      · exact .inr (.inl h1)
      · by_cases h2 : op.data.toList = [60, 61]
        · exact .inr (.inr (.inl h2))
        · by_cases h3 : op.data.toList = [61]
          · exact .inr (.inr (.inr (.inl h3)))
          · by_cases h4 : op.data.toList = [62, 61]
            · exact .inr (.inr (.inr (.inr (.inl h4))))
            · by_cases h5 : op.data.toList = [62, 62]
              · exact .inr (.inr (.inr (.inr (.inr (.inl h5)))))
              · exact .inr (.inr (.inr (.inr (.inr (.inr ⟨h0, h1, h2, h3, h4, h5⟩)))))
  rcases ways with h | h | h | h | h | h | ⟨h, h1, h2, h3, h4, h5⟩
  case' inr.inr.inr.inr.inr.inr =>
    rw [decide_eq_false h] at s0
    rw [decide_eq_false h1] at s1
    rw [decide_eq_false h2] at s2
    rw [decide_eq_false h3] at s3
    rw [decide_eq_false h4] at s4
    rw [decide_eq_false h5] at s5
    have HF : Hid (false = R) := Lib.hid (by rw [← HR.out]; unfold holdsB; simp [h, h1, h2, h3, h4, h5])
    clear h h1 h2 h3 h4 h5 HR vc
    go_enter Tryz.func96, Tryz.ntmps96
    go_wp2_with (first | (go_at_call 109; refine C.mono ?_; rintro e w1 ⟨rfl, hb1⟩))
    go_ret
    first | exact ⟨retb HF.out, hb1⟩ | exact ⟨retb HF.out, Below.refl _ _⟩
  all_goals
    obtain rfl := strOf h
    clear h s0 s1 s2 s3 s4 s5
    rcases vc with vc | vc | vc
    all_goals
      subst vc
      go_enter Tryz.func96, Tryz.ntmps96
      go_wp2_with (first | (go_at_call 109; refine C.mono ?_; rintro e w1 ⟨rfl, hb1⟩))
      go_ret
      first | exact ⟨retb (by rw [← HR.out]; decide), hb1⟩ | exact ⟨retb (by rw [← HR.out]; decide), Below.refl _ _⟩
end Go.Proofs.YtkcamfcjkjiijaaGreatDoor
