/-
  cmp.Or, cmp.Compare of bytes, and the program's Order: what each returns; nothing old turns.
-/
import Derived.Test.YtkcamfcjkjiijaaGreatDoorPVPA
import Derived.Deep.LoopGhost
import Derived.Deep.DeepCutAuto
import Derived.Deep.CutRange
namespace Go.Proofs.YtkcamfcjkjiijaaGreatDoor
open Go.RowKit
theorem nan8 (x : Int) (w : World) : Calls Tryz.prog 176 #[.int .u8 x] w fun e w' => e = .returned (.bool false) ∧ w = w' := by
  go_enter Tryz.func176, Tryz.ntmps176
  go_wp2
  go_ret
  exact ⟨retb (by simp), rfl⟩
theorem cmpB (c d : UInt8) (w : World) : Calls Tryz.prog 159 #[.int .u8 c.toNat, .int .u8 d.toNat] w fun e w' => e = .returned (.int .i64 (sgn c.toNat d.toNat)) ∧ w = w' := by
  have N := fun x w => nan8 x w
  have hc := c.toNat_lt
  have hd := d.toNat_lt
  generalize c.toNat = n at *
  generalize d.toNat = m at *
  rcases sgn_cases (n : Int) (m : Int) with ⟨_, g⟩ | ⟨h, g⟩ | ⟨h, g⟩
  · rw [g]; clear g
    go_enter Tryz.func159, Tryz.ntmps159
    go_wp2_with (go_at_call 176; refine (N _ _).mono ?_; rintro e w1 ⟨rfl, rfl⟩)
    go_ret
    exact ⟨rfl, rfl⟩
  · rw [g]; clear g
    have h' : ¬ (n : Int) < m := by omega
    go_enter Tryz.func159, Tryz.ntmps159
    go_wp2_with (go_at_call 176; refine (N _ _).mono ?_; rintro e w1 ⟨rfl, rfl⟩)
    go_ret
    exact ⟨rfl, rfl⟩
  · rw [g]; clear g
    obtain rfl : n = m := by omega
    clear h
    go_enter Tryz.func159, Tryz.ntmps159
    go_wp2_with (go_at_call 176; refine (N _ _).mono ?_; rintro e w1 ⟨rfl, rfl⟩)
    go_ret
    exact ⟨rfl, rfl⟩
theorem cmpI (x y : Int) (w : World) : Calls Tryz.prog 133 #[.int .i64 x, .int .i64 y] w fun e w' => e = .returned (.int .i64 (sgn x y)) ∧ w = w' :=
  (Tryz.cmp_Compare_int x y w).mono fun _ _ h => ⟨h.1, h.2.symm⟩
/-- The first that isn't 0. -/
def orL : List Int → Int
  | [] => 0
  | x :: l => orI x (orL l)
theorem orL_zero {xs : List Int} {k : Nat} {x : Int} (h : xs[k]? = some x) : orL (xs.drop k) = if x ≠ 0 then x else orL (xs.drop (k + 1)) := by
  obtain ⟨hk, rfl⟩ := List.getElem?_eq_some_iff.1 h
  rw [List.drop_eq_getElem_cons hk]
  rfl
theorem orL_two (x y : Int) : orL [x, y] = orI x y := by
  unfold orL orL orL orI
  by_cases h : y = 0 <;> simp [h]
theorem or_any (b : Nat) (xs : List Int) (n : Nat) (hn : xs.length = n) (h10 : n ≤ 10) (w : World) (hcell : ∀ (j : Nat) x, xs[j]? = some x → w.cell? ⟨b, j, none⟩ = some (.int .i64 x)) :
    Calls Tryz.prog 132 #[.slice (some ⟨b, 0, none⟩) n n] w fun e w' => e = .returned (.int .i64 (orL xs)) ∧ w = w' := by
  have HC := Lib.hid hcell
  have HN := Lib.hid hn
  clear hcell hn
  go_enter Tryz.func132, Tryz.ntmps132
  go_wp2
  go_loop [8] (fun i => ∃ k : Nat, k ≤ n ∧ i = .int .i64 k ∧ Hid (orL xs = orL (xs.drop k))) (fun i => n - (intOf i).toNat)
  case atStart => exact ⟨0, by omega, rfl, Lib.hid (by simp)⟩
  case round =>
    obtain ⟨k, hk, rfl, H⟩ := hrel
    by_cases hlt : k < n
    · obtain ⟨x, hx⟩ : ∃ x, xs[k]? = some x := ⟨_, List.getElem?_eq_getElem (by rw [HN.out]; exact hlt)⟩
      have hc := HC.out k x hx
      have hz := orL_zero hx
      by_cases h0 : x = 0
      · have HZ : Hid (orL xs = orL (xs.drop (k + 1))) := Lib.hid (by rw [H.out, hz, if_neg (by omega)])
        subst h0
        clear hz hx
        go_wp2
        go_round
        case rel => exact ⟨k + 1, by omega, by go_num, HZ⟩
        case measure => simp [intOf]; omega
      · have HZ : Hid (x = orL xs) := Lib.hid (by rw [H.out, hz, if_pos h0])
        have h0' : (x != 0) = true := by simpa using h0
        clear hz hx h0
        go_wp2
        go_ret
        exact ⟨reti HZ.out, rfl⟩
    · have HZ : Hid (0 = orL xs) := Lib.hid (by rw [H.out, List.drop_eq_nil_of_le (by rw [HN.out]; omega)]; rfl)
      clear H
      go_wp2
      go_ret
      exact ⟨reti HZ.out, rfl⟩
theorem trim_is (l : Bs) : Lib.trimLeftB l 48 = noughts l := by
  unfold Lib.trimLeftB noughts
  congr 1
theorem trim_any (s : ByteArray) (w : World) : Calls Tryz.prog 157 #[.string s, .string ⟨#[48]⟩] w fun e w' => e = .returned (.string ⟨(noughts s.data.toList).toArray⟩) ∧ w = w' :=
  (Tryz.strings_TrimLeft_one s 48 (by decide) w).mono fun _ _ h => ⟨by rw [h.1, trim_is], h.2.symm⟩
theorem or2 (b : Nat) (z q : Int) (w : World) (h0 : w.cell? ⟨b, 0, none⟩ = some (.int .i64 z)) (h1 : w.cell? ⟨b, 1, none⟩ = some (.int .i64 q)) :
    Calls Tryz.prog 132 #[.slice (some ⟨b, 0, none⟩) 2 2] w fun e w' => e = .returned (.int .i64 (orI z q)) ∧ w = w' := by
  have := or_any b [z, q] 2 rfl (by decide) w (fun j x h => by
    match j, h with
    | 0, h => cases h; exact h0
    | 1, h => cases h; exact h1
    | j + 2, h => simp at h)
  rwa [orL_two] at this
theorem tail_of {s : ByteArray} (_h : 0 < s.size) : (s.extract 1 s.size).data.toList = s.data.toList.drop 1 := by
  rw [extL, List.take_of_length_le (by rw [List.length_drop, sizeOf]; omega)]
set_option maxRecDepth 100000 in
set_option maxHeartbeats 16000000 in
theorem order_any (a b : ByteArray) (ha : a.size ≤ 4000) (hb : b.size ≤ 4000) (w : World) : Calls Tryz.prog 134 #[.string a, .string b] w fun e w' => e = .returned (.int .i64 (order a.data.toList b.data.toList)) ∧ Below w.heap.size w w' := by
  obtain ⟨R, HR⟩ : ∃ R, Hid (order a.data.toList b.data.toList = R) := ⟨_, rfl⟩
  rw [HR.out]
  go_enter Tryz.func134, Tryz.ntmps134
  go_wp2
  go_step3
  go_wp2
  go_step3
  go_wp2
  go_loopg [0, 1] (a.size + b.size) (fun g x y wr => ∃ A B : ByteArray, x = .string A ∧ y = .string B ∧ A.size ≤ 4000 ∧ B.size ≤ 4000 ∧ A.size + B.size ≤ g ∧ Hid (order A.data.toList B.data.toList = R) ∧ Hid (Below w.heap.size w wr))
  case atStart => exact ⟨a, b, rfl, rfl, ha, hb, Nat.le_refl _, HR, Lib.hid (Below.refl _ _)⟩
  case round =>
    obtain ⟨A, B, rfl, rfl, hA, hB, hg, H, HB⟩ := hrel
    clear HR ha hb
    by_cases he : A.size = 0 ∧ B.size = 0
    · obtain ⟨h1, h2⟩ := he
      have e1 : A.toList.isEmpty = true := by rw [emptyT, decide_eq_true h1]
      have e2 : B.toList.isEmpty = true := by rw [emptyT, decide_eq_true h2]
      have HZ : Hid (R = 0) := Lib.hid (by rw [← H.out, nil_of h1, nil_of h2]; exact order_end)
      clear h1 h2 H
      go_wp2
      try rw [Exit.noGoto_ret]
      go_ret
      exact ⟨reti HZ.out.symm, HB.out⟩
    · have HE : Hid (A.toList.isEmpty = false ∨ (A.toList.isEmpty = true ∧ B.toList.isEmpty = false)) := Lib.hid (by
        rw [emptyT, emptyT]
        by_cases h1 : A.size = 0
        · have h2 : ¬ B.size = 0 := fun h2 => he ⟨h1, h2⟩
          right; simp [h1, h2]
        · left; simp [h1])
      have HNE := Lib.hid he
      clear he
      have W1 := fun w => weight_any A w
      have W2 := fun w => weight_any B w
      have CI := fun x y w => cmpI x y w
      by_cases hxy : atW A.data.toList = atW B.data.toList
      · by_cases hx0 : atW A.data.toList = 0
        · have HS := Lib.hid (order_num hx0 (hxy ▸ hx0))
          have HLT : Hid (((noughts A.data.toList).dropWhile dgB).length + ((noughts B.data.toList).dropWhile dgB).length < A.size + B.size) := Lib.hid (by
            have a1 := (noughts_take A.data.toList).2
            have b1 := (noughts_take B.data.toList).2
            rw [a1, b1]
            have la := sizeOf A
            have lb := sizeOf B
            have ka := drop_le A.data.toList
            have kb := drop_le B.data.toList
            by_cases h1 : A.size = 0
            · have : B.data.toList ≠ [] := fun e => HNE.out ⟨h1, by rw [sizeOf, e]; rfl⟩
              have := stop_lt (hxy ▸ hx0) this
              omega
            · have : A.data.toList ≠ [] := fun e => h1 (by rw [sizeOf, e]; rfl)
              have := stop_lt hx0 this
              omega)
          rw [hx0] at W1
          rw [← hxy, hx0] at W2
          have T1 := fun w => trim_any A w
          have T2 := fun w => trim_any B w
          obtain ⟨A1, hA1⟩ : ∃ A1 : ByteArray, A1 = ⟨(noughts A.data.toList).toArray⟩ := ⟨_, rfl⟩
          obtain ⟨B1, hB1⟩ : ∃ B1 : ByteArray, B1 = ⟨(noughts B.data.toList).toArray⟩ := ⟨_, rfl⟩
          have lA : A1.data.toList = noughts A.data.toList := by rw [hA1]
          have lB : B1.data.toList = noughts B.data.toList := by rw [hB1]
          have sA : A1.size ≤ A.size := by rw [sizeOf, lA, sizeOf]; exact (List.dropWhile_sublist _).length_le
          have sB : B1.size ≤ B.size := by rw [sizeOf, lB, sizeOf]; exact (List.dropWhile_sublist _).length_le
          rw [← hA1] at T1
          rw [← hB1] at T2
          have HS2 : Hid (R = if numR 0 A1.data.toList B1.data.toList ≠ 0 then numR 0 A1.data.toList B1.data.toList else order (A1.data.toList.dropWhile dgB) (B1.data.toList.dropWhile dgB)) := Lib.hid (by rw [lA, lB, ← H.out]; exact HS.out)
          have HL2 : Hid ((A1.data.toList.dropWhile dgB).length + (B1.data.toList.dropWhile dgB).length < A.size + B.size) := Lib.hid (by rw [lA, lB]; exact HLT.out)
          obtain ⟨V, HV⟩ : ∃ V, Hid (numR 0 A1.data.toList B1.data.toList = V) := ⟨_, rfl⟩
          obtain ⟨P, HP⟩ : ∃ P, Hid (A1.data.toList.dropWhile dgB = P) := ⟨_, rfl⟩
          obtain ⟨Q, HQ⟩ : ∃ Q, Hid (B1.data.toList.dropWhile dgB = Q) := ⟨_, rfl⟩
          have HSR : Hid (R = if V ≠ 0 then V else order P Q) := Lib.hid (by rw [← HV.out, ← HP.out, ← HQ.out]; exact HS2.out)
          have HPQ : Hid (P.length + Q.length < A.size + B.size) := Lib.hid (by rw [← HP.out, ← HQ.out]; exact HL2.out)
          clear hA1 hB1 lA lB HS HS2 HL2 HLT hxy hx0 H HNE CI
          rcases HE.out with e1 | ⟨e1, e2⟩ <;> clear HE
          all_goals
            go_wp2_with (first | (go_at_call 156; first | ((with_reducible refine (W1 _).mono ?_); clear W1; rintro e w1 ⟨rfl, rfl⟩) | ((with_reducible refine (W2 _).mono ?_); clear W2; rintro e w1 ⟨rfl, rfl⟩)) | (go_at_call 157; first | ((with_reducible refine (T1 _).mono ?_); clear T1; rintro e w1 ⟨rfl, rfl⟩) | ((with_reducible refine (T2 _).mono ?_); clear T2; rintro e w1 ⟨rfl, rfl⟩)))
            go_loopg [0, 1, 7] (A1.size + B1.size) (fun g x y f wx => ∃ (X Y : ByteArray) (z : Int), x = .string X ∧ y = .string Y ∧ f = .int .i64 z ∧ X.size ≤ 4000 ∧ Y.size ≤ 4000 ∧ X.size + Y.size ≤ g ∧ Hid (numR z X.data.toList Y.data.toList = V ∧ X.data.toList.dropWhile dgB = P ∧ Y.data.toList.dropWhile dgB = Q) ∧ Hid (Below w.heap.size w wx))
            case atStart => exact ⟨A1, B1, 0, rfl, rfl, rfl, by omega, by omega, Nat.le_refl _, Lib.hid ⟨HV.out, HP.out, HQ.out⟩, HB⟩
            case round =>
              obtain ⟨X, Y, z, rfl, rfl, rfl, hX, hY, hg2, HI, HB2⟩ := hrel
              have D1 := fun w => begins_any X w
              have D2 := fun w => begins_any Y w
              clear HV HP HQ HB
              cases hx : headDg X.data.toList
              · cases hy : headDg Y.data.toList
                · rw [hx] at D1
                  rw [hy] at D2
                  have hv := numR_end z hx hy
                  have hp := (take_none hx).2
                  have hq := (take_none hy).2
                  rw [HI.out.1] at hv
                  rw [HI.out.2.1] at hp
                  rw [HI.out.2.2] at hq
                  by_cases hz : z = 0
                  · have HN : Hid (order X.data.toList Y.data.toList = R) := Lib.hid (by rw [HSR.out, hv, if_neg (by omega), hp, hq])
                    have HM : X.size + Y.size < A.size + B.size := by have := HPQ.out; rw [hp, hq] at this; rw [sizeOf X, sizeOf Y]; exact this
                    subst hz
                    clear hv hp hq hx hy HI
                    go_wp2_with (go_at_call 158; first | ((with_reducible refine (D1 _).mono ?_); clear D1; rintro e w1 ⟨rfl, rfl⟩) | ((with_reducible refine (D2 _).mono ?_); clear D2; rintro e w1 ⟨rfl, rfl⟩))
                    go_roundg (X.size + Y.size)
                    case measure => omega
                    case rel => exact ⟨X, Y, rfl, rfl, hX, hY, Nat.le_refl _, HN, HB2⟩
                  · have HN : Hid (z = R) := Lib.hid (by rw [HSR.out, hv, if_pos hz])
                    have hz' : (z != 0) = true := by simpa using hz
                    clear hv hp hq hx hy HI hz
                    go_wp2_with (go_at_call 158; first | ((with_reducible refine (D1 _).mono ?_); clear D1; rintro e w1 ⟨rfl, rfl⟩) | ((with_reducible refine (D2 _).mono ?_); clear D2; rintro e w1 ⟨rfl, rfl⟩))
                    try rw [Exit.noGoto_ret]
                    go_ret
                    exact ⟨reti HN.out, HB2.out⟩
                · rw [hx] at D1
                  rw [hy] at D2
                  have HN : Hid (-1 = R) := Lib.hid (by rw [HSR.out, ← HI.out.1, numR_b z hx hy, if_pos (by decide)])
                  clear hx hy HI
                  go_wp2_with (go_at_call 158; first | ((with_reducible refine (D1 _).mono ?_); clear D1; rintro e w1 ⟨rfl, rfl⟩) | ((with_reducible refine (D2 _).mono ?_); clear D2; rintro e w1 ⟨rfl, rfl⟩))
                  try rw [Exit.noGoto_ret]
                  go_ret
                  exact ⟨reti HN.out, HB2.out⟩
              · cases hy : headDg Y.data.toList
                · rw [hx] at D1
                  rw [hy] at D2
                  have HN : Hid (1 = R) := Lib.hid (by rw [HSR.out, ← HI.out.1, numR_a z hx hy, if_pos (by decide)])
                  clear hx hy HI
                  go_wp2_with (go_at_call 158; first | ((with_reducible refine (D1 _).mono ?_); clear D1; rintro e w1 ⟨rfl, rfl⟩) | ((with_reducible refine (D2 _).mono ?_); clear D2; rintro e w1 ⟨rfl, rfl⟩))
                  try rw [Exit.noGoto_ret]
                  go_ret
                  exact ⟨reti HN.out, HB2.out⟩
                · rw [hx] at D1
                  rw [hy] at D2
                  have hx0 : 0 < X.size := Nat.pos_of_ne_zero fun e => by rw [headDg_nil e] at hx; cases hx
                  have hy0 : 0 < Y.size := Nat.pos_of_ne_zero fun e => by rw [headDg_nil e] at hy; cases hy
                  have CB := fun w => cmpB X[0] Y[0] w
                  have hc := X[0].toNat_lt
                  have hd := Y[0].toNat_lt
                  have HN : Hid (numR (orI z (sgn X[0].toNat Y[0].toNat)) (X.extract 1 X.size).data.toList (Y.extract 1 Y.size).data.toList = V ∧ (X.extract 1 X.size).data.toList.dropWhile dgB = P ∧ (Y.extract 1 Y.size).data.toList.dropWhile dgB = Q) := Lib.hid (by
                    obtain ⟨i1, i2, i3⟩ := HI.out
                    rw [head_cons hx0] at hx
                    rw [head_cons hy0] at hy
                    rw [tail_of hx0, tail_of hy0]
                    rw [cons_of hx0, cons_of hy0, numR_both z hx hy] at i1
                    rw [cons_of hx0, tail_dg hx] at i2
                    rw [cons_of hy0, tail_dg hy] at i3
                    exact ⟨i1, i2, i3⟩)
                  generalize sgn X[0].toNat Y[0].toNat = q at *
                  clear hx hy HI
                  go_upto_region 12 with (go_at_call 158; first | ((with_reducible refine (D1 _).mono ?_); clear D1; rintro e w1 ⟨rfl, rfl⟩) | ((with_reducible refine (D2 _).mono ?_); clear D2; rintro e w1 ⟨rfl, rfl⟩))
                  go_cut [7] (fun s7 wx => s7 = .int .i64 (orI z q) ∧ Hid (Below w.heap.size w wx))
                  case first =>
                    go_region_with (first | (go_at_call 159; (with_reducible refine (CB _).mono ?_); rintro e w1 ⟨rfl, rfl⟩) | (go_at_call 132; refine (or2 _ z q _ (by simp [World.cell?_alloc_new]) (by simp [World.cell?_alloc_new])).mono ?_; rintro e w1 ⟨rfl, rfl⟩))
                    all_goals
                      go_wp2
                      go_meet
                      case rel => exact ⟨rfl, Lib.hid (by first | exact belowQ (HB2.out.alloc HB2.out.size _) _ | exact HB2.out.alloc HB2.out.size _ | exact belowQ ((belowQ HB2.out _).alloc (belowQ HB2.out _).size _) _ | exact (belowQ HB2.out _).alloc (belowQ HB2.out _).size _)⟩
                  case rest =>
                    obtain ⟨rfl, HB3⟩ := hcut
                    go_wp2
                    go_region
                    go_wp2
                    go_roundg ((X.size - 1) + (Y.size - 1))
                    case measure => omega
                    case rel => exact ⟨_, _, _, rfl, rfl, rfl, by rw [ByteArray.size_extract]; omega, by rw [ByteArray.size_extract]; omega, by rw [ByteArray.size_extract, ByteArray.size_extract]; omega, HN, Lib.hid (belowQ HB3.out _)⟩
        · have HG : Hid (0 < A.size ∧ 0 < B.size ∧ order (A.extract 1 A.size).data.toList (B.extract 1 B.size).data.toList = R) := Lib.hid (by
            have ha0 : 0 < A.size := Nat.pos_of_ne_zero fun e => hx0 (at_nil e)
            have hb0 : 0 < B.size := Nat.pos_of_ne_zero fun e => hx0 (hxy.trans (at_nil e))
            have ka : dgB A[0] = false := by
              cases g : dgB A[0]
              · rfl
              · exact absurd (at_dg ha0 g) hx0
            have kb : dgB B[0] = false := by
              cases g : dgB B[0]
              · rfl
              · exact absurd (hxy.trans (at_dg hb0 g)) hx0
            refine ⟨ha0, hb0, ?_⟩
            have := H.out
            rw [at_no ha0 ka, at_no hb0 kb] at hxy
            rw [cons_of ha0, cons_of hb0, order_skip ka kb hxy] at this
            rw [tail_of ha0, tail_of hb0]
            exact this)
          obtain ⟨ha0, hb0, hgo⟩ := HG.out
          have HN := Lib.hid hgo
          have hxn : (atW A.data.toList != 0) = true := by simpa using hx0
          rw [← hxy] at W2
          have e1 : A.toList.isEmpty = false := by rw [emptyT, decide_eq_false (by omega)]
          generalize atW A.data.toList = x at *
          clear hgo HG H HE HNE hxy hx0 CI
          go_wp2_with (first | (go_at_call 156; first | ((with_reducible refine (W1 _).mono ?_); clear W1; rintro e w1 ⟨rfl, rfl⟩) | ((with_reducible refine (W2 _).mono ?_); clear W2; rintro e w1 ⟨rfl, rfl⟩)))
          go_region
          go_wp2
          go_roundg ((A.size - 1) + (B.size - 1))
          case measure => omega
          case rel => exact ⟨_, _, rfl, rfl, by rw [ByteArray.size_extract]; omega, by rw [ByteArray.size_extract]; omega, by rw [ByteArray.size_extract, ByteArray.size_extract]; omega, HN, Lib.hid (belowQ HB.out _)⟩
      · have HG : Hid (sgn (atW A.data.toList) (atW B.data.toList) = R) := Lib.hid (by rw [← H.out, order_ne hxy])
        have hne : (atW A.data.toList != atW B.data.toList) = true := by simpa using hxy
        generalize atW A.data.toList = x at *
        generalize atW B.data.toList = y at *
        clear hxy H HNE
        rcases HE.out with e1 | ⟨e1, e2⟩ <;> clear HE
        all_goals
          go_wp2_with (first | (go_at_call 156; first | ((with_reducible refine (W1 _).mono ?_); clear W1; rintro e w1 ⟨rfl, rfl⟩) | ((with_reducible refine (W2 _).mono ?_); clear W2; rintro e w1 ⟨rfl, rfl⟩)) | (go_at_call 133; refine (CI _ _ _).mono ?_; rintro e w1 ⟨rfl, rfl⟩))
          try rw [Exit.noGoto_ret]
          go_ret
          exact ⟨reti HG.out, HB.out⟩
end Go.Proofs.YtkcamfcjkjiijaaGreatDoor
