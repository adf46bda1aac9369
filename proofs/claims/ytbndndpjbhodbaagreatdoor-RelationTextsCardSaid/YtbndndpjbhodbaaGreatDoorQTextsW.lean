/-
  The law RelationTexts, walked: true; nothing old turns. Condition: LaidQ.
-/
import Derived.Test.YtbndndpjbhodbaaGreatDoorQAwake
import Derived.Test.YtbndndpjbhodbaaGreatDoorAtB
import Derived.Laws.StructEq
import Derived.Deep.RegionHeld3
namespace Go.Proofs.YtbndndpjbhodbaaGreatDoor.relationTextsw
open Go.RowKit
def Bd (P Q Z : ByteArray) : Prop := P.size + Q.size + Z.size ≤ 3000
def aggB (x y z : ByteArray) : Value := .agg #[.string x, .string y, .string z]
/-- What both sides tell of a text. -/
theorem parse_two (s : Bs) : ∃ (y0 y1 y2 : ByteArray) (k : Int) (ok : Bool), parsedQ (parseR s) = .tuple #[.agg #[.string y0, .string y1, .string y2], .int .i64 k] ∧ parsedR (parseR s) = .tuple #[.agg #[.string y0, .string y1, .string y2], .bool ok] ∧
    (ok = true → k = 0 ∧ parseR s = some (y0.data.toList, y1.data.toList, y2.data.toList)) ∧ (ok = false → k = 2) := by
  cases h : parseR s with
  | none => exact ⟨⟨#[]⟩, ⟨#[]⟩, ⟨#[]⟩, 2, false, rfl, rfl, (fun e => by cases e), fun _ => rfl⟩
  | some x => exact ⟨bsT x.1, bsT x.2.1, bsT x.2.2, 0, true, rfl, rfl, fun _ => ⟨rfl, by simp⟩, (fun e => by cases e)⟩
theorem textR_le (x : Rl) : (textR x).length ≤ x.1.length + x.2.1.length + x.2.2.length + 4 := by
  unfold textR
  split
  · omega
  · simp; omega
theorem right_le {x : Rl} (h : rightR x = true) : x.1.length ≤ (textR x).length ∧ x.2.1.length ≤ (textR x).length ∧ x.2.2.length ≤ (textR x).length := by
  obtain ⟨n, o, v⟩ := x
  unfold rightR at h
  simp only [Bool.and_eq_true] at h
  unfold textR
  simp only []
  by_cases ho : o = []
  · rw [if_pos ho] at h ⊢
    have hv : v = [] := by simpa using h.2
    subst ho hv
    simp
  · rw [if_neg ho]; simp; omega
theorem hold_one (w : World) (P Q Z : ByteArray) : HoldGs ((((w.alloc (.cells #[.string P, .string Q, .string Z] 23)).alloc (.cells #[.string P, .string Q, .string Z] 23))).alloc (.cells #[.slice (some ⟨w.heap.size + 1, 0, none⟩) 1 1] 25)) (.slice (some ⟨w.heap.size + 1 + 1, 0, none⟩) 1 1) [([(P.data.toList, Q.data.toList, Z.data.toList)], .slice (some ⟨w.heap.size + 1, 0, none⟩) 1 1)] := by
  obtain ⟨w1, hw1⟩ : ∃ w1, w.alloc (.cells #[.string P, .string Q, .string Z] 23) = w1 := ⟨_, rfl⟩
  have h1 : w1.heap.size = w.heap.size + 1 := by rw [← hw1, World.size_alloc]
  rw [hw1, ← h1]
  obtain ⟨z0, z1, z2⟩ := boxV3 w1 (.string P) (.string Q) (.string Z) 23
  obtain ⟨w2, hw2⟩ : ∃ w2, w1.alloc (.cells #[.string P, .string Q, .string Z] 23) = w2 := ⟨_, rfl⟩
  have h2 : w2.heap.size = w1.heap.size + 1 := by rw [← hw2, World.size_alloc]
  rw [hw2] at z0 z1 z2 ⊢
  rw [← h2]
  have y0 := boxV1 w2 (.slice (some ⟨w1.heap.size, 0, none⟩) 1 1) 25
  have B2 := (Below.refl w2.heap.size w2).alloc (Nat.le_refl _) (.cells #[.slice (some ⟨w1.heap.size, 0, none⟩) 1 1] 25)
  refine ⟨⟨some ⟨w2.heap.size, 0, none⟩, 1, w2.heap.size, 0, rfl, by simp, fun _ => ⟨rfl, by simp⟩, fun j r hj i y hi hy => ?_⟩, fun x hx => ?_⟩
  · match j, hj with
    | 0, hj =>
      simp at hj; subst hj
      match i, hi, hy with
      | 0, _, hy => simp at hy; subst hy; simp
    | j + 1, hj => simp at hj
  · rw [List.mem_singleton.1 hx]
    refine HoldV.on ⟨some ⟨w1.heap.size, 0, none⟩, 1, w1.heap.size, 0, rfl, by simp, fun _ => ⟨rfl, by omega⟩, fun j r hj i y hi hy => ?_⟩ B2
    match j, hj with
    | 0, hj =>
      simp at hj; subst hj
      match i, hi, hy with
      | 0, _, hy => simp at hy; subst hy; simpa using z0
      | 1, _, hy => simp at hy; subst hy; simpa using z1
      | 2, _, hy => simp at hy; subst hy; simpa using z2
    | j + 1, hj => simp at hj
set_option maxRecDepth 100000 in
set_option maxHeartbeats 16000000 in
theorem walk (P Q Z s : ByteArray) (w : World) (hL : LaidQ w) : Calls Tryz.prog 3 #[.agg #[.string P, .string Q, .string Z], .string s] w fun e w' => e = .returned (.bool true) ∧ Below w.heap.size w w' := by
  have A7 := fun W h => awake7 W h
  have FW := few_any _ _ _ (hold_one w P Q Z)
  have b1 := (Below.refl w.heap.size w).alloc (Nat.le_refl _) (.cells #[.string P, .string Q, .string Z] 23)
  have b2 := b1.alloc b1.size (.cells #[.string P, .string Q, .string Z] 23)
  have b3 := b2.alloc b2.size (.cells #[.slice (some ⟨w.heap.size + 1, 0, none⟩) 1 1] 25)
  have HB3 := Lib.hid b3
  have HL := Lib.hid hL
  obtain ⟨z0, z1, z2⟩ := boxV3 w (.string P) (.string Q) (.string Z) 23
  have c1 := (Below.refl (w.alloc (.cells #[.string P, .string Q, .string Z] 23)).heap.size (w.alloc (.cells #[.string P, .string Q, .string Z] 23))).alloc (Nat.le_refl _) (.cells #[.string P, .string Q, .string Z] 23)
  have c2 := c1.alloc c1.size (.cells #[.slice (some ⟨w.heap.size + 1, 0, none⟩) 1 1] 25)
  have hlt : w.heap.size < (w.alloc (.cells #[.string P, .string Q, .string Z] 23)).heap.size := by rw [World.size_alloc]; omega
  have HX3 : Hid ((((w.alloc (.cells #[.string P, .string Q, .string Z] 23)).alloc (.cells #[.string P, .string Q, .string Z] 23)).alloc (.cells #[.slice (some ⟨w.heap.size + 1, 0, none⟩) 1 1] 25)).cell? ⟨w.heap.size, 0, none⟩ = some (.string P) ∧ (((w.alloc (.cells #[.string P, .string Q, .string Z] 23)).alloc (.cells #[.string P, .string Q, .string Z] 23)).alloc (.cells #[.slice (some ⟨w.heap.size + 1, 0, none⟩) 1 1] 25)).cell? ⟨w.heap.size, 1, none⟩ = some (.string Q) ∧ (((w.alloc (.cells #[.string P, .string Q, .string Z] 23)).alloc (.cells #[.string P, .string Q, .string Z] 23)).alloc (.cells #[.slice (some ⟨w.heap.size + 1, 0, none⟩) 1 1] 25)).cell? ⟨w.heap.size, 2, none⟩ = some (.string Z)) :=
    Lib.hid ⟨(c2.cell (p := ⟨w.heap.size, 0, none⟩) hlt).trans z0, (c2.cell (p := ⟨w.heap.size, 1, none⟩) hlt).trans z1, (c2.cell (p := ⟨w.heap.size, 2, none⟩) hlt).trans z2⟩
  have HLT : Hid (w.heap.size < (((w.alloc (.cells #[.string P, .string Q, .string Z] 23)).alloc (.cells #[.string P, .string Q, .string Z] 23)).alloc (.cells #[.slice (some ⟨w.heap.size + 1, 0, none⟩) 1 1] 25)).heap.size) := Lib.hid (Nat.lt_of_lt_of_le hlt c2.size)
  clear b1 b2 b3 c1 c2 hL hlt z0 z1 z2
  by_cases hs : 1000 < s.size
  · go_enter Tryz.func3, Tryz.ntmps3
    go_wp2_with (first
      | (go_at_call 8; (with_reducible refine FW.mono ?_); rintro e w1 ⟨fb, rfl, -, hb⟩; have HB1 := Lib.hid (HB3.out.trans (hb.mono HB3.out.size)); have HL1 := Lib.hid (HL.out.on HB1.out); clear hb FW; cases fb)
      | (go_at_call 9; (with_reducible refine (A7 _ HL1.out).mono ?_); rintro e w2 ⟨rfl, hb⟩; have HB2 := Lib.hid (HB1.out.trans (hb.mono HB1.out.size)); clear hb))
    all_goals
      go_ret
      exact ⟨rfl, HB2.out⟩
  have hs2 : s.size ≤ 1000 := by omega
  have HBD : Hid (∀ fb, (fb = true → FewG [([(P.data.toList, Q.data.toList, Z.data.toList)], .slice (some ⟨w.heap.size + 1, 0, none⟩) 1 1)]) → fb = true → Bd P Q Z) := Lib.hid (fun fb h e => by
    have := (h e).v
    simp [vGs, vGr, vQ] at this
    unfold Bd; omega)
  obtain ⟨y0, y1, y2, ke, ok, hp1, hp2, hok, hno⟩ := parse_two s.data.toList
  have PA := fun W h => parseP_any s (by omega) W h
  unfold ParsePostP at PA
  rw [hp1] at PA
  have PB := fun W => parse_ref7 s (by omega) W
  unfold ParsePost7 at PB
  rw [hp2] at PB
  have hie : (if ok then decide (ke = 0) else decide (ke = 2)) = true := by
    cases ok
    · rw [hno rfl]; rfl
    · rw [(hok rfl).1]; rfl
  have IS := fun W => is_any ke ok W
  rw [hie] at IS
  obtain ⟨rx, hrx⟩ : ∃ rx, rightR (P.data.toList, Q.data.toList, Z.data.toList) = rx := ⟨_, rfl⟩
  have RA := fun W (hb : Bd P Q Z) h => rightR_any P Q Z (by unfold Bd at hb; omega) (by unfold Bd at hb; omega) W h
  have RB := fun W (hb : Bd P Q Z) => right_ref P Q Z (by unfold Bd at hb; omega) (by unfold Bd at hb; omega) W
  rw [hrx] at RA RB
  obtain ⟨T, hT⟩ : ∃ T : ByteArray, (⟨(textR (P.data.toList, Q.data.toList, Z.data.toList)).toArray⟩ : ByteArray) = T := ⟨_, rfl⟩
  have TA := fun W (hb : Bd P Q Z) => textR_any P Q Z (by unfold Bd at hb; omega) (by unfold Bd at hb; omega) (by unfold Bd at hb; omega) W
  have TB := fun W (hb : Bd P Q Z) => text_ref7 P Q Z (by unfold Bd at hb; omega) (by unfold Bd at hb; omega) (by unfold Bd at hb; omega) W
  rw [hT] at TA TB
  have hTL : T.data.toList = textR (P.data.toList, Q.data.toList, Z.data.toList) := by rw [← hT]
  obtain ⟨d0, d1, d2, kf, okf, hq1, -, hokf, hnof⟩ := parse_two T.data.toList
  have PT := fun W (hb : Bd P Q Z) h => parseP_any T (by
    have := textR_le (P.data.toList, Q.data.toList, Z.data.toList)
    rw [← hTL] at this
    simp only [← sizeOf] at this
    unfold Bd at hb; omega) W h
  unfold ParsePostP at PT
  rw [hq1] at PT
  have HBK : Hid (rx = true → kf = 0 ∧ P = d0 ∧ Q = d1 ∧ Z = d2) := Lib.hid (fun e => by
    rw [e] at hrx
    have h1 := parse_textR hrx
    rw [← hTL] at h1
    have hk : okf = true := by
      cases okf
      · exfalso; rw [h1] at hq1; simp [parsedQ, relV] at hq1; have := hnof rfl; omega
      · rfl
    obtain ⟨hk0, h2⟩ := hokf hk
    rw [h1] at h2
    simp only [Option.some.injEq, Prod.mk.injEq] at h2
    exact ⟨hk0, ByteArray.ext (Array.toList_inj.1 h2.1), ByteArray.ext (Array.toList_inj.1 h2.2.1), ByteArray.ext (Array.toList_inj.1 h2.2.2)⟩)
  have HTY : Hid (ok = true → ∀ W, Calls Tryz.prog 15 #[.agg #[.string y0, .string y1, .string y2]] W fun e w' => e = .returned (.string s) ∧ Below W.heap.size W w') := Lib.hid (fun e W => by
    obtain ⟨h1, h2⟩ := text_parseR (hok e).2
    have h3 := right_le h2
    rw [h1] at h3
    simp only [← sizeOf] at h3
    have := textR_any y0 y1 y2 (by omega) (by omega) (by omega) W
    rw [h1] at this
    have e2 : (⟨s.data.toList.toArray⟩ : ByteArray) = s := (strOf (x := s) rfl).symm
    rw [e2] at this
    exact this)
  have hok' : ok = true → ke = 0 := fun e => (hok e).1
  clear hok hp1 hp2 hie hrx hT hTL hq1 hokf hnof hs
  have HX0 := HX3
  cases ok
  case' false => obtain rfl : ke = 2 := hno rfl
  case' true => obtain rfl : ke = 0 := hok' rfl
  all_goals
   cases rx
   case' true => obtain ⟨rfl, rfl, rfl, rfl⟩ := HBK.out rfl
  all_goals
    clear hno hok' HBK
    go_enter Tryz.func3, Tryz.ntmps3
    go_wp2_with (first
      | (go_at_call 8; (with_reducible refine FW.mono ?_); rintro e w1 ⟨fb, rfl, hfb, hb⟩; have HB1 := Lib.hid (HB3.out.trans (hb.mono HB3.out.size)); have HL1 := Lib.hid (HL.out.on HB1.out); have HBD1 := Lib.hid (HBD.out fb hfb); have HX1 := Lib.hid (And.intro ((hb.cell (p := ⟨w.heap.size, 0, none⟩) HLT.out).trans HX3.out.1) (And.intro ((hb.cell (p := ⟨w.heap.size, 1, none⟩) HLT.out).trans HX3.out.2.1) ((hb.cell (p := ⟨w.heap.size, 2, none⟩) HLT.out).trans HX3.out.2.2))); have HLT1 := Lib.hid (Nat.lt_of_lt_of_le HLT.out hb.size); clear hb FW hfb; cases fb)
      | (go_at_call 9; (with_reducible refine (A7 _ HL1.out).mono ?_); rintro e w2 ⟨rfl, hb⟩; have HB2 := Lib.hid (HB1.out.trans (hb.mono HB1.out.size)); clear hb)
      | (go_at_call 10; (with_reducible refine (PA _ HL1.out).mono ?_); rintro e w2 ⟨rfl, hb⟩; have hb' := hb.alloc hb.size (.cells #[.string y0, .string y1, .string y2] 23); have HB2 := Lib.hid hb'; clear hb hb' PA)
      | (go_at_call 11; (with_reducible refine (PB _).mono ?_); rintro e w3 ⟨rfl, hb⟩; have HB3' := Lib.hid hb; clear hb PB))
    · go_ret
      exact ⟨rfl, HB2.out⟩
    · have BD := Lib.hid (HBD1.out trivial)
      have bz := (Below.refl w3.heap.size w3).alloc (Nat.le_refl _) (.cells #[.string y0, .string y1, .string y2] 23)
      have q3 := box3 (box3 (box3 HX1.out HB2.out) HB3'.out) bz
      have r3 := box3 (box3 (box3New w2 y0 y1 y2 23) HB3'.out) bz
      have t3 := box3New w3 y0 y1 y2 23
      have HBV := HB1.out.trans ((HB2.out.trans ((HB3'.out.trans (bz.mono HB3'.out.size)).mono HB2.out.size)).mono HB1.out.size)
      clear bz HX1 HB2 HB3' HBD1 HL1 HB1 HX3 HX0 HB3 HLT HLT1 HBD
      generalize w3.alloc (.cells #[.string y0, .string y1, .string y2] 23) = V at *
      obtain ⟨q0, q1, q2⟩ := q3
      obtain ⟨r0, r1, r2⟩ := r3
      obtain ⟨t0, t1, t2⟩ := t3
      have hs := And.intro q0 (And.intro q1 (And.intro q2 (And.intro r0 (And.intro r1 (And.intro r2 (And.intro t0 (And.intro t1 (And.intro t2 HBV))))))))
      have BE := fun (V : World) (h : V.cell? ⟨w.heap.size, 0, none⟩ = some (.string P) ∧ V.cell? ⟨w.heap.size, 1, none⟩ = some (.string Q) ∧ V.cell? ⟨w.heap.size, 2, none⟩ = some (.string Z) ∧ V.cell? ⟨w2.heap.size, 0, none⟩ = some (.string y0) ∧ V.cell? ⟨w2.heap.size, 1, none⟩ = some (.string y1) ∧ V.cell? ⟨w2.heap.size, 2, none⟩ = some (.string y2) ∧ V.cell? ⟨w3.heap.size, 0, none⟩ = some (.string y0) ∧ V.cell? ⟨w3.heap.size, 1, none⟩ = some (.string y1) ∧ V.cell? ⟨w3.heap.size, 2, none⟩ = some (.string y2) ∧ Below w.heap.size w V) => AtF.be (w := w) (l := [(⟨w.heap.size, 0, none⟩, .string P), (⟨w.heap.size, 1, none⟩, .string Q), (⟨w.heap.size, 2, none⟩, .string Z), (⟨w2.heap.size, 0, none⟩, .string y0), (⟨w2.heap.size, 1, none⟩, .string y1), (⟨w2.heap.size, 2, none⟩, .string y2), (⟨w3.heap.size, 0, none⟩, .string y0), (⟨w3.heap.size, 1, none⟩, .string y1), (⟨w3.heap.size, 2, none⟩, .string y2)]) h
      go_region_held3 (fun V => V.cell? ⟨w.heap.size, 0, none⟩ = some (.string P) ∧ V.cell? ⟨w.heap.size, 1, none⟩ = some (.string Q) ∧ V.cell? ⟨w.heap.size, 2, none⟩ = some (.string Z) ∧ V.cell? ⟨w2.heap.size, 0, none⟩ = some (.string y0) ∧ V.cell? ⟨w2.heap.size, 1, none⟩ = some (.string y1) ∧ V.cell? ⟨w2.heap.size, 2, none⟩ = some (.string y2) ∧ V.cell? ⟨w3.heap.size, 0, none⟩ = some (.string y0) ∧ V.cell? ⟨w3.heap.size, 1, none⟩ = some (.string y1) ∧ V.cell? ⟨w3.heap.size, 2, none⟩ = some (.string y2) ∧ Below w.heap.size w V)
        (first | assumption | exact hs | exact AtF.dr (w := w) (l := [(⟨w.heap.size, 0, none⟩, .string P), (⟨w.heap.size, 1, none⟩, .string Q), (⟨w.heap.size, 2, none⟩, .string Z), (⟨w2.heap.size, 0, none⟩, .string y0), (⟨w2.heap.size, 1, none⟩, .string y1), (⟨w2.heap.size, 2, none⟩, .string y2), (⟨w3.heap.size, 0, none⟩, .string y0), (⟨w3.heap.size, 1, none⟩, .string y1), (⟨w3.heap.size, 2, none⟩, .string y2)]) hs | exact AtF.dr (w := w) (l := [(⟨w.heap.size, 0, none⟩, .string P), (⟨w.heap.size, 1, none⟩, .string Q), (⟨w.heap.size, 2, none⟩, .string Z), (⟨w2.heap.size, 0, none⟩, .string y0), (⟨w2.heap.size, 1, none⟩, .string y1), (⟨w2.heap.size, 2, none⟩, .string y2), (⟨w3.heap.size, 0, none⟩, .string y0), (⟨w3.heap.size, 1, none⟩, .string y1), (⟨w3.heap.size, 2, none⟩, .string y2)]) (by assumption) | exact AtF.on (w := w) (l := [(⟨w.heap.size, 0, none⟩, .string P), (⟨w.heap.size, 1, none⟩, .string Q), (⟨w.heap.size, 2, none⟩, .string Z), (⟨w2.heap.size, 0, none⟩, .string y0), (⟨w2.heap.size, 1, none⟩, .string y1), (⟨w2.heap.size, 2, none⟩, .string y2), (⟨w3.heap.size, 0, none⟩, .string y0), (⟨w3.heap.size, 1, none⟩, .string y1), (⟨w3.heap.size, 2, none⟩, .string y2)]) (by assumption) (by assumption) | exact AtF.al (w := w) (l := [(⟨w.heap.size, 0, none⟩, .string P), (⟨w.heap.size, 1, none⟩, .string Q), (⟨w.heap.size, 2, none⟩, .string Z), (⟨w2.heap.size, 0, none⟩, .string y0), (⟨w2.heap.size, 1, none⟩, .string y1), (⟨w2.heap.size, 2, none⟩, .string y2), (⟨w3.heap.size, 0, none⟩, .string y0), (⟨w3.heap.size, 1, none⟩, .string y1), (⟨w3.heap.size, 2, none⟩, .string y2)]) (by assumption) _ | exact AtF.ald (w := w) (l := [(⟨w.heap.size, 0, none⟩, .string P), (⟨w.heap.size, 1, none⟩, .string Q), (⟨w.heap.size, 2, none⟩, .string Z), (⟨w2.heap.size, 0, none⟩, .string y0), (⟨w2.heap.size, 1, none⟩, .string y1), (⟨w2.heap.size, 2, none⟩, .string y2), (⟨w3.heap.size, 0, none⟩, .string y0), (⟨w3.heap.size, 1, none⟩, .string y1), (⟨w3.heap.size, 2, none⟩, .string y2)]) (by assumption) _ | exact AtF.al (w := w) (l := [(⟨w.heap.size, 0, none⟩, .string P), (⟨w.heap.size, 1, none⟩, .string Q), (⟨w.heap.size, 2, none⟩, .string Z), (⟨w2.heap.size, 0, none⟩, .string y0), (⟨w2.heap.size, 1, none⟩, .string y1), (⟨w2.heap.size, 2, none⟩, .string y2), (⟨w3.heap.size, 0, none⟩, .string y0), (⟨w3.heap.size, 1, none⟩, .string y1), (⟨w3.heap.size, 2, none⟩, .string y2)]) hs _ | exact AtF.ald (w := w) (l := [(⟨w.heap.size, 0, none⟩, .string P), (⟨w.heap.size, 1, none⟩, .string Q), (⟨w.heap.size, 2, none⟩, .string Z), (⟨w2.heap.size, 0, none⟩, .string y0), (⟨w2.heap.size, 1, none⟩, .string y1), (⟨w2.heap.size, 2, none⟩, .string y2), (⟨w3.heap.size, 0, none⟩, .string y0), (⟨w3.heap.size, 1, none⟩, .string y1), (⟨w3.heap.size, 2, none⟩, .string y2)]) hs _)
        (((first | (go_at_call 12; (with_reducible refine (IS _).mono ?_); rintro e w9 ⟨rfl, rfl⟩) | (go_at_call 13; (with_reducible refine (RA _ BD.out (HL.out.on (BE _ (by assumption))).v).mono ?_); rintro e w9 ⟨rfl, hb⟩) | (go_at_call 14; (with_reducible refine (RB _ BD.out).mono ?_); rintro e w9 ⟨rfl, hb⟩) | (go_at_call 15; (with_reducible refine (TA _ BD.out).mono ?_); rintro e w9 ⟨rfl, hb⟩) | (go_at_call 16; (with_reducible refine (TB _ BD.out).mono ?_); rintro e w9 ⟨rfl, hb⟩))))
      all_goals
        rename_i hHeld
        have HB9 := Lib.hid (BE _ hHeld)
        obtain ⟨m0, m1, m2, n0, n1, n2, -⟩ := hHeld
        have HX9 := Lib.hid (And.intro m0 (And.intro m1 m2))
        have HY9 := Lib.hid (And.intro n0 (And.intro n1 n2))
        have HL9 := Lib.hid (HL.out.on HB9.out)
        clear BE hs q0 q1 q2 r0 r1 r2 t0 t1 t2 HBV n0 n1 n2 IS RB TB
        go_wp2_with (first
          | (go_at_call 15; (with_reducible refine (TA _ BD.out).mono ?_); rintro e w10 ⟨rfl, hb⟩; have HX10 := Lib.hid (box3 HX9.out hb); have HY10 := Lib.hid (box3 HY9.out hb); have HL10 := Lib.hid (HL9.out.on hb); have HB10 := Lib.hid (HB9.out.trans (hb.mono HB9.out.size)); clear hb TA m0 m1 m2 HX9 HY9 HL9 HB9)
          | (go_at_call 10; (with_reducible refine (PT _ BD.out HL10.out).mono ?_); rintro e w11 ⟨rfl, hb⟩; have hc := hb.alloc hb.size (.cells #[.string d0, .string d1, .string d2] 23); obtain ⟨m0, m1, m2⟩ := box3 HX10.out hc; have HX11 := Lib.hid (And.intro m0 (And.intro m1 m2)); have HY11 := Lib.hid (box3 HY10.out hc); have HD11 := Lib.hid (box3New w11 d0 d1 d2 23); have HL11 := Lib.hid (HL10.out.on hc); have HB11 := Lib.hid (HB10.out.trans (hc.mono HB10.out.size)); clear hb hc PT HX10 HY10 HL10 HB10)
          | (go_at_call 10; (with_reducible refine (PT _ BD.out HL10.out).mono ?_); rintro e w11 ⟨rfl, hb⟩; have hc := hb.alloc hb.size (.cells #[.string P, .string Q, .string Z] 23); obtain ⟨m0, m1, m2⟩ := box3 HX10.out hc; have HX11 := Lib.hid (And.intro m0 (And.intro m1 m2)); have HY11 := Lib.hid (box3 HY10.out hc); have HD11 := Lib.hid (box3New w11 P Q Z 23); have HL11 := Lib.hid (HL10.out.on hc); have HB11 := Lib.hid (HB10.out.trans (hc.mono HB10.out.size)); clear hb hc PT HX10 HY10 HL10 HB10)
          | (go_at_call 13; (with_reducible refine (RA _ BD.out HL11.out.v).mono ?_); rintro e w12 ⟨rfl, hb⟩; obtain ⟨p0, p1, p2⟩ := box3 HX11.out hb; obtain ⟨n0, n1, n2⟩ := box3 HY11.out hb; obtain ⟨k0, k1, k2⟩ := box3 HD11.out hb; have HL12 := Lib.hid (HL11.out.on hb); have HB12 := Lib.hid (HB11.out.trans (hb.mono HB11.out.size)); clear hb RA m0 m1 m2 HX11 HY11 HD11 HL11 HB11)
          | (go_at_call 15; (with_reducible refine (HTY.out trivial _).mono ?_); rintro e w13 ⟨rfl, hb⟩; have HL13 := Lib.hid (HL12.out.on hb); have HB13 := Lib.hid (HB12.out.trans (hb.mono HB12.out.size)); clear hb)
          | (go_at_call 9; (with_reducible refine (A7 _ HL13.out).mono ?_); rintro e w14 ⟨rfl, hb⟩; have HB14 := Lib.hid (HB13.out.trans (hb.mono HB13.out.size)); clear hb)
          | (go_at_call 9; (with_reducible refine (A7 _ HL12.out).mono ?_); rintro e w14 ⟨rfl, hb⟩; have HB14 := Lib.hid (HB12.out.trans (hb.mono HB12.out.size)); clear hb))
        go_ret
        exact ⟨rfl, HB14.out⟩
end Go.Proofs.YtbndndpjbhodbaaGreatDoor.relationTextsw
