/-
  Which diversion may be: the program's Right, and the reference's: what each returns; nothing old turns. Condition: LaidP.
-/
import Derived.Test.YtogkickaebmeoaaDoorDRight
import Derived.RangeFuncBox
namespace Go.Proofs.YtogkickaebmeoaaDoor
open Go.RowKit
theorem box3 (W : World) (x y z : ByteArray) (t : TypeId) : (W.alloc (.cells #[.string x, .string y, .string z] t)).cell? ⟨W.heap.size, 0, none⟩ = some (.string x) ∧ (W.alloc (.cells #[.string x, .string y, .string z] t)).cell? ⟨W.heap.size, 1, none⟩ = some (.string y) ∧ (W.alloc (.cells #[.string x, .string y, .string z] t)).cell? ⟨W.heap.size, 2, none⟩ = some (.string z) := by
  refine ⟨?_, ?_, ?_⟩ <;> (rw [cellRow _ _ _ _ _ (0, 0) (World.alloc_heap_new W _)]; rfl)
/-- Three cells of a block, and that it is there. -/
def At3 (W : World) (b : Nat) (x y z : ByteArray) : Prop := W.cell? ⟨b, 0, none⟩ = some (.string x) ∧ W.cell? ⟨b, 1, none⟩ = some (.string y) ∧ W.cell? ⟨b, 2, none⟩ = some (.string z)
theorem At3.on {W W' : World} {b : Nat} {x y z : ByteArray} (h : At3 W b x y z) (hb : Below W.heap.size W W') : At3 W' b x y z := by
  have l := World.block_lt_of_cell? W _ h.1
  exact ⟨(hb.cell (p := ⟨b, 0, none⟩) l).trans h.1, (hb.cell (p := ⟨b, 1, none⟩) l).trans h.2.1, (hb.cell (p := ⟨b, 2, none⟩) l).trans h.2.2⟩
theorem byEmpty (c : ByteArray) : c.toList.isEmpty = decide (c.data.toList = []) := by rw [ByteArray.toList_eq]; cases c.data.toList <;> simp
set_option maxRecDepth 100000 in
set_option maxHeartbeats 4000000 in
theorem right9_any (a b c : ByteArray) (ha : a.size ≤ 4000) (hb : b.size ≤ 4000) (hc : c.size ≤ 4000) (w : World) (h : LaidP w) :
    Calls Tryd.prog 40 #[aggD a b c] w fun e w' => e = .returned (.bool (rightD (a.data.toList, b.data.toList, c.data.toList))) ∧ Below w.heap.size w w' := by
  have PL := fun (s : ByteArray) (hs : s.size ≤ 4000) w (h : LaidP w) => place_any s hs w h
  have NM := fun w => name_any c hc w
  obtain ⟨R, HR⟩ : ∃ R, Hid (rightD (a.data.toList, b.data.toList, c.data.toList) = R) := ⟨_, rfl⟩
  rw [HR.out]
  have B0 := (Below.refl w.heap.size w).alloc (Nat.le_refl _) (.cells #[.string a, .string b, .string c] 54)
  have L0 := Lib.hid (h.on B0)
  have X0 := Lib.hid (show At3 _ _ _ _ _ from box3 w a b c 54)
  have HB0 := Lib.hid B0
  have P1 := PL a ha _ L0.out
  clear B0
  have hq := eqT a b
  have he := byEmpty c
  cases h1 : plB a.data.toList <;> rw [h1] at P1
  · have HF : Hid (false = R) := Lib.hid (by rw [← HR.out]; unfold rightD; simp only []; rw [h1]; rfl)
    clear HR
    go_enter Tryd.func40, Tryd.ntmps40
    go_wp2_with (first
      | (go_at_call 72; (with_reducible refine P1.mono ?_); rintro e w1 ⟨rfl, hb1⟩; have HB1 := Lib.hid (HB0.out.trans (hb1.mono HB0.out.size)); have X1 := Lib.hid (X0.out.on hb1); have L1 := Lib.hid (L0.out.on hb1); obtain ⟨d0, d1, d2⟩ := X1.out; clear hb1)
      | (go_at_call 72; (with_reducible refine (PL b hb _ L1.out).mono ?_); rintro e w2 ⟨he2, hb2⟩; rw [h2] at he2; subst he2; have HB2 := Lib.hid (HB1.out.trans (hb2.mono HB1.out.size)); obtain ⟨c0, c1, c2⟩ := X1.out.on hb2; clear hb2)
      | (go_at_call 44; (with_reducible refine (NM _).mono ?_); rintro e w3 ⟨rfl, rfl⟩))
    go_ret
    exact ⟨retb HF.out, HB1.out⟩
  cases h2 : plB b.data.toList
  · have HF : Hid (false = R) := Lib.hid (by rw [← HR.out]; unfold rightD; simp only []; rw [h1, h2]; rfl)
    clear HR
    go_enter Tryd.func40, Tryd.ntmps40
    go_wp2_with (first
      | (go_at_call 72; (with_reducible refine P1.mono ?_); rintro e w1 ⟨rfl, hb1⟩; have HB1 := Lib.hid (HB0.out.trans (hb1.mono HB0.out.size)); have X1 := Lib.hid (X0.out.on hb1); have L1 := Lib.hid (L0.out.on hb1); obtain ⟨d0, d1, d2⟩ := X1.out; clear hb1)
      | (go_at_call 72; (with_reducible refine (PL b hb _ L1.out).mono ?_); rintro e w2 ⟨he2, hb2⟩; rw [h2] at he2; subst he2; have HB2 := Lib.hid (HB1.out.trans (hb2.mono HB1.out.size)); obtain ⟨c0, c1, c2⟩ := X1.out.on hb2; clear hb2)
      | (go_at_call 44; (with_reducible refine (NM _).mono ?_); rintro e w3 ⟨rfl, rfl⟩))
    go_ret
    exact ⟨retb HF.out, HB2.out⟩
  by_cases h3 : a.data.toList = b.data.toList
  · rw [decide_eq_true h3] at hq
    have HF : Hid (false = R) := Lib.hid (by rw [← HR.out]; unfold rightD; simp only []; rw [h1, h2, decide_eq_false (fun g => g h3)]; rfl)
    clear HR h3
    go_enter Tryd.func40, Tryd.ntmps40
    go_wp2_with (first
      | (go_at_call 72; (with_reducible refine P1.mono ?_); rintro e w1 ⟨rfl, hb1⟩; have HB1 := Lib.hid (HB0.out.trans (hb1.mono HB0.out.size)); have X1 := Lib.hid (X0.out.on hb1); have L1 := Lib.hid (L0.out.on hb1); obtain ⟨d0, d1, d2⟩ := X1.out; clear hb1)
      | (go_at_call 72; (with_reducible refine (PL b hb _ L1.out).mono ?_); rintro e w2 ⟨he2, hb2⟩; rw [h2] at he2; subst he2; have HB2 := Lib.hid (HB1.out.trans (hb2.mono HB1.out.size)); obtain ⟨c0, c1, c2⟩ := X1.out.on hb2; clear hb2)
      | (go_at_call 44; (with_reducible refine (NM _).mono ?_); rintro e w3 ⟨rfl, rfl⟩))
    go_ret
    exact ⟨retb HF.out, HB2.out⟩
  rw [decide_eq_false h3] at hq
  by_cases h4 : c.data.toList = []
  · rw [decide_eq_true h4] at he
    have HF : Hid (true = R) := Lib.hid (by rw [← HR.out]; unfold rightD; simp only []; rw [h1, h2, decide_eq_true h3, decide_eq_true h4]; rfl)
    clear HR h3 h4
    go_enter Tryd.func40, Tryd.ntmps40
    go_wp2_with (first
      | (go_at_call 72; (with_reducible refine P1.mono ?_); rintro e w1 ⟨rfl, hb1⟩; have HB1 := Lib.hid (HB0.out.trans (hb1.mono HB0.out.size)); have X1 := Lib.hid (X0.out.on hb1); have L1 := Lib.hid (L0.out.on hb1); obtain ⟨d0, d1, d2⟩ := X1.out; clear hb1)
      | (go_at_call 72; (with_reducible refine (PL b hb _ L1.out).mono ?_); rintro e w2 ⟨he2, hb2⟩; rw [h2] at he2; subst he2; have HB2 := Lib.hid (HB1.out.trans (hb2.mono HB1.out.size)); obtain ⟨c0, c1, c2⟩ := X1.out.on hb2; clear hb2)
      | (go_at_call 44; (with_reducible refine (NM _).mono ?_); rintro e w3 ⟨rfl, rfl⟩))
    go_ret
    exact ⟨retb HF.out, HB2.out⟩
  · rw [decide_eq_false h4] at he
    have HF : Hid (nameB c.data.toList = R) := Lib.hid (by rw [← HR.out]; unfold rightD; simp only []; rw [h1, h2, decide_eq_true h3, decide_eq_false h4]; rfl)
    generalize nameB c.data.toList = q at *
    clear HR h3 h4
    go_enter Tryd.func40, Tryd.ntmps40
    go_wp2_with (first
      | (go_at_call 72; (with_reducible refine P1.mono ?_); rintro e w1 ⟨rfl, hb1⟩; have HB1 := Lib.hid (HB0.out.trans (hb1.mono HB0.out.size)); have X1 := Lib.hid (X0.out.on hb1); have L1 := Lib.hid (L0.out.on hb1); obtain ⟨d0, d1, d2⟩ := X1.out; clear hb1)
      | (go_at_call 72; (with_reducible refine (PL b hb _ L1.out).mono ?_); rintro e w2 ⟨he2, hb2⟩; rw [h2] at he2; subst he2; have HB2 := Lib.hid (HB1.out.trans (hb2.mono HB1.out.size)); obtain ⟨c0, c1, c2⟩ := X1.out.on hb2; clear hb2)
      | (go_at_call 44; (with_reducible refine (NM _).mono ?_); rintro e w3 ⟨rfl, rfl⟩))
    go_ret
    exact ⟨retb HF.out, HB2.out⟩
set_option maxRecDepth 100000 in
set_option maxHeartbeats 8000000 in
theorem right9_ref (a b c : ByteArray) (ha : a.size ≤ 4000) (hb : b.size ≤ 4000) (hc : c.size ≤ 4000) (w : World) :
    Calls Tryd.prog 41 #[aggD a b c] w fun e w' => e = .returned (.bool (rightD (a.data.toList, b.data.toList, c.data.toList))) ∧ Below w.heap.size w w' := by
  have PL := fun (s : ByteArray) (hs : s.size ≤ 4000) w => right_ref s hs w
  have NM := fun w => name_ref c hc w
  obtain ⟨R, HR⟩ : ∃ R, Hid (rightD (a.data.toList, b.data.toList, c.data.toList) = R) := ⟨_, rfl⟩
  rw [HR.out]
  have B0 := (Below.refl w.heap.size w).alloc (Nat.le_refl _) (.cells #[.string a, .string b, .string c] 54)
  have X0 := Lib.hid (show At3 _ _ _ _ _ from box3 w a b c 54)
  have HB0 := Lib.hid B0
  have P1 := PL a ha (w.alloc (.cells #[.string a, .string b, .string c] 54))
  clear B0
  have hq := eqT a b
  have he := byEmpty c
  have ra := neRoot a
  have rb := neRoot b
  have EX : Hid (rightD (a.data.toList, b.data.toList, c.data.toList) = (right a.data.toList && right b.data.toList && decide (a.data.toList ≠ b.data.toList) && decide (a.data.toList ≠ [47]) && decide (b.data.toList ≠ [47]) && (decide (c.data.toList = []) || nameB c.data.toList))) := Lib.hid (by
    unfold rightD plB; simp only []
    cases right a.data.toList <;> cases right b.data.toList <;> cases decide (a.data.toList ≠ b.data.toList) <;> cases decide (a.data.toList ≠ [47]) <;> cases decide (b.data.toList ≠ [47]) <;> rfl)
  rw [EX.out] at HR
  clear EX
  cases h1 : right a.data.toList <;> rw [h1] at P1 HR
  · have HF : Hid (false = R) := Lib.hid (by rw [← HR.out]; rfl)
    clear HR
    go_enter Tryd.func41, Tryd.ntmps41
    go_wp2_with (first
      | (go_at_call 48; (with_reducible refine P1.mono ?_); rintro e w1 ⟨rfl, hb1⟩; have HB1 := Lib.hid (HB0.out.trans (hb1.mono HB0.out.size)); have X1 := Lib.hid (X0.out.on hb1); obtain ⟨d0, d1, d2⟩ := X1.out; clear hb1)
      | (go_at_call 48; (with_reducible refine (PL b hb _).mono ?_); rintro e w2 ⟨he2, hb2⟩; rw [h2] at he2; subst he2; have HB2 := Lib.hid (HB1.out.trans (hb2.mono HB1.out.size)); obtain ⟨c0, c1, c2⟩ := X1.out.on hb2; clear hb2)
      | (go_at_call 49; (with_reducible refine (NM _).mono ?_); rintro e w3 ⟨rfl, rfl⟩))
    go_ret
    exact ⟨retb HF.out, HB1.out⟩
  cases h2 : right b.data.toList <;> rw [h2] at HR
  · have HF : Hid (false = R) := Lib.hid (by rw [← HR.out]; rfl)
    clear HR
    go_enter Tryd.func41, Tryd.ntmps41
    go_wp2_with (first
      | (go_at_call 48; (with_reducible refine P1.mono ?_); rintro e w1 ⟨rfl, hb1⟩; have HB1 := Lib.hid (HB0.out.trans (hb1.mono HB0.out.size)); have X1 := Lib.hid (X0.out.on hb1); obtain ⟨d0, d1, d2⟩ := X1.out; clear hb1)
      | (go_at_call 48; (with_reducible refine (PL b hb _).mono ?_); rintro e w2 ⟨he2, hb2⟩; rw [h2] at he2; subst he2; have HB2 := Lib.hid (HB1.out.trans (hb2.mono HB1.out.size)); obtain ⟨c0, c1, c2⟩ := X1.out.on hb2; clear hb2)
      | (go_at_call 49; (with_reducible refine (NM _).mono ?_); rintro e w3 ⟨rfl, rfl⟩))
    go_ret
    exact ⟨retb HF.out, HB2.out⟩
  by_cases h3 : a.data.toList = b.data.toList
  · rw [decide_eq_true h3] at hq
    rw [decide_eq_false (fun g => g h3)] at HR
    have HF : Hid (false = R) := Lib.hid (by rw [← HR.out]; rfl)
    clear HR h3
    go_enter Tryd.func41, Tryd.ntmps41
    go_wp2_with (first
      | (go_at_call 48; (with_reducible refine P1.mono ?_); rintro e w1 ⟨rfl, hb1⟩; have HB1 := Lib.hid (HB0.out.trans (hb1.mono HB0.out.size)); have X1 := Lib.hid (X0.out.on hb1); obtain ⟨d0, d1, d2⟩ := X1.out; clear hb1)
      | (go_at_call 48; (with_reducible refine (PL b hb _).mono ?_); rintro e w2 ⟨he2, hb2⟩; rw [h2] at he2; subst he2; have HB2 := Lib.hid (HB1.out.trans (hb2.mono HB1.out.size)); obtain ⟨c0, c1, c2⟩ := X1.out.on hb2; clear hb2)
      | (go_at_call 49; (with_reducible refine (NM _).mono ?_); rintro e w3 ⟨rfl, rfl⟩))
    go_ret
    exact ⟨retb HF.out, HB2.out⟩
  rw [decide_eq_false h3] at hq
  rw [decide_eq_true (show a.data.toList ≠ b.data.toList from h3)] at HR
  clear h3
  cases hra : decide (a.data.toList ≠ [47]) <;> rw [hra] at ra HR
  · have HF : Hid (false = R) := Lib.hid (by rw [← HR.out]; rfl)
    clear HR hra
    go_enter Tryd.func41, Tryd.ntmps41
    go_wp2_with (first
      | (go_at_call 48; (with_reducible refine P1.mono ?_); rintro e w1 ⟨rfl, hb1⟩; have HB1 := Lib.hid (HB0.out.trans (hb1.mono HB0.out.size)); have X1 := Lib.hid (X0.out.on hb1); obtain ⟨d0, d1, d2⟩ := X1.out; clear hb1)
      | (go_at_call 48; (with_reducible refine (PL b hb _).mono ?_); rintro e w2 ⟨he2, hb2⟩; rw [h2] at he2; subst he2; have HB2 := Lib.hid (HB1.out.trans (hb2.mono HB1.out.size)); obtain ⟨c0, c1, c2⟩ := X1.out.on hb2; clear hb2)
      | (go_at_call 49; (with_reducible refine (NM _).mono ?_); rintro e w3 ⟨rfl, rfl⟩))
    go_ret
    exact ⟨retb HF.out, HB2.out⟩
  cases hrb : decide (b.data.toList ≠ [47]) <;> rw [hrb] at rb HR
  · have HF : Hid (false = R) := Lib.hid (by rw [← HR.out]; rfl)
    clear HR hra hrb
    go_enter Tryd.func41, Tryd.ntmps41
    go_wp2_with (first
      | (go_at_call 48; (with_reducible refine P1.mono ?_); rintro e w1 ⟨rfl, hb1⟩; have HB1 := Lib.hid (HB0.out.trans (hb1.mono HB0.out.size)); have X1 := Lib.hid (X0.out.on hb1); obtain ⟨d0, d1, d2⟩ := X1.out; clear hb1)
      | (go_at_call 48; (with_reducible refine (PL b hb _).mono ?_); rintro e w2 ⟨he2, hb2⟩; rw [h2] at he2; subst he2; have HB2 := Lib.hid (HB1.out.trans (hb2.mono HB1.out.size)); obtain ⟨c0, c1, c2⟩ := X1.out.on hb2; clear hb2)
      | (go_at_call 49; (with_reducible refine (NM _).mono ?_); rintro e w3 ⟨rfl, rfl⟩))
    go_ret
    exact ⟨retb HF.out, HB2.out⟩
  clear hra hrb
  cases h4 : decide (c.data.toList = []) <;> rw [h4] at he HR
  · have HF : Hid (nameB c.data.toList = R) := Lib.hid (by rw [← HR.out]; cases nameB c.data.toList <;> rfl)
    generalize nameB c.data.toList = q at *
    clear HR h4
    go_enter Tryd.func41, Tryd.ntmps41
    go_wp2_with (first
      | (go_at_call 48; (with_reducible refine P1.mono ?_); rintro e w1 ⟨rfl, hb1⟩; have HB1 := Lib.hid (HB0.out.trans (hb1.mono HB0.out.size)); have X1 := Lib.hid (X0.out.on hb1); obtain ⟨d0, d1, d2⟩ := X1.out; clear hb1)
      | (go_at_call 48; (with_reducible refine (PL b hb _).mono ?_); rintro e w2 ⟨he2, hb2⟩; rw [h2] at he2; subst he2; have HB2 := Lib.hid (HB1.out.trans (hb2.mono HB1.out.size)); obtain ⟨c0, c1, c2⟩ := X1.out.on hb2; clear hb2)
      | (go_at_call 49; (with_reducible refine (NM _).mono ?_); rintro e w3 ⟨rfl, rfl⟩))
    go_ret
    exact ⟨retb HF.out, HB2.out⟩
  · have HF : Hid (true = R) := Lib.hid (by rw [← HR.out]; rfl)
    clear HR h4
    go_enter Tryd.func41, Tryd.ntmps41
    go_wp2_with (first
      | (go_at_call 48; (with_reducible refine P1.mono ?_); rintro e w1 ⟨rfl, hb1⟩; have HB1 := Lib.hid (HB0.out.trans (hb1.mono HB0.out.size)); have X1 := Lib.hid (X0.out.on hb1); obtain ⟨d0, d1, d2⟩ := X1.out; clear hb1)
      | (go_at_call 48; (with_reducible refine (PL b hb _).mono ?_); rintro e w2 ⟨he2, hb2⟩; rw [h2] at he2; subst he2; have HB2 := Lib.hid (HB1.out.trans (hb2.mono HB1.out.size)); obtain ⟨c0, c1, c2⟩ := X1.out.on hb2; clear hb2)
      | (go_at_call 49; (with_reducible refine (NM _).mono ?_); rintro e w3 ⟨rfl, rfl⟩))
    go_ret
    exact ⟨retb HF.out, HB2.out⟩
end Go.Proofs.YtogkickaebmeoaaDoor
