/-
  The reference's Right of a relation: what it returns; nothing old turns.
-/
import Derived.Test.YteoomeknlfcfaaaGreatDoorQText
import Derived.Test.YteoomeknlfcfaaaGreatDoorVParse
namespace Go.Proofs.YteoomeknlfcfaaaGreatDoor
open Go.RowKit
theorem box3 {A B : World} {b : Nat} {x y z : ByteArray} (h : A.cell? ⟨b, 0, none⟩ = some (.string x) ∧ A.cell? ⟨b, 1, none⟩ = some (.string y) ∧ A.cell? ⟨b, 2, none⟩ = some (.string z)) (hb : Below A.heap.size A B) : B.cell? ⟨b, 0, none⟩ = some (.string x) ∧ B.cell? ⟨b, 1, none⟩ = some (.string y) ∧ B.cell? ⟨b, 2, none⟩ = some (.string z) := by
  have hlt := World.block_lt_of_cell? A _ h.1
  have k := fun o => hb.cell (p := ⟨b, o, none⟩) hlt
  exact ⟨by rw [k]; exact h.1, by rw [k]; exact h.2.1, by rw [k]; exact h.2.2⟩
theorem box3New (A : World) (x y z : ByteArray) (t : TypeId) : (A.alloc (.cells #[.string x, .string y, .string z] t)).cell? ⟨A.heap.size, 0, none⟩ = some (.string x) ∧ (A.alloc (.cells #[.string x, .string y, .string z] t)).cell? ⟨A.heap.size, 1, none⟩ = some (.string y) ∧ (A.alloc (.cells #[.string x, .string y, .string z] t)).cell? ⟨A.heap.size, 2, none⟩ = some (.string z) := by
  simp [World.cell?_alloc_new]
/-- What Right looks at. -/
inductive RightTo (x : Rl) : Bool → Prop
  | name (h : nameB x.1 = false) : RightTo x false
  | bare (h : nameB x.1 = true) (h2 : x.2.1 = []) : RightTo x (decide (x.2.2 = []))
  | op (h : nameB x.1 = true) (h2 : x.2.1 ≠ []) : RightTo x (opB x.2.1 && decide ((parseE x.2.2).2 = 0))
theorem right_to (x : Rl) : RightTo x (rightR x) := by
  unfold rightR
  cases h : nameB x.1
  · exact .name h
  · by_cases h2 : x.2.1 = []
    · rw [if_pos h2]; exact .bare h h2
    · rw [if_neg h2]; exact .op h h2
set_option maxRecDepth 100000 in
set_option maxHeartbeats 8000000 in
theorem right_ref (n o v : ByteArray) (hn : n.size ≤ 4000) (hv : v.size ≤ 4000) (w : World) :
    Calls Tryz.prog 14 #[.agg #[.string n, .string o, .string v]] w fun e w' => e = .returned (.bool (rightR (n.data.toList, o.data.toList, v.data.toList))) ∧ Below w.heap.size w w' := by
  have NM := fun w => name_ref n hn w
  have PV := fun w => parse_ref v hv w
  unfold ParsePost parseV verV at PV
  obtain ⟨R, hR⟩ : ∃ R, rightR (n.data.toList, o.data.toList, v.data.toList) = R := ⟨_, rfl⟩
  have hrt := right_to (n.data.toList, o.data.toList, v.data.toList)
  rw [hR] at hrt ⊢
  have hez := emptyT o
  have hev := emptyT v
  have e1 := eqTL o [60, 60]
  have e2 := eqTL o [60, 61]
  have e3 := eqTL o [61]
  have e4 := eqTL o [62, 61]
  have e5 := eqTL o [62, 62]
  have hal : ∀ (o : Obj), Below w.heap.size w (w.alloc o) := fun o => (Below.refl _ _).alloc (Nat.le_refl _) _
  have HAL := Lib.hid hal
  have hbn := box3New w n o v 23
  clear hR hal
  cases hrt with
  | name h =>
    simp only [] at h
    simp only [h] at NM
    clear e1 e2 e3 e4 e5 hez hev
    go_enter Tryz.func14, Tryz.ntmps14
    go_wp2_with (go_at_call 37; (with_reducible refine (NM _).mono ?_); rintro e w1 ⟨rfl, rfl⟩)
    go_ret
    exact ⟨rfl, HAL.out _⟩
  | bare h h2 =>
    simp only [] at h h2
    simp only [h] at NM
    have ho : o.size = 0 := by rw [sizeOf, h2]; rfl
    rw [decide_eq_true ho] at hez
    have hvv : decide (v.data.toList = []) = decide (v.size = 0) := by
      congr 1
      rw [sizeOf, List.length_eq_zero_iff]
    simp only [hvv]
    rw [← hev]
    clear e1 e2 e3 e4 e5 ho h h2 hev hvv
    go_enter Tryz.func14, Tryz.ntmps14
    go_wp2_with (go_at_call 37; (with_reducible refine (NM _).mono ?_); rintro e w1 ⟨rfl, rfl⟩)
    go_ret
    exact ⟨rfl, HAL.out _⟩
  | op h h2 =>
    simp only [] at h h2
    simp only [h] at NM
    have ho : ¬ o.size = 0 := fun e => h2 (List.eq_nil_of_length_eq_zero (by rw [← sizeOf]; exact e))
    rw [decide_eq_false ho] at hez
    obtain ⟨b1, b2, b3, b4, b5, g1, g2, g3, g4, g5, hop⟩ : ∃ b1 b2 b3 b4 b5, (o.toList == [60, 60]) = b1 ∧ (o.toList == [60, 61]) = b2 ∧ (o.toList == [61]) = b3 ∧ (o.toList == [62, 61]) = b4 ∧ (o.toList == [62, 62]) = b5 ∧ opB o.data.toList = ((((b1 || b2) || b3) || b4) || b5) := ⟨_, _, _, _, _, e1, e2, e3, e4, e5, rfl⟩
    have hways : (b1 = true) ∨ (b1 = false ∧ b2 = true) ∨ (b1 = false ∧ b2 = false ∧ b3 = true) ∨ (b1 = false ∧ b2 = false ∧ b3 = false ∧ b4 = true) ∨ (b1 = false ∧ b2 = false ∧ b3 = false ∧ b4 = false ∧ b5 = true) ∨ (b1 = false ∧ b2 = false ∧ b3 = false ∧ b4 = false ∧ b5 = false) := by
      cases b1 <;> cases b2 <;> cases b3 <;> cases b4 <;> cases b5 <;> simp
    obtain ⟨k, hk⟩ : ∃ k : Int, (parseE v.data.toList).2 = k := ⟨_, rfl⟩
    obtain ⟨z, hz⟩ : ∃ z : Int, (parseE v.data.toList).1.1 = z := ⟨_, rfl⟩
    obtain ⟨U, hU⟩ : ∃ U : ByteArray, (⟨((parseE v.data.toList).1.2.1).toArray⟩ : ByteArray) = U := ⟨_, rfl⟩
    obtain ⟨V, hV⟩ : ∃ V : ByteArray, (⟨((parseE v.data.toList).1.2.2).toArray⟩ : ByteArray) = V := ⟨_, rfl⟩
    simp only [hk, hz, hU, hV] at PV ⊢
    obtain ⟨kb, hkb⟩ : ∃ kb, (k == 0) = kb := ⟨_, rfl⟩
    have hkd : decide (k = 0) = kb := by rw [← hkb]; rfl
    rw [hkd]
    obtain ⟨p0, p1, p2⟩ := hbn
    have HBX := Lib.hid (And.intro p0 (And.intro p1 p2))
    clear e1 e2 e3 e4 e5 ho h h2 hev hk hz hU hV hkd
    rcases hways with rfl | ⟨rfl, rfl⟩ | ⟨rfl, rfl, rfl⟩ | ⟨rfl, rfl, rfl, rfl⟩ | ⟨rfl, rfl, rfl, rfl, rfl⟩ | ⟨rfl, rfl, rfl, rfl, rfl⟩
    all_goals
      simp only [Bool.true_or, Bool.or_true, Bool.or_false] at hop
      rw [hop]
      clear hop
      go_enter Tryz.func14, Tryz.ntmps14
      go_wp2_with (first
        | (go_at_call 37; (with_reducible refine (NM _).mono ?_); rintro e w1 ⟨rfl, rfl⟩)
        | (go_at_call 38; (with_reducible refine (PV _).mono ?_); rintro e w2 ⟨rfl, hb⟩; obtain ⟨q0, q1, q2⟩ := box3 HBX.out (hb.trans ((Below.refl _ w2).alloc hb.size (.cells #[.int .i64 z, .string U, .string V] 65))); have HB := Lib.hid (((HAL.out _).trans (hb.mono (HAL.out _).size)).alloc (Nat.le_trans (HAL.out _).size hb.size) (.cells #[.int .i64 z, .string U, .string V] 65)); clear hb))
      go_ret
      exact ⟨rfl, HB.out⟩
end Go.Proofs.YteoomeknlfcfaaaGreatDoor
