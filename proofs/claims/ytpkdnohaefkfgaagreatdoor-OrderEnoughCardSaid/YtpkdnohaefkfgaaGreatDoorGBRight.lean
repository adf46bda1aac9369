/-
  relation.Right, of a relation of any size: what it returns; nothing old turns. Condition: LaidV.
-/
import Derived.Test.YtpkdnohaefkfgaaGreatDoorGPName
import Derived.Test.YtpkdnohaefkfgaaGreatDoorGVPParse
import Derived.Test.YtpkdnohaefkfgaaGreatDoorGQHold
import Derived.Test.YtpkdnohaefkfgaaGreatDoorGVParse
namespace Go.Proofs.YtpkdnohaefkfgaaGreatDoor
open Go.RowKit
set_option maxRecDepth 100000 in
set_option maxHeartbeats 4000000 in
theorem nameBig_any (s : ByteArray) (hs : s.size ≤ maxLen) (w : World) : Calls Tryz.prog 24 #[.string s] w fun e w' => e = .returned (.bool (nameB s.data.toList)) ∧ w = w' := by
  by_cases h : s.size ≤ 4000
  · exact name_any s h w
  · have hl := Lib.size_eq s
    have hB : nameB s.data.toList = false := by
      unfold nameB
      rw [show decide (s.data.toList.length ≤ 60) = false by simp; omega]
      simp
    rw [hB]
    clear hB hl
    unfold maxLen at hs
    go_enter Tryz.func24, Tryz.ntmps24
    go_wp2
    go_ret
    exact ⟨rfl, rfl⟩
set_option maxRecDepth 100000 in
set_option maxHeartbeats 4000000 in
theorem parseBig_any (s : ByteArray) (hs : s.size ≤ maxLen) (w : World) (h : LaidV w) : Calls Tryz.prog 38 #[.string s] w (ParsePost s.data.toList w) := by
  by_cases h4 : s.size ≤ 4000
  · exact parse_any s h4 w h
  · have hl := sizeOf s
    have HP : Hid (∀ e w', e = .returned (.tuple #[.agg #[.int .i64 0, .string ⟨#[]⟩, .string ⟨#[]⟩], .int .i64 8]) → Below w.heap.size w w' → ParsePost s.data.toList w e w') := Lib.hid (fun e w' h g => ⟨by rw [parseV_long (by omega)]; exact h, g⟩)
    clear hl h
    unfold maxLen at hs
    go_enter Tryz.func38, Tryz.ntmps38
    go_wp2
    exact bodyPost_ret (v := .tuple #[.agg #[.int .i64 0, .string ⟨#[]⟩, .string ⟨#[]⟩], .int .i64 8]) (by simp [results, Tryz.results38, go_sem]) rfl (HP.out _ _ rfl ((Below.refl _ _).alloc (Nat.le_refl _) _))
end Go.Proofs.YtpkdnohaefkfgaaGreatDoor
namespace Go.Proofs.YtpkdnohaefkfgaaGreatDoor
open Go.RowKit
set_option maxRecDepth 100000 in
set_option maxHeartbeats 4000000 in
theorem text_ref7 (n o v : ByteArray) (hn : n.size ≤ 100000) (ho : o.size ≤ 100000) (hv : v.size ≤ 100000) (w : World) :
    Calls Tryz.prog 22 #[.agg #[.string n, .string o, .string v]] w fun e w' => e = .returned (.string ⟨(textR (n.data.toList, o.data.toList, v.data.toList)).toArray⟩) ∧ Below w.heap.size w w' := by
  obtain ⟨T, hT⟩ : ∃ T : ByteArray, T = ⟨(textR (n.data.toList, o.data.toList, v.data.toList)).toArray⟩ := ⟨_, rfl⟩
  rw [← hT]
  have h1s : ∀ x, (ByteArray.mk #[x]).size = 1 := fun _ => rfl
  have h2s : ∀ x y, (ByteArray.mk #[x, y]).size = 2 := fun _ _ => rfl
  have hez := emptyT o
  by_cases h0 : o.size = 0
  · rw [decide_eq_true h0] at hez
    have HT : Hid (T = n) := Lib.hid (by
      rw [hT]; unfold textR
      rw [if_pos (List.eq_nil_of_length_eq_zero (by rw [← sizeOf]; exact h0))])
    clear hT h0
    go_enter Tryz.func22, Tryz.ntmps22
    go_wp2
    go_ret
    exact ⟨by rw [HT.out]; rfl, (Below.refl _ _).alloc (Nat.le_refl _) _⟩
  · rw [decide_eq_false h0] at hez
    have HT : Hid (T = ((((n ++ ⟨#[32, 40]⟩) ++ o) ++ ⟨#[32]⟩) ++ v) ++ ⟨#[41]⟩) := Lib.hid (by
      rw [hT]; unfold textR
      rw [if_neg (fun e => h0 (by rw [sizeOf, show o.data.toList = [] from e]; rfl))]
      refine (strOf ?_).symm
      simp only [ByteArray.data_append, Array.toList_append]
      simp)
    clear hT h0
    go_enter Tryz.func22, Tryz.ntmps22
    go_wp2
    go_ret
    exact ⟨by rw [HT.out]; rfl, (Below.refl _ _).alloc (Nat.le_refl _) _⟩
end Go.Proofs.YtpkdnohaefkfgaaGreatDoor
namespace Go.Proofs.YtpkdnohaefkfgaaGreatDoor
open Go.RowKit
theorem box3 {A B : World} {b : Nat} {x y z : ByteArray} (h : A.cell? ⟨b, 0, none⟩ = some (.string x) ∧ A.cell? ⟨b, 1, none⟩ = some (.string y) ∧ A.cell? ⟨b, 2, none⟩ = some (.string z)) (hb : Below A.heap.size A B) : B.cell? ⟨b, 0, none⟩ = some (.string x) ∧ B.cell? ⟨b, 1, none⟩ = some (.string y) ∧ B.cell? ⟨b, 2, none⟩ = some (.string z) := by
  have hlt := World.block_lt_of_cell? A _ h.1
  have k := fun o => hb.cell (p := ⟨b, o, none⟩) hlt
  exact ⟨by rw [k]; exact h.1, by rw [k]; exact h.2.1, by rw [k]; exact h.2.2⟩
theorem box3New (A : World) (x y z : ByteArray) (t : TypeId) : (A.alloc (.cells #[.string x, .string y, .string z] t)).cell? ⟨A.heap.size, 0, none⟩ = some (.string x) ∧ (A.alloc (.cells #[.string x, .string y, .string z] t)).cell? ⟨A.heap.size, 1, none⟩ = some (.string y) ∧ (A.alloc (.cells #[.string x, .string y, .string z] t)).cell? ⟨A.heap.size, 2, none⟩ = some (.string z) := by
  simp [World.cell?_alloc_new]
/-- What Right looks at. -/
inductive RightTo (x : Rl) : Bool → Prop
  | name (h : nameB x.1 = false) : RightTo x false
  | bare (h : nameB x.1 = true) (h2 : x.2.1 = []) : RightTo x (decide (x.2.2 = []))
  | op (h : nameB x.1 = true) (h2 : x.2.1 ≠ []) : RightTo x (opB x.2.1 && decide ((parseE x.2.2).2 = 0))
theorem right_to (x : Rl) : RightTo x (rightR x) := by
  unfold rightR
  cases h : nameB x.1
  · exact .name h
  · by_cases h2 : x.2.1 = []
    · rw [if_pos h2]; exact .bare h h2
    · rw [if_neg h2]; exact .op h h2
end Go.Proofs.YtpkdnohaefkfgaaGreatDoor
namespace Go.Proofs.YtpkdnohaefkfgaaGreatDoor
open Go.RowKit
set_option maxHeartbeats 4000000 in
theorem operator_any (o : ByteArray) (w : World) : Calls Tryz.prog 103 #[.string o] w fun e w' => e = .returned (.bool (opB o.data.toList)) ∧ w = w' := by
  have e1 := eqTL o [60, 60]
  have e2 := eqTL o [60, 61]
  have e3 := eqTL o [61]
  have e4 := eqTL o [62, 61]
  have e5 := eqTL o [62, 62]
  obtain ⟨b1, b2, b3, b4, b5, g1, g2, g3, g4, g5, hop⟩ : ∃ b1 b2 b3 b4 b5, (o.toList == [60, 60]) = b1 ∧ (o.toList == [60, 61]) = b2 ∧ (o.toList == [61]) = b3 ∧ (o.toList == [62, 61]) = b4 ∧ (o.toList == [62, 62]) = b5 ∧ opB o.data.toList = ((((b1 || b2) || b3) || b4) || b5) := ⟨_, _, _, _, _, e1, e2, e3, e4, e5, rfl⟩
  have hways : (b1 = true) ∨ (b1 = false ∧ b2 = true) ∨ (b1 = false ∧ b2 = false ∧ b3 = true) ∨ (b1 = false ∧ b2 = false ∧ b3 = false ∧ b4 = true) ∨ (b1 = false ∧ b2 = false ∧ b3 = false ∧ b4 = false ∧ b5 = true) ∨ (b1 = false ∧ b2 = false ∧ b3 = false ∧ b4 = false ∧ b5 = false) := by
    cases b1 <;> cases b2 <;> cases b3 <;> cases b4 <;> cases b5 <;> simp
  clear e1 e2 e3 e4 e5
  rcases hways with rfl | ⟨rfl, rfl⟩ | ⟨rfl, rfl, rfl⟩ | ⟨rfl, rfl, rfl, rfl⟩ | ⟨rfl, rfl, rfl, rfl, rfl⟩ | ⟨rfl, rfl, rfl, rfl, rfl⟩
  all_goals
    simp only [Bool.true_or, Bool.or_true, Bool.or_false] at hop
    rw [hop]
    clear hop
    go_enter Tryz.func103, Tryz.ntmps103
    go_wp2
    go_ret
    exact ⟨rfl, rfl⟩
set_option maxRecDepth 100000 in
set_option maxHeartbeats 4000000 in
theorem textR_any (n o v : ByteArray) (hn : n.size ≤ 100000) (ho : o.size ≤ 100000) (hv : v.size ≤ 100000) (w : World) :
    Calls Tryz.prog 70 #[.agg #[.string n, .string o, .string v]] w fun e w' => e = .returned (.string ⟨(textR (n.data.toList, o.data.toList, v.data.toList)).toArray⟩) ∧ Below w.heap.size w w' := by
  obtain ⟨T, hT⟩ : ∃ T : ByteArray, T = ⟨(textR (n.data.toList, o.data.toList, v.data.toList)).toArray⟩ := ⟨_, rfl⟩
  rw [← hT]
  have h1s : ∀ x, (ByteArray.mk #[x]).size = 1 := fun _ => rfl
  have h2s : ∀ x y, (ByteArray.mk #[x, y]).size = 2 := fun _ _ => rfl
  have hez := emptyT o
  by_cases h0 : o.size = 0
  · rw [decide_eq_true h0] at hez
    have HT : Hid (T = n) := Lib.hid (by
      rw [hT]; unfold textR
      rw [if_pos (List.eq_nil_of_length_eq_zero (by rw [← sizeOf]; exact h0))])
    clear hT h0
    go_enter Tryz.func70, Tryz.ntmps70
    go_wp2
    go_ret
    exact ⟨by rw [HT.out]; rfl, (Below.refl _ _).alloc (Nat.le_refl _) _⟩
  · rw [decide_eq_false h0] at hez
    have HT : Hid (T = ((((n ++ ⟨#[32, 40]⟩) ++ o) ++ ⟨#[32]⟩) ++ v) ++ ⟨#[41]⟩) := Lib.hid (by
      rw [hT]; unfold textR
      rw [if_neg (fun e => h0 (by rw [sizeOf, show o.data.toList = [] from e]; rfl))]
      refine (strOf ?_).symm
      simp only [ByteArray.data_append, Array.toList_append]
      simp)
    clear hT h0
    go_enter Tryz.func70, Tryz.ntmps70
    go_wp2
    go_ret
    exact ⟨by rw [HT.out]; rfl, (Below.refl _ _).alloc (Nat.le_refl _) _⟩
end Go.Proofs.YtpkdnohaefkfgaaGreatDoor
namespace Go.Proofs.YtpkdnohaefkfgaaGreatDoor
open Go.RowKit
set_option maxHeartbeats 4000000 in
theorem isVersionBig_any (v : ByteArray) (hv : v.size ≤ maxLen) (w : World) (h : LaidV w) : Calls Tryz.prog 104 #[.string v] w fun e w' => e = .returned (.bool (decide ((parseE v.data.toList).2 = 0))) ∧ Below w.heap.size w w' := by
  have PV := parseBig_any v hv w h
  unfold ParsePost parseV verV at PV
  obtain ⟨k, hk⟩ : ∃ k : Int, (parseE v.data.toList).2 = k := ⟨_, rfl⟩
  obtain ⟨z, hz⟩ : ∃ z : Int, (parseE v.data.toList).1.1 = z := ⟨_, rfl⟩
  obtain ⟨U, hU⟩ : ∃ U : ByteArray, (⟨((parseE v.data.toList).1.2.1).toArray⟩ : ByteArray) = U := ⟨_, rfl⟩
  obtain ⟨V, hV⟩ : ∃ V : ByteArray, (⟨((parseE v.data.toList).1.2.2).toArray⟩ : ByteArray) = V := ⟨_, rfl⟩
  simp only [hk, hz, hU, hV] at PV ⊢
  have hkd : Hid (decide (k = 0) = (k == 0)) := Lib.hid rfl
  clear hk hz hU hV h
  go_enter Tryz.func104, Tryz.ntmps104
  go_wp2_with (go_at_call 38; (with_reducible refine PV.mono ?_); rintro e w2 ⟨rfl, hb⟩; have HB := Lib.hid (hb.alloc hb.size (.cells #[.int .i64 z, .string U, .string V] 64)); clear hb)
  go_ret
  exact ⟨retb hkd.out.symm, HB.out⟩
set_option maxRecDepth 100000 in
set_option maxHeartbeats 8000000 in
theorem rightRBig_any (n o v : ByteArray) (hn : n.size ≤ maxLen) (hv : v.size ≤ maxLen) (w : World) (hL : LaidV w) :
    Calls Tryz.prog 89 #[.agg #[.string n, .string o, .string v]] w fun e w' => e = .returned (.bool (rightR (n.data.toList, o.data.toList, v.data.toList))) ∧ Below w.heap.size w w' := by
  have NM := fun w => nameBig_any n hn w
  have OP := fun w => operator_any o w
  have IV := fun w h => isVersionBig_any v hv w h
  obtain ⟨R, hR⟩ : ∃ R, rightR (n.data.toList, o.data.toList, v.data.toList) = R := ⟨_, rfl⟩
  have hrt := right_to (n.data.toList, o.data.toList, v.data.toList)
  rw [hR] at hrt ⊢
  have hez := emptyT o
  have hev := emptyT v
  have hal : ∀ (o : Obj), Below w.heap.size w (w.alloc o) := fun o => (Below.refl _ _).alloc (Nat.le_refl _) _
  have HAL := Lib.hid hal
  have HLA := Lib.hid (fun o => hL.on (hal o))
  clear hR hal hL
  cases hrt with
  | name h =>
    simp only [] at h
    simp only [h] at NM
    clear hez hev
    go_enter Tryz.func89, Tryz.ntmps89
    go_wp2_with (go_at_call 24; (with_reducible refine (NM _).mono ?_); rintro e w1 ⟨rfl, rfl⟩)
    go_ret
    exact ⟨rfl, HAL.out _⟩
  | bare h h2 =>
    simp only [] at h h2
    simp only [h] at NM
    have ho : o.size = 0 := by rw [sizeOf, h2]; rfl
    rw [decide_eq_true ho] at hez
    have hvv : decide (v.data.toList = []) = decide (v.size = 0) := by
      congr 1
      rw [sizeOf, List.length_eq_zero_iff]
    simp only [hvv]
    rw [h2, show opB [] = false from rfl] at OP
    obtain ⟨q, hq⟩ : ∃ q, decide (v.size = 0) = q := ⟨_, rfl⟩
    rw [hq] at hev ⊢
    clear ho h h2 hvv hq
    cases q
    all_goals
      go_enter Tryz.func89, Tryz.ntmps89
      go_wp2_with (first
        | (go_at_call 24; (with_reducible refine (NM _).mono ?_); rintro e w1 ⟨rfl, rfl⟩)
        | (go_at_call 103; (with_reducible refine (OP _).mono ?_); rintro e w2 ⟨rfl, rfl⟩))
      go_ret
      exact ⟨rfl, HAL.out _⟩
  | op h h2 =>
    simp only [] at h h2
    simp only [h] at NM
    have ho : ¬ o.size = 0 := fun e => h2 (List.eq_nil_of_length_eq_zero (by rw [← sizeOf]; exact e))
    rw [decide_eq_false ho] at hez
    obtain ⟨kb, hkb⟩ : ∃ kb, decide ((parseE v.data.toList).2 = 0) = kb := ⟨_, rfl⟩
    simp only [hkb] at IV ⊢
    obtain ⟨ob, hob⟩ : ∃ ob, opB o.data.toList = ob := ⟨_, rfl⟩
    simp only [hob] at OP ⊢
    clear ho h h2 hev hkb hob
    cases ob
    · go_enter Tryz.func89, Tryz.ntmps89
      go_wp2_with (first
        | (go_at_call 24; (with_reducible refine (NM _).mono ?_); rintro e w1 ⟨rfl, rfl⟩)
        | (go_at_call 103; (with_reducible refine (OP _).mono ?_); rintro e w2 ⟨rfl, rfl⟩))
      go_ret
      exact ⟨rfl, HAL.out _⟩
    · go_enter Tryz.func89, Tryz.ntmps89
      go_wp2_with (first
        | (go_at_call 24; (with_reducible refine (NM _).mono ?_); rintro e w1 ⟨rfl, rfl⟩)
        | (go_at_call 103; (with_reducible refine (OP _).mono ?_); rintro e w2 ⟨rfl, rfl⟩)
        | (go_at_call 104; (with_reducible refine (IV _ (HLA.out _)).mono ?_); rintro e w3 ⟨rfl, hb⟩; have HB := Lib.hid ((HAL.out _).trans (hb.mono (HAL.out _).size)); clear hb))
      go_ret
      exact ⟨rfl, HB.out⟩
end Go.Proofs.YtpkdnohaefkfgaaGreatDoor
