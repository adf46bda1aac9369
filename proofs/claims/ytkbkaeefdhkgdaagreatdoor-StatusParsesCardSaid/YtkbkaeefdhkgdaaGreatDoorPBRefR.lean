import Derived.Test.YtkbkaeefdhkgdaaGreatDoorPSField
import Derived.Test.YtkbkaeefdhkgdaaGreatDoorPVParse
set_option maxRecDepth 100000
set_option maxHeartbeats 32000000
namespace Go.Proofs.YtkbkaeefdhkgdaaGreatDoor
section
open Go.RowKit
abbrev Rl := Bs × Bs × Bs
def opB (o : Bs) : Bool := decide (o = [60, 60]) || decide (o = [60, 61]) || decide (o = [61]) || decide (o = [62, 61]) || decide (o = [62, 62])
def rightR (x : Rl) : Bool := nameB x.1 && if x.2.1 = [] then decide (x.2.2 = []) else opB x.2.1 && decide ((parseE x.2.2).2 = 0)
def textR (x : Rl) : Bs := if x.2.1 = [] then x.1 else x.1 ++ 32 :: 40 :: (x.2.1 ++ 32 :: (x.2.2 ++ [41]))
def readL : List Bs → Rl
 | [n, o, v] => if o ≠ [] ∧ v ≠ [] then (n, o.tail, v.dropLast) else (n, [], [])
 | n :: _ => (n, [], [])
 | [] => ([], [], [])
def readR (s : Bs) : Rl := readL (spl 32 s)
theorem readL_three {ls : List Bs} {n o v : Bs} (h3 : ls.length = 3) (h0 : ls[0]? = some n) (h1 : ls[1]? = some o) (h2 : ls[2]? = some v) : readL ls = if o ≠ [] ∧ v ≠ [] then (n, o.tail, v.dropLast) else (n, [], []) := by
 match ls, h3 with
 | [a, b, c], _ =>
  simp at h0 h1 h2
  subst h0 h1 h2
  rfl
theorem readL_other {ls : List Bs} {n : Bs} (h3 : ¬ ls.length = 3) (h0 : ls[0]? = some n) : readL ls = (n, [], []) := by
 match ls, h3 with
 | [a], _ => simp at h0; subst h0; rfl
 | [a, b], _ => simp at h0; subst h0; rfl
 | [a, b, c], h => simp at h
 | a :: b :: c :: d :: l, _ => simp at h0; subst h0; rfl
 | [], _ => simp at h0
def parseR (s : Bs) : Option Rl := if rightR (readR s) = true ∧ textR (readR s) = s then some (readR s) else none
theorem name_32 {n : Bs} (h : nameB n = true) : (32 : UInt8) ∉ n := fun hm => by
 unfold nameB at h
 simp only [Bool.and_eq_true, List.all_eq_true] at h
 have := h.2 _ hm
 revert this; decide
theorem name_ne {n : Bs} (h : nameB n = true) : n ≠ [] := fun e => by subst e; revert h; decide
theorem op_32 {o : Bs} (h : opB o = true) : (32 : UInt8) ∉ o := by
 unfold opB at h
 simp only [Bool.or_eq_true, decide_eq_true_eq] at h
 rcases h with (((h | h) | h) | h) | h <;> subst h <;> decide
theorem only_32 {m s : Bs} (hm : (32 : UInt8) ∉ m) (h : onlyB m s = true) : (32 : UInt8) ∉ s := fun hs => by
 unfold onlyB at h
 rw [List.all_eq_true] at h
 have := h _ hs
 have e : dgB (32 : UInt8) = false := by decide
 have e2 : ltB (32 : UInt8) = false := by decide
 rw [e, e2] at this
 simp at this
 exact hm this
theorem takeWhile_stop {α : Type} (p : α → Bool) : ∀ (l : List α) (h : (l.takeWhile p).length < l.length), p (l[(l.takeWhile p).length]'h) = false
 | [], h => by simp at h
 | x :: l, h => by
  by_cases hx : p x = true
  ·
   have e : (x :: l).takeWhile p = x :: l.takeWhile p := List.takeWhile_cons_of_pos hx
   have h' : (l.takeWhile p).length < l.length := by rw [e] at h; simpa using h
   have := takeWhile_stop p l h'
   simp only [e, List.length_cons, List.getElem_cons_succ]
   exact this
  ·
   have e : (x :: l).takeWhile p = [] := List.takeWhile_cons_of_neg hx
   simp only [e, List.length_nil, List.getElem_cons_zero]
   simpa using hx
theorem cutHy_mem (s : Bs) (c : UInt8) (hc : c ≠ 45) (h : c ∈ s) : c ∈ (cutHy s).1 ∨ c ∈ (cutHy s).2 := by
 unfold cutHy
 by_cases h0 : hyAt s = 0
 ·
  rw [if_pos h0]; exact .inl h
 ·
  rw [if_neg h0]
  simp only []
  have hle : hyAt s ≤ s.length := by unfold hyAt; omega
  have e : s = s.take (hyAt s - 1) ++ s.drop (hyAt s - 1) := (List.take_append_drop _ _).symm
  rw [e] at h
  rcases List.mem_append.1 h with h | h
  ·
   exact .inl h
  ·
   have hd : s.drop (hyAt s - 1) = s[hyAt s - 1]'(by omega) :: s.drop (hyAt s) := by
    have := List.drop_eq_getElem_cons (l := s) (i := hyAt s - 1) (by omega)
    rw [this, show hyAt s - 1 + 1 = hyAt s by omega]
   rw [hd] at h
   rcases List.mem_cons.1 h with h | h
   ·
    have h45 : s[hyAt s - 1]'(by omega) = 45 := by
     have hr : (s.reverse.takeWhile fun c => decide (c ≠ 45)).length = s.length - hyAt s := by
      have := takeWhile_le (fun x : UInt8 => decide (x ≠ 45)) s.reverse
      rw [List.length_reverse] at this
      unfold hyAt at h0 ⊢; omega
     have hlt : (s.reverse.takeWhile fun c => decide (c ≠ 45)).length < s.reverse.length := by rw [hr, List.length_reverse]; omega
     have hstop := takeWhile_stop (fun c : UInt8 => decide (c ≠ 45)) s.reverse hlt
     simp only [decide_eq_false_iff_not, ne_eq, Decidable.not_not] at hstop
     rw [List.getElem_reverse] at hstop
     have hi : s.length - 1 - (s.reverse.takeWhile fun c => decide (c ≠ 45)).length = hyAt s - 1 := by rw [hr]; omega
     simp only [hi] at hstop
     exact hstop
    exact absurd (h.trans h45) hc
   ·
    exact .inr h
theorem rest_32 {e : Int} {m s : Bs} {v : Ver} (hm : (32 : UInt8) ∉ m) (h : restV e m s = some v) : (32 : UInt8) ∉ s := fun hs => by
 unfold restV at h
 split at h
 ·
  rename_i g
  rcases cutHy_mem s 32 (by decide) hs with h1 | h1
  ·
   exact only_32 hm g.2.1 h1
  ·
   exact only_32 (by decide) g.2.2.2 h1
 ·
  cases h
theorem ver_32 {v : Bs} (h : (parseE v).2 = 0) : (32 : UInt8) ∉ v := fun hs => by
 unfold parseE at h
 split at h
 ·
  simp at h
 ·
  split at h
  ·
   rename_i x hx
   unfold verOf at hx
   split at hx
   ·
    rename_i hc
    split at hx
    ·
     rename_i g
     have e : v = v.take (colonAt v) ++ v.drop (colonAt v) := (List.take_append_drop _ _).symm
     have hd := List.drop_eq_getElem_cons (l := v) (i := colonAt v) hc
     have hst := takeWhile_stop (fun c : UInt8 => decide (c ≠ 58)) v hc
     simp only [decide_eq_false_iff_not, ne_eq, Decidable.not_not] at hst
     have h58 : v[colonAt v] = 58 := hst
     rw [h58] at hd
     rw [hd] at e
     rw [e] at hs
     rcases List.mem_append.1 hs with h1 | h1
     ·
      have := List.all_eq_true.1 g.2.2 _ h1
      revert this; decide
     ·
      rcases List.mem_cons.1 h1 with h1 | h1
      ·
       revert h1; decide
      ·
       exact rest_32 (by decide) hx h1
    ·
     cases hx
   ·
    exact rest_32 (by decide) hx hs
  ·
   simp at h
theorem read_text {x : Rl} (h : rightR x = true) : readR (textR x) = x := by
 obtain ⟨n, o, v⟩ := x
 unfold rightR at h
 simp only [Bool.and_eq_true] at h
 obtain ⟨h1, h2⟩ := h
 unfold readR textR
 simp only []
 by_cases ho : o = []
 ·
  subst ho
  rw [if_pos rfl] at h2 ⊢
  have hv : v = [] := by simpa using h2
  subst hv
  rw [spl_no 32 n (name_32 h1)]
  rfl
 ·
  rw [if_neg ho] at h2 ⊢
  simp only [Bool.and_eq_true, decide_eq_true_eq] at h2
  have e1 : (32 : UInt8) ∉ (40 :: o : Bs) := by
   have := op_32 h2.1
   simp only [List.mem_cons, not_or]; exact ⟨by decide, this⟩
  have e2 : (32 : UInt8) ∉ v ++ [41] := by
   have := ver_32 h2.2
   simp only [List.mem_append, List.mem_singleton, not_or]; exact ⟨this, by decide⟩
  have e3 : n ++ 32 :: 40 :: (o ++ 32 :: (v ++ [41])) = n ++ 32 :: ((40 :: o) ++ 32 :: (v ++ [41])) := by simp
  rw [e3, spl_at 32 n _ (name_32 h1), spl_at 32 (40 :: o) _ e1, spl_no 32 _ e2, readL_three (n := n) (o := 40 :: o) (v := v ++ [41]) rfl rfl rfl rfl]
  simp
theorem parse_textR {x : Rl} (h : rightR x = true) : parseR (textR x) = some x := by
 unfold parseR
 rw [read_text h, if_pos ⟨h, rfl⟩]
theorem text_parseR {s : Bs} {x : Rl} (h : parseR s = some x) : textR x = s ∧ rightR x = true := by
 unfold parseR at h
 split at h
 ·
  rename_i g
  cases h
  exact ⟨g.2, g.1⟩
 ·
  cases h
end
section
open Go.RowKit
theorem text_ref7 (n o v : ByteArray) (hn : n.size ≤ 100000) (ho : o.size ≤ 100000) (hv : v.size ≤ 100000) (w : World) :
  Calls Tryz.prog 38 #[.agg #[.string n, .string o, .string v]] w fun e w' => e = .returned (.string ⟨(textR (n.data.toList, o.data.toList, v.data.toList)).toArray⟩) ∧ Below w.heap.size w w' := by
 obtain ⟨T, hT⟩ : ∃ T : ByteArray, T = ⟨(textR (n.data.toList, o.data.toList, v.data.toList)).toArray⟩ := ⟨_, rfl⟩
 rw [← hT]
 have h1s : ∀ x, (ByteArray.mk #[x]).size = 1 := fun _ => rfl
 have h2s : ∀ x y, (ByteArray.mk #[x, y]).size = 2 := fun _ _ => rfl
 have hez := emptyT o
 by_cases h0 : o.size = 0
 ·
  rw [decide_eq_true h0] at hez
  have HT : Hid (T = n) := Lib.hid (by
   rw [hT]; unfold textR
   rw [if_pos (List.eq_nil_of_length_eq_zero (by rw [← sizeOf]; exact h0))])
  clear hT h0
  go_enter Tryz.func38, Tryz.ntmps38
  go_wp2
  go_ret
  exact ⟨by rw [HT.out]; rfl, (Below.refl _ _).alloc (Nat.le_refl _) _⟩
 ·
  rw [decide_eq_false h0] at hez
  have HT : Hid (T = ((((n ++ ⟨#[32, 40]⟩) ++ o) ++ ⟨#[32]⟩) ++ v) ++ ⟨#[41]⟩) := Lib.hid (by
   rw [hT]; unfold textR
   rw [if_neg (fun e => h0 (by rw [sizeOf, show o.data.toList = [] from e]; rfl))]
   refine (strOf ?_).symm
   simp only [ByteArray.data_append, Array.toList_append]
   simp)
  clear hT h0
  go_enter Tryz.func38, Tryz.ntmps38
  go_wp2
  go_ret
  exact ⟨by rw [HT.out]; rfl, (Below.refl _ _).alloc (Nat.le_refl _) _⟩
end
section
open Go.RowKit
theorem box3 {A B : World} {b : Nat} {x y z : ByteArray} (h : A.cell? ⟨b, 0, none⟩ = some (.string x) ∧ A.cell? ⟨b, 1, none⟩ = some (.string y) ∧ A.cell? ⟨b, 2, none⟩ = some (.string z)) (hb : Below A.heap.size A B) : B.cell? ⟨b, 0, none⟩ = some (.string x) ∧ B.cell? ⟨b, 1, none⟩ = some (.string y) ∧ B.cell? ⟨b, 2, none⟩ = some (.string z) := by
 have hlt := World.block_lt_of_cell? A _ h.1
 have k := fun o => hb.cell (p := ⟨b, o, none⟩) hlt
 exact ⟨by rw [k]; exact h.1, by rw [k]; exact h.2.1, by rw [k]; exact h.2.2⟩
theorem box3New (A : World) (x y z : ByteArray) (t : TypeId) : (A.alloc (.cells #[.string x, .string y, .string z] t)).cell? ⟨A.heap.size, 0, none⟩ = some (.string x) ∧ (A.alloc (.cells #[.string x, .string y, .string z] t)).cell? ⟨A.heap.size, 1, none⟩ = some (.string y) ∧ (A.alloc (.cells #[.string x, .string y, .string z] t)).cell? ⟨A.heap.size, 2, none⟩ = some (.string z) := by
 simp [World.cell?_alloc_new]
inductive RightTo (x : Rl) : Bool → Prop
 | name (h : nameB x.1 = false) : RightTo x false
 | bare (h : nameB x.1 = true) (h2 : x.2.1 = []) : RightTo x (decide (x.2.2 = []))
 | op (h : nameB x.1 = true) (h2 : x.2.1 ≠ []) : RightTo x (opB x.2.1 && decide ((parseE x.2.2).2 = 0))
theorem right_to (x : Rl) : RightTo x (rightR x) := by
 unfold rightR
 cases h : nameB x.1
 ·
  exact .name h
 ·
  by_cases h2 : x.2.1 = []
  ·
   rw [if_pos h2]; exact .bare h h2
  ·
   rw [if_neg h2]; exact .op h h2
theorem rightQ_ref (n o v : ByteArray) (hn : n.size ≤ 4000) (hv : v.size ≤ 4000) (w : World) :
  Calls Tryz.prog 37 #[.agg #[.string n, .string o, .string v]] w fun e w' => e = .returned (.bool (rightR (n.data.toList, o.data.toList, v.data.toList))) ∧ Below w.heap.size w w' := by
 have NM := fun w => name_ref n hn w
 have PV := fun w => parse_ref v hv w
 unfold ParsePost parseV verV at PV
 obtain ⟨R, hR⟩ : ∃ R, rightR (n.data.toList, o.data.toList, v.data.toList) = R := ⟨_, rfl⟩
 have hrt := right_to (n.data.toList, o.data.toList, v.data.toList)
 rw [hR] at hrt ⊢
 have hez := emptyT o
 have hev := emptyT v
 have e1 := eqTL o [60, 60]
 have e2 := eqTL o [60, 61]
 have e3 := eqTL o [61]
 have e4 := eqTL o [62, 61]
 have e5 := eqTL o [62, 62]
 have hal : ∀ (o : Obj), Below w.heap.size w (w.alloc o) := fun o => (Below.refl _ _).alloc (Nat.le_refl _) _
 have HAL := Lib.hid hal
 have hbn := box3New w n o v 46
 clear hR hal
 cases hrt with
 | name h =>
  simp only [] at h
  simp only [h] at NM
  clear e1 e2 e3 e4 e5 hez hev
  go_enter Tryz.func37, Tryz.ntmps37
  go_wp2_with (go_at_call 58; (with_reducible refine (NM _).mono ?_); rintro e w1 ⟨rfl, rfl⟩)
  go_ret
  exact ⟨rfl, HAL.out _⟩
 | bare h h2 =>
  simp only [] at h h2
  simp only [h] at NM
  have ho : o.size = 0 := by rw [sizeOf, h2]; rfl
  rw [decide_eq_true ho] at hez
  have hvv : decide (v.data.toList = []) = decide (v.size = 0) := by
   congr 1
   rw [sizeOf, List.length_eq_zero_iff]
  simp only [hvv]
  rw [← hev]
  clear e1 e2 e3 e4 e5 ho h h2 hev hvv
  go_enter Tryz.func37, Tryz.ntmps37
  go_wp2_with (go_at_call 58; (with_reducible refine (NM _).mono ?_); rintro e w1 ⟨rfl, rfl⟩)
  go_ret
  exact ⟨rfl, HAL.out _⟩
 | op h h2 =>
  simp only [] at h h2
  simp only [h] at NM
  have ho : ¬ o.size = 0 := fun e => h2 (List.eq_nil_of_length_eq_zero (by rw [← sizeOf]; exact e))
  rw [decide_eq_false ho] at hez
  obtain ⟨b1, b2, b3, b4, b5, g1, g2, g3, g4, g5, hop⟩ : ∃ b1 b2 b3 b4 b5, (o.toList == [60, 60]) = b1 ∧ (o.toList == [60, 61]) = b2 ∧ (o.toList == [61]) = b3 ∧ (o.toList == [62, 61]) = b4 ∧ (o.toList == [62, 62]) = b5 ∧ opB o.data.toList = ((((b1 || b2) || b3) || b4) || b5) := ⟨_, _, _, _, _, e1, e2, e3, e4, e5, rfl⟩
  have hways : (b1 = true) ∨ (b1 = false ∧ b2 = true) ∨ (b1 = false ∧ b2 = false ∧ b3 = true) ∨ (b1 = false ∧ b2 = false ∧ b3 = false ∧ b4 = true) ∨ (b1 = false ∧ b2 = false ∧ b3 = false ∧ b4 = false ∧ b5 = true) ∨ (b1 = false ∧ b2 = false ∧ b3 = false ∧ b4 = false ∧ b5 = false) := by
   cases b1 <;> cases b2 <;> cases b3 <;> cases b4 <;> cases b5 <;> simp
  obtain ⟨k, hk⟩ : ∃ k : Int, (parseE v.data.toList).2 = k := ⟨_, rfl⟩
  obtain ⟨z, hz⟩ : ∃ z : Int, (parseE v.data.toList).1.1 = z := ⟨_, rfl⟩
  obtain ⟨U, hU⟩ : ∃ U : ByteArray, (⟨((parseE v.data.toList).1.2.1).toArray⟩ : ByteArray) = U := ⟨_, rfl⟩
  obtain ⟨V, hV⟩ : ∃ V : ByteArray, (⟨((parseE v.data.toList).1.2.2).toArray⟩ : ByteArray) = V := ⟨_, rfl⟩
  simp only [hk, hz, hU, hV] at PV ⊢
  obtain ⟨kb, hkb⟩ : ∃ kb, (k == 0) = kb := ⟨_, rfl⟩
  have hkd : decide (k = 0) = kb := by rw [← hkb]; rfl
  rw [hkd]
  obtain ⟨p0, p1, p2⟩ := hbn
  have HBX := Lib.hid (And.intro p0 (And.intro p1 p2))
  clear e1 e2 e3 e4 e5 ho h h2 hev hk hz hU hV hkd
  rcases hways with rfl | ⟨rfl, rfl⟩ | ⟨rfl, rfl, rfl⟩ | ⟨rfl, rfl, rfl, rfl⟩ | ⟨rfl, rfl, rfl, rfl, rfl⟩ | ⟨rfl, rfl, rfl, rfl, rfl⟩
  all_goals
   simp only [Bool.true_or, Bool.or_true, Bool.or_false] at hop
   rw [hop]
   clear hop
   go_enter Tryz.func37, Tryz.ntmps37
   go_wp2_with (first
    | (go_at_call 58; (with_reducible refine (NM _).mono ?_); rintro e w1 ⟨rfl, rfl⟩)
    | (go_at_call 57; (with_reducible refine (PV _).mono ?_); rintro e w2 ⟨rfl, hb⟩; obtain ⟨q0, q1, q2⟩ := box3 HBX.out (hb.trans ((Below.refl _ w2).alloc hb.size (.cells #[.int .i64 z, .string U, .string V] 100))); have HB := Lib.hid (((HAL.out _).trans (hb.mono (HAL.out _).size)).alloc (Nat.le_trans (HAL.out _).size hb.size) (.cells #[.int .i64 z, .string U, .string V] 100)); clear hb))
   go_ret
   exact ⟨rfl, HB.out⟩
end
section
open Go.RowKit
theorem nameBig_ref (s : ByteArray) (hs : s.size ≤ maxLen) (w : World) : Calls Tryz.prog 58 #[.string s] w fun e w' => e = .returned (.bool (nameB s.data.toList)) ∧ w = w' := by
 unfold maxLen at hs
 obtain ⟨B, HB⟩ : ∃ B, Hid (nameB s.data.toList = B) := ⟨_, rfl⟩
 rw [HB.out]
 go_enter Tryz.func58, Tryz.ntmps58
 go_wp2
 go_loop [3] (fun i => ∃ k : Nat, k ≤ s.size ∧ i = .int .i64 k ∧ Hid (NameTo s.data.toList k)) (fun i => s.size - (intOf i).toNat)
 case atStart => exact ⟨0, by omega, rfl, Lib.hid ⟨by simp, fun h => absurd h (by omega)⟩⟩
 case round =>
  obtain ⟨k, hk, rfl, H⟩ := hrel
  by_cases hlt : k < s.size
  ·
   have hc := s[k].toNat_lt
   rcases cls s[k].toNat with h | h | h | h
   ·
    have HN : Hid (NameTo s.data.toList (k + 1)) := Lib.hid (nameTo_next hlt H.out ((inB_iff _).2 (.inl ((alB_iff _).2 (.inl h)))) (fun _ => (alB_iff _).2 (.inl h)))
    obtain ⟨ha, hb⟩ := h
    go_wp2
    go_round
    case rel => exact ⟨k + 1, by omega, by go_num, HN⟩
    case measure => simp [intOf]; omega
   ·
    have HN : Hid (NameTo s.data.toList (k + 1)) := Lib.hid (nameTo_next hlt H.out ((inB_iff _).2 (.inl ((alB_iff _).2 (.inr h)))) (fun _ => (alB_iff _).2 (.inr h)))
    obtain ⟨ha, hb⟩ := h
    go_wp2
    go_round
    case rel => exact ⟨k + 1, by omega, by go_num, HN⟩
    case measure => simp [intOf]; omega
   ·
    have hm : markB s[k] = true := (markB_iff _).2 h
    have hna : ¬ alB s[k] = true := fun e => by have := (alB_iff _).1 e; omega
    by_cases hk0 : k = 0
    ·
     have HR : Hid (false = B) := Lib.hid (by rw [← HB.out]; exact (name_bad0 (by omega) (by subst hk0; exact hna)).symm)
     have hkb : ((k : Int) == 0) = true := by simp [hk0]
     clear hm hna hk0
     rcases h with h | h | h
     all_goals
      go_wp2
      go_ret
      exact ⟨ret_bool HR.out, rfl⟩
    ·
     have HN : Hid (NameTo s.data.toList (k + 1)) := Lib.hid (nameTo_next hlt H.out ((inB_iff _).2 (.inr hm)) (fun e => absurd e hk0))
     have hkb : ((k : Int) == 0) = false := by simp [hk0]
     clear hm hna
     rcases h with h | h | h
     all_goals
      go_wp2
      go_round
      case rel => exact ⟨k + 1, by omega, by go_num, HN⟩
      case measure => simp [intOf]; omega
   ·
    have HR : Hid (false = B) := Lib.hid (by rw [← HB.out]; exact (name_bad hlt (inB_no (fun e => by have := (alB_iff _).1 e; omega) (fun e => by have := (markB_iff _).1 e; omega))).symm)
    rcases h with h | ⟨h, h'⟩ | ⟨h, h1, h2, h3⟩
    ·
     go_wp2
     go_ret
     exact ⟨ret_bool HR.out, rfl⟩
    ·
     go_wp2
     go_ret
     exact ⟨ret_bool HR.out, rfl⟩
    ·
     have h1' : ((s[k].toNat : Int) == 43) = false := by simp; omega
     have h2' : ((s[k].toNat : Int) == 45) = false := by simp; omega
     have h3' : ((s[k].toNat : Int) == 46) = false := by simp; omega
     go_wp2
     go_ret
     exact ⟨ret_bool HR.out, rfl⟩
  ·
   obtain rfl : k = s.size := by omega
   have HE := Lib.hid ((name_end H.out).symm.trans HB.out)
   clear hlt HB H
   by_cases h1 : 1 ≤ s.size
   ·
    go_wp2
    go_ret
    exact ⟨ret_bool (by rw [← HE.out, decide_eq_true h1, Bool.true_and, Bool.eq_iff_iff]; simp only [decide_eq_true_eq]; omega), rfl⟩
   ·
    go_wp2
    go_ret
    exact ⟨ret_bool (by rw [← HE.out, decide_eq_false h1]; simp), rfl⟩
theorem parseBig_ref (s : ByteArray) (hs : s.size ≤ maxLen) (w : World) : Calls Tryz.prog 57 #[.string s] w (ParsePost s.data.toList w) := by
 have hl := sizeOf s
 by_cases h4 : s.size ≤ 4000
 ·
  exact parse_ref s h4 w
 have h80 : 80 < s.size := by omega
 ·
  have HP : Hid (∀ e w', e = .returned (.tuple #[.agg #[.int .i64 0, .string ⟨#[]⟩, .string ⟨#[]⟩], .int .i64 8]) → Below w.heap.size w w' → ParsePost s.data.toList w e w') := Lib.hid (fun e w' h g => ⟨by rw [parseV_long (by omega)]; exact h, g⟩)
  clear hl
  unfold maxLen at hs
  go_enter Tryz.func57, Tryz.ntmps57
  go_wp2
  exact bodyPost_ret (v := .tuple #[.agg #[.int .i64 0, .string ⟨#[]⟩, .string ⟨#[]⟩], .int .i64 8]) (by simp [results, Tryz.results57, go_sem]) rfl (HP.out _ _ rfl ((((Below.refl _ _).alloc (Nat.le_refl _) _).alloc (by simp) _).alloc (by simp; omega) _))
theorem rightQBig_ref (n o v : ByteArray) (hn : n.size ≤ maxLen) (hv : v.size ≤ maxLen) (w : World) :
  Calls Tryz.prog 37 #[.agg #[.string n, .string o, .string v]] w fun e w' => e = .returned (.bool (rightR (n.data.toList, o.data.toList, v.data.toList))) ∧ Below w.heap.size w w' := by
 have NM := fun w => nameBig_ref n hn w
 have PV := fun w => parseBig_ref v hv w
 unfold ParsePost parseV verV at PV
 obtain ⟨R, hR⟩ : ∃ R, rightR (n.data.toList, o.data.toList, v.data.toList) = R := ⟨_, rfl⟩
 have hrt := right_to (n.data.toList, o.data.toList, v.data.toList)
 rw [hR] at hrt ⊢
 have hez := emptyT o
 have hev := emptyT v
 have e1 := eqTL o [60, 60]
 have e2 := eqTL o [60, 61]
 have e3 := eqTL o [61]
 have e4 := eqTL o [62, 61]
 have e5 := eqTL o [62, 62]
 have hal : ∀ (o : Obj), Below w.heap.size w (w.alloc o) := fun o => (Below.refl _ _).alloc (Nat.le_refl _) _
 have HAL := Lib.hid hal
 have hbn := box3New w n o v 46
 clear hR hal
 cases hrt with
 | name h =>
  simp only [] at h
  simp only [h] at NM
  clear e1 e2 e3 e4 e5 hez hev
  go_enter Tryz.func37, Tryz.ntmps37
  go_wp2_with (go_at_call 58; (with_reducible refine (NM _).mono ?_); rintro e w1 ⟨rfl, rfl⟩)
  go_ret
  exact ⟨rfl, HAL.out _⟩
 | bare h h2 =>
  simp only [] at h h2
  simp only [h] at NM
  have ho : o.size = 0 := by rw [sizeOf, h2]; rfl
  rw [decide_eq_true ho] at hez
  have hvv : decide (v.data.toList = []) = decide (v.size = 0) := by
   congr 1
   rw [sizeOf, List.length_eq_zero_iff]
  simp only [hvv]
  rw [← hev]
  clear e1 e2 e3 e4 e5 ho h h2 hev hvv
  go_enter Tryz.func37, Tryz.ntmps37
  go_wp2_with (go_at_call 58; (with_reducible refine (NM _).mono ?_); rintro e w1 ⟨rfl, rfl⟩)
  go_ret
  exact ⟨rfl, HAL.out _⟩
 | op h h2 =>
  simp only [] at h h2
  simp only [h] at NM
  have ho : ¬ o.size = 0 := fun e => h2 (List.eq_nil_of_length_eq_zero (by rw [← sizeOf]; exact e))
  rw [decide_eq_false ho] at hez
  obtain ⟨b1, b2, b3, b4, b5, g1, g2, g3, g4, g5, hop⟩ : ∃ b1 b2 b3 b4 b5, (o.toList == [60, 60]) = b1 ∧ (o.toList == [60, 61]) = b2 ∧ (o.toList == [61]) = b3 ∧ (o.toList == [62, 61]) = b4 ∧ (o.toList == [62, 62]) = b5 ∧ opB o.data.toList = ((((b1 || b2) || b3) || b4) || b5) := ⟨_, _, _, _, _, e1, e2, e3, e4, e5, rfl⟩
  have hways : (b1 = true) ∨ (b1 = false ∧ b2 = true) ∨ (b1 = false ∧ b2 = false ∧ b3 = true) ∨ (b1 = false ∧ b2 = false ∧ b3 = false ∧ b4 = true) ∨ (b1 = false ∧ b2 = false ∧ b3 = false ∧ b4 = false ∧ b5 = true) ∨ (b1 = false ∧ b2 = false ∧ b3 = false ∧ b4 = false ∧ b5 = false) := by
   cases b1 <;> cases b2 <;> cases b3 <;> cases b4 <;> cases b5 <;> simp
  obtain ⟨k, hk⟩ : ∃ k : Int, (parseE v.data.toList).2 = k := ⟨_, rfl⟩
  obtain ⟨z, hz⟩ : ∃ z : Int, (parseE v.data.toList).1.1 = z := ⟨_, rfl⟩
  obtain ⟨U, hU⟩ : ∃ U : ByteArray, (⟨((parseE v.data.toList).1.2.1).toArray⟩ : ByteArray) = U := ⟨_, rfl⟩
  obtain ⟨V, hV⟩ : ∃ V : ByteArray, (⟨((parseE v.data.toList).1.2.2).toArray⟩ : ByteArray) = V := ⟨_, rfl⟩
  simp only [hk, hz, hU, hV] at PV ⊢
  obtain ⟨kb, hkb⟩ : ∃ kb, (k == 0) = kb := ⟨_, rfl⟩
  have hkd : decide (k = 0) = kb := by rw [← hkb]; rfl
  rw [hkd]
  obtain ⟨p0, p1, p2⟩ := hbn
  have HBX := Lib.hid (And.intro p0 (And.intro p1 p2))
  clear e1 e2 e3 e4 e5 ho h h2 hev hk hz hU hV hkd
  rcases hways with rfl | ⟨rfl, rfl⟩ | ⟨rfl, rfl, rfl⟩ | ⟨rfl, rfl, rfl, rfl⟩ | ⟨rfl, rfl, rfl, rfl, rfl⟩ | ⟨rfl, rfl, rfl, rfl, rfl⟩
  all_goals
   simp only [Bool.true_or, Bool.or_true, Bool.or_false] at hop
   rw [hop]
   clear hop
   go_enter Tryz.func37, Tryz.ntmps37
   go_wp2_with (first
    | (go_at_call 58; (with_reducible refine (NM _).mono ?_); rintro e w1 ⟨rfl, rfl⟩)
    | (go_at_call 57; (with_reducible refine (PV _).mono ?_); rintro e w2 ⟨rfl, hb⟩; obtain ⟨q0, q1, q2⟩ := box3 HBX.out (hb.trans ((Below.refl _ w2).alloc hb.size (.cells #[.int .i64 z, .string U, .string V] 100))); have HB := Lib.hid (((HAL.out _).trans (hb.mono (HAL.out _).size)).alloc (Nat.le_trans (HAL.out _).size hb.size) (.cells #[.int .i64 z, .string U, .string V] 100)); clear hb))
   go_ret
   exact ⟨rfl, HB.out⟩
end
end Go.Proofs.YtkbkaeefdhkgdaaGreatDoor
