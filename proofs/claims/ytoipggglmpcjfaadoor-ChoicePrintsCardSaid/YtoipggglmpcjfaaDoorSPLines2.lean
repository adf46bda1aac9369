/-
  The program's Lines: what it returns; nothing old turns.
-/
import Derived.Test.YtoipggglmpcjfaaDoorSPLines
import Derived.Maps.AppendAt
namespace Go.Proofs.YtoipggglmpcjfaaDoor
open Go.RowKit Go.Shelf
attribute [local go_sem] Oper.semAt_some
theorem joinC_snoc (c : UInt8) (p : Bs) : ∀ (l : List Bs), l ≠ [] → joinC c (l ++ [p]) = joinC c l ++ c :: p
  | [], h => absurd rfl h
  | [q], _ => by simp [joinC]
  | q :: r :: l, _ => by
    have := joinC_snoc c p (r :: l) (by simp)
    rw [List.cons_append, joinC_cons _ _ (by simp), this, joinC_cons c q (l := r :: l) (by simp)]; simp
theorem spl_snoc (c : UInt8) (t : Bs) : spl c (t ++ [c]) = spl c t ++ [[]] := by
  have hne := spl_ne c t
  have e : joinC c (spl c t ++ [[]]) = t ++ [c] := by rw [joinC_snoc c [] _ hne, joinC_spl]
  rw [← e]
  exact spl_joinC c _ (by simp) (fun p hp => by
    rcases List.mem_append.1 hp with h | h
    · exact (spl_clean c t p h).1
    · simp at h; subst h; simp)
theorem lines_yes (t : Bs) : linesO (t ++ [10]) = some (spl 10 t) := by unfold linesO; rw [spl_snoc]; simp
theorem lines_nil : linesO [] = some [] := rfl
theorem lines_no {s : Bs} (h0 : s ≠ []) (h : s.getLast? ≠ some 10) : linesO s = none := by
  unfold linesO
  rw [if_neg]
  intro g
  obtain ⟨init, hi⟩ := List.getLast?_eq_some_iff.1 g
  have hj := joinC_spl 10 s
  rw [hi] at hj
  by_cases hn : init = []
  · subst hn; exact h0 (by rw [← hj]; rfl)
  · rw [joinC_snoc 10 [] init hn] at hj
    exact h (by rw [← hj]; simp)
def PLinesPost (s : Bs) (w : World) (e : Ending) (w' : World) : Prop := ∃ v z, e = .returned (.tuple #[v, .int .i64 z]) ∧ (∀ ls, linesO s = some ls → z = 0 ∧ OwnT w' w.heap.size v ls) ∧ (linesO s = none → z = 2 ∧ v = .slice none 0 0) ∧ Below w.heap.size w w'
def txtOf (x : LineX) : Value := .string x.1.2
theorem txts_of (ys : List LineX) : ys.map txtOf = txts (ys.map lnOf) := by
  unfold txts
  rw [List.map_map]
  refine congrArg (fun g => List.map g ys) (funext fun x => ?_)
  show Value.string x.1.2 = Value.string ⟨(x.1.2.data.toList).toArray⟩
  rw [← strOf (x := x.1.2) rfl]
set_option maxRecDepth 100000 in
set_option maxHeartbeats 8000000 in
theorem slines_any (s : ByteArray) (hs : s.size ≤ 90000) (w : World) : Calls Tryd.prog 26 #[.string s] w (PLinesPost s.data.toList w) := by
  by_cases h0 : s.size = 0
  · have e1 : s.toList.isEmpty = true := by rw [emptyT, decide_eq_true h0]
    have hl : s.data.toList = [] := List.eq_nil_of_length_eq_zero (by rw [← sizeOf]; exact h0)
    have HP : Hid (PLinesPost s.data.toList w (.returned (.tuple #[.slice none 0 0, .int .i64 0])) w) := Lib.hid ⟨_, _, rfl, (fun ls h => by
      rw [hl, lines_nil] at h; cases h; exact ⟨rfl, OwnT.nil _ _⟩), (fun h => by rw [hl, lines_nil] at h; cases h), Below.refl _ _⟩
    clear hl h0
    go_enter Tryd.func26, Tryd.ntmps26
    go_wp2
    go_ret2
    exact HP.out
  · have e1 : s.toList.isEmpty = false := by rw [emptyT, decide_eq_false h0]
    have hne : s.data.toList ≠ [] := fun g => h0 (by rw [sizeOf, g]; rfl)
    by_cases hlast : s.data.toList.getLast? = some 10
    · obtain ⟨t, ht⟩ := List.getLast?_eq_some_iff.1 hlast
      obtain ⟨T, hT⟩ : ∃ T : ByteArray, T.data.toList = t := ⟨⟨t.toArray⟩, by simp⟩
      have hTs : T.size ≤ 90000 := by
        have h1 := sizeOf s
        have h2 := sizeOf T
        rw [ht, List.length_append] at h1
        rw [hT] at h2
        simp at h1; omega
      have hsuf : Lib.hasSuffix s.data.toList [10] = true := by rw [ht]; unfold Lib.hasSuffix; exact List.isSuffixOf_iff_suffix.2 ⟨t, rfl⟩
      have C : ∀ w, Calls Tryd.prog 36 #[.string s, .string ⟨#[10]⟩] w fun e w' => e = .returned (.tuple #[.string T, .bool true]) ∧ w = w' := fun w => (Tryd.strings_CutSuffix s ⟨#[10]⟩ w (by omega)).mono fun e w' hp => ⟨by
        rw [hp.1]
        have e2 : Lib.trimSuffix s.data.toList (ByteArray.mk #[10]).data.toList = T.data.toList := by
          show Lib.trimSuffix s.data.toList [10] = _
          unfold Lib.trimSuffix
          rw [hsuf, if_pos rfl, hT, ht]; simp
        have e3 : Lib.hasSuffix s.data.toList (ByteArray.mk #[10]).data.toList = true := hsuf
        rw [e2, e3, ← strOf (x := T) rfl], hp.2.symm⟩
      have HP : Hid (∀ v w' (ys : List LineX), AllLn T.data.toList ys → w'.ownsRow w.heap.size 9 1 v ys.length (ys.map txtOf) → Below w.heap.size w w' → PLinesPost s.data.toList w (.returned (.tuple #[v, .int .i64 0])) w') := Lib.hid (fun v w' ys hy hr hb => ⟨v, 0, rfl, (fun ls h => by
        rw [ht, lines_yes, ← hT, ← hy.1] at h
        cases h
        refine ⟨rfl, ?_⟩
        unfold OwnT
        rw [List.length_map, ← txts_of]; exact hr), (fun h => by rw [ht, lines_yes] at h; cases h), hb⟩)
      clear ht hT hsuf hlast hne h0
      obtain ⟨i0, hi, hz0, hz1, hz2⟩ := info_parts infoT
      refine (callsIn_wide (n := 5)).1 ?_
      refine callsIn_of_wp_marks Tryd.func26 rfl trivial ?_ rfl
      simp only [Tryd.ntmps26, List.size_toArray, List.length_cons, List.length_nil, Nat.reduceAdd, Nat.reduceSub, Array.replicate_succ, Array.replicate_zero, List.push_toArray, List.append_toArray, List.nil_append, List.cons_append]
      gi_wp2_with (first | (refine ⟨trivial, ?_⟩; gi_at_call 36; refine (callsIn_wide.2 (C _)).mono ?_; rintro e w1 ⟨rfl, rfl⟩) | (refine ⟨trivial, ?_⟩; gi_at_call 37; refine (lines_in _ _ _).mono ?_; rintro e w' ⟨rfl, rfl⟩))
      have bO := Boxed.new w 51 (.slice none 0 0)
      have bN : ((w.alloc (.cells #[.slice none 0 0] 51)).alloc (.cells #[.string T] 9)).cell? ⟨w.heap.size + 1, 0, none⟩ = some (.string T) := by simp
      have hB0 : Below w.heap.size w ((w.alloc (.cells #[.slice none 0 0] 51)).alloc (.cells #[.string T] 9)) := ((Below.refl _ w).alloc (Nat.le_refl _) _).alloc (by simp) _
      refine wpIn_rangeFunc_ownG rfl (by omega) (gf := 51) (lb := #[.pointer (some ⟨w.heap.size + 1, 0, none⟩)]) rfl trivial (enters_of Tryd.func51 (by kernel_rfl) rfl)
        (lines_stops _ (by omega) (fun _ _ => True) T hTs (w.heap.size + 1) _ (by simp) bN) (fun _ _ => trivial) (fun _ _ _ _ _ _ _ _ => trivial) (Below.refl _ _) (fun _ => rfl)
        (fun pre W => (∃ v, Boxed W w.heap.size 51 v ∧ W.ownsRow w.heap.size 9 1 v pre.length (pre.map txtOf) ∧ True) ∧ Below w.heap.size w W)
        (fun _ _ _ => False)
        (OwnFrom.and (Own.from (holdsRow_own w.heap.size w.heap.size 51 9 1 (fun pre : List LineX => pre.length) (fun pre => pre.map txtOf) (fun _ _ => True)) _) (ownFrom_below (Nat.le_refl _) (by simp; omega)))
        (fun _ _ _ _ _ hs _ _ => hs)
        ⟨⟨_, bO.alloc _, World.ownsRow_nil _ _ _ _, trivial⟩, hB0⟩
        (fun x => { tmps := #[.string s, undef, .slice none 0 0, .int .i64 0, .string T, .bool true, .pointer (some ⟨w.heap.size, 0, none⟩), undef, .string x.1.2, .string s, .bool false, .tuple #[.string T, .bool true], .string s, .tuple #[.string T, .bool true], .string T, .bool true, .bool true, .bool false, .string T, .func (.func 51) #[] #[.pointer (some ⟨w.heap.size + 1, 0, none⟩)], .int .i64 x.1.1, .string x.1.2, undef, undef, undef, undef, undef], defers := [] }) ?assign ?body ?done ?stop
      case assign =>
        intro l x W K hK
        dsimp only [encLn]
        gi_wp2
        exact hK
      case body =>
        rintro l pre x W ⟨⟨v, hv, hrow, _⟩, hB⟩ hlt
        have hc := hv.cell
        gi_wp2_with (gi_at_builtin; refine wpListIn_append_own _ rfl _ _ 51 rfl w.heap.size 9 i0 (.string ⟨#[]⟩) 1 16 Tryd.underlying51 hi hz0 hz1 hz2 rfl (by decide) _ _ _ rfl (hrow.alloc _) ⟨W.heap.size, 0, none⟩ 1 1 [.string x.1.2] rfl rfl (cell_one_new _ _ _) (by simp [Value.oneCell']) (by unfold maxLen; omega) (by omega) (by have := hB.size; simp; omega) ?_; intro v' w1 hown' hgrow _; obtain ⟨g', cap', rfl⟩ := ownsRow_succ hown'; obtain ⟨hv1, hv2, hr2, hk2, hb2⟩ := hv.appended (by decide) hrow hB.size (Nat.le_refl _) hown' hgrow; have hc1 := hv1.cell; have hf1 := hv1.frozen)
        exact ⟨hk2.from _, trivial, ⟨_, hv2, by simpa [txtOf] using hr2, trivial⟩, hB.trans hb2⟩
      case done =>
        rintro D ys W hD hall ⟨⟨v, hv, hrow, _⟩, hB⟩ hK
        have HF := Lib.hid (fun w9 => HP.out v w9 ys hall)
        have hc := hv.cell
        clear hall HP
        gi_wp2
        refine ⟨by simp, .inl ⟨_, _, rfl, run_takeDeferred hK, ?_⟩⟩
        refine ⟨.tuple #[v, .int .i64 0], by simp [results, Tryd.f26, go_sem], HF.out _ (ownsRow_putObj hrow _ hK rfl) (hB.trans (belowK_b (w := w) (Nat.le_refl _) W D _ _ (by simp at hD; omega) hK rfl rfl))⟩
      case stop =>
        rintro D c pre W _ _ h _
        exact h.elim
    · have hsuf : Lib.hasSuffix s.data.toList [10] = false := by
        cases hq : Lib.hasSuffix s.data.toList [10]
        · rfl
        · unfold Lib.hasSuffix at hq
          obtain ⟨t, ht⟩ := List.isSuffixOf_iff_suffix.1 hq
          exact absurd (by rw [← ht]; simp) hlast
      have C : ∀ w, Calls Tryd.prog 36 #[.string s, .string ⟨#[10]⟩] w fun e w' => ∃ T : ByteArray, e = .returned (.tuple #[.string T, .bool false]) ∧ w = w' := fun w => (Tryd.strings_CutSuffix s ⟨#[10]⟩ w (by omega)).mono fun e w' hp => by
        have e3 : Lib.hasSuffix s.data.toList (ByteArray.mk #[10]).data.toList = false := hsuf
        rw [e3] at hp
        exact ⟨_, hp.1, hp.2.symm⟩
      have HP : Hid (PLinesPost s.data.toList w (.returned (.tuple #[.slice none 0 0, .int .i64 2])) w) := Lib.hid ⟨_, _, rfl, (fun ls h => by
        rw [lines_no hne hlast] at h; cases h), (fun _ => ⟨rfl, rfl⟩), Below.refl _ _⟩
      clear hsuf hlast hne h0
      go_enter Tryd.func26, Tryd.ntmps26
      go_wp2_with (go_at_call 36; refine (C _).mono ?_; rintro e w1 ⟨T, rfl, rfl⟩)
      go_ret2
      exact HP.out
end Go.Proofs.YtoipggglmpcjfaaDoor
