/-
  The reference's Name and Split, under one roof. Relations: which may be, their texts, and what is read of a text; nothing of the program.
-/
import Derived.Test.YtbeoklihpkfofaaGreatDoorPNameRef
import Derived.Test.YtbeoklihpkfofaaGreatDoorSSplit
namespace Go.Proofs.YtbeoklihpkfofaaGreatDoor
open Go.RowKit
end Go.Proofs.YtbeoklihpkfofaaGreatDoor
namespace Go.Proofs.YtbeoklihpkfofaaGreatDoor
open Go.RowKit
abbrev Rl := Bs × Bs × Bs
def opB (o : Bs) : Bool := decide (o = [60, 60]) || decide (o = [60, 61]) || decide (o = [61]) || decide (o = [62, 61]) || decide (o = [62, 62])
def rightR (x : Rl) : Bool := nameB x.1 && if x.2.1 = [] then decide (x.2.2 = []) else opB x.2.1 && decide ((parseE x.2.2).2 = 0)
def textR (x : Rl) : Bs := if x.2.1 = [] then x.1 else x.1 ++ 32 :: 40 :: (x.2.1 ++ 32 :: (x.2.2 ++ [41]))
def readL : List Bs → Rl
  | [n, o, v] => if o ≠ [] ∧ v ≠ [] then (n, o.tail, v.dropLast) else (n, [], [])
  | n :: _ => (n, [], [])
  | [] => ([], [], [])
def readR (s : Bs) : Rl := readL (spl 32 s)
theorem readL_three {ls : List Bs} {n o v : Bs} (h3 : ls.length = 3) (h0 : ls[0]? = some n) (h1 : ls[1]? = some o) (h2 : ls[2]? = some v) : readL ls = if o ≠ [] ∧ v ≠ [] then (n, o.tail, v.dropLast) else (n, [], []) := by
  match ls, h3 with
  | [a, b, c], _ =>
    simp at h0 h1 h2
    subst h0 h1 h2
    rfl
theorem readL_other {ls : List Bs} {n : Bs} (h3 : ¬ ls.length = 3) (h0 : ls[0]? = some n) : readL ls = (n, [], []) := by
  match ls, h3 with
  | [a], _ => simp at h0; subst h0; rfl
  | [a, b], _ => simp at h0; subst h0; rfl
  | [a, b, c], h => simp at h
  | a :: b :: c :: d :: l, _ => simp at h0; subst h0; rfl
  | [], _ => simp at h0
def parseR (s : Bs) : Option Rl := if rightR (readR s) = true ∧ textR (readR s) = s then some (readR s) else none
theorem name_32 {n : Bs} (h : nameB n = true) : (32 : UInt8) ∉ n := fun hm => by
  unfold nameB at h
  simp only [Bool.and_eq_true, List.all_eq_true] at h
  have := h.2 _ hm
  revert this; decide
theorem name_ne {n : Bs} (h : nameB n = true) : n ≠ [] := fun e => by subst e; revert h; decide
theorem op_32 {o : Bs} (h : opB o = true) : (32 : UInt8) ∉ o := by
  unfold opB at h
  simp only [Bool.or_eq_true, decide_eq_true_eq] at h
  rcases h with (((h | h) | h) | h) | h <;> subst h <;> decide
theorem only_32 {m s : Bs} (hm : (32 : UInt8) ∉ m) (h : onlyB m s = true) : (32 : UInt8) ∉ s := fun hs => by
  unfold onlyB at h
  rw [List.all_eq_true] at h
  have := h _ hs
  have e : dgB (32 : UInt8) = false := by decide
  have e2 : ltB (32 : UInt8) = false := by decide
  rw [e, e2] at this
  simp at this
  exact hm this
theorem takeWhile_stop {α : Type} (p : α → Bool) : ∀ (l : List α) (h : (l.takeWhile p).length < l.length), p (l[(l.takeWhile p).length]'h) = false
  | [], h => by simp at h
  | x :: l, h => by
    by_cases hx : p x = true
    · have e : (x :: l).takeWhile p = x :: l.takeWhile p := List.takeWhile_cons_of_pos hx
      have h' : (l.takeWhile p).length < l.length := by rw [e] at h; simpa using h
      have := takeWhile_stop p l h'
      simp only [e, List.length_cons, List.getElem_cons_succ]
      exact this
    · have e : (x :: l).takeWhile p = [] := List.takeWhile_cons_of_neg hx
      simp only [e, List.length_nil, List.getElem_cons_zero]
      simpa using hx
theorem cutHy_mem (s : Bs) (c : UInt8) (hc : c ≠ 45) (h : c ∈ s) : c ∈ (cutHy s).1 ∨ c ∈ (cutHy s).2 := by
  unfold cutHy
  by_cases h0 : hyAt s = 0
  · rw [if_pos h0]; exact .inl h
  · rw [if_neg h0]
    simp only []
    have hle : hyAt s ≤ s.length := by unfold hyAt; omega
    have e : s = s.take (hyAt s - 1) ++ s.drop (hyAt s - 1) := (List.take_append_drop _ _).symm
    rw [e] at h
    rcases List.mem_append.1 h with h | h
    · exact .inl h
    · have hd : s.drop (hyAt s - 1) = s[hyAt s - 1]'(by omega) :: s.drop (hyAt s) := by
        have := List.drop_eq_getElem_cons (l := s) (i := hyAt s - 1) (by omega)
        rw [this, show hyAt s - 1 + 1 = hyAt s by omega]
      rw [hd] at h
      rcases List.mem_cons.1 h with h | h
      · have h45 : s[hyAt s - 1]'(by omega) = 45 := by
          have hr : (s.reverse.takeWhile fun c => decide (c ≠ 45)).length = s.length - hyAt s := by
            have := takeWhile_le (fun x : UInt8 => decide (x ≠ 45)) s.reverse
            rw [List.length_reverse] at this
            unfold hyAt at h0 ⊢; omega
          have hlt : (s.reverse.takeWhile fun c => decide (c ≠ 45)).length < s.reverse.length := by rw [hr, List.length_reverse]; omega
          have hstop := takeWhile_stop (fun c : UInt8 => decide (c ≠ 45)) s.reverse hlt
          simp only [decide_eq_false_iff_not, ne_eq, Decidable.not_not] at hstop
          rw [List.getElem_reverse] at hstop
          have hi : s.length - 1 - (s.reverse.takeWhile fun c => decide (c ≠ 45)).length = hyAt s - 1 := by rw [hr]; omega
          simp only [hi] at hstop
          exact hstop
        exact absurd (h.trans h45) hc
      · exact .inr h
theorem rest_32 {e : Int} {m s : Bs} {v : Ver} (hm : (32 : UInt8) ∉ m) (h : restV e m s = some v) : (32 : UInt8) ∉ s := fun hs => by
  unfold restV at h
  split at h
  · rename_i g
    rcases cutHy_mem s 32 (by decide) hs with h1 | h1
    · exact only_32 hm g.2.1 h1
    · exact only_32 (by decide) g.2.2.2 h1
  · cases h
theorem ver_32 {v : Bs} (h : (parseE v).2 = 0) : (32 : UInt8) ∉ v := fun hs => by
  unfold parseE at h
  split at h
  · simp at h
  · split at h
    · rename_i x hx
      unfold verOf at hx
      split at hx
      · rename_i hc
        split at hx
        · rename_i g
          have e : v = v.take (colonAt v) ++ v.drop (colonAt v) := (List.take_append_drop _ _).symm
          have hd := List.drop_eq_getElem_cons (l := v) (i := colonAt v) hc
          have hst := takeWhile_stop (fun c : UInt8 => decide (c ≠ 58)) v hc
          simp only [decide_eq_false_iff_not, ne_eq, Decidable.not_not] at hst
          have h58 : v[colonAt v] = 58 := hst
          rw [h58] at hd
          rw [hd] at e
          rw [e] at hs
          rcases List.mem_append.1 hs with h1 | h1
          · have := List.all_eq_true.1 g.2.2 _ h1
            revert this; decide
          · rcases List.mem_cons.1 h1 with h1 | h1
            · revert h1; decide
            · exact rest_32 (by decide) hx h1
        · cases hx
      · exact rest_32 (by decide) hx hs
    · simp at h
theorem ver_ne {v : Bs} (h : (parseE v).2 = 0) : v ≠ [] := fun e => by subst e; revert h; decide +kernel
theorem read_text {x : Rl} (h : rightR x = true) : readR (textR x) = x := by
  obtain ⟨n, o, v⟩ := x
  unfold rightR at h
  simp only [Bool.and_eq_true] at h
  obtain ⟨h1, h2⟩ := h
  unfold readR textR
  simp only []
  by_cases ho : o = []
  · subst ho
    rw [if_pos rfl] at h2 ⊢
    have hv : v = [] := by simpa using h2
    subst hv
    rw [spl_no 32 n (name_32 h1)]
    rfl
  · rw [if_neg ho] at h2 ⊢
    simp only [Bool.and_eq_true, decide_eq_true_eq] at h2
    have e1 : (32 : UInt8) ∉ (40 :: o : Bs) := by
      have := op_32 h2.1
      simp only [List.mem_cons, not_or]; exact ⟨by decide, this⟩
    have e2 : (32 : UInt8) ∉ v ++ [41] := by
      have := ver_32 h2.2
      simp only [List.mem_append, List.mem_singleton, not_or]; exact ⟨this, by decide⟩
    have e3 : n ++ 32 :: 40 :: (o ++ 32 :: (v ++ [41])) = n ++ 32 :: ((40 :: o) ++ 32 :: (v ++ [41])) := by simp
    rw [e3, spl_at 32 n _ (name_32 h1), spl_at 32 (40 :: o) _ e1, spl_no 32 _ e2, readL_three (n := n) (o := 40 :: o) (v := v ++ [41]) rfl rfl rfl rfl]
    simp
theorem parse_textR {x : Rl} (h : rightR x = true) : parseR (textR x) = some x := by
  unfold parseR
  rw [read_text h, if_pos ⟨h, rfl⟩]
theorem text_parseR {s : Bs} {x : Rl} (h : parseR s = some x) : textR x = s ∧ rightR x = true := by
  unfold parseR at h
  split at h
  · rename_i g
    cases h
    exact ⟨g.2, g.1⟩
  · cases h
end Go.Proofs.YtbeoklihpkfofaaGreatDoor
