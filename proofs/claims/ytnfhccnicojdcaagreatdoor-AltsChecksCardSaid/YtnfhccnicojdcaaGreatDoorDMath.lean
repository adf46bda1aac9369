/-
  Diversions: which may be, which may be together, their text, what is read of a text, where a path is; nothing of the program.
-/
import Derived.Test.YtnfhccnicojdcaaGreatDoorPName
import Derived.Test.YtnfhccnicojdcaaGreatDoorSMath
namespace Go.Proofs.YtnfhccnicojdcaaGreatDoor
open Go.RowKit
abbrev Dv := Bs × Bs × Bs
def plB (s : Bs) : Bool := right s && decide (s ≠ [47])
def rightD (x : Dv) : Bool := plB x.1 && plB x.2.1 && decide (x.1 ≠ x.2.1) && (decide (x.2.2 = []) || nameB x.2.2)
def stepD (l : List Dv) (i : Nat) (x : Dv) : Prop := rightD x = true ∧ ∀ y, 0 < i → l[i - 1]? = some y → y.1 < x.1
def apartD (l : List Dv) (i : Nat) (x : Dv) : Prop := ∀ (k : Nat) y, l[k]? = some y → y.1 ≠ x.2.1 ∧ (k ≠ i → y.2.1 ≠ x.2.1)
def OkD (l : List Dv) : Prop := ∀ (i : Nat) x, l[i]? = some x → stepD l i x ∧ apartD l i x
open Classical in
noncomputable def checkD (l : List Dv) : Int := if 64 < l.length then 22 else if OkD l then 0 else 1
theorem checkD_long {l : List Dv} (h : 64 < l.length) : checkD l = 22 := by unfold checkD; rw [if_pos h]
theorem checkD_ok {l : List Dv} (h : ¬ 64 < l.length) (g : OkD l) : checkD l = 0 := by unfold checkD; rw [if_neg h, if_pos g]
theorem checkD_no {l : List Dv} (h : ¬ 64 < l.length) (g : ¬ OkD l) : checkD l = 1 := by unfold checkD; rw [if_neg h, if_neg g]
theorem checkD_zero {l : List Dv} (h : checkD l = 0) : l.length ≤ 64 ∧ OkD l := by
  unfold checkD at h
  split at h
  · omega
  · split at h
    · exact ⟨by omega, by assumption⟩
    · omega
def byD (b : Bs) : Bs := if b = [] then [58] else b
def linesD (x : Dv) : List Bs := [x.1, x.2.1, byD x.2.2]
def rowT (x : Dv) : Bs := x.1 ++ 10 :: (x.2.1 ++ 10 :: (byD x.2.2 ++ [10]))
def textD (l : List Dv) : Bs := l.flatMap rowT
def readD : List Bs → List Dv
  | a :: b :: c :: l => (a, b, if c = [58] then [] else c) :: readD l
  | _ => []
theorem textD_ended : ∀ l : List Dv, textD l = ended10 (l.flatMap linesD)
  | [] => rfl
  | x :: l => by
    have := textD_ended l
    unfold textD ended10 at *
    rw [List.flatMap_cons, List.flatMap_cons, List.flatMap_append, ← this]
    simp [rowT, linesD]
theorem right_in {s : Bs} (h : right s = true) : s.all okb = true := (cleanE_zero (of_decide_eq_true h)).2.1
theorem ok_10 {s : Bs} (h : s.all okb = true) : (10 : UInt8) ∉ s := fun hm => by
  have := List.all_eq_true.1 h _ hm
  revert this; decide
theorem name_10 {s : Bs} (h : nameB s = true) : (10 : UInt8) ∉ s ∧ s ≠ [58] := by
  refine ⟨fun hm => ?_, fun e => by subst e; revert h; decide⟩
  unfold nameB at h
  simp only [Bool.and_eq_true, List.all_eq_true] at h
  have := h.2 _ hm
  revert this; decide
theorem rightD_parts {x : Dv} (h : rightD x = true) : right x.1 = true ∧ right x.2.1 = true ∧ x.1 ≠ x.2.1 ∧ (x.2.2 = [] ∨ nameB x.2.2 = true) := by
  unfold rightD plB at h
  simp only [Bool.and_eq_true, Bool.or_eq_true, decide_eq_true_eq] at h
  exact ⟨h.1.1.1.1, h.1.1.2.1, h.1.2, h.2⟩
theorem by_back {b : Bs} (h : b = [] ∨ nameB b = true) : (if byD b = [58] then [] else byD b) = b := by
  unfold byD
  rcases h with h | h
  · subst h; simp
  · by_cases h0 : b = []
    · subst h0; simp
    · rw [if_neg h0, if_neg (name_10 h).2]
theorem by_10 {b : Bs} (h : b = [] ∨ nameB b = true) : (10 : UInt8) ∉ byD b := by
  unfold byD
  rcases h with h | h
  · subst h; decide
  · by_cases h0 : b = []
    · subst h0; decide
    · rw [if_neg h0]; exact (name_10 h).1
theorem lines_10 {l : List Dv} (h : ∀ x ∈ l, rightD x = true) : ∀ p ∈ l.flatMap linesD, (10 : UInt8) ∉ p := fun p hp => by
  obtain ⟨x, hx, hp⟩ := List.mem_flatMap.1 hp
  obtain ⟨h1, h2, -, h4⟩ := rightD_parts (h x hx)
  simp only [linesD, List.mem_cons, List.not_mem_nil, or_false] at hp
  rcases hp with rfl | rfl | rfl
  · exact ok_10 (right_in h1)
  · exact ok_10 (right_in h2)
  · exact by_10 h4
theorem read_lines : ∀ {l : List Dv}, (∀ x ∈ l, rightD x = true) → readD (l.flatMap linesD) = l
  | [], _ => rfl
  | x :: l, h => by
    have h4 := (rightD_parts (h x (by simp))).2.2.2
    rw [List.flatMap_cons]
    show readD (x.1 :: x.2.1 :: byD x.2.2 :: l.flatMap linesD) = _
    rw [readD, read_lines (fun y hy => h y (by simp [hy])), by_back h4]
theorem OkD.right {l : List Dv} (h : OkD l) : ∀ x ∈ l, rightD x = true := fun x hx => by
  obtain ⟨i, hi⟩ := List.mem_iff_getElem?.1 hx
  exact (h i x hi).1.1
noncomputable def parseD (s : Bs) : Option (List Dv) := (linesO s).bind fun ls => if checkD (readD ls) = 0 ∧ textD (readD ls) = s then some (readD ls) else none
theorem parse_textD {l : List Dv} (h : checkD l = 0) : parseD (textD l) = some l := by
  obtain ⟨_, ho⟩ := checkD_zero h
  unfold parseD
  have e := textD_ended l
  rw [e, lines_ended _ (lines_10 ho.right), ← e, Option.bind_some, read_lines ho.right, if_pos ⟨h, rfl⟩]
theorem text_parseD {s : Bs} {l : List Dv} (h : parseD s = some l) : textD l = s ∧ checkD l = 0 := by
  unfold parseD at h
  cases hl : linesO s with
  | none => rw [hl] at h; cases h
  | some ls =>
    rw [hl, Option.bind_some] at h
    split at h
    · rename_i g; cases h; exact ⟨g.2, g.1⟩
    · cases h
-- Where a path is.
def toD (l : List Dv) (p b : Bs) : Bs := match l.find? (fun x => decide (x.1 = p)) with
  | none => p
  | some x => if b ≠ [] ∧ x.2.2 = b then p else x.2.1
def fromD (l : List Dv) (p : Bs) : Bs := match l.find? (fun x => decide (x.2.1 = p)) with
  | none => p
  | some x => x.1
theorem noTo {l : List Dv} (ho : OkD l) {p : Bs} (h : fromD l p = p) : ∀ x ∈ l, x.2.1 ≠ p := fun x hx e => by
  unfold fromD at h
  cases hf : l.find? (fun x => decide (x.2.1 = p)) with
  | none =>
    have := List.find?_eq_none.1 hf x hx
    simp [e] at this
  | some y =>
    rw [hf] at h
    have h1 := List.find?_some hf
    have h2 := ho.right y (List.mem_of_find?_eq_some hf)
    exact (rightD_parts h2).2.2.1 (by simp only [decide_eq_true_eq] at h1; rw [h1]; exact h)
theorem sameTo {l : List Dv} (ho : OkD l) {x y : Dv} (hx : x ∈ l) (hy : y ∈ l) (e : x.2.1 = y.2.1) : x = y := by
  obtain ⟨i, hi⟩ := List.mem_iff_getElem?.1 hx
  obtain ⟨k, hk⟩ := List.mem_iff_getElem?.1 hy
  by_cases hik : k = i
  · subst hik; rw [hi] at hk; exact Option.some.inj hk
  · exact absurd e.symm (((ho i x hi).2 k y hk).2 hik)
theorem toD_cases (l : List Dv) (p : Bs) : toD l p [] = p ∧ (∀ x ∈ l, x.1 ≠ p) ∨ ∃ x ∈ l, x.1 = p ∧ toD l p [] = x.2.1 := by
  unfold toD
  cases hf : l.find? (fun x => decide (x.1 = p)) with
  | none => exact .inl ⟨rfl, fun x hx e => by have := List.find?_eq_none.1 hf x hx; simp [e] at this⟩
  | some y =>
    have h1 := List.find?_some hf
    simp only [decide_eq_true_eq] at h1
    exact .inr ⟨y, List.mem_of_find?_eq_some hf, h1, by simp⟩
theorem from_to {l : List Dv} (ho : OkD l) {p : Bs} (h : fromD l p = p) : fromD l (toD l p []) = p := by
  rcases toD_cases l p with ⟨e, _⟩ | ⟨x, hx, e1, e2⟩
  · rw [e, h]
  · rw [e2]
    unfold fromD
    cases hf : l.find? (fun y => decide (y.2.1 = x.2.1)) with
    | none => have := List.find?_eq_none.1 hf x hx; simp at this
    | some y =>
      have h1 := List.find?_some hf
      simp only [decide_eq_true_eq] at h1
      have := sameTo ho (List.mem_of_find?_eq_some hf) hx h1
      subst this; exact e1
theorem to_apart {l : List Dv} (ho : OkD l) {p q : Bs} (hp : fromD l p = p) (hq : fromD l q = q) (hn : p ≠ q) : toD l p [] ≠ toD l q [] := fun e => by
  have h1 := from_to ho hp
  have h2 := from_to ho hq
  rw [e] at h1
  exact hn (h1.symm.trans h2)
end Go.Proofs.YtnfhccnicojdcaaGreatDoor
