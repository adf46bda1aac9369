/-
  Selections (a name, whether it is manual, a path): which may be, their texts, what is read of a text; nothing of the program.
-/
import Derived.Test.YtnfhccnicojdcaaGreatDoorDMath
namespace Go.Proofs.YtnfhccnicojdcaaGreatDoor
open Go.RowKit
/-- The name, whether by hand, the path. -/
abbrev Sl := Bs × Bool × Bs
def rightY (x : Sl) : Bool := nameB x.1 && right x.2.2
def manY : Bs := [109, 97, 110, 117, 97, 108]
def autY : Bs := [97, 117, 116, 111]
def wordY (b : Bool) : Bs := if b = true then manY else autY
def wordsY (x : Sl) : List Bs := [x.1, wordY x.2.1, x.2.2]
def lineY (x : Sl) : Bs := joinC 32 (wordsY x)
def textY (l : List Sl) : Bs := ended10 (l.map lineY)
def chkY (l : List Sl) : Int := if 64 < l.length then 22 else if l.all rightY = true then 0 else 1
def printY (l : List Sl) : Bs × Int := if chkY l = 0 then (textY l, 0) else ([], chkY l)
theorem chkY_long {l : List Sl} (h : 64 < l.length) : chkY l = 22 := by unfold chkY; rw [if_pos h]
theorem chkY_ok {l : List Sl} (h : ¬ 64 < l.length) (g : l.all rightY = true) : chkY l = 0 := by unfold chkY; rw [if_neg h, if_pos g]
theorem chkY_no {l : List Sl} (h : ¬ 64 < l.length) (g : l.all rightY = false) : chkY l = 1 := by unfold chkY; rw [if_neg h, if_neg (by rw [g]; decide)]
theorem chkY_zero {l : List Sl} (h : chkY l = 0) : l.length ≤ 64 ∧ ∀ x ∈ l, rightY x = true := by
  by_cases h1 : 64 < l.length
  · rw [chkY_long h1] at h; omega
  · cases g : l.all rightY
    · rw [chkY_no h1 g] at h; omega
    · exact ⟨by omega, List.all_eq_true.1 g⟩
theorem chkY_ways (l : List Sl) : chkY l = 22 ∨ chkY l = 0 ∨ chkY l = 1 := by
  by_cases h1 : 64 < l.length
  · exact .inl (chkY_long h1)
  · cases g : l.all rightY
    · exact .inr (.inr (chkY_no h1 g))
    · exact .inr (.inl (chkY_ok h1 g))
theorem printY_ok {l : List Sl} (h : chkY l = 0) : printY l = (textY l, 0) := by unfold printY; rw [if_pos h]
theorem printY_no {l : List Sl} (h : ¬ chkY l = 0) : printY l = ([], chkY l) := by unfold printY; rw [if_neg h]
theorem printY_is {l : List Sl} {s : Bs} (h : printY l = (s, 0)) : chkY l = 0 ∧ textY l = s := by
  by_cases g : chkY l = 0
  · rw [printY_ok g] at h; exact ⟨g, (Prod.mk.inj h).1⟩
  · rw [printY_no g] at h; exact absurd (Prod.mk.inj h).2 g
theorem rightY_parts {x : Sl} (h : rightY x = true) : nameB x.1 = true ∧ right x.2.2 = true := by
  unfold rightY at h
  simpa only [Bool.and_eq_true] using h
-- What a right one has no byte of
theorem name_not {s : Bs} (h : nameB s = true) {c : UInt8} (hc : inB c = false) : c ∉ s := fun hm => by
  unfold nameB at h
  simp only [Bool.and_eq_true, List.all_eq_true] at h
  have := h.2 _ hm
  rw [this] at hc; cases hc
theorem name_ne {s : Bs} (h : nameB s = true) : s ≠ [] := fun e => by subst e; revert h; decide
theorem name_60 {s : Bs} (h : nameB s = true) : s.length ≤ 60 := by
  unfold nameB at h
  simp only [Bool.and_eq_true, decide_eq_true_eq] at h
  exact h.1.1.2
theorem right_notY {s : Bs} (h : right s = true) {c : UInt8} (ho : okb c = false) : c ∉ s := fun hm => by
  have := List.all_eq_true.1 (right_in h) _ hm
  rw [this] at ho; cases ho
theorem right_neY {s : Bs} (h : right s = true) : s ≠ [] := fun e => by subst e; revert h; decide +kernel
theorem wordsY_not {x : Sl} (h : rightY x = true) {c : UInt8} (hc : c = 10 ∨ c = 32) : ∀ p ∈ wordsY x, c ∉ p := fun p hp => by
  obtain ⟨h1, h2⟩ := rightY_parts h
  simp only [wordsY, List.mem_cons, List.not_mem_nil, or_false] at hp
  rcases hp with rfl | rfl | rfl
  · exact name_not h1 (by rcases hc with rfl | rfl <;> decide)
  · unfold wordY; rcases hc with rfl | rfl <;> cases x.2.1 <;> decide
  · exact right_notY h2 (by rcases hc with rfl | rfl <;> decide)
theorem wordsY_ne {x : Sl} (h : rightY x = true) : ∀ p ∈ wordsY x, p ≠ [] := fun p hp => by
  obtain ⟨h1, h2⟩ := rightY_parts h
  simp only [wordsY, List.mem_cons, List.not_mem_nil, or_false] at hp
  rcases hp with rfl | rfl | rfl
  · exact name_ne h1
  · unfold wordY; cases x.2.1 <;> decide
  · exact right_neY h2
theorem lineY_eq (x : Sl) : lineY x = x.1 ++ 32 :: (wordY x.2.1 ++ 32 :: x.2.2) := rfl
theorem lineY_not {x : Sl} (h : rightY x = true) : (10 : UInt8) ∉ lineY x := by
  have hn := wordsY_not h (c := 10) (.inl rfl)
  rw [lineY_eq]
  simp only [List.mem_append, List.mem_cons, not_or]
  exact ⟨hn _ (by simp [wordsY]), by decide, hn _ (by simp [wordsY]), by decide, hn _ (by simp [wordsY])⟩
theorem spl_lineY {x : Sl} (h : rightY x = true) : spl 32 (lineY x) = wordsY x := by
  have hn := wordsY_not h (c := 32) (.inr rfl)
  rw [lineY_eq, spl_at _ _ _ (hn _ (by simp [wordsY])), spl_at _ _ _ (hn _ (by simp [wordsY])), spl_no _ _ (hn _ (by simp [wordsY]))]; rfl
theorem words_lineY {x : Sl} (h : rightY x = true) : wordsL (lineY x) = wordsY x := by
  unfold wordsL
  rw [spl_lineY h]
  exact List.filter_eq_self.2 (fun p hp => by have := wordsY_ne h p hp; cases p <;> simp_all)
theorem wordY_back (b : Bool) : decide (wordY b = manY) = b := by cases b <;> decide
-- What is read of a line
def headC (c : UInt8) (l : Bs) : Bs := l.takeWhile fun x => decide (x ≠ c)
def tailC (c : UInt8) (l : Bs) : Bs := (l.dropWhile fun x => decide (x ≠ c)).drop 1
theorem headC_no {c : UInt8} {l : Bs} (h : c ∉ l) : headC c l = l ∧ tailC c l = [] := by
  have h1 : ∀ x ∈ l, decide (x ≠ c) = true := fun x hx => decide_eq_true (fun e => h (e ▸ hx))
  unfold headC tailC
  have e1 := List.takeWhile_append_of_pos (l₂ := []) h1
  have e2 := List.dropWhile_append_of_pos (l₂ := []) h1
  simp only [List.append_nil, List.takeWhile_nil, List.dropWhile_nil] at e1 e2
  rw [e1, e2]; exact ⟨rfl, rfl⟩
theorem headC_at {c : UInt8} {a r : Bs} (h : c ∉ a) : headC c (a ++ c :: r) = a ∧ tailC c (a ++ c :: r) = r := by
  have h1 : ∀ x ∈ a, decide (x ≠ c) = true := fun x hx => decide_eq_true (fun e => h (e ▸ hx))
  unfold headC tailC
  rw [List.takeWhile_append_of_pos h1, List.dropWhile_append_of_pos h1]
  simp
theorem headC_len (c : UInt8) (l : Bs) : (headC c l).length ≤ l.length ∧ (tailC c l).length ≤ l.length := by
  unfold headC tailC
  refine ⟨(List.takeWhile_sublist _).length_le, ?_⟩
  rw [List.length_drop]
  have := (List.dropWhile_sublist (fun x => decide (x ≠ c)) (l := l)).length_le
  omega
/-- The program's reading of a line. -/
def rdY (p : Bs) : Sl := (headC 32 p, decide (headC 32 (tailC 32 p) = manY), headC 32 (tailC 32 (tailC 32 p)))
theorem rdY_line {x : Sl} (h : rightY x = true) : rdY (lineY x) = x := by
  have hn := wordsY_not h (c := 32) (.inr rfl)
  obtain ⟨a1, a2⟩ := headC_at (c := 32) (r := wordY x.2.1 ++ 32 :: x.2.2) (hn x.1 (by simp [wordsY]))
  obtain ⟨b1, b2⟩ := headC_at (c := 32) (r := x.2.2) (hn (wordY x.2.1) (by simp [wordsY]))
  obtain ⟨c1, c2⟩ := headC_no (hn x.2.2 (by simp [wordsY]))
  unfold rdY
  rw [lineY_eq, a1, a2, b1, b2, c1, wordY_back]
theorem rdY_len (p : Bs) : (rdY p).1.length ≤ p.length ∧ (rdY p).2.2.length ≤ p.length := by
  have h1 := headC_len 32 p
  have h2 := headC_len 32 (tailC 32 p)
  have h3 := headC_len 32 (tailC 32 (tailC 32 p))
  unfold rdY
  dsimp only
  omega
theorem rdsY_lines {l : List Sl} (h : ∀ x ∈ l, rightY x = true) : (l.map lineY).map rdY = l := by
  rw [List.map_map]
  conv => rhs; rw [← List.map_id l]
  exact List.map_congr_left (fun x hx => rdY_line (h x hx))
/-- The reference's reading of a line. -/
def readY (p : Bs) : Option Sl := match wordsL p with
  | [a, b, c] => some (a, decide (b = manY), c)
  | _ => none
theorem readY_line {x : Sl} (h : rightY x = true) : readY (lineY x) = some x := by
  unfold readY
  rw [words_lineY h]
  show some (x.1, decide (wordY x.2.1 = manY), x.2.2) = some x
  rw [wordY_back]
theorem readY_three {p a b c : Bs} (h : wordsL p = [a, b, c]) : readY p = some (a, decide (b = manY), c) := by unfold readY; rw [h]
theorem readY_not {p : Bs} (h : (wordsL p).length ≠ 3) : readY p = none := by
  unfold readY
  split
  · rename_i a b c e; rw [e] at h; simp at h
  · rfl
def readsY : List Bs → Option (List Sl)
  | [] => some []
  | s :: l => match readY s, readsY l with
    | some x, some xs => some (x :: xs)
    | _, _ => none
theorem readsY_lines {l : List Sl} (h : ∀ x ∈ l, rightY x = true) : readsY (l.map lineY) = some l := by
  induction l with
  | nil => rfl
  | cons x l ih => rw [List.map_cons, readsY, readY_line (h x (by simp)), ih (fun y hy => h y (by simp [hy]))]
theorem readsY_app : ∀ (a b : List Bs), readsY (a ++ b) = (readsY a).bind fun x => (readsY b).map fun y => x ++ y
  | [], b => by simp [readsY]
  | s :: a, b => by
    rw [List.cons_append, readsY, readsY, readsY_app a b]
    cases readY s with
    | none => rfl
    | some x =>
      cases readsY a with
      | none => rfl
      | some xs => cases readsY b <;> rfl
theorem readsY_snoc {ls : List Bs} {k : Nat} {p : Bs} {x : Sl} {xs : List Sl} (h : readsY (ls.take k) = some xs) (hp : ls[k]? = some p) (hx : readY p = some x) : readsY (ls.take (k + 1)) = some (xs ++ [x]) := by
  rw [List.take_add_one, hp, readsY_app, h]
  simp [readsY, hx]
theorem readsY_bad {ls : List Bs} {k : Nat} {p : Bs} (hp : ls[k]? = some p) (hx : readY p = none) : readsY ls = none := by
  obtain ⟨hk, e⟩ := List.getElem?_eq_some_iff.1 hp
  have : ls = ls.take k ++ p :: ls.drop (k + 1) := by rw [← e, ← List.drop_eq_getElem_cons hk, List.take_append_drop]
  rw [this, readsY_app]
  cases readsY (ls.take k) with
  | none => rfl
  | some xs => simp [readsY, hx]
theorem words_memL {p q : Bs} (h : q ∈ wordsL p) : q.length ≤ p.length := by
  unfold wordsL at h
  exact spl_piece 32 p q (List.mem_filter.1 h).1
theorem readY_len {p : Bs} {x : Sl} (h : readY p = some x) : x.1.length ≤ p.length ∧ x.2.2.length ≤ p.length := by
  unfold readY at h
  split at h
  · rename_i a b c e
    cases h
    exact ⟨words_memL (by rw [e]; simp), words_memL (by rw [e]; simp)⟩
  · cases h
def SmallY (l : List Sl) : Prop := ∀ x ∈ l, x.1.length ≤ 4000 ∧ x.2.2.length ≤ 4000
theorem readsY_small : ∀ {l : List Bs} {xs : List Sl}, readsY l = some xs → (∀ p ∈ l, p.length ≤ 4000) → SmallY xs
  | [], xs, h, _ => by cases h; exact fun x hx => by simp at hx
  | s :: l, xs, h, hp => by
    rw [readsY] at h
    cases hs : readY s with
    | none => rw [hs] at h; cases h
    | some x =>
      cases hl : readsY l with
      | none => rw [hs, hl] at h; cases h
      | some ys =>
        rw [hs, hl] at h; cases h
        intro y hy
        rcases List.mem_cons.1 hy with rfl | hy
        · have := readY_len hs
          have := hp s (by simp)
          omega
        · exact readsY_small hl (fun p h => hp p (by simp [h])) y hy
theorem lines_textY {l : List Sl} (h : ∀ x ∈ l, rightY x = true) : linesO (textY l) = some (l.map lineY) :=
  lines_ended _ (fun p hp => by
    obtain ⟨x, hx, rfl⟩ := List.mem_map.1 hp
    exact lineY_not (h x hx))
/-- The list whose text this is. -/
def parseY (s : Bs) : Option (List Sl) := (linesO s).bind fun ls => if printY (ls.map rdY) = (s, 0) then some (ls.map rdY) else none
theorem parse_textY {l : List Sl} (h : chkY l = 0) : parseY (textY l) = some l := by
  have hr := (chkY_zero h).2
  unfold parseY
  rw [lines_textY hr, Option.bind_some, rdsY_lines hr, if_pos (printY_ok h)]
theorem text_parseY {s : Bs} {l : List Sl} (h : parseY s = some l) : printY l = (s, 0) ∧ chkY l = 0 ∧ textY l = s := by
  unfold parseY at h
  cases hl : linesO s with
  | none => rw [hl] at h; cases h
  | some ls =>
    rw [hl, Option.bind_some] at h
    split at h
    · rename_i g; cases h; exact ⟨g, printY_is g⟩
    · cases h
theorem parseY_none {s : Bs} (h : linesO s = none) : parseY s = none := by unfold parseY; rw [h]; rfl
theorem parseY_some {s : Bs} {ls : List Bs} (h : linesO s = some ls) : parseY s = if printY (ls.map rdY) = (s, 0) then some (ls.map rdY) else none := by unfold parseY; rw [h]; rfl
/-- What the program parses is what the reference parses. -/
theorem parseY_ref (s : Bs) : parseY s = (linesO s).bind fun ls => (readsY ls).bind fun l => if printY l = (s, 0) then some l else none := by
  cases hp : parseY s with
  | some l =>
    obtain ⟨h1, h2, h3⟩ := text_parseY hp
    have hr := (chkY_zero h2).2
    rw [← h3, lines_textY hr, Option.bind_some, readsY_lines hr, Option.bind_some, if_pos (printY_ok h2)]
  | none =>
    cases hl : linesO s with
    | none => rfl
    | some ls =>
      rw [Option.bind_some]
      cases hr : readsY ls with
      | none => rfl
      | some l =>
        rw [Option.bind_some, if_neg]
        intro g
        obtain ⟨h2, h3⟩ := printY_is g
        rw [← h3, parse_textY h2] at hp; cases hp
end Go.Proofs.YtnfhccnicojdcaaGreatDoor
