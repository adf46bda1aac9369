/-
  Interests in triggers, and fired triggers: which may be, their texts, what is read of a text; nothing of the program.
-/
import Derived.Test.YtceohgjfjndcmaaGreatDoorDMath
namespace Go.Proofs.YtceohgjfjndcmaaGreatDoor
open Go.RowKit
-- What stands ahead of a byte, and behind it
def headC (c : UInt8) (l : Bs) : Bs := l.takeWhile fun x => decide (x ≠ c)
def tailC (c : UInt8) (l : Bs) : Bs := (l.dropWhile fun x => decide (x ≠ c)).drop 1
theorem headC_no {c : UInt8} {l : Bs} (h : c ∉ l) : headC c l = l ∧ tailC c l = [] := by
  have h1 : ∀ x ∈ l, decide (x ≠ c) = true := fun x hx => decide_eq_true (fun e => h (e ▸ hx))
  unfold headC tailC
  have e1 := List.takeWhile_append_of_pos (l₂ := []) h1
  have e2 := List.dropWhile_append_of_pos (l₂ := []) h1
  simp only [List.append_nil, List.takeWhile_nil, List.dropWhile_nil] at e1 e2
  rw [e1, e2]; exact ⟨rfl, rfl⟩
theorem headC_at {c : UInt8} {a r : Bs} (h : c ∉ a) : headC c (a ++ c :: r) = a ∧ tailC c (a ++ c :: r) = r := by
  have h1 : ∀ x ∈ a, decide (x ≠ c) = true := fun x hx => decide_eq_true (fun e => h (e ▸ hx))
  unfold headC tailC
  rw [List.takeWhile_append_of_pos h1, List.dropWhile_append_of_pos h1]
  simp
theorem headC_len (c : UInt8) (l : Bs) : (headC c l).length ≤ l.length ∧ (tailC c l).length ≤ l.length := by
  unfold headC tailC
  refine ⟨(List.takeWhile_sublist _).length_le, ?_⟩
  rw [List.length_drop]
  have := (List.dropWhile_sublist (fun x => decide (x ≠ c)) (l := l)).length_le
  omega
theorem mem_split (c : UInt8) : ∀ s : Bs, c ∉ s ∨ ∃ a r, c ∉ a ∧ s = a ++ c :: r
  | [] => .inl (by simp)
  | x :: s => by
    by_cases hx : x = c
    · exact .inr ⟨[], s, by simp, by simp [hx]⟩
    · rcases mem_split c s with h | ⟨a, r, h, e⟩
      · exact .inl (by simp [h, Ne.symm hx])
      · exact .inr ⟨x :: a, r, by simp [h, Ne.symm hx], by simp [e]⟩
-- A list of texts of which each may be, that rises
def stepG (p : Bs → Bool) (l : List Bs) (i : Nat) (x : Bs) : Prop := p x = true ∧ ∀ y, 0 < i → l[i - 1]? = some y → y < x
def StepsG (p : Bs → Bool) (l : List Bs) : Prop := ∀ (i : Nat) x, l[i]? = some x → stepG p l i x
open Classical in
noncomputable def chkG (p : Bs → Bool) (l : List Bs) : Int := if 64 < l.length then 22 else if StepsG p l then 0 else 1
theorem chkG_long {p : Bs → Bool} {l : List Bs} (h : 64 < l.length) : chkG p l = 22 := by unfold chkG; rw [if_pos h]
theorem chkG_ok {p : Bs → Bool} {l : List Bs} (h : ¬ 64 < l.length) (g : StepsG p l) : chkG p l = 0 := by unfold chkG; rw [if_neg h, if_pos g]
theorem chkG_no {p : Bs → Bool} {l : List Bs} (h : ¬ 64 < l.length) (g : ¬ StepsG p l) : chkG p l = 1 := by unfold chkG; rw [if_neg h, if_neg g]
theorem chkG_ways (p : Bs → Bool) (l : List Bs) : chkG p l = 22 ∨ chkG p l = 0 ∨ chkG p l = 1 := by
  unfold chkG
  split
  · exact .inl rfl
  · split
    · exact .inr (.inl rfl)
    · exact .inr (.inr rfl)
theorem chkG_zero {p : Bs → Bool} {l : List Bs} (h : chkG p l = 0) : l.length ≤ 64 ∧ StepsG p l := by
  unfold chkG at h
  split at h
  · omega
  · split at h
    · exact ⟨by omega, by assumption⟩
    · omega
-- Interests
abbrev It := Bs × Bs × Bool
def trigB (s : Bs) : Bool := nameB s || right s
def rightI (x : It) : Bool := trigB x.1 && nameB x.2.1
def lessI (a b : It) : Prop := a.1 < b.1 ∨ a.1 = b.1 ∧ a.2.1 < b.2.1
def stepI (l : List It) (i : Nat) (x : It) : Prop := rightI x = true ∧ ∀ y, 0 < i → l[i - 1]? = some y → lessI y x
def StepsI (l : List It) : Prop := ∀ (i : Nat) x, l[i]? = some x → stepI l i x
open Classical in
noncomputable def chkI (l : List It) : Int := if 64 < l.length then 22 else if StepsI l then 0 else 1
theorem chkI_long {l : List It} (h : 64 < l.length) : chkI l = 22 := by unfold chkI; rw [if_pos h]
theorem chkI_ok {l : List It} (h : ¬ 64 < l.length) (g : StepsI l) : chkI l = 0 := by unfold chkI; rw [if_neg h, if_pos g]
theorem chkI_no {l : List It} (h : ¬ 64 < l.length) (g : ¬ StepsI l) : chkI l = 1 := by unfold chkI; rw [if_neg h, if_neg g]
theorem chkI_ways (l : List It) : chkI l = 22 ∨ chkI l = 0 ∨ chkI l = 1 := by
  unfold chkI
  split
  · exact .inl rfl
  · split
    · exact .inr (.inl rfl)
    · exact .inr (.inr rfl)
theorem chkI_zero {l : List It} (h : chkI l = 0) : l.length ≤ 64 ∧ StepsI l := by
  unfold chkI at h
  split at h
  · omega
  · split at h
    · exact ⟨by omega, by assumption⟩
    · omega
theorem StepsI.right {l : List It} (h : StepsI l) : ∀ x ∈ l, rightI x = true := fun x hx => by
  obtain ⟨i, hi⟩ := List.mem_iff_getElem?.1 hx
  exact (h i x hi).1
def noaw : Bs := [47, 110, 111, 97, 119, 97, 105, 116]
def tailI (x : It) : Bs := if x.2.2 = true then noaw else []
def lineI (x : It) : Bs := x.1 ++ 32 :: (x.2.1 ++ tailI x)
def textI (l : List It) : Bs := ended10 (l.map lineI)
noncomputable def printI (l : List It) : Bs × Int := if chkI l = 0 then (textI l, 0) else ([], chkI l)
theorem printI_ok {l : List It} (h : chkI l = 0) : printI l = (textI l, 0) := by unfold printI; rw [if_pos h]
theorem printI_no {l : List It} (h : ¬ chkI l = 0) : printI l = ([], chkI l) := by unfold printI; rw [if_neg h]
theorem printI_is {l : List It} {s : Bs} (h : printI l = (s, 0)) : chkI l = 0 ∧ textI l = s := by
  by_cases g : chkI l = 0
  · rw [printI_ok g] at h; exact ⟨g, (Prod.mk.inj h).1⟩
  · rw [printI_no g] at h; exact absurd (Prod.mk.inj h).2 g
-- What a right one has no byte of
theorem name_not {s : Bs} (h : nameB s = true) {c : UInt8} (hc : inB c = false) : c ∉ s := fun hm => by
  unfold nameB at h
  simp only [Bool.and_eq_true, List.all_eq_true] at h
  rw [h.2 _ hm] at hc; cases hc
theorem name_ne {s : Bs} (h : nameB s = true) : s ≠ [] := fun e => by subst e; revert h; decide
theorem trig_not {s : Bs} (h : trigB s = true) {c : UInt8} (hc : inB c = false) (ho : okb c = false) : c ∉ s := fun hm => by
  unfold trigB at h
  rcases Bool.or_eq_true_iff.1 h with h | h
  · exact name_not h hc hm
  · have := List.all_eq_true.1 (right_in h) _ hm
    rw [this] at ho; cases ho
theorem rightI_parts {x : It} (h : rightI x = true) : trigB x.1 = true ∧ nameB x.2.1 = true := by unfold rightI at h; simpa using h
theorem noaw_not : (10 : UInt8) ∉ noaw ∧ (32 : UInt8) ∉ noaw := by decide
theorem tailI_not (x : It) : (10 : UInt8) ∉ tailI x ∧ (32 : UInt8) ∉ tailI x := by
  unfold tailI; split
  · exact noaw_not
  · simp
theorem line_not {x : It} (h : rightI x = true) : (10 : UInt8) ∉ lineI x := by
  obtain ⟨h1, h2⟩ := rightI_parts h
  unfold lineI
  simp only [List.mem_append, List.mem_cons, not_or]
  exact ⟨trig_not h1 (by decide) (by decide), by decide, name_not h2 (by decide), (tailI_not x).1⟩
-- What is read of a line
/-- Without a word at its end, and whether it was there. -/
def cutNo (r : Bs) : Bs × Bool := if noaw <:+ r then (r.take (r.length - 8), true) else (r, false)
def readI (s : Bs) : It := (headC 32 s, cutNo (tailC 32 s))
theorem cutNo_name {p : Bs} (h : nameB p = true) (b : Bool) : cutNo (p ++ (if b = true then noaw else [])) = (p, b) := by
  unfold cutNo
  cases b
  · simp only [Bool.false_eq_true, if_false, List.append_nil]
    rw [if_neg (fun g => name_not h (c := 47) (by decide) (g.subset (by decide)))]
  · rw [if_pos rfl, if_pos (List.suffix_append _ _)]
    have : (p ++ noaw).length - 8 = p.length := by simp [noaw]
    rw [this, List.take_left']
    rfl
theorem readI_line {x : It} (h : rightI x = true) : readI (lineI x) = x := by
  obtain ⟨h1, h2⟩ := rightI_parts h
  obtain ⟨e1, e2⟩ := headC_at (c := 32) (a := x.1) (r := x.2.1 ++ tailI x) (trig_not h1 (by decide) (by decide))
  unfold readI lineI
  rw [e1, e2]
  unfold tailI
  rw [cutNo_name h2]
theorem readI_lines {l : List It} (h : ∀ x ∈ l, rightI x = true) : (l.map lineI).map readI = l := by
  rw [List.map_map]
  conv => rhs; rw [← List.map_id l]
  exact List.map_congr_left (fun x hx => readI_line (h x hx))
open Classical in
noncomputable def parseI (s : Bs) : Option (List It) := (linesO s).bind fun ls => if printI (ls.map readI) = (s, 0) then some (ls.map readI) else none
theorem lines_textI {l : List It} (h : ∀ x ∈ l, rightI x = true) : linesO (textI l) = some (l.map lineI) :=
  lines_ended _ (fun p hp => by
    obtain ⟨x, hx, rfl⟩ := List.mem_map.1 hp
    exact line_not (h x hx))
theorem parse_textI {l : List It} (h : chkI l = 0) : parseI (textI l) = some l := by
  have hr := (chkI_zero h).2.right
  unfold parseI
  rw [lines_textI hr, Option.bind_some, readI_lines hr, if_pos (printI_ok h)]
theorem parseI_none {s : Bs} (h : linesO s = none) : parseI s = none := by unfold parseI; rw [h]; rfl
open Classical in
theorem parseI_some {s : Bs} {ls : List Bs} (h : linesO s = some ls) : parseI s = if printI (ls.map readI) = (s, 0) then some (ls.map readI) else none := by
  unfold parseI; rw [h]; rfl
theorem text_parseI {s : Bs} {l : List It} (h : parseI s = some l) : printI l = (s, 0) ∧ chkI l = 0 ∧ textI l = s := by
  unfold parseI at h
  cases hl : linesO s with
  | none => rw [hl] at h; cases h
  | some ls =>
    rw [hl, Option.bind_some] at h
    split at h
    · rename_i g; cases h; exact ⟨g, printI_is g⟩
    · cases h
-- As the reference reads
def readR (s : Bs) : Option It := match spl 32 s with
  | [a, b] => some (a, match spl 47 b with
    | [p, q] => if q = noaw.tail then (p, true) else (b, false)
    | _ => (b, false))
  | _ => none
theorem readR_line {x : It} (h : rightI x = true) : readR (lineI x) = some x := by
  obtain ⟨h1, h2⟩ := rightI_parts h
  have n1 := trig_not h1 (c := 32) (by decide) (by decide)
  have n2 := name_not h2 (c := 32) (by decide)
  have n3 := name_not h2 (c := 47) (by decide)
  have e : spl 32 (lineI x) = [x.1, x.2.1 ++ tailI x] := by
    unfold lineI
    rw [spl_at _ _ _ n1, spl_no _ _ (by rw [List.mem_append, not_or]; exact ⟨n2, (tailI_not x).2⟩)]
  obtain ⟨a, p, b⟩ := x
  unfold readR
  rw [e]
  cases b
  · have : spl 47 (p ++ tailI (a, p, false)) = [p] := by simp only [tailI, Bool.false_eq_true, if_false, List.append_nil]; exact spl_no _ _ n3
    simp only [this]
    simp [tailI]
  · have : spl 47 (p ++ tailI (a, p, true)) = [p, noaw.tail] := by
      simp only [tailI, if_true]
      rw [show p ++ noaw = p ++ 47 :: noaw.tail from rfl, spl_at _ _ _ n3]; rfl
    simp only [this, if_true]
/-- The reference's reading of all lines. -/
def readsR : List Bs → Option (List It)
  | [] => some []
  | s :: l => match readR s, readsR l with
    | some x, some xs => some (x :: xs)
    | _, _ => none
theorem readsR_lines {l : List It} (h : ∀ x ∈ l, rightI x = true) : readsR (l.map lineI) = some l := by
  induction l with
  | nil => rfl
  | cons x l ih => rw [List.map_cons, readsR, readR_line (h x (by simp)), ih (fun y hy => h y (by simp [hy]))]
theorem parseI_lines {s : Bs} {l : List It} (h : parseI s = some l) : linesO s = some (l.map lineI) ∧ readsR (l.map lineI) = some l := by
  obtain ⟨_, h2, h3⟩ := text_parseI h
  have hr := (chkI_zero h2).2.right
  rw [← h3]
  exact ⟨lines_textI hr, readsR_lines hr⟩
theorem linesO_drop {s : Bs} {ls : List Bs} (h : linesO s = some ls) : (spl 10 s).getLast? = some [] ∧ ls = (spl 10 s).dropLast := by
  unfold linesO at h
  split at h
  · cases h; exact ⟨by assumption, rfl⟩
  · cases h
theorem parseI_bad {s : Bs} (h : readsR (spl 10 s).dropLast = none) : parseI s = none := by
  cases hp : parseI s with
  | none => rfl
  | some l =>
    obtain ⟨h1, h2⟩ := parseI_lines hp
    rw [← (linesO_drop h1).2, h2] at h; cases h
open Classical in
theorem parseI_good {s : Bs} {l : List It} (h : readsR (spl 10 s).dropLast = some l) : parseI s = if (spl 10 s).getLast? = some [] ∧ printI l = (s, 0) then some l else none := by
  cases hp : parseI s with
  | none =>
    rw [if_neg]
    rintro ⟨_, g⟩
    obtain ⟨h2, h3⟩ := printI_is g
    rw [← h3, parse_textI h2] at hp; cases hp
  | some m =>
    obtain ⟨h1, h2⟩ := parseI_lines hp
    obtain ⟨h3, h4⟩ := linesO_drop h1
    rw [← h4, h2] at h; cases h
    rw [if_pos ⟨h3, (text_parseI hp).1⟩]
-- Fired triggers
abbrev Fr := Bs × List Bs
noncomputable def rightF (x : Fr) : Bool := trigB x.1 && decide (chkG nameB x.2 = 0)
theorem rightF_parts {x : Fr} (h : rightF x = true) : trigB x.1 = true ∧ chkG nameB x.2 = 0 := by unfold rightF at h; simpa using h
def stepF (l : List Fr) (i : Nat) (x : Fr) : Prop := rightF x = true ∧ ∀ y, 0 < i → l[i - 1]? = some y → y.1 < x.1
def StepsF (l : List Fr) : Prop := ∀ (i : Nat) x, l[i]? = some x → stepF l i x
theorem StepsF.right {l : List Fr} (h : StepsF l) : ∀ x ∈ l, rightF x = true := fun x hx => by
  obtain ⟨i, hi⟩ := List.mem_iff_getElem?.1 hx
  exact (h i x hi).1
open Classical in
noncomputable def kchkF (l : List Fr) : Int := if 64 < l.length then 22 else if StepsF l then 0 else 1
theorem kchkF_long {l : List Fr} (h : 64 < l.length) : kchkF l = 22 := by unfold kchkF; rw [if_pos h]
theorem kchkF_ok {l : List Fr} (h : ¬ 64 < l.length) (g : StepsF l) : kchkF l = 0 := by unfold kchkF; rw [if_neg h, if_pos g]
theorem kchkF_no {l : List Fr} (h : ¬ 64 < l.length) (g : ¬ StepsF l) : kchkF l = 1 := by unfold kchkF; rw [if_neg h, if_neg g]
def CrowdF (l : List Fr) : Prop := ∃ x ∈ l, 64 < x.2.length
open Classical in
noncomputable def chkF (l : List Fr) : Int := if CrowdF l then 22 else kchkF l
theorem chkF_crowd {l : List Fr} (h : CrowdF l) : chkF l = 22 := by unfold chkF; rw [if_pos h]
theorem chkF_calm {l : List Fr} (h : ¬ CrowdF l) : chkF l = kchkF l := by unfold chkF; rw [if_neg h]
theorem chkF_ways (l : List Fr) : chkF l = 22 ∨ chkF l = 0 ∨ chkF l = 1 := by
  unfold chkF kchkF
  split
  · exact .inl rfl
  · split
    · exact .inl rfl
    · split
      · exact .inr (.inl rfl)
      · exact .inr (.inr rfl)
theorem chkF_zero {l : List Fr} (h : chkF l = 0) : l.length ≤ 64 ∧ StepsF l := by
  unfold chkF kchkF at h
  split at h
  · omega
  · split at h
    · omega
    · split at h
      · exact ⟨by omega, by assumption⟩
      · omega
def byF (l : List Bs) : List Bs := if l = [] then [[45]] else l
def lineF (x : Fr) : Bs := x.1 ++ 32 :: joinC 32 (byF x.2)
def textF (l : List Fr) : Bs := ended10 (l.map lineF)
noncomputable def printFr (l : List Fr) : Bs × Int := if chkF l = 0 then (textF l, 0) else ([], chkF l)
theorem printFr_ok {l : List Fr} (h : chkF l = 0) : printFr l = (textF l, 0) := by unfold printFr; rw [if_pos h]
theorem printFr_no {l : List Fr} (h : ¬ chkF l = 0) : printFr l = ([], chkF l) := by unfold printFr; rw [if_neg h]
theorem printFr_is {l : List Fr} {s : Bs} (h : printFr l = (s, 0)) : chkF l = 0 ∧ textF l = s := by
  by_cases g : chkF l = 0
  · rw [printFr_ok g] at h; exact ⟨g, (Prod.mk.inj h).1⟩
  · rw [printFr_no g] at h; exact absurd (Prod.mk.inj h).2 g
theorem byF_ne (l : List Bs) : byF l ≠ [] := by unfold byF; split <;> simp_all
theorem flat_join (c : UInt8) : ∀ (l : List Bs), l ≠ [] → (l.flatMap fun p => c :: p) = c :: joinC c l
  | [], h => absurd rfl h
  | [p], _ => by simp [joinC]
  | p :: q :: l, _ => by
    have := flat_join c (q :: l) (by simp)
    rw [List.flatMap_cons, this, joinC]; simp
theorem joinC_not {c d : UInt8} (hd : d ≠ c) : ∀ (l : List Bs), (∀ p ∈ l, d ∉ p) → d ∉ joinC c l
  | [], _ => by simp [joinC]
  | [p], h => by simpa [joinC] using h p (by simp)
  | p :: q :: l, h => by
    have := joinC_not hd (q :: l) (fun x hx => h x (List.mem_cons_of_mem _ hx))
    rw [joinC]
    simp only [List.mem_append, List.mem_cons, not_or]
    exact ⟨h p (by simp), hd, this⟩
theorem by_names {l : List Bs} (h : chkG nameB l = 0) : ∀ p ∈ l, nameB p = true := fun p hp => by
  obtain ⟨i, hi⟩ := List.mem_iff_getElem?.1 hp
  exact ((chkG_zero h).2 i p hi).1
theorem byF_not {l : List Bs} (h : chkG nameB l = 0) {c : UInt8} (hc : inB c = false) (h45 : c ≠ 45) : ∀ p ∈ byF l, c ∉ p := fun p hp => by
  unfold byF at hp
  split at hp
  · simp at hp; subst hp; simpa using h45
  · exact name_not (by_names h p hp) hc
theorem lineF_not {x : Fr} (h : rightF x = true) : (10 : UInt8) ∉ lineF x := by
  obtain ⟨h1, h2⟩ := rightF_parts h
  unfold lineF
  simp only [List.mem_append, List.mem_cons, not_or]
  exact ⟨trig_not h1 (by decide) (by decide), by decide, joinC_not (by decide) _ (byF_not h2 (by decide) (by decide))⟩
def readF (s : Bs) : Fr := (headC 32 s, wordsL (if tailC 32 s = [45] then [] else tailC 32 s))
theorem wordsL_join {l : List Bs} (hl : l ≠ []) (h : ∀ p ∈ l, (32 : UInt8) ∉ p ∧ p ≠ []) : wordsL (joinC 32 l) = l := by
  unfold wordsL
  rw [spl_joinC 32 l hl (fun p hp => (h p hp).1)]
  exact List.filter_eq_self.2 (fun p hp => decide_eq_true (h p hp).2)
theorem join45 {l : List Bs} (hl : l ≠ []) (h : ∀ p ∈ l, nameB p = true) : joinC 32 l ≠ [45] := fun e => by
  have := spl_joinC 32 l hl (fun p hp => name_not (h p hp) (by decide))
  rw [e, show spl 32 [45] = [[45]] from by decide] at this
  have := h [45] (by rw [← this]; simp)
  revert this; decide
theorem readF_line {x : Fr} (h : rightF x = true) : readF (lineF x) = x := by
  obtain ⟨h1, h2⟩ := rightF_parts h
  obtain ⟨e1, e2⟩ := headC_at (c := 32) (a := x.1) (r := joinC 32 (byF x.2)) (trig_not h1 (by decide) (by decide))
  unfold readF lineF
  rw [e1, e2]
  obtain ⟨a, l⟩ := x
  by_cases hl : l = []
  · subst hl; simp only [byF, if_true, joinC]; rfl
  · have hn := by_names h2
    simp only [byF, if_neg hl, if_neg (join45 hl hn)]
    rw [wordsL_join hl (fun p hp => ⟨name_not (hn p hp) (by decide), name_ne (hn p hp)⟩)]
theorem readF_lines {l : List Fr} (h : ∀ x ∈ l, rightF x = true) : (l.map lineF).map readF = l := by
  rw [List.map_map]
  conv => rhs; rw [← List.map_id l]
  exact List.map_congr_left (fun x hx => readF_line (h x hx))
open Classical in
noncomputable def parseF (s : Bs) : Option (List Fr) := (linesO s).bind fun ls => if printFr (ls.map readF) = (s, 0) then some (ls.map readF) else none
theorem lines_textF {l : List Fr} (h : ∀ x ∈ l, rightF x = true) : linesO (textF l) = some (l.map lineF) :=
  lines_ended _ (fun p hp => by
    obtain ⟨x, hx, rfl⟩ := List.mem_map.1 hp
    exact lineF_not (h x hx))
theorem parse_textF {l : List Fr} (h : chkF l = 0) : parseF (textF l) = some l := by
  have hr := (chkF_zero h).2.right
  unfold parseF
  rw [lines_textF hr, Option.bind_some, readF_lines hr, if_pos (printFr_ok h)]
theorem parseF_none {s : Bs} (h : linesO s = none) : parseF s = none := by unfold parseF; rw [h]; rfl
open Classical in
theorem parseF_some {s : Bs} {ls : List Bs} (h : linesO s = some ls) : parseF s = if printFr (ls.map readF) = (s, 0) then some (ls.map readF) else none := by
  unfold parseF; rw [h]; rfl
theorem text_parseF {s : Bs} {l : List Fr} (h : parseF s = some l) : printFr l = (s, 0) ∧ chkF l = 0 ∧ textF l = s := by
  unfold parseF at h
  cases hl : linesO s with
  | none => rw [hl] at h; cases h
  | some ls =>
    rw [hl, Option.bind_some] at h
    split at h
    · rename_i g; cases h; exact ⟨g, printFr_is g⟩
    · cases h
-- As the reference reads
def readFR (s : Bs) : Fr := ((spl 32 s).headD [], (spl 32 s).tail.filter fun p => decide (p ≠ [45]))
theorem readFR_line {x : Fr} (h : rightF x = true) : readFR (lineF x) = x := by
  obtain ⟨h1, h2⟩ := rightF_parts h
  have n1 := trig_not h1 (c := 32) (by decide) (by decide)
  obtain ⟨a, l⟩ := x
  have e : spl 32 (lineF (a, l)) = a :: byF l := by
    unfold lineF
    rw [spl_at _ _ _ n1, spl_joinC 32 _ (byF_ne _) (byF_not h2 (by decide) (by decide))]
  unfold readFR
  rw [e, List.headD_cons, List.tail_cons]
  by_cases hl : l = []
  · subst hl; simp [byF]
  · have hf : l.filter (fun p => decide (p ≠ [45])) = l := List.filter_eq_self.2 (fun p hp => decide_eq_true (fun g => by
      have := by_names h2 p hp; subst g; revert this; decide))
    rw [byF, if_neg hl, hf]
theorem readFR_lines {l : List Fr} (h : ∀ x ∈ l, rightF x = true) : (l.map lineF).map readFR = l := by
  rw [List.map_map]
  conv => rhs; rw [← List.map_id l]
  exact List.map_congr_left (fun x hx => readFR_line (h x hx))
open Classical in
theorem parseF_ref (s : Bs) : parseF s = if (spl 10 s).getLast? = some [] ∧ printFr ((spl 10 s).dropLast.map readFR) = (s, 0) then some ((spl 10 s).dropLast.map readFR) else none := by
  cases hp : parseF s with
  | none =>
    rw [if_neg]
    rintro ⟨_, g⟩
    obtain ⟨h2, h3⟩ := printFr_is g
    generalize ((spl 10 s).dropLast.map readFR) = l at *
    rw [← h3, parse_textF h2] at hp; cases hp
  | some m =>
    obtain ⟨_, h2, h3⟩ := text_parseF hp
    have hr := (chkF_zero h2).2.right
    have h4 := lines_textF hr
    rw [h3] at h4
    obtain ⟨h5, h6⟩ := linesO_drop h4
    rw [← h6, readFR_lines hr, if_pos ⟨h5, (text_parseF hp).1⟩]
end Go.Proofs.YtceohgjfjndcmaaGreatDoor
