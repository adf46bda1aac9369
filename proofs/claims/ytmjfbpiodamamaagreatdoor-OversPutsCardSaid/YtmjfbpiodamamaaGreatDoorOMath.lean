/-
  Overrides (a path, a mode, two ids): which may be, their texts, what is read of a text; nothing of the program.
-/
import Derived.Test.YtmjfbpiodamamaaGreatDoorDMath
import Derived.Test.YtmjfbpiodamamaaGreatDoorTextsMath
import Derived.Test.YtmjfbpiodamamaaGreatDoorParseMath
namespace Go.Proofs.YtmjfbpiodamamaaGreatDoor
open Go.RowKit
/-- The path, the mode, the user, the group. -/
abbrev Ov := Bs × Int × Int × Int
def rightM (m u g : Int) : Bool := (decide (0 ≤ m) && decide (m ≤ 4095)) && (decide (0 ≤ u) && decide (u ≤ 67108863)) && (decide (0 ≤ g) && decide (g ≤ 67108863))
def rightO (x : Ov) : Bool := right x.1 && rightM x.2.1 x.2.2.1 x.2.2.2
theorem rightO_parts {x : Ov} (h : rightO x = true) : right x.1 = true ∧ (0 ≤ x.2.1 ∧ x.2.1 ≤ 4095) ∧ (0 ≤ x.2.2.1 ∧ x.2.2.1 ≤ 67108863) ∧ (0 ≤ x.2.2.2 ∧ x.2.2.2 ≤ 67108863) := by
  unfold rightO rightM at h
  simp only [Bool.and_eq_true, decide_eq_true_eq] at h
  exact ⟨h.1, h.2.1.1, h.2.1.2, h.2.2⟩
def stepO (l : List Ov) (i : Nat) (x : Ov) : Prop := rightO x = true ∧ ∀ y, 0 < i → l[i - 1]? = some y → y.1 < x.1
def StepsO (l : List Ov) : Prop := ∀ (i : Nat) x, l[i]? = some x → stepO l i x
open Classical in
noncomputable def chkO (l : List Ov) : Int := if 64 < l.length then 22 else if StepsO l then 0 else 1
theorem chkO_long {l : List Ov} (h : 64 < l.length) : chkO l = 22 := by unfold chkO; rw [if_pos h]
theorem chkO_ok {l : List Ov} (h : ¬ 64 < l.length) (g : StepsO l) : chkO l = 0 := by unfold chkO; rw [if_neg h, if_pos g]
theorem chkO_no {l : List Ov} (h : ¬ 64 < l.length) (g : ¬ StepsO l) : chkO l = 1 := by unfold chkO; rw [if_neg h, if_neg g]
theorem chkO_ways (l : List Ov) : chkO l = 22 ∨ chkO l = 0 ∨ chkO l = 1 := by
  by_cases h : 64 < l.length
  · exact .inl (chkO_long h)
  · by_cases g : StepsO l
    · exact .inr (.inl (chkO_ok h g))
    · exact .inr (.inr (chkO_no h g))
theorem chkO_zero {l : List Ov} (h : chkO l = 0) : l.length ≤ 64 ∧ StepsO l := by
  by_cases h1 : 64 < l.length
  · rw [chkO_long h1] at h; omega
  · by_cases g : StepsO l
    · exact ⟨by omega, g⟩
    · rw [chkO_no h1 g] at h; omega
theorem StepsO.right {l : List Ov} (h : StepsO l) : ∀ x ∈ l, rightO x = true := fun x hx => by
  obtain ⟨i, hi⟩ := List.mem_iff_getElem?.1 hx
  exact (h i x hi).1
def idO (n : Int) : Bs := 35 :: Lib.itoa n
def octO (m : Int) : Bs := digL 8 (nat64 m % 4096) 4
def wordsO (x : Ov) : List Bs := [idO x.2.2.1, idO x.2.2.2, octO x.2.1, x.1]
def lineO (x : Ov) : Bs := joinC 32 (wordsO x)
def textO (l : List Ov) : Bs := ended10 (l.map lineO)
noncomputable def printO (l : List Ov) : Bs × Int := if chkO l = 0 then (textO l, 0) else ([], chkO l)
theorem printO_ok {l : List Ov} (h : chkO l = 0) : printO l = (textO l, 0) := by unfold printO; rw [if_pos h]
theorem printO_no {l : List Ov} (h : ¬ chkO l = 0) : printO l = ([], chkO l) := by unfold printO; rw [if_neg h]
theorem printO_is {l : List Ov} {s : Bs} (h : printO l = (s, 0)) : chkO l = 0 ∧ textO l = s := by
  by_cases g : chkO l = 0
  · rw [printO_ok g] at h; exact ⟨g, (Prod.mk.inj h).1⟩
  · rw [printO_no g] at h; exact absurd (Prod.mk.inj h).2 g
-- What a right one has no byte of
theorem dgc_in (d : Nat) (h : d < 8) : 48 ≤ (dgc d).toNat ∧ (dgc d).toNat ≤ 57 := by rw [dgc_lt d (by omega)]; omega
theorem octO_digits (m : Int) : ∀ c ∈ octO m, 48 ≤ c.toNat ∧ c.toNat ≤ 57 := fun c hc => by
  unfold octO digL at hc
  obtain ⟨j, _, rfl⟩ := List.mem_map.1 hc
  exact dgc_in _ (Nat.mod_lt _ (by omega))
theorem itoa_pos {n : Int} (h : 0 ≤ n) : Lib.itoa n = Lib.decDigits n.toNat := by
  unfold Lib.itoa
  rw [if_neg (by omega)]
theorem idO_digits {n : Int} (h : 0 ≤ n) : ∀ c ∈ idO n, c = 35 ∨ (48 ≤ c.toNat ∧ c.toNat ≤ 57) := fun c hc => by
  unfold idO at hc
  rw [itoa_pos h] at hc
  rcases List.mem_cons.1 hc with h1 | h1
  · exact .inl h1
  · exact .inr (dec_digits _ c h1)
theorem right_not {s : Bs} (h : right s = true) {c : UInt8} (ho : okb c = false) : c ∉ s := fun hm => by
  have := List.all_eq_true.1 (right_in h) _ hm
  rw [this] at ho; cases ho
theorem right_ne {s : Bs} (h : right s = true) : s ≠ [] := fun e => by subst e; revert h; decide +kernel
theorem wordsO_not {x : Ov} (h : rightO x = true) {c : UInt8} (hc : c.toNat < 33) : ∀ p ∈ wordsO x, c ∉ p := fun p hp hm => by
  obtain ⟨h1, h2, h3, h4⟩ := rightO_parts h
  simp only [wordsO, List.mem_cons, List.not_mem_nil, or_false] at hp
  have k35 : c ≠ 35 := fun e => by subst e; revert hc; decide
  rcases hp with rfl | rfl | rfl | rfl
  · rcases idO_digits h3.1 c hm with e | e
    · exact k35 e
    · omega
  · rcases idO_digits h4.1 c hm with e | e
    · exact k35 e
    · omega
  · have := octO_digits _ c hm; omega
  · refine right_not h1 ?_ hm
    unfold okb
    rw [decide_eq_false (by omega)]; rfl
theorem wordsO_ne {x : Ov} (h : rightO x = true) : ∀ p ∈ wordsO x, p ≠ [] := fun p hp => by
  obtain ⟨h1, _⟩ := rightO_parts h
  simp only [wordsO, List.mem_cons, List.not_mem_nil, or_false] at hp
  rcases hp with rfl | rfl | rfl | rfl
  · simp [idO]
  · simp [idO]
  · intro e; have := congrArg List.length e; rw [octO, digL_length] at this; simp at this
  · exact right_ne h1
theorem lineO_not {x : Ov} (h : rightO x = true) : (10 : UInt8) ∉ lineO x := by
  unfold lineO
  have hn := wordsO_not h (c := 10) (by decide)
  have e : lineO x = idO x.2.2.1 ++ 32 :: (idO x.2.2.2 ++ 32 :: (octO x.2.1 ++ 32 :: x.1)) := rfl
  unfold lineO at e
  rw [e]
  simp only [List.mem_append, List.mem_cons, not_or]
  exact ⟨hn _ (by simp [wordsO]), by decide, hn _ (by simp [wordsO]), by decide, hn _ (by simp [wordsO]), by decide, hn _ (by simp [wordsO])⟩
theorem spl_lineO {x : Ov} (h : rightO x = true) : spl 32 (lineO x) = wordsO x := by
  have hn := wordsO_not h (c := 32) (by decide)
  have e : lineO x = idO x.2.2.1 ++ 32 :: (idO x.2.2.2 ++ 32 :: (octO x.2.1 ++ 32 :: x.1)) := rfl
  rw [e, spl_at _ _ _ (hn _ (by simp [wordsO])), spl_at _ _ _ (hn _ (by simp [wordsO])), spl_at _ _ _ (hn _ (by simp [wordsO])), spl_no _ _ (hn _ (by simp [wordsO]))]; rfl
theorem words_lineO {x : Ov} (h : rightO x = true) : wordsL (lineO x) = wordsO x := by
  unfold wordsL
  rw [spl_lineO h]
  exact List.filter_eq_self.2 (fun p hp => by have := wordsO_ne h p hp; cases p <;> simp_all)
-- What is read of a line
def intO (s : Bs) : Int := (numI s).getD 0
def modeO (s : Bs) : Int := match numOf 8 4 s with
  | some n => (n : Int)
  | none => 0
def readO (s : Bs) : Option Ov := match spl 32 s with
  | [a, b, c, d] => some (d, modeO c, intO a.tail, intO b.tail)
  | _ => none
theorem intO_id {n : Int} (h : 0 ≤ n) (h2 : n ≤ 67108863) : numI (idO n).tail = some n := numI_itoa n (by omega) (by omega)
theorem modeO_oct {m : Int} (h : 0 ≤ m) (h2 : m ≤ 4095) : numOf 8 4 (octO m) = some m.toNat := by
  have e : nat64 m % 4096 = m.toNat := by unfold nat64; omega
  unfold octO
  rw [e]
  exact numOf_digL 8 4 m.toNat (by omega) (by omega) (by have : (8 : Nat) ^ 4 = 4096 := by decide
                                                         omega)
theorem readO_line {x : Ov} (h : rightO x = true) : readO (lineO x) = some x := by
  obtain ⟨h1, h2, h3, h4⟩ := rightO_parts h
  unfold readO
  rw [spl_lineO h]
  obtain ⟨p, m, u, g⟩ := x
  simp only [wordsO, modeO, intO, intO_id h3.1 h3.2, intO_id h4.1 h4.2, modeO_oct h2.1 h2.2, Option.getD_some]
  rw [Int.toNat_of_nonneg h2.1]
def readsO : List Bs → Option (List Ov)
  | [] => some []
  | s :: l => match readO s, readsO l with
    | some x, some xs => some (x :: xs)
    | _, _ => none
theorem readsO_lines {l : List Ov} (h : ∀ x ∈ l, rightO x = true) : readsO (l.map lineO) = some l := by
  induction l with
  | nil => rfl
  | cons x l ih => rw [List.map_cons, readsO, readO_line (h x (by simp)), ih (fun y hy => h y (by simp [hy]))]
open Classical in
noncomputable def parseO (s : Bs) : Option (List Ov) := (linesO s).bind fun ls => (readsO ls).bind fun l => if printO l = (s, 0) then some l else none
theorem lines_textO {l : List Ov} (h : ∀ x ∈ l, rightO x = true) : linesO (textO l) = some (l.map lineO) :=
  lines_ended _ (fun p hp => by
    obtain ⟨x, hx, rfl⟩ := List.mem_map.1 hp
    exact lineO_not (h x hx))
theorem parse_textO {l : List Ov} (h : chkO l = 0) : parseO (textO l) = some l := by
  have hr := (chkO_zero h).2.right
  unfold parseO
  rw [lines_textO hr, Option.bind_some, readsO_lines hr, Option.bind_some, if_pos (printO_ok h)]
theorem text_parseO {s : Bs} {l : List Ov} (h : parseO s = some l) : printO l = (s, 0) ∧ chkO l = 0 ∧ textO l = s := by
  unfold parseO at h
  cases hl : linesO s with
  | none => rw [hl] at h; cases h
  | some ls =>
    rw [hl, Option.bind_some] at h
    cases hr : readsO ls with
    | none => rw [hr] at h; cases h
    | some m =>
      rw [hr, Option.bind_some] at h
      split at h
      · rename_i g; cases h; exact ⟨g, printO_is g⟩
      · cases h
theorem parseO_lines {s : Bs} {l : List Ov} (h : parseO s = some l) : linesO s = some (l.map lineO) ∧ (∀ x ∈ l, rightO x = true) ∧ readsO (l.map lineO) = some l := by
  obtain ⟨_, h2, h3⟩ := text_parseO h
  have hr := (chkO_zero h2).2.right
  rw [← h3]
  exact ⟨lines_textO hr, hr, readsO_lines hr⟩
/-- The program's reading: any error ends it. -/
def markO (s : Bs) : Option Int := if s.head? = some 35 then numI s.tail else none
def rdO (s : Bs) : Option Ov := match wordsL s with
  | [a, b, c, d] => match markO a, markO b, numOf 8 4 c with
    | some u, some g, some m => some (d, (m : Int), u, g)
    | _, _, _ => none
  | _ => none
theorem rdO_line {x : Ov} (h : rightO x = true) : rdO (lineO x) = some x := by
  obtain ⟨h1, h2, h3, h4⟩ := rightO_parts h
  have e1 : markO (idO x.2.2.1) = some x.2.2.1 := by unfold markO; rw [if_pos (show (idO x.2.2.1).head? = some 35 from rfl)]; exact intO_id h3.1 h3.2
  have e2 : markO (idO x.2.2.2) = some x.2.2.2 := by unfold markO; rw [if_pos (show (idO x.2.2.2).head? = some 35 from rfl)]; exact intO_id h4.1 h4.2
  have e3 := modeO_oct h2.1 h2.2
  unfold rdO
  rw [words_lineO h]
  obtain ⟨p, m, u, g⟩ := x
  simp only [wordsO] at e1 e2 e3 ⊢
  simp only [e1, e2, e3]
  rw [Int.toNat_of_nonneg h2.1]
def rdsO : List Bs → Option (List Ov)
  | [] => some []
  | s :: l => match rdO s, rdsO l with
    | some x, some xs => some (x :: xs)
    | _, _ => none
theorem rdsO_lines {l : List Ov} (h : ∀ x ∈ l, rightO x = true) : rdsO (l.map lineO) = some l := by
  induction l with
  | nil => rfl
  | cons x l ih => rw [List.map_cons, rdsO, rdO_line (h x (by simp)), ih (fun y hy => h y (by simp [hy]))]
open Classical in
/-- What the program parses is what the reference parses. -/
theorem parseO_prog (s : Bs) : parseO s = (linesO s).bind fun ls => (rdsO ls).bind fun l => if printO l = (s, 0) then some l else none := by
  cases hp : parseO s with
  | some l =>
    obtain ⟨h1, h2, h3⟩ := parseO_lines hp
    rw [h1, Option.bind_some, rdsO_lines h2, Option.bind_some, if_pos (text_parseO hp).1]
  | none =>
    cases hl : linesO s with
    | none => rfl
    | some ls =>
      rw [Option.bind_some]
      cases hr : rdsO ls with
      | none => rfl
      | some l =>
        rw [Option.bind_some, if_neg]
        intro g
        obtain ⟨h2, h3⟩ := printO_is g
        rw [← h3, parse_textO h2] at hp; cases hp
end Go.Proofs.YtmjfbpiodamamaaGreatDoor
