/-
  Stanzas as the program reads them: groups of lines, the fields of a group; what is printed is read as it was; nothing of the program.
-/
import Derived.Test.YtomplnncbfdldaaDoorSMath
namespace Go.Proofs.YtomplnncbfdldaaDoor
open Go.Lib
def trim1 (s : Bs) : Bs := if s.head? = some 32 then s.tail else s
def hbB (q : Bs) : Bool := decide (q.head? = some 32)
def neB (q : Bs) : Bool := decide (q ≠ [])
/-- The field of its first line and of further ones. -/
def readFld (p : Bs) (more : List Bs) : Fld := (p.take (colonAt p), joinC 10 (trim1 (p.drop (colonAt p + 1)) :: more.map List.tail))
def readFldsN : Nat → List Bs → List Fld
  | _, [] => []
  | 0, _ :: _ => []
  | n + 1, p :: ps => readFld p (ps.takeWhile hbB) :: readFldsN n (ps.dropWhile hbB)
def readFlds (ls : List Bs) : List Fld := readFldsN ls.length ls
theorem dropW_le {α : Type} (p : α → Bool) (l : List α) : (l.dropWhile p).length ≤ l.length := (List.dropWhile_sublist _).length_le
theorem readFldsN_any : ∀ (n m : Nat) (ls : List Bs), ls.length ≤ n → ls.length ≤ m → readFldsN n ls = readFldsN m ls
  | n, m, [], _, _ => by cases n <;> cases m <;> rfl
  | 0, _, _ :: _, h, _ => by simp at h
  | _, 0, _ :: _, _, h => by simp at h
  | n + 1, m + 1, p :: ps, h1, h2 => by
    have := dropW_le hbB ps
    simp only [List.length_cons] at h1 h2
    rw [readFldsN, readFldsN, readFldsN_any n m _ (by omega) (by omega)]
theorem readFlds_nil : readFlds [] = [] := rfl
theorem readFlds_cons (p : Bs) (ps : List Bs) : readFlds (p :: ps) = readFld p (ps.takeWhile hbB) :: readFlds (ps.dropWhile hbB) := by
  have := dropW_le hbB ps
  unfold readFlds
  rw [List.length_cons, readFldsN, readFldsN_any _ (ps.dropWhile hbB).length _ (by omega) (Nat.le_refl _)]
def readSsN : Nat → List Bs → List (List Fld)
  | _, [] => []
  | 0, _ :: _ => []
  | n + 1, p :: ps => if (p :: ps).all neB = true then [readFlds (p :: ps)] else readFlds ((p :: ps).takeWhile neB) :: readSsN n (((p :: ps).dropWhile neB).drop 1)
def readSs (ls : List Bs) : List (List Fld) := readSsN ls.length ls
theorem dropN_lt (ls : List Bs) (h : ls ≠ []) : ((ls.dropWhile neB).drop 1).length < ls.length := by
  have := dropW_le neB ls
  have h0 := List.length_pos_iff.2 h
  rw [List.length_drop]; omega
theorem readSsN_any : ∀ (n m : Nat) (ls : List Bs), ls.length ≤ n → ls.length ≤ m → readSsN n ls = readSsN m ls
  | n, m, [], _, _ => by cases n <;> cases m <;> rfl
  | 0, _, _ :: _, h, _ => by simp at h
  | _, 0, _ :: _, _, h => by simp at h
  | n + 1, m + 1, p :: ps, h1, h2 => by
    have := dropN_lt (p :: ps) (by simp)
    rw [readSsN, readSsN, readSsN_any n m _ (by simp only [List.length_cons] at *; omega) (by simp only [List.length_cons] at *; omega)]
theorem readSs_nil : readSs [] = [] := rfl
theorem readSs_last {ls : List Bs} (h : ls ≠ []) (ha : ls.all neB = true) : readSs ls = [readFlds ls] := by
  cases ls with
  | nil => exact absurd rfl h
  | cons p ps => unfold readSs; rw [List.length_cons, readSsN, if_pos ha]
theorem readSs_cut {ls : List Bs} (ha : ls.all neB = false) : readSs ls = readFlds (ls.takeWhile neB) :: readSs ((ls.dropWhile neB).drop 1) := by
  cases ls with
  | nil => cases ha
  | cons p ps =>
    have := dropN_lt (p :: ps) (by simp)
    unfold readSs
    rw [List.length_cons, readSsN, if_neg (by rw [ha]; simp), readSsN_any _ (((p :: ps).dropWhile neB).drop 1).length _ (by simp only [List.length_cons] at *; omega) (Nat.le_refl _)]
-- What is printed is read as it was
theorem trim_head (p : Bs) : trim1 (headLine' p) = p := by
  unfold trim1 headLine'
  by_cases h : p = []
  · subst h; simp
  · rw [if_pos h]; simp
theorem tail_cons (ps : List Bs) : (ps.map fun q => (32 : UInt8) :: q).map List.tail = ps := by
  rw [List.map_map]; simp [Function.comp_def]
theorem linesS_head (st : List Fld) (h : ∀ f ∈ st, FldOk f) : (linesS st).takeWhile hbB = [] ∧ (linesS st).dropWhile hbB = linesS st := by
  cases st with
  | nil => exact ⟨rfl, rfl⟩
  | cons f st =>
    have e : linesS (f :: st) = linesF f ++ linesS st := by simp [linesS]
    have hf := h f (by simp)
    rw [e]
    unfold linesF
    cases hs : spl 10 f.2 with
    | nil => exact absurd hs (spl_ne _ _)
    | cons p ps =>
      have hh : hbB (f.1 ++ 58 :: headLine' p) = false := by unfold hbB; exact decide_eq_false (head_not hf _).1
      rw [List.cons_append, List.takeWhile_cons, List.dropWhile_cons, hh]; exact ⟨rfl, rfl⟩
theorem takeW_append {p : Bs → Bool} : ∀ {a b : List Bs}, (∀ x ∈ a, p x = true) → (a ++ b).takeWhile p = a ++ b.takeWhile p ∧ (a ++ b).dropWhile p = b.dropWhile p
  | [], b, _ => ⟨rfl, rfl⟩
  | x :: a, b, h => by
    have hx := h x (by simp)
    obtain ⟨h1, h2⟩ := takeW_append (a := a) (b := b) (fun y hy => h y (List.mem_cons_of_mem _ hy))
    rw [List.cons_append, List.takeWhile_cons, List.dropWhile_cons, if_pos hx, if_pos hx, h1, h2]; exact ⟨rfl, rfl⟩
theorem readFlds_lines : ∀ (st : List Fld), (∀ f ∈ st, FldOk f) → readFlds (linesS st) = st
  | [], _ => rfl
  | f :: st, h => by
    have e : linesS (f :: st) = linesF f ++ linesS st := by simp [linesS]
    have hf := h f (by simp)
    have hj := joinC_spl 10 f.2
    have hst := fun g hg => h g (List.mem_cons_of_mem f hg)
    rw [e]
    unfold linesF
    cases hs : spl 10 f.2 with
    | nil => exact absurd hs (spl_ne _ _)
    | cons p ps =>
      rw [hs] at hj
      obtain ⟨t1, t2⟩ := takeW_append (p := hbB) (a := ps.map fun q => (32 : UInt8) :: q) (b := linesS st) (fun x hx => by
        obtain ⟨q, _, rfl⟩ := List.mem_map.1 hx; simp [hbB])
      have h58 : (58 : UInt8) ∉ f.1 := nm_not hf (by decide)
      have hc := colonAt_at f.1 (headLine' p) h58
      have hd : List.drop (f.1.length + 1) (f.1 ++ 58 :: headLine' p) = headLine' p := by
        have : f.1 ++ 58 :: headLine' p = (f.1 ++ [58]) ++ headLine' p := by simp
        rw [this]; exact List.drop_left' (by simp)
      rw [List.cons_append, readFlds_cons, t1, t2, (linesS_head st hst).1, (linesS_head st hst).2, List.append_nil, readFlds_lines st hst]
      unfold readFld
      rw [hc, List.take_left' rfl, hd, trim_head, tail_cons, hj]
theorem linesS_ne (st : List Fld) (h : ∀ f ∈ st, FldOk f) : ∀ p ∈ linesS st, neB p = true := by
  intro p hp
  simp only [linesS, List.mem_flatMap] at hp
  obtain ⟨f, hf, hp⟩ := hp
  unfold linesF at hp
  cases hs : spl 10 f.2 with
  | nil => exact absurd hs (spl_ne _ _)
  | cons q ps =>
    rw [hs] at hp
    rcases List.mem_cons.1 hp with rfl | hp
    · unfold neB; exact decide_eq_true (head_not (h f hf) _).2
    · obtain ⟨x, _, rfl⟩ := List.mem_map.1 hp; simp [neB]
theorem linesS_some {st : List Fld} (hne : st ≠ []) (h : ∀ f ∈ st, FldOk f) : linesS st ≠ [] := by
  cases st with
  | nil => exact absurd rfl hne
  | cons f st =>
    have e : linesS (f :: st) = linesF f ++ linesS st := by simp [linesS]
    rw [e]
    have := (linesF_ne (h f (by simp))).1
    simp [this]
theorem readSs_lines : ∀ (l : List (List Fld)), (∀ st ∈ l, st ≠ [] ∧ ∀ f ∈ st, FldOk f) → readSs (linesSs l) = l
  | [], _ => rfl
  | [st], h => by
    obtain ⟨h1, h2⟩ := h st (by simp)
    rw [linesSs, readSs_last (linesS_some h1 h2) (List.all_eq_true.2 (linesS_ne st h2)), readFlds_lines st h2]
  | st :: st' :: l, h => by
    obtain ⟨h1, h2⟩ := h st (by simp)
    obtain ⟨t1, t2⟩ := takeW_append (p := neB) (a := linesS st) (b := [] :: linesSs (st' :: l)) (linesS_ne st h2)
    have hn : neB [] = false := by simp [neB]
    have ha : (linesS st ++ [] :: linesSs (st' :: l)).all neB = false := by rw [List.all_append, List.all_cons, hn]; simp
    rw [linesSs, readSs_cut ha, t1, t2, List.takeWhile_cons, List.dropWhile_cons, hn]
    simp only [Bool.false_eq_true, if_false, List.append_nil, List.drop_succ_cons, List.drop_zero]
    rw [readFlds_lines st h2, readSs_lines (st' :: l) (fun s hs => h s (List.mem_cons_of_mem _ hs))]
theorem lines_of_print {l : List (List Fld)} {s : Bs} (h : printE l = (s, 0)) : linesO s = some (linesSs l) := by
  obtain ⟨rfl, hok⟩ := print_ok h
  rw [printSs_lines]; exact lines_ended _ (linesSs_clean fun st hst => (hok st hst).2)
/-- WHAT THE PROGRAM'S PARSE COMES TO: what it reads is what was printed, or nothing is. -/
theorem parse_by_read (s : Bs) : parseS s = match linesO s with
    | none => none
    | some ls => if printE (readSs ls) = (s, 0) then some (readSs ls) else none := by
  cases hl : linesO s with
  | none => unfold parseS; rw [hl]
  | some ls =>
    simp only []
    by_cases h : printE (readSs ls) = (s, 0)
    · rw [if_pos h]; exact print_parse h
    · rw [if_neg h]
      cases hp : parseS s with
      | none => rfl
      | some l =>
        exfalso
        have hpr := parse_print hp
        have hok := (print_ok hpr).2
        have h1 := lines_of_print hpr
        rw [hl] at h1
        cases h1
        rw [readSs_lines l hok] at h
        exact h hpr
end Go.Proofs.YtomplnncbfdldaaDoor
