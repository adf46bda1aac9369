import Derived.Test.YtkbkaeefdhkgdaaGreatDoorGPSel
namespace Go.Proofs.YtkbkaeefdhkgdaaGreatDoor
open Go.Lib
-- Cut at a byte
def spl (c : UInt8) : Bs → List Bs
 | [] => [[]]
 | x :: s => if x = c then [] :: spl c s else match spl c s with
  | [] => [[x]]
  | p :: ps => (x :: p) :: ps
def glue (u : Bs) : List Bs → List Bs
 | [] => [u]
 | p :: ps => (u ++ p) :: ps
theorem spl_ne (c : UInt8) (s : Bs) : spl c s ≠ [] := by
 cases s with
 | nil => simp [spl]
 | cons x s =>
  unfold spl; split
  ·
   simp
  ·
   split <;> simp
theorem spl_cons (c x : UInt8) (s : Bs) : spl c (x :: s) = if x = c then [] :: spl c s else glue [x] (spl c s) := by
 rw [spl]; split
 ·
  rfl
 ·
  cases spl c s <;> rfl
theorem glue_glue (u v : Bs) (l : List Bs) : glue u (glue v l) = glue (u ++ v) l := by cases l <;> simp [glue]
theorem glue_nil {l : List Bs} (h : l ≠ []) : glue [] l = l := by cases l <;> simp_all [glue]
theorem spl_run (c : UInt8) (u s : Bs) (h : c ∉ u) : spl c (u ++ s) = glue u (spl c s) := by
 induction u with
 | nil => rw [List.nil_append, glue_nil (spl_ne _ _)]
 | cons x u ih =>
  simp only [List.mem_cons, not_or] at h
  rw [List.cons_append, spl_cons, if_neg (fun e => h.1 e.symm), ih h.2, glue_glue]; rfl
theorem spl_no (c : UInt8) (u : Bs) (h : c ∉ u) : spl c u = [u] := by
 have := spl_run c u [] h
 simpa [spl, glue] using this
theorem spl_at (c : UInt8) (u s : Bs) (h : c ∉ u) : spl c (u ++ c :: s) = u :: spl c s := by
 rw [spl_run c u _ h, spl_cons, if_pos rfl]; simp [glue]
theorem spl_step (c : UInt8) (s : ByteArray) (k : Nat) (h : k < s.size) : spl c (s.data.toList.drop k) = if s[k] = c then [] :: spl c (s.data.toList.drop (k + 1)) else glue [s[k]] (spl c (s.data.toList.drop (k + 1))) := by
 have hl : k < s.data.toList.length := by rw [← Lib.size_eq]; exact h
 rw [List.drop_eq_getElem_cons hl, spl_cons]; rfl
def joinC (c : UInt8) : List Bs → Bs
 | [] => []
 | [p] => p
 | p :: q :: ps => p ++ c :: joinC c (q :: ps)
theorem joinC_cons (c : UInt8) (p : Bs) {l : List Bs} (h : l ≠ []) : joinC c (p :: l) = p ++ c :: joinC c l := by cases l <;> simp_all [joinC]
theorem joinC_glue (c : UInt8) (u : Bs) (l : List Bs) : joinC c (glue u l) = u ++ joinC c l := by
 match l with
 | [] => simp [glue, joinC]
 | [p] => simp [glue, joinC]
 | p :: q :: ps => simp [glue, joinC]
theorem joinC_spl (c : UInt8) (s : Bs) : joinC c (spl c s) = s := by
 induction s with
 | nil => rfl
 | cons x s ih =>
  rw [spl_cons]; split
  ·
   rename_i h; subst h; rw [joinC_cons _ _ (spl_ne _ _), ih]; rfl
  ·
   rw [joinC_glue, ih]; rfl
theorem glue_mem {u : Bs} {l : List Bs} {p : Bs} (h : p ∈ glue u l) : p = u ∨ (∃ q ∈ l, p = u ++ q) ∨ p ∈ l := by
 cases l with
 | nil => left; simpa [glue] using h
 | cons q l =>
  rcases List.mem_cons.1 h with h | h
  ·
   right; left; exact ⟨q, List.mem_cons_self, h⟩
  ·
   right; right; exact List.mem_cons_of_mem _ h
theorem spl_clean (c : UInt8) (s : Bs) : ∀ p ∈ spl c s, c ∉ p ∧ ∀ x ∈ p, x ∈ s := by
 induction s with
 | nil => intro p hp; simp [spl] at hp; subst hp; simp
 | cons x s ih =>
  intro p hp
  rw [spl_cons] at hp
  split at hp
  ·
   rcases List.mem_cons.1 hp with rfl | hp
   ·
    simp
   ·
    exact ⟨(ih p hp).1, fun y hy => List.mem_cons_of_mem _ ((ih p hp).2 y hy)⟩
  ·
   rename_i hx
   rcases glue_mem hp with rfl | ⟨q, hq, rfl⟩ | hp
   ·
    simp [Ne.symm hx]
   ·
    constructor
    ·
     simp [Ne.symm hx, (ih q hq).1]
    ·
     intro y hy
     rcases List.mem_append.1 hy with hy | hy
     ·
      simp at hy; simp [hy]
     ·
      exact List.mem_cons_of_mem _ ((ih q hq).2 y hy)
   ·
    exact ⟨(ih p hp).1, fun y hy => List.mem_cons_of_mem _ ((ih p hp).2 y hy)⟩
theorem spl_joinC (c : UInt8) : ∀ (l : List Bs), l ≠ [] → (∀ p ∈ l, c ∉ p) → spl c (joinC c l) = l
 | [], h, _ => absurd rfl h
 | [p], _, h => spl_no c p (h p (by simp))
 | p :: q :: ps, _, h => by
  rw [joinC, spl_at c p _ (h p (by simp)), spl_joinC c (q :: ps) (by simp) (fun x hx => h x (List.mem_cons_of_mem _ hx))]
theorem spl_len (c : UInt8) (s : Bs) : (spl c s).length ≤ s.length + 1 := by
 induction s with
 | nil => simp [spl]
 | cons x s ih =>
  rw [spl_cons]; split
  ·
   simp; omega
  ·
   have e : (glue [x] (spl c s)).length = (spl c s).length := by
    have := spl_ne c s
    cases h : spl c s with
    | nil => exact absurd h this
    | cons _ _ => simp [glue]
   rw [e]; simp; omega
theorem glue_len {u : Bs} {l : List Bs} {N : Nat} (h : ∀ p ∈ l, p.length ≤ N) : ∀ p ∈ glue u l, p.length ≤ u.length + N := fun p hp => by
 rcases glue_mem hp with rfl | ⟨q, hq, rfl⟩ | hp
 ·
  omega
 ·
  have := h q hq; rw [List.length_append]; omega
 ·
  have := h p hp; omega
theorem spl_piece (c : UInt8) (s : Bs) : ∀ p ∈ spl c s, p.length ≤ s.length := by
 induction s with
 | nil => intro p hp; simp [spl] at hp; subst hp; simp
 | cons x s ih =>
  intro p hp
  rw [spl_cons] at hp
  split at hp
  ·
   rcases List.mem_cons.1 hp with rfl | hp
   ·
    simp
   ·
    have := ih p hp; rw [List.length_cons]; omega
  ·
   have := glue_len ih p hp; rw [List.length_cons]; simp at this; omega
-- Lines
def ended10 (l : List Bs) : Bs := l.flatMap fun p => p ++ [10]
theorem spl_ended (l : List Bs) (h : ∀ p ∈ l, (10 : UInt8) ∉ p) : spl 10 (ended10 l) = l ++ [[]] := by
 induction l with
 | nil => rfl
 | cons p l ih =>
  have e : ended10 (p :: l) = p ++ 10 :: ended10 l := by simp [ended10]
  rw [e, spl_at _ _ _ (h p (by simp)), ih (fun q hq => h q (List.mem_cons_of_mem _ hq))]; rfl
def linesO (s : Bs) : Option (List Bs) := if (spl 10 s).getLast? = some [] then some (spl 10 s).dropLast else none
theorem lines_ended (l : List Bs) (h : ∀ p ∈ l, (10 : UInt8) ∉ p) : linesO (ended10 l) = some l := by unfold linesO; rw [spl_ended l h]; simp
def wordsL (s : Bs) : List Bs := (spl 32 s).filter (· ≠ [])
-- Fields
abbrev Fld := Bs × Bs
def upB (c : UInt8) : Bool := decide (65 ≤ c.toNat) && decide (c.toNat ≤ 90)
def nmB (c : UInt8) : Bool := ltB c || dgB c || decide (c.toNat = 45)
def txB (c : UInt8) : Bool := decide (c.toNat = 10) || decide (32 ≤ c.toNat) && decide (c.toNat ≤ 126)
def headUp : Bs → Bool
 | [] => false
 | c :: _ => upB c
def endB (p : Bs) : Bool := !decide (p.getLast? = some 32)
def linesB : List Bs → Bool
 | [] => true
 | p :: ps => !decide (p.head? = some 32) && endB p && ps.all fun q => endB q && decide (q ≠ [])
def fieldB (f : Fld) : Bool := decide (1 ≤ f.1.length) && decide (f.1.length ≤ 60) && decide (f.2.length ≤ 65536) && headUp f.1 && f.1.all nmB && f.2.all txB && linesB (spl 10 f.2)
def lowC (c : UInt8) : UInt8 := if upB c = true then c + 32 else c
def lower (s : Bs) : Bs := s.map lowC
def stB : List Bs → List Fld → Bool
 | _, [] => true
 | seen, f :: fs => !decide (lower f.1 ∈ seen) && fieldB f && stB (seen ++ [lower f.1]) fs
def stanzaB (st : List Fld) : Bool := decide (st ≠ []) && stB [] st
-- Printed
def tailLine (p : Bs) : Bs := 32 :: (p ++ [10])
def headLine (p : Bs) : Bs := (if p ≠ [] then 32 :: p else p) ++ [10]
def printT : List Bs → Bs
 | [] => []
 | p :: ps => headLine p ++ ps.flatMap tailLine
def printF (f : Fld) : Bs := f.1 ++ 58 :: printT (spl 10 f.2)
def printS (st : List Fld) : Bs := st.flatMap printF
def printSs : List (List Fld) → Bs
 | [] => []
 | [st] => printS st
 | st :: st' :: l => printS st ++ 10 :: printSs (st' :: l)
def printE (l : List (List Fld)) : Bs × Int :=
 if 64 < l.length ∨ l.any (fun st => decide (64 < st.length)) = true then ([], 22) else if l.all stanzaB = true then (printSs l, 0) else ([], 1)
-- Parsed
def headF (s : Bs) : Option Fld :=
 if colonAt s < s.length then some (s.take (colonAt s), if (s.drop (colonAt s + 1)).head? = some 32 then (s.drop (colonAt s + 1)).tail else s.drop (colonAt s + 1)) else none
def addLine (at' : List Fld) (p : Bs) : List Fld := at'.dropLast ++ (at'.getLast?.map fun f => (f.1, f.2 ++ 10 :: p)).toList
def pstep (st : Option (List (List Fld) × List Fld)) (p : Bs) : Option (List (List Fld) × List Fld) :=
 match st with
 | none => none
 | some (out, at') =>
  if p = [] then some (out ++ [at'], [])
  else if p.head? = some 32 ∧ at' ≠ [] then some (out, addLine at' p.tail)
  else match headF p with
   | none => none
   | some f => some (out, at' ++ [f])
def parseL (ls : List Bs) : Option (List (List Fld)) :=
 match ls.foldl pstep (some ([], [])) with
 | none => none
 | some (out, at') => some (if ls = [] then out else out ++ [at'])
def parseS (s : Bs) : Option (List (List Fld)) :=
 match linesO s with
 | none => none
 | some ls => match parseL ls with
  | none => none
  | some l => if printE l = (s, 0) then some l else none
theorem parse_print {s : Bs} {l : List (List Fld)} (h : parseS s = some l) : printE l = (s, 0) := by
 unfold parseS at h
 split at h
 ·
  cases h
 ·
  split at h
  ·
   cases h
  ·
   split at h
   ·
    cases h; assumption
   ·
    cases h
-- What is printed is parsed as it was
def headLine' (p : Bs) : Bs := if p ≠ [] then 32 :: p else p
def linesF (f : Fld) : List Bs := match spl 10 f.2 with
 | [] => []
 | p :: ps => (f.1 ++ 58 :: headLine' p) :: ps.map fun q => 32 :: q
theorem printF_lines (f : Fld) : printF f = ended10 (linesF f) := by
 unfold printF linesF
 cases h : spl 10 f.2 with
 | nil => exact absurd h (spl_ne _ _)
 | cons p ps =>
  simp only [printT, ended10, List.flatMap_cons, List.flatMap_map]
  have : headLine p = headLine' p ++ [10] := rfl
  rw [this]
  simp only [List.append_assoc, List.cons_append, List.nil_append]
  congr 3
def linesS (st : List Fld) : List Bs := st.flatMap linesF
theorem printS_lines (st : List Fld) : printS st = ended10 (linesS st) := by
 unfold printS linesS ended10
 rw [List.flatMap_assoc]
 congr 1; funext f; exact printF_lines f
def linesSs : List (List Fld) → List Bs
 | [] => []
 | [st] => linesS st
 | st :: st' :: l => linesS st ++ [] :: linesSs (st' :: l)
theorem ended10_append (a b : List Bs) : ended10 (a ++ b) = ended10 a ++ ended10 b := by simp [ended10]
theorem printSs_lines : ∀ l : List (List Fld), printSs l = ended10 (linesSs l)
 | [] => rfl
 | [st] => printS_lines st
 | st :: st' :: l => by
  rw [printSs, linesSs, ended10_append, printS_lines, printSs_lines (st' :: l)]
  rfl
structure FldOk (f : Fld) : Prop where
 ne : f.1 ≠ []
 up : headUp f.1 = true
 nm : f.1.all nmB = true
 tx : f.2.all txB = true
 ls : linesB (spl 10 f.2) = true
theorem field_ok {f : Fld} (h : fieldB f = true) : FldOk f := by
 unfold fieldB at h
 simp only [Bool.and_eq_true, decide_eq_true_eq] at h
 obtain ⟨⟨⟨⟨⟨⟨h1, h2⟩, h3⟩, h4⟩, h5⟩, h6⟩, h7⟩ := h
 exact ⟨by intro e; rw [e] at h1; simp at h1, h4, h5, h6, h7⟩
theorem nm_not {f : Fld} (h : FldOk f) {c : UInt8} (hc : nmB c = false) : c ∉ f.1 := fun hm => by
 have := List.all_eq_true.1 h.nm c hm; rw [hc] at this; cases this
theorem head_not {f : Fld} (h : FldOk f) (r : Bs) : (f.1 ++ r).head? ≠ some 32 ∧ f.1 ++ r ≠ [] := by
 have := h.up
 cases hf : f.1 with
 | nil => exact absurd hf h.ne
 | cons c t =>
  rw [hf] at this
  constructor
  ·
   simp only [List.cons_append, List.head?_cons, ne_eq, Option.some.injEq]
   rintro rfl; simp [headUp, upB] at this
  ·
   simp
theorem headF_line {f : Fld} (h : FldOk f) (p : Bs) (hp : p.head? ≠ some 32) : headF (f.1 ++ 58 :: headLine' p) = some (f.1, p) := by
 have h58 : (58 : UInt8) ∉ f.1 := nm_not h (by decide)
 have hd : List.drop (f.1.length + 1) (f.1 ++ 58 :: headLine' p) = headLine' p := by
  have : f.1 ++ 58 :: headLine' p = (f.1 ++ [58]) ++ headLine' p := by simp
  rw [this]; exact List.drop_left' (by simp)
 unfold headF
 rw [colonAt_at _ _ h58, if_pos (by simp), hd, List.take_left' rfl]
 unfold headLine'
 by_cases e : p = []
 ·
  subst e; simp
 ·
  rw [if_pos e]; simp
theorem fold_tail (ps : List Bs) (hps : ∀ q ∈ ps, q ≠ []) : ∀ (out : List (List Fld)) (at' : List Fld) (n t : Bs), (ps.map fun q => (32 : UInt8) :: q).foldl pstep (some (out, at' ++ [(n, t)])) = some (out, at' ++ [(n, t ++ ps.flatMap fun q => 10 :: q)]) := by
 induction ps with
 | nil => intro out at' n t; simp
 | cons q ps ih =>
  intro out at' n t
  rw [List.map_cons, List.foldl_cons]
  have : pstep (some (out, at' ++ [(n, t)])) (32 :: q) = some (out, at' ++ [(n, t ++ 10 :: q)]) := by
   simp [pstep, addLine]
  rw [this, ih (fun x hx => hps x (List.mem_cons_of_mem _ hx))]
  simp
theorem joinC_flat (p : Bs) (ps : List Bs) : joinC 10 (p :: ps) = p ++ ps.flatMap fun q => 10 :: q := by
 induction ps generalizing p with
 | nil => simp [joinC]
 | cons q ps ih => rw [joinC, ih]; simp
theorem fold_field {f : Fld} (h : FldOk f) (out : List (List Fld)) (at' : List Fld) : (linesF f).foldl pstep (some (out, at')) = some (out, at' ++ [f]) := by
 have hl := h.ls
 have hj := joinC_spl 10 f.2
 unfold linesF
 cases hs : spl 10 f.2 with
 | nil => exact absurd hs (spl_ne _ _)
 | cons p ps =>
  rw [hs] at hl hj
  simp only [linesB, Bool.and_eq_true, Bool.not_eq_true', decide_eq_false_iff_not, List.all_eq_true, decide_eq_true_eq] at hl
  obtain ⟨⟨h1, h2⟩, h3⟩ := hl
  obtain ⟨g1, g2⟩ := head_not h (58 :: headLine' p)
  simp only [List.foldl_cons]
  have : pstep (some (out, at')) (f.1 ++ 58 :: headLine' p) = some (out, at' ++ [(f.1, p)]) := by
   unfold pstep
   simp only []
   rw [if_neg g2, if_neg (fun g => g1 g.1), headF_line h p h1]
  rw [this, fold_tail ps (fun q hq => (h3 q hq).2), ← joinC_flat, hj]
theorem fold_stanza (st : List Fld) (h : ∀ f ∈ st, FldOk f) : ∀ (out : List (List Fld)) (at' : List Fld), (linesS st).foldl pstep (some (out, at')) = some (out, at' ++ st) := by
 induction st with
 | nil => intro out at'; simp [linesS]
 | cons f st ih =>
  intro out at'
  have e : linesS (f :: st) = linesF f ++ linesS st := by simp [linesS]
  rw [e, List.foldl_append, fold_field (h f (by simp)), ih (fun g hg => h g (List.mem_cons_of_mem _ hg))]
  simp
theorem fold_stanzas : ∀ (l : List (List Fld)), l ≠ [] → (∀ st ∈ l, ∀ f ∈ st, FldOk f) → ∀ out, ∃ a b, (linesSs l).foldl pstep (some (out, [])) = some (a, b) ∧ a ++ [b] = out ++ l
 | [], h, _, _ => absurd rfl h
 | [st], _, h, out => ⟨out, st, by rw [linesSs, fold_stanza st (h st (by simp))]; simp, rfl⟩
 | st :: st' :: l, _, h, out => by
  rw [linesSs, List.foldl_append, fold_stanza st (h st (by simp)), List.foldl_cons]
  have : pstep (some (out, [] ++ st)) [] = some (out ++ [st], []) := by simp [pstep]
  rw [this]
  obtain ⟨a, b, h1, h2⟩ := fold_stanzas (st' :: l) (by simp) (fun s hs => h s (List.mem_cons_of_mem _ hs)) (out ++ [st])
  exact ⟨a, b, h1, by rw [h2]; simp⟩
theorem stB_ok : ∀ (st : List Fld) (seen : List Bs), stB seen st = true → ∀ f ∈ st, FldOk f
 | [], _, _, f, hf => by cases hf
 | g :: st, seen, h, f, hf => by
  simp only [stB, Bool.and_eq_true] at h
  rcases List.mem_cons.1 hf with rfl | hf
  ·
   exact field_ok h.1.2
  ·
   exact stB_ok st _ h.2 f hf
theorem linesF_ne {f : Fld} (h : FldOk f) : linesF f ≠ [] ∧ ∀ p ∈ linesF f, (10 : UInt8) ∉ p := by
 unfold linesF
 have hc := spl_clean 10 f.2
 cases hs : spl 10 f.2 with
 | nil => exact absurd hs (spl_ne _ _)
 | cons p ps =>
  refine ⟨by simp, fun q hq => ?_⟩
  rw [hs] at hc
  rcases List.mem_cons.1 hq with rfl | hq
  ·
   have h1 : (10 : UInt8) ∉ f.1 := nm_not h (by decide)
   have h2 := (hc p (by simp)).1
   have h3 : (10 : UInt8) ∉ headLine' p := by
    unfold headLine'; split
    ·
     simp [h2]
    ·
     exact h2
   simp [h1, h3]
  ·
   obtain ⟨r, hr, rfl⟩ := List.mem_map.1 hq
   simp [(hc r (List.mem_cons_of_mem _ hr)).1]
theorem linesS_clean {st : List Fld} (h : ∀ f ∈ st, FldOk f) : ∀ p ∈ linesS st, (10 : UInt8) ∉ p := fun p hp => by
 obtain ⟨f, hf, hp⟩ := List.mem_flatMap.1 hp
 exact (linesF_ne (h f hf)).2 p hp
theorem linesSs_clean : ∀ {l : List (List Fld)}, (∀ st ∈ l, ∀ f ∈ st, FldOk f) → ∀ p ∈ linesSs l, (10 : UInt8) ∉ p
 | [], _, p, hp => by cases hp
 | [st], h, p, hp => linesS_clean (h st (by simp)) p hp
 | st :: st' :: l, h, p, hp => by
  rw [linesSs] at hp
  rcases List.mem_append.1 hp with hp | hp
  ·
   exact linesS_clean (h st (by simp)) p hp
  ·
   rcases List.mem_cons.1 hp with rfl | hp
   ·
    simp
   ·
    exact linesSs_clean (fun s hs => h s (List.mem_cons_of_mem _ hs)) p hp
theorem linesSs_ne {l : List (List Fld)} (hl : l ≠ []) (h : ∀ st ∈ l, st ≠ [] ∧ ∀ f ∈ st, FldOk f) : linesSs l ≠ [] := by
 match l, hl, h with
 | [st], _, h =>
  obtain ⟨h1, h2⟩ := h st (by simp)
  cases st with
  | nil => exact absurd rfl h1
  | cons f st =>
   have := (linesF_ne (h2 f (by simp))).1
   simp [linesSs, linesS, this]
 | st :: st' :: l, _, _ => simp [linesSs]
theorem print_ok {l : List (List Fld)} {s : Bs} (h : printE l = (s, 0)) : s = printSs l ∧ ∀ st ∈ l, st ≠ [] ∧ ∀ f ∈ st, FldOk f := by
 unfold printE at h
 split at h
 ·
  simp at h
 ·
  split at h
  ·
   rename_i g
   simp only [Prod.mk.injEq, and_true] at h
   refine ⟨h.symm, fun st hst => ?_⟩
   have := List.all_eq_true.1 g st hst
   simp only [stanzaB, Bool.and_eq_true, decide_eq_true_eq] at this
   exact ⟨this.1, stB_ok st _ this.2⟩
  ·
   simp at h
theorem print_parse {l : List (List Fld)} {s : Bs} (h : printE l = (s, 0)) : parseS s = some l := by
 obtain ⟨rfl, hok⟩ := print_ok h
 have hok' : ∀ st ∈ l, ∀ f ∈ st, FldOk f := fun st hst => (hok st hst).2
 unfold parseS
 have e1 : linesO (printSs l) = some (linesSs l) := by rw [printSs_lines]; exact lines_ended _ (linesSs_clean hok')
 have e2 : parseL (linesSs l) = some l := by
  unfold parseL
  by_cases hl : l = []
  ·
   subst hl; rfl
  ·
   obtain ⟨a, b, h1, h2⟩ := fold_stanzas l hl hok' []
   rw [h1]
   simp only []
   rw [if_neg (linesSs_ne hl hok), h2]; rfl
 rw [e1]; simp only []; rw [e2]; simp only []; rw [if_pos h]
end Go.Proofs.YtkbkaeefdhkgdaaGreatDoor
