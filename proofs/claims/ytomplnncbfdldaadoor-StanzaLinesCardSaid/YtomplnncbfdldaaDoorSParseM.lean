/-
  Parsing stanzas: how large what is read may be; step by step; nothing of the program.
-/
import Derived.Test.YtomplnncbfdldaaDoorSOwn
namespace Go.Proofs.YtomplnncbfdldaaDoor
open Go.RowKit
abbrev lenS (l : List Bs) : Nat := (l.map fun p => p.length + 1).sum
theorem glue_lenS (u : Bs) (l : List Bs) (h : l ≠ []) : lenS (glue u l) = u.length + lenS l := by
  cases l with
  | nil => exact absurd rfl h
  | cons p l => simp [glue, lenS]; omega
theorem spl_sum (c : UInt8) (s : Bs) : lenS (spl c s) = s.length + 1 := by
  induction s with
  | nil => simp [spl, lenS]
  | cons x s ih =>
    rw [spl_cons]; split
    · simp only [lenS, List.map_cons, List.sum_cons, List.length_nil, List.length_cons] at ih ⊢; omega
    · rw [glue_lenS _ _ (spl_ne _ _), ih]; simp; omega
theorem drop_sum (l : List Bs) : lenS l.dropLast ≤ lenS l := by
  rcases List.eq_nil_or_concat l with rfl | ⟨a, b, rfl⟩
  · simp
  · simp [lenS]
abbrev wF (f : Fld) : Nat := f.1.length + 3 * f.2.length + 3
abbrev wFs (st : List Fld) : Nat := (st.map wF).sum
abbrev wS (l : List (List Fld)) : Nat := (l.map fun st => wFs st + 1).sum
theorem headF_len {p : Bs} {f : Fld} (h : headF p = some f) : f.1.length + f.2.length + 1 ≤ p.length := by
  unfold headF at h
  split at h
  · rename_i hc
    simp only [Option.some.injEq] at h
    subst h
    simp only [List.length_take]
    have h2 : (p.drop (colonAt p + 1)).length = p.length - (colonAt p + 1) := List.length_drop
    split
    · rw [List.length_tail]; omega
    · omega
  · cases h
theorem last_cases (at' : List Fld) (h : at' ≠ []) : ∃ st f, at' = st ++ [f] := by
  rcases List.eq_nil_or_concat at' with rfl | ⟨a, b, rfl⟩
  · exact absurd rfl h
  · exact ⟨a, b, by simp⟩
theorem addLine_last (st : List Fld) (f : Fld) (p : Bs) : addLine (st ++ [f]) p = st ++ [(f.1, f.2 ++ 10 :: p)] := by simp [addLine]
theorem step_len {out out' : List (List Fld)} {at' at'' : List Fld} {p : Bs} (h : pstep (some (out, at')) p = some (out', at'')) : wS out' + wFs at'' ≤ wS out + wFs at' + (3 * p.length + 4) := by
  unfold pstep at h
  simp only [] at h
  split at h
  · simp only [Option.some.injEq, Prod.mk.injEq] at h
    obtain ⟨rfl, rfl⟩ := h
    simp [wS, wFs]; omega
  · split at h
    · rename_i h0 hc
      obtain ⟨st, f, rfl⟩ := last_cases at' hc.2
      rw [addLine_last] at h
      simp only [Option.some.injEq, Prod.mk.injEq] at h
      obtain ⟨rfl, rfl⟩ := h
      have : p.tail.length = p.length - 1 := List.length_tail
      have h1 : 0 < p.length := List.length_pos_iff.2 h0
      simp [wFs, wF] at *; omega
    · split at h
      · cases h
      · rename_i f hf
        simp only [Option.some.injEq, Prod.mk.injEq] at h
        obtain ⟨rfl, rfl⟩ := h
        have := headF_len hf
        simp [wFs, wF]; omega
theorem fold_none (ls : List Bs) : ls.foldl pstep none = none := by
  induction ls with
  | nil => rfl
  | cons p ls ih => rw [List.foldl_cons]; exact ih
theorem fold_len (ls : List Bs) : ∀ {out out' : List (List Fld)} {at' at'' : List Fld}, ls.foldl pstep (some (out, at')) = some (out', at'') → wS out' + wFs at'' ≤ wS out + wFs at' + 4 * lenS ls := by
  induction ls with
  | nil =>
    intro out out' at' at'' h
    simp only [List.foldl_nil, Option.some.injEq, Prod.mk.injEq] at h
    obtain ⟨rfl, rfl⟩ := h
    omega
  | cons p ls ih =>
    intro out out' at' at'' h
    rw [List.foldl_cons] at h
    cases hp : pstep (some (out, at')) p with
    | none => rw [hp, fold_none] at h; cases h
    | some x =>
      obtain ⟨o1, a1⟩ := x
      rw [hp] at h
      have h1 := ih h
      have h2 := step_len hp
      simp only [lenS, List.map_cons, List.sum_cons] at h1 ⊢
      omega
theorem tail_sum (ps : List Bs) : (ps.flatMap tailLine).length = lenS ps + ps.length := by
  induction ps with
  | nil => rfl
  | cons p ps ih => simp only [List.flatMap_cons, List.length_append, ih, tailLine, lenS, List.map_cons, List.sum_cons, List.length_cons, List.length_nil]; omega
theorem printT_len (ls : List Bs) : (printT ls).length ≤ lenS ls + ls.length := by
  cases ls with
  | nil => simp [printT]
  | cons p ps =>
    unfold printT headLine
    rw [List.length_append, tail_sum]
    have : (if p ≠ [] then 32 :: p else p).length ≤ p.length + 1 := by split <;> simp
    simp only [List.length_append, List.length_cons, List.length_nil, lenS, List.map_cons, List.sum_cons] at *
    omega
theorem printF_len (f : Fld) : (printF f).length ≤ wF f := by
  have h1 := printT_len (spl 10 f.2)
  have h2 := spl_sum 10 f.2
  have h3 := spl_len 10 f.2
  unfold printF
  simp only [List.length_append, List.length_cons]
  unfold wF; omega
theorem printS_len (st : List Fld) : (printS st).length ≤ wFs st := by
  unfold printS
  induction st with
  | nil => simp
  | cons f st ih =>
    have := printF_len f
    simp only [List.flatMap_cons, List.length_append, wFs, List.map_cons, List.sum_cons] at *
    omega
theorem printSs_len (l : List (List Fld)) : (printSs l).length ≤ wS l := by
  induction l with
  | nil => simp [printSs]
  | cons st l ih =>
    rw [printSs_cons]
    have := printS_len st
    split
    · simp only [List.append_nil, wS, List.map_cons, List.sum_cons]; omega
    · simp only [List.length_append, List.length_cons, wS, List.map_cons, List.sum_cons] at *; omega
theorem sum_mem {α : Type} (g : α → Nat) : ∀ (l : List α) (x : α), x ∈ l → g x ≤ (l.map g).sum
  | [], x, h => by cases h
  | y :: l, x, h => by
    simp only [List.map_cons, List.sum_cons]
    rcases List.mem_cons.1 h with rfl | h
    · omega
    · have := sum_mem g l x h; omega
theorem sum_len {α : Type} (g : α → Nat) (l : List α) (hg : ∀ x ∈ l, 1 ≤ g x) : l.length ≤ (l.map g).sum := by
  induction l with
  | nil => simp
  | cons x l ih =>
    have := hg x (by simp)
    have := ih (fun y hy => hg y (List.mem_cons_of_mem _ hy))
    simp only [List.map_cons, List.sum_cons, List.length_cons]; omega
/-- What is read is small. -/
structure Small (l : List (List Fld)) (B : Nat) : Prop where
  n : l.length ≤ B
  ns : ∀ st ∈ l, st.length ≤ B
  fs : ∀ st ∈ l, ∀ f ∈ st, f.1.length ≤ B ∧ f.2.length ≤ B
  pr : (printSs l).length ≤ B
theorem small_of {l : List (List Fld)} {B : Nat} (h : wS l ≤ B) : Small l B where
  n := Nat.le_trans (sum_len _ l (fun x _ => by omega)) h
  ns := fun st hst => by
    have h1 : wFs st + 1 ≤ wS l := sum_mem (fun st => wFs st + 1) l st hst
    have h2 : st.length ≤ wFs st := sum_len wF st (fun x _ => by unfold wF; omega)
    omega
  fs := fun st hst f hf => by
    have h1 : wFs st + 1 ≤ wS l := sum_mem (fun st => wFs st + 1) l st hst
    have h2 : wF f ≤ wFs st := sum_mem wF st f hf
    unfold wF at h2
    omega
  pr := Nat.le_trans (printSs_len l) h
theorem fold_small {s : Bs} {ls : List Bs} {out : List (List Fld)} {at' : List Fld} (hs : ls = (spl 10 s).dropLast) (h : ls.foldl pstep (some ([], [])) = some (out, at')) : wS out + wFs at' ≤ 4 * (s.length + 1) := by
  have h1 := fold_len ls h
  have h2 := drop_sum (spl 10 s)
  rw [spl_sum, ← hs] at h2
  simp only [wS, wFs, List.map_nil, List.sum_nil] at h1
  simp only [wS, wFs]
  omega
theorem take_sum : ∀ (l : List Bs) (k : Nat), lenS (l.take k) ≤ lenS l
  | [], k => by simp
  | p :: l, 0 => by simp [lenS]
  | p :: l, k + 1 => by
    have := take_sum l k
    simp only [List.take_succ_cons, lenS, List.map_cons, List.sum_cons] at *; omega
theorem fold_small' {s : Bs} {ls : List Bs} {k : Nat} {out : List (List Fld)} {at' : List Fld} (hs : ls = (spl 10 s).dropLast) (h : (ls.take k).foldl pstep (some ([], [])) = some (out, at')) : Small (out ++ [at']) (4 * (s.length + 1) + 1) := by
  refine small_of ?_
  have h1 := fold_len _ h
  have h2 := drop_sum (spl 10 s)
  have h3 := take_sum ls k
  rw [spl_sum, ← hs] at h2
  simp only [wS, wFs, List.map_nil, List.sum_nil] at h1
  simp only [wS, wFs, List.map_append, List.sum_append, List.map_cons, List.map_nil, List.sum_cons, List.sum_nil]
  omega
theorem parse_of {s : Bs} {out : List (List Fld)} {at' : List Fld} (h0 : (spl 10 s).getLast? = some []) (h : (spl 10 s).dropLast.foldl pstep (some ([], [])) = some (out, at')) (l : List (List Fld)) (hl : l = if (spl 10 s).dropLast = [] then out else out ++ [at']) : parseS s = if printE l = (s, 0) then some l else none := by
  unfold parseS linesO parseL
  rw [if_pos h0]
  simp only [h]
  rw [← hl]
theorem parse_unended {s : Bs} (h0 : ¬ (spl 10 s).getLast? = some []) : parseS s = none := by
  unfold parseS linesO
  rw [if_neg h0]
theorem parse_bad {s : Bs} {k : Nat} (h : ((spl 10 s).dropLast.take k).foldl pstep (some ([], [])) = none) : parseS s = none := by
  unfold parseS linesO
  split
  · rfl
  · rename_i ls hls
    split at hls
    · simp only [Option.some.injEq] at hls
      subst hls
      have : (spl 10 s).dropLast.foldl pstep (some ([], [])) = none := by
        rw [← List.take_append_drop k (spl 10 s).dropLast, List.foldl_append, h, fold_none]
      unfold parseL
      rw [this]
    · cases hls
theorem fold_next {ls : List Bs} {k : Nat} {p : Bs} (h : ls[k]? = some p) : (ls.take (k + 1)).foldl pstep (some ([], [])) = pstep ((ls.take k).foldl pstep (some ([], []))) p := by
  rw [List.take_add_one, h]
  simp [List.foldl_append]
theorem pstep_empty (out : List (List Fld)) (at' : List Fld) : pstep (some (out, at')) [] = some (out ++ [at'], []) := by simp [pstep]
theorem pstep_more (out : List (List Fld)) (st : List Fld) (f : Fld) (p : Bs) : pstep (some (out, st ++ [f])) (32 :: p) = some (out, st ++ [(f.1, f.2 ++ 10 :: p)]) := by
  unfold pstep; simp only []; rw [if_neg (by simp), if_pos ⟨rfl, by simp⟩, List.tail_cons, addLine_last]
theorem pstep_head {out : List (List Fld)} {at' : List Fld} {p : Bs} (h0 : p ≠ []) (h1 : ¬ (p.head? = some 32 ∧ at' ≠ [])) : pstep (some (out, at')) p = (headF p).map fun f => (out, at' ++ [f]) := by
  unfold pstep; simp only []; rw [if_neg h0, if_neg h1]
  cases headF p <;> rfl
end Go.Proofs.YtomplnncbfdldaaDoor
