import Derived.Test.YtkbkaeefdhkgdaaGreatDoorPUParseA
namespace Go.Proofs.YtkbkaeefdhkgdaaGreatDoor
section
open Go.RowKit Go.Shelf Go.Lib
theorem index_noC (c : UInt8) (a : Bs) (h : c ∉ a) : index a [c] = -1 := by
 induction a with
 | nil => simp [index]
 | cons b l ih =>
  simp only [List.mem_cons, not_or] at h
  have hp : ([c] : List UInt8).isPrefixOf (b :: l) = false := by simp [List.isPrefixOf, h.1]
  rw [index, hp, ih h.2]; simp
theorem index_atC (c : UInt8) (a r : Bs) (h : c ∉ a) : index (a ++ c :: r) [c] = (a.length : Int) := by
 induction a with
 | nil => simp [index, List.isPrefixOf]
 | cons b l ih =>
  simp only [List.mem_cons, not_or] at h
  have hp : ([c] : List UInt8).isPrefixOf (b :: l ++ c :: r) = false := by simp [List.isPrefixOf, h.1]
  rw [List.cons_append, index, ← List.cons_append, hp, ih h.2]
  have : ¬ ((l.length : Int) == -1) = true := by simp
  simp [this]
theorem cut_atC (c : UInt8) (s : Bs) : c ∉ s ∨ ∃ a r, c ∉ a ∧ s = a ++ c :: r := by
 induction s with
 | nil => left; simp
 | cons b l ih =>
  by_cases hb : b = c
  ·
   right; exact ⟨[], l, by simp, by simp [hb]⟩
  ·
   rcases ih with h | ⟨a, r, h, rfl⟩
   ·
    left; simp only [List.mem_cons, not_or]; exact ⟨fun e => hb e.symm, h⟩
   ·
    right; exact ⟨b :: a, r, by simp only [List.mem_cons, not_or]; exact ⟨fun e => hb e.symm, h⟩, by simp⟩
theorem splitK_spl (c : UInt8) : ∀ (n : Nat) (s : Bs), s.length ≤ n → splitK [c] 0 (count s [c]) s = spl c s
 | n, s, hn => by
  rcases cut_atC c s with h | ⟨a, r, h, rfl⟩
  ·
   rw [count_miss (index_noC c s h), spl_no c s h]; simp [splitK]
  ·
   match n with
   | 0 => simp at hn
   | n + 1 =>
    have hi := index_atC c a r h
    have e : a ++ c :: r = (a ++ [c]) ++ r := by simp
    have hd : List.drop (a.length + 1) (a ++ c :: r) = r := by rw [e]; exact List.drop_left' (by simp)
    rw [count_hit (by simp) hi, spl_at c a r h]
    simp only [List.length_cons, List.length_nil, Nat.zero_add]
    rw [hd, Nat.add_comm, splitK, hi]
    have : ¬ ((a.length : Int) == -1) = true := by simp
    rw [if_neg this]
    simp only [Int.toNat_natCast, Nat.add_zero, List.length_cons, List.length_nil, Nat.zero_add]
    rw [hd, splitK_spl c n r (by simp at hn; omega)]
    simp
theorem linesU_spl (s : Bs) : linesU s = spl 10 s := splitK_spl 10 _ s (Nat.le_refl _)
def cfLine (c : Bs × Bs) : Bs := c.1 ++ 32 :: c.2
theorem spl_cfText : ∀ (l : List (Bs × Bs)), (∀ c ∈ l, (10 : UInt8) ∉ c.1 ∧ (10 : UInt8) ∉ c.2) → ∀ u : Bs, (10 : UInt8) ∉ u → spl 10 (u ++ cfText l) = u :: l.map cfLine
 | [], _, u, hu => by simp [cfText, spl_no 10 u hu]
 | x :: l, h, u, hu => by
  have hx := h x (by simp)
  have h10 : (10 : UInt8) ∉ cfLine x := by
   unfold cfLine
   simp only [List.mem_append, List.mem_cons, not_or]
   exact ⟨hx.1, by decide, hx.2⟩
  have e : cfText (x :: l) = 10 :: (cfLine x ++ cfText l) := by unfold cfText cfLine; simp
  rw [e, spl_at 10 u _ hu, spl_cfText l (fun c hc => h c (List.mem_cons_of_mem _ hc)) _ h10]
  rfl
theorem cfOf_line {x : Bs × Bs} (h : (32 : UInt8) ∉ x.1) : cfOf (cfLine x) = x := by
 unfold cfOf cfLine
 have hi := index_atC 32 x.1 x.2 h
 have e : x.1 ++ 32 :: x.2 = (x.1 ++ [32]) ++ x.2 := by simp
 have hd : List.drop (x.1.length + 1) (x.1 ++ 32 :: x.2) = x.2 := by rw [e]; exact List.drop_left' (by simp)
 unfold Lib.cut
 rw [hi]
 have : ¬ ((x.1.length : Int) == -1) = true := by simp
 simp
theorem cfRead_text {l : List (Bs × Bs)} (h : ∀ c ∈ l, (10 : UInt8) ∉ c.1 ∧ (10 : UInt8) ∉ c.2 ∧ (32 : UInt8) ∉ c.1) : cfRead (cfText l) = l := by
 unfold cfRead
 have := spl_cfText l (fun c hc => ⟨(h c hc).1, (h c hc).2.1⟩) [] (by simp)
 rw [List.nil_append] at this
 rw [linesU_spl, this, List.drop_one, List.tail_cons, List.map_map]
 conv => rhs; rw [← List.map_id l]
 exact List.map_congr_left (fun c hc => cfOf_line (h c hc).2.2)
def pairW : List Bs → List (Bs × Bs)
 | [p, s] => [(p, s)]
 | _ => []
def cfReadR (s : Bs) : List (Bs × Bs) := (spl 10 s).flatMap fun p => pairW (wordsL p)
theorem wordsL_line {x : Bs × Bs} (h : (32 : UInt8) ∉ x.1) (h2 : (32 : UInt8) ∉ x.2) (n1 : x.1 ≠ []) (n2 : x.2 ≠ []) : wordsL (cfLine x) = [x.1, x.2] := by
 unfold wordsL cfLine
 rw [spl_at 32 x.1 x.2 h, spl_no 32 x.2 h2]
 simp [n1, n2]
theorem cfReadR_text {l : List (Bs × Bs)} (h : ∀ c ∈ l, (10 : UInt8) ∉ c.1 ∧ (10 : UInt8) ∉ c.2 ∧ (32 : UInt8) ∉ c.1 ∧ (32 : UInt8) ∉ c.2 ∧ c.1 ≠ [] ∧ c.2 ≠ []) : cfReadR (cfText l) = l := by
 unfold cfReadR
 have := spl_cfText l (fun c hc => ⟨(h c hc).1, (h c hc).2.1⟩) [] (by simp)
 rw [List.nil_append] at this
 rw [this, List.flatMap_cons, show pairW (wordsL ([] : Bs)) = [] by decide +kernel, List.nil_append]
 clear this
 induction l with
 | nil => rfl
 | cons x l ih =>
  obtain ⟨_, _, g1, g2, g3, g4⟩ := h x (by simp)
  rw [List.map_cons, List.flatMap_cons, wordsL_line g1 g2 g3 g4, ih (fun c hc => h c (List.mem_cons_of_mem _ hc))]
  rfl
theorem right_plain {s : Bs} (h : right s = true) : (10 : UInt8) ∉ s ∧ (32 : UInt8) ∉ s ∧ s ≠ [] := by
 have h' : cleanE s = (s, 0) := of_decide_eq_true h
 obtain ⟨-, ha, -⟩ := cleanE_zero h'
 rw [List.all_eq_true] at ha
 refine ⟨fun g => ?_, fun g => ?_, fun e => ?_⟩
 ·
  exact absurd (ha _ g) (by decide)
 ·
  exact absurd (ha _ g) (by decide)
 ·
  subst e
  exact absurd h' (by decide)
theorem hex_plain {s : Bs} (h : (numOf 16 16 s).isSome = true) : (10 : UInt8) ∉ s ∧ (32 : UInt8) ∉ s ∧ s ≠ [] := by
 unfold numOf at h
 split at h
 ·
  rename_i n _
  split at h
  ·
   rename_i e
   have key : ∀ c ∈ s, 48 ≤ c.toNat := fun c hc => by
    rw [← e] at hc
    unfold digL at hc
    obtain ⟨j, -, rfl⟩ := List.mem_map.1 hc
    have h16 : n / 16 ^ (16 - 1 - j) % 16 < 16 := Nat.mod_lt _ (by decide)
    by_cases h10 : n / 16 ^ (16 - 1 - j) % 16 < 10
    ·
     rw [dgc_lt _ h10]; omega
    ·
     rw [dgc_ge _ (by omega) h16]; omega
   refine ⟨fun g => absurd (key _ g) (by decide), fun g => absurd (key _ g) (by decide), fun g => ?_⟩
   have := congrArg List.length e
   rw [digL_length, g] at this
   cases this
  ·
   cases h
 ·
  cases h
theorem confB_plain {c : Bs × Bs} (h : confB c = true) : (10 : UInt8) ∉ c.1 ∧ (10 : UInt8) ∉ c.2 ∧ (32 : UInt8) ∉ c.1 ∧ (32 : UInt8) ∉ c.2 ∧ c.1 ≠ [] ∧ c.2 ≠ [] := by
 unfold confB at h
 rw [Bool.and_eq_true] at h
 obtain ⟨a1, a2, a3⟩ := right_plain h.1
 obtain ⟨b1, b2, b3⟩ := hex_plain h.2
 exact ⟨a1, b1, a2, b2, a3, b3⟩
theorem rightU_confs {x : Uv} (h : rightU x = true) : ∀ c ∈ x.cf, confB c = true := by
 unfold rightU at h
 rw [Bool.and_eq_true] at h
 have h2 := h.2
 unfold rlB at h2
 simp only [Bool.and_eq_true, beq_iff_eq] at h2
 intro c hc
 rcases kchkK_ways confB (fun x => x.1) x.cf with g | g
 ·
  obtain ⟨i, hi, rfl⟩ := List.mem_iff_getElem.1 hc
  exact (g.2.2 i _ (List.getElem?_eq_getElem hi)).1
 ·
  rw [h2.1.1.2] at g
  rcases g.1 with g | g <;> cases g
theorem fT_ne {st : List Fld} {n t m : Bs} (h : sameB n m = false) : fT (addF st (n, t)) m = fT st m := by
 unfold addF
 split
 ·
  rfl
 ·
  unfold fT getF
  rw [List.find?_append]
  have : [(n, t)].find? (fun f : Fld => decide (lower f.1 = lower m)) = none := by
   rw [List.find?_eq_none]
   intro f hf
   simp only [List.mem_singleton] at hf
   subst hf
   unfold sameB at h
   rw [h]; simp
  rw [this, Option.or_none]
theorem hasN_ne {st : List Fld} {n t m : Bs} (h : sameB n m = false) : hasN m (addF st (n, t)) = hasN m st := by
 unfold addF
 split
 ·
  rfl
 ·
  unfold hasN
  rw [List.any_append]
  simp [h]
theorem fT_eq {st : List Fld} {m t : Bs} (h : hasN m st = false) : fT (addF st (m, t)) m = t := by
 unfold addF
 split
 ·
  rename_i e
  unfold fT
  rw [getF_miss h]
  exact e.symm
 ·
  unfold fT
  rw [getF_hit (k := st.length) (f := (m, t)) (by rw [List.take_left' rfl]; exact h) (by rw [List.getElem?_append_right (Nat.le_refl _)]; simp) (by unfold sameB; simp)]
theorem fT_confs (nm vr : Bs) (z : Int) (dt ct : Bs) (rp : List Bs) (cf : List (Bs × Bs)) (pd aw : List Bs) : fT (fieldsL nm vr z dt ct rp cf pd aw) [67, 111, 110, 102, 102, 105, 108, 101, 115] = cfText cf := by
 unfold fieldsL
 rw [fT_ne (by decide +kernel), fT_ne (by decide +kernel)]
 refine fT_eq ?_
 rw [hasN_ne (by decide +kernel), hasN_ne (by decide +kernel), hasN_ne (by decide +kernel), hasN_ne (by decide +kernel), hasN_ne (by decide +kernel), hasN_ne (by decide +kernel)]
 rfl
theorem confs_both {f : List Fld} {x : Uv} (hr : rightU x = true) (hf : fieldsU x = f) : cfReadR (fT f [67, 111, 110, 102, 102, 105, 108, 101, 115]) = cfRead (fT f [67, 111, 110, 102, 102, 105, 108, 101, 115]) := by
 have h1 : fT f [67, 111, 110, 102, 102, 105, 108, 101, 115] = cfText x.cf := by rw [← hf]; exact fT_confs _ _ _ _ _ _ _ _ _
 have hg := fun c hc => confB_plain (rightU_confs hr c hc)
 rw [h1, cfReadR_text hg, cfRead_text (fun c hc => ⟨(hg c hc).1, (hg c hc).2.1, (hg c hc).2.2.1⟩)]
end
section
open Go.RowKit Go.Shelf Go.Lib
abbrev tS (f : List Fld) : Nat := (f.map fun x => x.2.length).sum
theorem printT_ge : ∀ ls : List Bs, lenS ls ≤ (printT ls).length
 | [] => Nat.le_refl _
 | p :: ps => by
  unfold printT headLine
  rw [List.length_append, tail_sum, List.length_append]
  have : p.length ≤ (if p ≠ [] then 32 :: p else p).length := by split <;> simp
  simp only [lenS, List.map_cons, List.sum_cons, List.length_cons, List.length_nil] at *
  omega
theorem printF_ge (f : Fld) : f.2.length + 2 ≤ (printF f).length := by
 have h1 := printT_ge (spl 10 f.2)
 have h2 := spl_sum 10 f.2
 unfold printF
 simp only [List.length_append, List.length_cons]
 omega
theorem printS_ge (st : List Fld) : tS st ≤ (printS st).length := by
 unfold printS
 induction st with
 | nil => exact Nat.le_refl _
 | cons f st ih =>
  have := printF_ge f
  simp only [List.flatMap_cons, List.length_append, tS, List.map_cons, List.sum_cons] at *
  omega
theorem printSs_ge (l : List (List Fld)) : (l.map tS).sum ≤ (printSs l).length := by
 induction l with
 | nil => simp [printSs]
 | cons st l ih =>
  rw [printSs_cons]
  have := printS_ge st
  split
  ·
   rename_i e; subst e; simp only [List.append_nil, List.map_cons, List.map_nil, List.sum_cons, List.sum_nil]; omega
  ·
   simp only [List.length_append, List.length_cons, List.map_cons, List.sum_cons] at *; omega
theorem parse_sizes {s : Bs} {l : List (List Fld)} (h : parseS s = some l) : l.length ≤ 64 ∧ (∀ st ∈ l, st.length ≤ 64 ∧ ∀ f ∈ st, f.1.length ≤ 60) ∧ (l.map tS).sum ≤ s.length := by
 have hp := parse_print h
 have hs : printSs l = s := by
  unfold printE at hp
  split at hp
  ·
   cases (Prod.mk.inj hp).2
  ·
   split at hp
   ·
    exact (Prod.mk.inj hp).1
   ·
    cases (Prod.mk.inj hp).2
 have hge := printSs_ge l
 rw [hs] at hge
 unfold printE at hp
 split at hp
 ·
  cases (Prod.mk.inj hp).2
 ·
  rename_i h64
  rw [not_or] at h64
  split at hp
  ·
   rename_i hall
   refine ⟨by omega, fun st hst => ⟨?_, fun f hf => ?_⟩, hge⟩
   ·
    have h2 := h64.2
    rw [Bool.not_eq_true, List.any_eq_false] at h2
    have := h2 st hst
    simp at this; omega
   ·
    rw [List.all_eq_true] at hall
    have h2 := hall st hst
    unfold stanzaB at h2
    rw [Bool.and_eq_true] at h2
    have key : ∀ (st : List Fld) (seen : List Bs), stB seen st = true → ∀ f ∈ st, fieldB f = true := by
     intro st
     induction st with
     | nil => intro _ _ f hf; cases hf
     | cons g gs ih =>
      intro seen hh f hf
      unfold stB at hh
      simp only [Bool.and_eq_true] at hh
      rcases List.mem_cons.1 hf with e | e
      ·
       rw [e]; exact hh.1.2
      ·
       exact ih _ hh.2 f e
    have h3 := key st [] h2.2 f hf
    unfold fieldB at h3
    simp only [Bool.and_eq_true, decide_eq_true_eq] at h3
    exact h3.1.1.1.1.1.2
  ·
   cases (Prod.mk.inj hp).2
theorem tS_mem {st : List Fld} {f : Fld} (h : f ∈ st) : f.2.length ≤ tS st := sum_mem (fun x : Fld => x.2.length) st f h
theorem fT_tS (st : List Fld) (n : Bs) : (fT st n).length ≤ tS st := fT_len st n _ (fun _ hx => tS_mem hx)
theorem fT_cons (f : Fld) (st : List Fld) (n : Bs) : fT (f :: st) n = if sameB f.1 n = true then f.2 else fT st n := by
 unfold fT getF sameB
 rw [List.find?_cons]
 by_cases h : lower f.1 = lower n
 ·
  rw [decide_eq_true h, if_pos rfl]
 ·
  rw [decide_eq_false h, if_neg (by simp)]
theorem fT_sum (ns : List Bs) (hd : ns.Pairwise (fun a b => lower a ≠ lower b)) : ∀ st : List Fld, (ns.map fun n => (fT st n).length).sum ≤ tS st
 | [] => by
  have : ∀ l : List Bs, (l.map fun n => (fT [] n).length).sum = 0 := by
   intro l
   induction l with
   | nil => rfl
   | cons n l ih => rw [List.map_cons, List.sum_cons, ih]; rfl
  rw [this]; exact Nat.zero_le _
 | f :: st => by
  have ih := fT_sum ns hd st
  have hno : ∀ l : List Bs, (∀ n ∈ l, sameB f.1 n = false) → (l.map fun n => (fT (f :: st) n).length).sum = (l.map fun n => (fT st n).length).sum := by
   intro l hl
   congr 1
   exact List.map_congr_left (fun n hn => by rw [fT_cons, hl n hn]; simp)
  have key : ∀ l : List Bs, l.Pairwise (fun a b => lower a ≠ lower b) → (l.map fun n => (fT (f :: st) n).length).sum ≤ f.2.length + (l.map fun n => (fT st n).length).sum := by
   intro l
   induction l with
   | nil => intro _; simp
   | cons n l ih2 =>
    intro hp
    rw [List.pairwise_cons] at hp
    rw [List.map_cons, List.sum_cons, List.map_cons, List.sum_cons]
    cases hs : sameB f.1 n with
    | false =>
     have := ih2 hp.2
     rw [fT_cons, hs]
     simp only [Bool.false_eq_true, if_false]
     omega
    | true =>
     rw [hno l (fun m hm => by
      unfold sameB at hs ⊢
      have e := of_decide_eq_true hs
      exact decide_eq_false (fun e2 => hp.1 m hm (e.symm.trans e2)))]
     rw [fT_cons, hs, if_pos rfl]
     omega
  have := key ns hd
  simp only [tS, List.map_cons, List.sum_cons] at *
  omega
theorem joinB_len : ∀ l : List Bs, (Lib.join l [32]).length + 1 ≤ lenS l + 1
 | [] => by simp [Lib.join]
 | [p] => by rw [join_one]; simp [lenS]
 | p :: q :: l => by
  have ih := joinB_len (q :: l)
  have e : Lib.join (p :: q :: l) [32] = p ++ ([32] ++ Lib.join (q :: l) [32]) := by
   rw [join_cons, join_cons]; simp [joinTail]
  rw [e]
  simp only [lenS, List.map_cons, List.sum_cons, List.length_append, List.length_cons, List.length_nil] at *
  omega
theorem lenS_filter (P : Bs → Bool) : ∀ l : List Bs, lenS (l.filter P) ≤ lenS l
 | [] => Nat.le_refl _
 | p :: l => by
  have ih := lenS_filter P l
  rw [List.filter_cons]
  simp only [lenS, List.map_cons, List.sum_cons] at *
  split
  ·
   simp only [List.map_cons, List.sum_cons]; omega
  ·
   omega
theorem words_join (t : Bs) : (Lib.join (wordsL t) [32]).length ≤ t.length + 1 := by
 have h1 := joinB_len (wordsL t)
 have h2 := lenS_filter (fun x => decide (x ≠ [])) (spl 32 t)
 have h3 := spl_sum 32 t
 unfold wordsL at h1 ⊢
 omega
theorem words_few (t : Bs) : (wordsL t).length ≤ t.length + 1 ∧ ∀ p ∈ wordsL t, p.length ≤ t.length := by
 unfold wordsL
 refine ⟨Nat.le_trans (List.length_filter_le _ _) (spl_len 32 t), fun p hp => spl_piece 32 t p (List.mem_filter.1 hp).1⟩
theorem cfRead_few (t : Bs) : (cfRead t).length ≤ t.length ∧ ∀ c ∈ cfRead t, c.1.length ≤ t.length ∧ c.2.length ≤ t.length := by
 unfold cfRead
 rw [linesU_spl, List.length_map, List.length_drop]
 refine ⟨by have := spl_len 10 t; omega, fun c hc => ?_⟩
 obtain ⟨p, hp, rfl⟩ := List.mem_map.1 hc
 have h1 := spl_piece 10 t p (List.mem_of_mem_drop hp)
 have h2 := cut_len (s := p) (sep := [32])
 exact ⟨Nat.le_trans h2.1 h1, Nat.le_trans h2.2 h1⟩
theorem cfOf_len (p : Bs) : (cfOf p).1.length + (cfOf p).2.length ≤ p.length := by
 unfold cfOf Lib.cut
 split
 ·
  simp only [List.length_take, List.length_drop]; omega
 ·
  simp
theorem cfText_read (t : Bs) : (cfText (cfRead t)).length ≤ 2 * t.length + 1 := by
 have key : ∀ l : List Bs, (cfText (l.map cfOf)).length ≤ lenS l + l.length := by
  intro l
  induction l with
  | nil => simp [cfText]
  | cons p l ih =>
   have := cfOf_len p
   unfold cfText at *
   simp only [List.map_cons, List.flatMap_cons, List.length_append, List.length_cons, lenS, List.sum_cons] at *
   omega
 unfold cfRead
 rw [linesU_spl]
 have h1 := key ((spl 10 t).drop 1)
 have h2 := spl_sum 10 t
 have h3 := spl_len 10 t
 cases hs : spl 10 t with
 | nil => exact absurd hs (spl_ne _ _)
 | cons q qs =>
  rw [hs] at h1 h2 h3
  simp only [List.drop_succ_cons, List.drop_zero, lenS, List.map_cons, List.sum_cons, List.length_cons] at h1 h2 h3 ⊢
  omega
end
section
open Go.RowKit Go.Shelf Go.Lib
theorem textA_le {t : Bs} : (allE ((parseA t).getD [])).1.length ≤ t.length := by
 cases h : parseA t with
 | none =>
  show (allE []).1.length ≤ _
  rw [show (allE []).1 = [] by decide +kernel]; exact Nat.zero_le _
 | some l =>
  obtain ⟨e, -⟩ := textA_inv h
  show (allE l).1.length ≤ _
  unfold allE
  split
  ·
   exact Nat.zero_le _
  ·
   split
   ·
    exact Nat.zero_le _
   ·
    rw [e]; exact Nat.le_refl _
theorem textQ_le {t : Bs} : (listE ((parseQ t).getD [])).1.length ≤ t.length := by
 cases h : parseQ t with
 | none =>
  show (listE []).1.length ≤ _
  rw [show (listE []).1 = [] by decide +kernel]; exact Nat.zero_le _
 | some l =>
  obtain ⟨e, -⟩ := textQ_inv h
  show (listE l).1.length ≤ _
  unfold listE
  split
  ·
   exact Nat.zero_le _
  ·
   split
   ·
    rw [e]; exact Nat.le_refl _
   ·
    exact Nat.zero_le _
theorem wordU_len (z : Int) : (wordU z).length ≤ 16 := by
 by_cases h : z < 0 ∨ 8 ≤ z
 ·
  rw [word_out h]; exact Nat.zero_le _
 ·
  obtain ⟨n, rfl⟩ : ∃ n : Nat, z = n := ⟨z.toNat, by omega⟩
  have hn : n < 8 := by omega
  match n, hn with
  | 0, _ | 1, _ | 2, _ | 3, _ | 4, _ | 5, _ | 6, _ | 7, _ => decide +kernel
theorem wFs_add (st : List Fld) (n t : Bs) : wFs (addF st (n, t)) ≤ wFs st + (n.length + 3 * t.length + 3) := by
 unfold addF
 split
 ·
  omega
 ·
  simp only [wFs, wF, List.map_append, List.sum_append, List.map_cons, List.map_nil, List.sum_cons, List.sum_nil]; omega
theorem wFs_fields (nm vr : Bs) (z : Int) (dt ct : Bs) (rp : List Bs) (cf : List (Bs × Bs)) (pd aw : List Bs) : wFs (fieldsL nm vr z dt ct rp cf pd aw) ≤ 160 + 3 * (nm.length + vr.length + dt.length + ct.length + (Lib.join rp [32]).length + (cfText cf).length + (Lib.join pd [32]).length + (Lib.join aw [32]).length) := by
 unfold fieldsL
 have hw := wordU_len z
 have e9 := wFs_add (addF (addF (addF (addF (addF (addF (addF (addF ([] : List Fld) ([80, 97, 99, 107, 97, 103, 101], nm)) ([83, 116, 97, 116, 117, 115], (wordU z))) ([86, 101, 114, 115, 105, 111, 110], vr)) ([68, 101, 112, 101, 110, 100, 115], dt)) ([67, 111, 110, 102, 108, 105, 99, 116, 115], ct)) ([82, 101, 112, 108, 97, 99, 101, 115], (Lib.join rp [32]))) ([67, 111, 110, 102, 102, 105, 108, 101, 115], (cfText cf))) ([84, 114, 105, 103, 103, 101, 114, 115, 45, 80, 101, 110, 100, 105, 110, 103], (Lib.join pd [32]))) [84, 114, 105, 103, 103, 101, 114, 115, 45, 65, 119, 97, 105, 116, 101, 100] (Lib.join aw [32])
 have e8 := wFs_add (addF (addF (addF (addF (addF (addF (addF ([] : List Fld) ([80, 97, 99, 107, 97, 103, 101], nm)) ([83, 116, 97, 116, 117, 115], (wordU z))) ([86, 101, 114, 115, 105, 111, 110], vr)) ([68, 101, 112, 101, 110, 100, 115], dt)) ([67, 111, 110, 102, 108, 105, 99, 116, 115], ct)) ([82, 101, 112, 108, 97, 99, 101, 115], (Lib.join rp [32]))) ([67, 111, 110, 102, 102, 105, 108, 101, 115], (cfText cf))) [84, 114, 105, 103, 103, 101, 114, 115, 45, 80, 101, 110, 100, 105, 110, 103] (Lib.join pd [32])
 have e7 := wFs_add (addF (addF (addF (addF (addF (addF ([] : List Fld) ([80, 97, 99, 107, 97, 103, 101], nm)) ([83, 116, 97, 116, 117, 115], (wordU z))) ([86, 101, 114, 115, 105, 111, 110], vr)) ([68, 101, 112, 101, 110, 100, 115], dt)) ([67, 111, 110, 102, 108, 105, 99, 116, 115], ct)) ([82, 101, 112, 108, 97, 99, 101, 115], (Lib.join rp [32]))) [67, 111, 110, 102, 102, 105, 108, 101, 115] (cfText cf)
 have e6 := wFs_add (addF (addF (addF (addF (addF ([] : List Fld) ([80, 97, 99, 107, 97, 103, 101], nm)) ([83, 116, 97, 116, 117, 115], (wordU z))) ([86, 101, 114, 115, 105, 111, 110], vr)) ([68, 101, 112, 101, 110, 100, 115], dt)) ([67, 111, 110, 102, 108, 105, 99, 116, 115], ct)) [82, 101, 112, 108, 97, 99, 101, 115] (Lib.join rp [32])
 have e5 := wFs_add (addF (addF (addF (addF ([] : List Fld) ([80, 97, 99, 107, 97, 103, 101], nm)) ([83, 116, 97, 116, 117, 115], (wordU z))) ([86, 101, 114, 115, 105, 111, 110], vr)) ([68, 101, 112, 101, 110, 100, 115], dt)) [67, 111, 110, 102, 108, 105, 99, 116, 115] ct
 have e4 := wFs_add (addF (addF (addF ([] : List Fld) ([80, 97, 99, 107, 97, 103, 101], nm)) ([83, 116, 97, 116, 117, 115], (wordU z))) ([86, 101, 114, 115, 105, 111, 110], vr)) [68, 101, 112, 101, 110, 100, 115] dt
 have e3 := wFs_add (addF (addF ([] : List Fld) ([80, 97, 99, 107, 97, 103, 101], nm)) ([83, 116, 97, 116, 117, 115], (wordU z))) [86, 101, 114, 115, 105, 111, 110] vr
 have e2 := wFs_add (addF ([] : List Fld) ([80, 97, 99, 107, 97, 103, 101], nm)) [83, 116, 97, 116, 117, 115] (wordU z)
 have e1 := wFs_add ([] : List Fld) [80, 97, 99, 107, 97, 103, 101] nm
 have HS := And.intro e9 (And.intro e8 (And.intro e7 (And.intro e6 (And.intro e5 (And.intro e4 (And.intro e3 (And.intro e2 e1)))))))
 have h0 : wFs ([] : List Fld) = 0 := rfl
 simp only [List.length_cons, List.length_nil] at HS
 omega
theorem fields_of {f : List Fld} {x : Uv} (r : RecOf f x) : wFs (fieldsU x) ≤ 6 * tS f + 200 := by
 have h := wFs_fields x.nm x.vr x.st (allE (fsts x.dp)).1 (listE x.cn).1 x.rp x.cf x.pd x.aw
 have hs := fT_sum [[80, 97, 99, 107, 97, 103, 101], [83, 116, 97, 116, 117, 115], [86, 101, 114, 115, 105, 111, 110], [68, 101, 112, 101, 110, 100, 115], [67, 111, 110, 102, 108, 105, 99, 116, 115], [82, 101, 112, 108, 97, 99, 101, 115], [67, 111, 110, 102, 102, 105, 108, 101, 115], [84, 114, 105, 103, 103, 101, 114, 115, 45, 80, 101, 110, 100, 105, 110, 103], [84, 114, 105, 103, 103, 101, 114, 115, 45, 65, 119, 97, 105, 116, 101, 100]] (by decide +kernel) f
 simp only [List.map_cons, List.map_nil, List.sum_cons, List.sum_nil] at hs
 have a1 := textA_le (t := fT f [68, 101, 112, 101, 110, 100, 115])
 have a2 := textQ_le (t := fT f [67, 111, 110, 102, 108, 105, 99, 116, 115])
 have a3 := words_join (fT f [82, 101, 112, 108, 97, 99, 101, 115])
 have a4 := cfText_read (fT f [67, 111, 110, 102, 102, 105, 108, 101, 115])
 have a5 := words_join (fT f [84, 114, 105, 103, 103, 101, 114, 115, 45, 80, 101, 110, 100, 105, 110, 103])
 have a6 := words_join (fT f [84, 114, 105, 103, 103, 101, 114, 115, 45, 65, 119, 97, 105, 116, 101, 100])
 unfold fieldsU
 rw [r.dp, r.cn, r.nm, r.vr, r.rp, r.cf, r.pd, r.aw] at h ⊢
 omega
theorem recs_sum : ∀ (fs : List (List Fld)) (L : List Uv), RecsOf fs L → wS (L.map fieldsU) ≤ 6 * (fs.map tS).sum + 201 * fs.length
 | [], L, h => by
  have : L = [] := List.eq_nil_of_length_eq_zero h.1
  subst this; simp [wS]
 | f :: fs, [], h => by have := h.1; simp at this
 | f :: fs, x :: L, h => by
  have ih := recs_sum fs L ⟨by have := h.1; simp at this; exact this, fun k g y h1 h2 => h.2 (k + 1) g y (by simpa using h1) (by simpa using h2)⟩
  have h0 := fields_of (h.2 0 f x rfl rfl)
  simp only [wS, List.map_cons, List.sum_cons, List.length_cons] at *
  omega
theorem big_of {t : Bs} {D : List Gv} (h : fsts D = (parseA t).getD []) : D.length ≤ 64 ∧ BigG D := by
 have hl : (fsts D).length = D.length := List.length_map ..
 cases hp : parseA t with
 | none =>
  rw [hp] at h
  have : D = [] := List.map_eq_nil_iff.1 h
  subst this
  exact ⟨by simp, fun x hx => by cases hx⟩
 | some l =>
  rw [hp] at h
  obtain ⟨-, hr⟩ := textA_inv hp
  have h' : fsts D = l := h
  refine ⟨by rw [← hl, h']; exact hr.1, fun x hx => ?_⟩
  have hx2 : x.1 ∈ l := by rw [← h']; exact List.mem_map_of_mem hx
  obtain ⟨-, g2, g3⟩ := hr.2 _ hx2
  refine ⟨fun y hy => ?_, by omega⟩
  obtain ⟨s1, s2, s3⟩ := smallR_right (g3 y hy)
  exact ⟨le_maxLen s1, le_maxLen s2, le_maxLen s3⟩
theorem bigQ_of (t : Bs) : ((parseQ t).getD []).length ≤ 64 ∧ BigQ ((parseQ t).getD []) := by
 cases hp : parseQ t with
 | none => exact ⟨by simp, fun x hx => by cases hx⟩
 | some l =>
  obtain ⟨-, hr⟩ := textQ_inv hp
  refine ⟨hr.1, fun y hy => ?_⟩
  obtain ⟨s1, s2, s3⟩ := smallR_right (hr.2 y hy)
  exact ⟨le_maxLen s1, le_maxLen s2, le_maxLen s3⟩
theorem splitN_piece (s sep : Bs) : ∀ p ∈ Lib.splitN s sep 65, p.length ≤ s.length := fun p hp => splitK_piece sep _ s p hp
theorem fsFit_of {s : Bs} (hs : s.length ≤ 3000) {fs : List (List Fld)} (h : parseS s = some fs) : FsFit fs := by
 obtain ⟨h1, h2, h3⟩ := parse_sizes h
 have ht : ∀ f ∈ fs, tS f ≤ 3000 := fun f hf => by
  have := sum_mem tS fs f hf
  omega
 refine ⟨by omega, fun f hf => ?_, fun f hf x r => ?_, fun L hL _ => small_of ?_⟩
 ·
  have hf3 := ht f hf
  have hfT := fun n => Nat.le_trans (fT_tS f n) hf3
  refine ⟨by have := (h2 f hf).1; omega, fun x hx => ⟨by have := (h2 f hf).2 x hx; omega, by have := tS_mem hx; omega⟩, fun p hp => ?_, fun p hp => ?_⟩
  ·
   have e1 := splitN_piece _ _ p hp
   have e2 := hfT [68, 101, 112, 101, 110, 100, 115]
   exact ⟨by omega, fun q hq => by have := splitN_piece _ _ q hq; omega⟩
  ·
   have e1 := splitN_piece _ _ p hp
   have e2 := hfT [67, 111, 110, 102, 108, 105, 99, 116, 115]
   omega
 ·
  have hf3 := ht f hf
  have hfT := fun n => Nat.le_trans (fT_tS f n) hf3
  obtain ⟨d1, d2⟩ := big_of r.dp
  obtain ⟨c1, c2⟩ := bigQ_of (fT f [67, 111, 110, 102, 108, 105, 99, 116, 115])
  rw [← r.cn] at c1 c2
  have w1 := words_few (fT f [82, 101, 112, 108, 97, 99, 101, 115])
  have w2 := words_few (fT f [84, 114, 105, 103, 103, 101, 114, 115, 45, 80, 101, 110, 100, 105, 110, 103])
  have w3 := words_few (fT f [84, 114, 105, 103, 103, 101, 114, 115, 45, 65, 119, 97, 105, 116, 101, 100])
  have w4 := cfRead_few (fT f [67, 111, 110, 102, 102, 105, 108, 101, 115])
  rw [← r.rp] at w1
  rw [← r.pd] at w2
  rw [← r.aw] at w3
  rw [← r.cf] at w4
  have t1 := hfT [80, 97, 99, 107, 97, 103, 101]
  have t2 := hfT [86, 101, 114, 115, 105, 111, 110]
  have t3 := hfT [82, 101, 112, 108, 97, 99, 101, 115]
  have t4 := hfT [84, 114, 105, 103, 103, 101, 114, 115, 45, 80, 101, 110, 100, 105, 110, 103]
  have t5 := hfT [84, 114, 105, 103, 103, 101, 114, 115, 45, 65, 119, 97, 105, 116, 101, 100]
  have t6 := hfT [67, 111, 110, 102, 102, 105, 108, 101, 115]
  exact ⟨by rw [r.nm]; omega, by rw [r.vr]; omega, by omega, d2, by omega, c2, by omega, fun p hp => by have := w1.2 p hp; omega, by omega, fun c hc => by have := w4.2 c hc; omega, by omega, fun p hp => by have := w2.2 p hp; omega, by omega, fun p hp => by have := w3.2 p hp; omega⟩
 ·
  have := recs_sum fs L hL
  omega
end
end Go.Proofs.YtkbkaeefdhkgdaaGreatDoor
