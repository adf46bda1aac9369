/-
  Paths as lists of bytes: parts, what is left of them, the text in one form; nothing of the program.
-/
import Derived.Lib.SplitLaws
import Derived.Lib.Join
import Derived.Lib.LastIndexLaws
namespace Go.Proofs.YtnfhccnicojdcaaGreatDoor
open Go.Lib

abbrev Bs := List UInt8
def pieces (u : Bs) : Bs → List Bs
  | [] => [u]
  | c :: l => if c = 47 then u :: pieces [] l else pieces (u ++ [c]) l
def parts0 (u : Bs) : Bs → List Bs
  | [] => if u = [] then [] else [u]
  | c :: l => if c = 47 then (if u = [] then parts0 [] l else u :: parts0 [] l) else parts0 (u ++ [c]) l
def parts (s : Bs) : List Bs := parts0 [] s

theorem parts0_filter (l : Bs) : ∀ u, (pieces u l).filter (· ≠ []) = parts0 u l := by
  induction l with
  | nil => intro u; by_cases h : u = [] <;> simp [pieces, parts0, h]
  | cons c l ih =>
    intro u
    by_cases hc : c = 47
    · by_cases hu : u = []
      · simp only [pieces, parts0, hc, if_pos, hu]; rw [List.filter_cons, ih]; simp
      · simp only [pieces, parts0, hc, if_pos, if_neg hu]; rw [List.filter_cons, ih]; simp [hu]
    · simp only [pieces, parts0, if_neg hc]; exact ih _

theorem index_no (a : Bs) (h : (47 : UInt8) ∉ a) : index a [47] = -1 := by
  induction a with
  | nil => simp [index]
  | cons b l ih =>
    simp only [List.mem_cons, not_or] at h
    have hp : ([47] : List UInt8).isPrefixOf (b :: l) = false := by simp [List.isPrefixOf, h.1]
    rw [index, hp, ih h.2]; simp
theorem index_at (a r : Bs) (h : (47 : UInt8) ∉ a) : index (a ++ 47 :: r) [47] = (a.length : Int) := by
  induction a with
  | nil => simp [index, List.isPrefixOf]
  | cons b l ih =>
    simp only [List.mem_cons, not_or] at h
    have hp : ([47] : List UInt8).isPrefixOf (b :: l ++ 47 :: r) = false := by simp [List.isPrefixOf, h.1]
    rw [List.cons_append, index, ← List.cons_append, hp, ih h.2]
    have : ¬ ((l.length : Int) == -1) = true := by simp
    simp [this]
theorem pieces_no (a : Bs) (h : (47 : UInt8) ∉ a) : ∀ u, pieces u a = [u ++ a] := by
  induction a with
  | nil => intro u; simp [pieces]
  | cons b l ih =>
    intro u
    simp only [List.mem_cons, not_or] at h
    rw [pieces, if_neg (fun e => h.1 e.symm), ih h.2]; simp
theorem pieces_at (a r : Bs) (h : (47 : UInt8) ∉ a) : ∀ u, pieces u (a ++ 47 :: r) = (u ++ a) :: pieces [] r := by
  induction a with
  | nil => intro u; simp [pieces]
  | cons b l ih =>
    intro u
    simp only [List.mem_cons, not_or] at h
    rw [List.cons_append, pieces, if_neg (fun e => h.1 e.symm), ih h.2]; simp
theorem cut_at (s : Bs) : (47 : UInt8) ∉ s ∨ ∃ a r, (47 : UInt8) ∉ a ∧ s = a ++ 47 :: r := by
  induction s with
  | nil => left; simp
  | cons b l ih =>
    by_cases hb : b = 47
    · right; exact ⟨[], l, by simp, by simp [hb]⟩
    · rcases ih with h | ⟨a, r, h, rfl⟩
      · left; simp only [List.mem_cons, not_or]; exact ⟨fun e => hb e.symm, h⟩
      · right; exact ⟨b :: a, r, by simp only [List.mem_cons, not_or]; exact ⟨fun e => hb e.symm, h⟩, by simp⟩
theorem split_pieces : ∀ (n : Nat) (s : Bs), s.length ≤ n → splitK [47] 0 (count s [47]) s = pieces [] s
  | n, s, hn => by
    rcases cut_at s with h | ⟨a, r, h, rfl⟩
    · rw [count_miss (index_no s h), pieces_no s h]; simp [splitK]
    · match n with
      | 0 => simp at hn
      | n + 1 =>
        have hi := index_at a r h
        have e : a ++ 47 :: r = (a ++ [47]) ++ r := by simp
        have hd : List.drop (a.length + 1) (a ++ 47 :: r) = r := by rw [e]; exact List.drop_left' (by simp)
        rw [count_hit (by simp) hi, pieces_at a r h]
        simp only [List.length_cons, List.length_nil, Nat.zero_add]
        rw [hd, Nat.add_comm, splitK, hi]
        have : ¬ ((a.length : Int) == -1) = true := by simp
        rw [if_neg this]
        simp only [Int.toNat_natCast, Nat.add_zero, List.length_cons, List.length_nil, Nat.zero_add]
        rw [hd, split_pieces n r (by simp at hn; omega)]
        simp
theorem parts_split (s : Bs) : (splitK [47] 0 (count s [47]) s).filter (· ≠ []) = parts s := by rw [split_pieces _ s (Nat.le_refl _), parts0_filter]; rfl

-- Joined
def jn : List Bs → Bs
  | [] => []
  | p :: ps => 47 :: (p ++ jn ps)
def joined (ps : List Bs) : Bs := if ps = [] then [47] else jn ps
theorem jn_append (a b : List Bs) : jn (a ++ b) = jn a ++ jn b := by
  induction a with
  | nil => rfl
  | cons p a ih => simp [jn, ih]
theorem jn_tail (ps : List Bs) : joinTail [47] ps = jn ps := by
  induction ps with
  | nil => rfl
  | cons p ps ih => simp [joinTail, jn] at ih ⊢; exact ih
theorem joined_join (ps : List Bs) : 47 :: join ps [47] = joined ps := by
  cases ps with
  | nil => rfl
  | cons p ps => rw [join_cons, jn_tail]; simp [joined, jn]
theorem jn_sub {a b : List Bs} (h : a.Sublist b) : (jn a).length ≤ (jn b).length := by
  induction h with
  | slnil => simp
  | cons p _ ih => simp [jn]; omega
  | cons_cons p _ ih => simp [jn]; omega
theorem jn_parts0 (l : Bs) : ∀ u, (jn (parts0 u l)).length ≤ u.length + l.length + 1 := by
  induction l with
  | nil => intro u; unfold parts0; split <;> simp [jn]
  | cons c l ih =>
    intro u
    unfold parts0
    split
    · split
      · have := ih []; simp at this ⊢; omega
      · have := ih []; simp [jn] at this ⊢; omega
    · have := ih (u ++ [c]); simp at this ⊢; omega
theorem jn_parts (s : Bs) : (jn (parts s)).length ≤ s.length + 1 := by have := jn_parts0 s []; simpa [parts] using this
theorem len_le_jn (ps : List Bs) : ps.length ≤ (jn ps).length := by
  induction ps with
  | nil => simp
  | cons p ps ih => simp [jn]; omega
theorem parts_len (s : Bs) : (parts s).length ≤ s.length + 1 := Nat.le_trans (len_le_jn _) (jn_parts s)
theorem mem_len {p : Bs} {ps : List Bs} (h : p ∈ ps) : p.length ≤ (jn ps).length := by
  induction ps with
  | nil => cases h
  | cons q ps ih =>
    rcases List.mem_cons.1 h with rfl | h
    · simp [jn]; omega
    · have := ih h; simp [jn]; omega

-- Resolved
def rstep (out : List Bs) (p : Bs) : List Bs := if p = [46, 46] then out.dropLast else if p = [46] then out else out ++ [p]
def resolve (ps : List Bs) : List Bs := ps.foldl rstep []
theorem foldl_filter (ps : List Bs) : ∀ out, (ps.filter (· ≠ [46])).foldl rstep out = ps.foldl rstep out := by
  induction ps with
  | nil => intro out; rfl
  | cons p ps ih =>
    intro out
    by_cases h : p = [46]
    · subst h
      have e : rstep out [46] = out := by simp [rstep]
      rw [List.filter_cons_of_neg (by simp), ih, List.foldl_cons, e]
    · rw [List.filter_cons_of_pos (by simpa using h), List.foldl_cons, List.foldl_cons, ih]
theorem rstep_sub {out : List Bs} {pre : List Bs} (h : out.Sublist pre) (p : Bs) : (rstep out p).Sublist (pre ++ [p]) := by
  unfold rstep
  split
  · exact (List.dropLast_sublist _).trans (h.trans (List.sublist_append_left _ _))
  · split
    · exact h.trans (List.sublist_append_left _ _)
    · exact h.append (List.Sublist.refl _)
theorem foldl_sub (ps : List Bs) : ∀ (out pre : List Bs), out.Sublist pre → (ps.foldl rstep out).Sublist (pre ++ ps) := by
  induction ps with
  | nil => intro out pre h; simpa using h
  | cons p ps ih => intro out pre h; rw [List.foldl_cons]; have := ih _ _ (rstep_sub h p); simpa using this
theorem resolve_sub (ps : List Bs) : (resolve ps).Sublist ps := by simpa [resolve] using foldl_sub ps [] [] (List.Sublist.refl _)
theorem foldl_dots (ps : List Bs) : ∀ out : List Bs, (∀ p ∈ out, p ≠ [46] ∧ p ≠ [46, 46]) → ∀ p ∈ ps.foldl rstep out, p ≠ [46] ∧ p ≠ [46, 46] := by
  induction ps with
  | nil => intro out h; exact h
  | cons q ps ih =>
    intro out h
    refine ih _ ?_
    intro p hp
    unfold rstep at hp
    split at hp
    · exact h p ((List.dropLast_sublist _).mem hp)
    · split at hp
      · exact h p hp
      · rcases List.mem_append.1 hp with hp | hp
        · exact h p hp
        · obtain rfl : p = q := by simpa using hp
          exact ⟨by assumption, by assumption⟩
theorem resolve_dots (ps : List Bs) : ∀ p ∈ resolve ps, p ≠ [46] ∧ p ≠ [46, 46] := foldl_dots ps [] (by simp)
theorem foldl_id (ps : List Bs) (h : ∀ p ∈ ps, p ≠ [46] ∧ p ≠ [46, 46]) : ∀ out, ps.foldl rstep out = out ++ ps := by
  induction ps with
  | nil => intro out; simp
  | cons p ps ih =>
    intro out
    have hp := h p (by simp)
    rw [List.foldl_cons, ih (fun q hq => h q (by simp [hq]))]
    simp [rstep, hp.1, hp.2]
theorem resolve_id (ps : List Bs) (h : ∀ p ∈ ps, p ≠ [46] ∧ p ≠ [46, 46]) : resolve ps = ps := by simpa [resolve] using foldl_id ps h []

-- Parts are no empty texts without slashes.
def good (p : Bs) : Prop := p ≠ [] ∧ (47 : UInt8) ∉ p
theorem parts0_good (l : Bs) : ∀ u, (47 : UInt8) ∉ u → ∀ p ∈ parts0 u l, good p ∧ ∀ x ∈ p, x ∈ u ∨ x ∈ l := by
  induction l with
  | nil =>
    intro u hu p hp
    unfold parts0 at hp
    split at hp
    · cases hp
    · obtain rfl : p = u := by simpa using hp
      exact ⟨⟨by assumption, hu⟩, fun x hx => .inl hx⟩
  | cons c l ih =>
    intro u hu p hp
    unfold parts0 at hp
    split at hp
    · split at hp
      · have := ih [] (by simp) p hp
        exact ⟨this.1, fun x hx => by rcases this.2 x hx with h | h; · cases h
                                      · exact .inr (List.mem_cons_of_mem _ h)⟩
      · rcases List.mem_cons.1 hp with rfl | hp
        · exact ⟨⟨by assumption, hu⟩, fun x hx => .inl hx⟩
        · have := ih [] (by simp) p hp
          exact ⟨this.1, fun x hx => by rcases this.2 x hx with h | h; · cases h
                                        · exact .inr (List.mem_cons_of_mem _ h)⟩
    · rename_i hc
      have := ih (u ++ [c]) (by simp only [List.mem_append, List.mem_singleton, not_or]; exact ⟨hu, fun e => hc e.symm⟩) p hp
      refine ⟨this.1, fun x hx => ?_⟩
      rcases this.2 x hx with h | h
      · rcases List.mem_append.1 h with h | h
        · exact .inl h
        · right; rw [List.mem_singleton.1 h]; simp
      · exact .inr (List.mem_cons_of_mem _ h)
theorem parts_good (s : Bs) : ∀ p ∈ parts s, good p ∧ ∀ x ∈ p, x ∈ s := fun p hp => by
  have := parts0_good s [] (by simp) p hp
  exact ⟨this.1, fun x hx => by simpa using this.2 x hx⟩
theorem parts0_run (p : Bs) (h : (47 : UInt8) ∉ p) : ∀ u l, parts0 u (p ++ l) = parts0 (u ++ p) l := by
  induction p with
  | nil => intro u l; simp
  | cons c p ih =>
    intro u l
    simp only [List.mem_cons, not_or] at h
    rw [List.cons_append, parts0, if_neg (fun e => h.1 e.symm), ih h.2]; simp
theorem parts0_jn (ps : List Bs) (h : ∀ p ∈ ps, good p) : ∀ u, (47 : UInt8) ∉ u → parts0 u (jn ps) = (if u = [] then [] else [u]) ++ ps := by
  induction ps with
  | nil => intro u _; simp [jn, parts0]
  | cons p ps ih =>
    intro u hu
    have hp := h p (by simp)
    have := ih (fun q hq => h q (by simp [hq])) p hp.2
    rw [if_neg hp.1] at this
    rw [jn, parts0, if_pos rfl, parts0_run p hp.2]
    rw [List.nil_append, this]
    split <;> simp
theorem parts_joined (ps : List Bs) (h : ∀ p ∈ ps, good p) : parts (joined ps) = ps := by
  unfold joined
  split
  · rename_i e; subst e; simp [parts, parts0]
  · have := parts0_jn ps h [] (by simp); simpa [parts] using this

-- The one form, or the error's number.
def okb (c : UInt8) : Bool := decide (33 ≤ c.toNat) && decide (c.toNat ≤ 126)
def cleanE (s : Bs) : Bs × Int :=
  if s.head? = some 47 ∧ s.all okb = true then (if 200 < (joined (resolve (parts s))).length then ([], 8) else (joined (resolve (parts s)), 0)) else ([], 1)
def right (s : Bs) : Bool := decide (cleanE s = (s, 0))
theorem joined_all (ps : List Bs) (h : ∀ p ∈ ps, p.all okb = true) : (joined ps).all okb = true := by
  have : ∀ ps : List Bs, (∀ p ∈ ps, p.all okb = true) → (jn ps).all okb = true := by
    intro ps
    induction ps with
    | nil => intro _; rfl
    | cons p ps ih =>
      intro h
      rw [jn, List.all_cons, List.all_append, h p (by simp), ih (fun q hq => h q (by simp [hq]))]
      decide
  unfold joined
  split
  · decide
  · exact this ps h
theorem joined_head (ps : List Bs) : (joined ps).head? = some 47 := by
  cases ps with
  | nil => rfl
  | cons p ps => simp [joined, jn]
theorem cleanE_joined (ps : List Bs) (hg : ∀ p ∈ ps, good p) (hd : ∀ p ∈ ps, p ≠ [46] ∧ p ≠ [46, 46]) (ha : ∀ p ∈ ps, p.all okb = true) (hl : (joined ps).length ≤ 200) : cleanE (joined ps) = (joined ps, 0) := by
  unfold cleanE
  rw [parts_joined ps hg, resolve_id ps hd, if_pos ⟨joined_head ps, joined_all ps ha⟩, if_neg (by omega)]
theorem cleanE_zero {s a : Bs} (h : cleanE s = (a, 0)) : a = joined (resolve (parts s)) ∧ s.all okb = true ∧ a.length ≤ 200 := by
  unfold cleanE at h
  split at h
  · rename_i hc
    split at h
    · simp at h
    · simp at h; subst h; exact ⟨rfl, hc.2, by omega⟩
  · simp at h
theorem cleaned {s a : Bs} (h : cleanE s = (a, 0)) : ∃ ps, a = joined ps ∧ (∀ p ∈ ps, good p) ∧ (∀ p ∈ ps, p ≠ [46] ∧ p ≠ [46, 46]) ∧ (∀ p ∈ ps, p.all okb = true) ∧ (joined ps).length ≤ 200 := by
  obtain ⟨e, hall, hl⟩ := cleanE_zero h
  refine ⟨resolve (parts s), e, fun p hp => (parts_good s p ((resolve_sub _).mem hp)).1, resolve_dots _, fun p hp => ?_, by rw [← e]; exact hl⟩
  rw [List.all_eq_true] at hall ⊢
  exact fun x hx => hall x ((parts_good s p ((resolve_sub _).mem hp)).2 x hx)
theorem clean_right {s a : Bs} (h : cleanE s = (a, 0)) : right a = true := by
  obtain ⟨ps, rfl, hg, hd, ha, hl⟩ := cleaned h
  exact decide_eq_true (cleanE_joined ps hg hd ha hl)
theorem right_parts {s : Bs} (h : right s = true) : s = joined (parts s) ∧ (∀ p ∈ parts s, good p) ∧ (∀ p ∈ parts s, p ≠ [46] ∧ p ≠ [46, 46]) ∧ (∀ p ∈ parts s, p.all okb = true) ∧ s.length ≤ 200 := by
  have h' : cleanE s = (s, 0) := of_decide_eq_true h
  obtain ⟨ps, e, hg, hd, ha, hl⟩ := cleaned h'
  have hp : parts s = ps := by rw [e]; exact parts_joined ps hg
  rw [hp, ← e] at *
  exact ⟨rfl, hg, hd, ha, hl⟩
theorem clean_len (s : Bs) : (joined (resolve (parts s))).length ≤ s.length + 1 := by
  have h1 := jn_sub (resolve_sub (parts s))
  have h2 := jn_parts s
  unfold joined
  split
  · simp
  · omega

-- Directories: with a slash at the end; above; below.
def ended (d : Bs) : Bs := if d.getLast? = some 47 then d else d ++ [47]
def under (d s : Bs) : Bool := (ended d).isPrefixOf s && decide ((ended d).length < s.length)
theorem ended_len (d : Bs) : d.length ≤ (ended d).length := by unfold ended; split <;> simp
theorem under_self (s : Bs) : under s s = false := by
  have := ended_len s
  unfold under
  rw [decide_eq_false (by omega)]; simp
theorem under_lt {d s : Bs} (h : under d s = true) : d.length < s.length := by
  have := ended_len d
  unfold under at h
  simp only [Bool.and_eq_true, decide_eq_true_eq] at h
  omega
theorem under_one {d s : Bs} (h : under d s = true) : under s d = false := by
  have h1 := under_lt h
  cases h2 : under s d with
  | false => rfl
  | true => have := under_lt h2; omega
theorem jn_last (ps : List Bs) (h : ∀ p ∈ ps, good p) (hne : ps ≠ []) : (jn ps).getLast? ≠ some 47 := by
  obtain ⟨q, p, rfl⟩ : ∃ q p, ps = q ++ [p] := ⟨ps.dropLast, ps.getLast hne, (List.dropLast_concat_getLast hne).symm⟩
  have hp := h p (by simp)
  rw [jn_append, jn, jn, List.append_nil, List.getLast?_append]
  intro hc
  cases hl : (47 :: p).getLast? with
  | none => simp at hl
  | some x =>
    rw [hl] at hc
    simp at hc
    subst hc
    have e : (47 :: p).getLast? = p.getLast? := by
      cases p with
      | nil => exact absurd rfl hp.1
      | cons a b => rw [List.getLast?_cons_cons]
    rw [e] at hl
    exact hp.2 (List.mem_of_getLast? hl)
theorem ended_joined (ps : List Bs) (h : ∀ p ∈ ps, good p) : ended (joined ps) = jn ps ++ [47] := by
  unfold ended joined
  by_cases hne : ps = []
  · subst hne; simp [jn]
  · rw [if_neg hne, if_neg (jn_last ps h hne)]
theorem joined_next (ps : List Bs) (p : Bs) (h : ∀ q ∈ ps, good q) : ended (joined ps) ++ p = joined (ps ++ [p]) := by
  rw [ended_joined ps h]
  unfold joined
  rw [if_neg (by simp), jn_append]
  simp [jn]
theorem joined_le {a b : List Bs} (h : a.Sublist b) : (joined a).length ≤ (joined b).length := by
  have := jn_sub h
  unfold joined
  split
  · split
    · simp
    · rename_i hb
      cases b with
      | nil => exact absurd rfl hb
      | cons p b => simp [jn]
  · split
    · rename_i ha hb; subst hb; simp at h; exact absurd h ha
    · exact this
theorem right_take {s : Bs} (h : right s = true) (i : Nat) : right (joined ((parts s).take i)) = true := by
  obtain ⟨e, hg, hd, ha, hl⟩ := right_parts h
  have hm : ∀ p, p ∈ (parts s).take i → p ∈ parts s := fun p hp => List.mem_of_mem_take hp
  refine decide_eq_true (cleanE_joined _ (fun p hp => hg p (hm p hp)) (fun p hp => hd p (hm p hp)) (fun p hp => ha p (hm p hp)) ?_)
  have := joined_le (List.take_sublist i (parts s))
  rw [← e] at this
  omega
theorem under_take {s : Bs} (h : right s = true) (i : Nat) (hi : i < (parts s).length) : under (joined ((parts s).take i)) s = true := by
  obtain ⟨e, hg, _, _, _⟩ := right_parts h
  have hm : ∀ p, p ∈ (parts s).take i → p ∈ parts s := fun p hp => List.mem_of_mem_take hp
  obtain ⟨p, r, hpr⟩ : ∃ p r, (parts s).drop i = p :: r := by
    cases hdr : (parts s).drop i with
    | nil => have := congrArg List.length hdr; simp at this; omega
    | cons p r => exact ⟨p, r, rfl⟩
  have hpg : good p := hg p (List.mem_of_mem_drop (by rw [hpr]; simp))
  have hs : s = jn ((parts s).take i) ++ 47 :: (p ++ jn r) := by
    have hne : parts s ≠ [] := by intro e0; rw [e0] at hi; simp at hi
    have e1 : s = jn (parts s) := by rw [joined, if_neg hne] at e; exact e
    have e2 : jn (parts s) = jn ((parts s).take i) ++ jn ((parts s).drop i) := by rw [← jn_append, List.take_append_drop]
    rw [hpr, jn] at e2
    exact e1.trans e2
  unfold under
  rw [ended_joined _ (fun p hp => hg p (hm p hp))]
  have hlen : 0 < p.length := by
    cases p with
    | nil => exact absurd rfl hpg.1
    | cons _ _ => simp
  have e3 : s = (jn ((parts s).take i) ++ [47]) ++ (p ++ jn r) := by rw [List.append_assoc]; exact hs
  generalize jn ((parts s).take i) = J at e3
  subst e3
  simp only [Bool.and_eq_true, decide_eq_true_eq]
  exact ⟨by simp, by simp; omega⟩
end Go.Proofs.YtnfhccnicojdcaaGreatDoor
