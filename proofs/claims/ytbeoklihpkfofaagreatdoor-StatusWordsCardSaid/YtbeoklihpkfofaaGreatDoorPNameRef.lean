/-
  Paths as lists of bytes: parts, what is left of them, the text in one form; nothing of the program. The small functions of path (alnum, printable, ended, Join, Under and the tests of parts) and the reference's Join and Under, each by what it returns for every argument; the world stays as it was. path.alnum, printable, Name and the reference's Name: what each returns for every argument; the world stays as it was. The reference's Name: what it returns for every argument; the world stays as it was.
-/
import Derived.Lib.SplitLaws
import Derived.Lib.Join
import Derived.Lib.LastIndexLaws
import Derived.Test.YtbeoklihpkfofaaGreatDoorShelf
import Derived.WalkKit
import Derived.Lib.Hide
import Derived.WalkSmall
import Derived.Lib.OwnBridge
namespace Go.Proofs.YtbeoklihpkfofaaGreatDoor
open Go.Lib

abbrev Bs := List UInt8
def pieces (u : Bs) : Bs → List Bs
  | [] => [u]
  | c :: l => if c = 47 then u :: pieces [] l else pieces (u ++ [c]) l
def parts0 (u : Bs) : Bs → List Bs
  | [] => if u = [] then [] else [u]
  | c :: l => if c = 47 then (if u = [] then parts0 [] l else u :: parts0 [] l) else parts0 (u ++ [c]) l
def parts (s : Bs) : List Bs := parts0 [] s

theorem parts0_filter (l : Bs) : ∀ u, (pieces u l).filter (· ≠ []) = parts0 u l := by
  induction l with
  | nil => intro u; by_cases h : u = [] <;> simp [pieces, parts0, h]
  | cons c l ih =>
    intro u
    by_cases hc : c = 47
    · by_cases hu : u = []
      · simp only [pieces, parts0, hc, if_pos, hu]; rw [List.filter_cons, ih]; simp
      · simp only [pieces, parts0, hc, if_pos, if_neg hu]; rw [List.filter_cons, ih]; simp [hu]
    · simp only [pieces, parts0, if_neg hc]; exact ih _

theorem index_no (a : Bs) (h : (47 : UInt8) ∉ a) : index a [47] = -1 := by
  induction a with
  | nil => simp [index]
  | cons b l ih =>
    simp only [List.mem_cons, not_or] at h
    have hp : ([47] : List UInt8).isPrefixOf (b :: l) = false := by simp [List.isPrefixOf, h.1]
    rw [index, hp, ih h.2]; simp
theorem index_at (a r : Bs) (h : (47 : UInt8) ∉ a) : index (a ++ 47 :: r) [47] = (a.length : Int) := by
  induction a with
  | nil => simp [index, List.isPrefixOf]
  | cons b l ih =>
    simp only [List.mem_cons, not_or] at h
    have hp : ([47] : List UInt8).isPrefixOf (b :: l ++ 47 :: r) = false := by simp [List.isPrefixOf, h.1]
    rw [List.cons_append, index, ← List.cons_append, hp, ih h.2]
    have : ¬ ((l.length : Int) == -1) = true := by simp
    simp [this]
theorem pieces_no (a : Bs) (h : (47 : UInt8) ∉ a) : ∀ u, pieces u a = [u ++ a] := by
  induction a with
  | nil => intro u; simp [pieces]
  | cons b l ih =>
    intro u
    simp only [List.mem_cons, not_or] at h
    rw [pieces, if_neg (fun e => h.1 e.symm), ih h.2]; simp
theorem pieces_at (a r : Bs) (h : (47 : UInt8) ∉ a) : ∀ u, pieces u (a ++ 47 :: r) = (u ++ a) :: pieces [] r := by
  induction a with
  | nil => intro u; simp [pieces]
  | cons b l ih =>
    intro u
    simp only [List.mem_cons, not_or] at h
    rw [List.cons_append, pieces, if_neg (fun e => h.1 e.symm), ih h.2]; simp
theorem cut_at (s : Bs) : (47 : UInt8) ∉ s ∨ ∃ a r, (47 : UInt8) ∉ a ∧ s = a ++ 47 :: r := by
  induction s with
  | nil => left; simp
  | cons b l ih =>
    by_cases hb : b = 47
    · right; exact ⟨[], l, by simp, by simp [hb]⟩
    · rcases ih with h | ⟨a, r, h, rfl⟩
      · left; simp only [List.mem_cons, not_or]; exact ⟨fun e => hb e.symm, h⟩
      · right; exact ⟨b :: a, r, by simp only [List.mem_cons, not_or]; exact ⟨fun e => hb e.symm, h⟩, by simp⟩
theorem split_pieces : ∀ (n : Nat) (s : Bs), s.length ≤ n → splitK [47] 0 (count s [47]) s = pieces [] s
  | n, s, hn => by
    rcases cut_at s with h | ⟨a, r, h, rfl⟩
    · rw [count_miss (index_no s h), pieces_no s h]; simp [splitK]
    · match n with
      | 0 => simp at hn
      | n + 1 =>
        have hi := index_at a r h
        have e : a ++ 47 :: r = (a ++ [47]) ++ r := by simp
        have hd : List.drop (a.length + 1) (a ++ 47 :: r) = r := by rw [e]; exact List.drop_left' (by simp)
        rw [count_hit (by simp) hi, pieces_at a r h]
        simp only [List.length_cons, List.length_nil, Nat.zero_add]
        rw [hd, Nat.add_comm, splitK, hi]
        have : ¬ ((a.length : Int) == -1) = true := by simp
        rw [if_neg this]
        simp only [Int.toNat_natCast, Nat.add_zero, List.length_cons, List.length_nil, Nat.zero_add]
        rw [hd, split_pieces n r (by simp at hn; omega)]
        simp
theorem parts_split (s : Bs) : (splitK [47] 0 (count s [47]) s).filter (· ≠ []) = parts s := by rw [split_pieces _ s (Nat.le_refl _), parts0_filter]; rfl

-- Joined
def jn : List Bs → Bs
  | [] => []
  | p :: ps => 47 :: (p ++ jn ps)
def joined (ps : List Bs) : Bs := if ps = [] then [47] else jn ps
theorem jn_append (a b : List Bs) : jn (a ++ b) = jn a ++ jn b := by
  induction a with
  | nil => rfl
  | cons p a ih => simp [jn, ih]
theorem jn_tail (ps : List Bs) : joinTail [47] ps = jn ps := by
  induction ps with
  | nil => rfl
  | cons p ps ih => simp [joinTail, jn] at ih ⊢; exact ih
theorem joined_join (ps : List Bs) : 47 :: join ps [47] = joined ps := by
  cases ps with
  | nil => rfl
  | cons p ps => rw [join_cons, jn_tail]; simp [joined, jn]
theorem jn_sub {a b : List Bs} (h : a.Sublist b) : (jn a).length ≤ (jn b).length := by
  induction h with
  | slnil => simp
  | cons p _ ih => simp [jn]; omega
  | cons_cons p _ ih => simp [jn]; omega
theorem jn_parts0 (l : Bs) : ∀ u, (jn (parts0 u l)).length ≤ u.length + l.length + 1 := by
  induction l with
  | nil => intro u; unfold parts0; split <;> simp [jn]
  | cons c l ih =>
    intro u
    unfold parts0
    split
    · split
      · have := ih []; simp at this ⊢; omega
      · have := ih []; simp [jn] at this ⊢; omega
    · have := ih (u ++ [c]); simp at this ⊢; omega
theorem jn_parts (s : Bs) : (jn (parts s)).length ≤ s.length + 1 := by have := jn_parts0 s []; simpa [parts] using this
theorem len_le_jn (ps : List Bs) : ps.length ≤ (jn ps).length := by
  induction ps with
  | nil => simp
  | cons p ps ih => simp [jn]; omega
theorem parts_len (s : Bs) : (parts s).length ≤ s.length + 1 := Nat.le_trans (len_le_jn _) (jn_parts s)
theorem mem_len {p : Bs} {ps : List Bs} (h : p ∈ ps) : p.length ≤ (jn ps).length := by
  induction ps with
  | nil => cases h
  | cons q ps ih =>
    rcases List.mem_cons.1 h with rfl | h
    · simp [jn]; omega
    · have := ih h; simp [jn]; omega

-- Resolved
def rstep (out : List Bs) (p : Bs) : List Bs := if p = [46, 46] then out.dropLast else if p = [46] then out else out ++ [p]
def resolve (ps : List Bs) : List Bs := ps.foldl rstep []
theorem foldl_filter (ps : List Bs) : ∀ out, (ps.filter (· ≠ [46])).foldl rstep out = ps.foldl rstep out := by
  induction ps with
  | nil => intro out; rfl
  | cons p ps ih =>
    intro out
    by_cases h : p = [46]
    · subst h
      have e : rstep out [46] = out := by simp [rstep]
      rw [List.filter_cons_of_neg (by simp), ih, List.foldl_cons, e]
    · rw [List.filter_cons_of_pos (by simpa using h), List.foldl_cons, List.foldl_cons, ih]
theorem rstep_sub {out : List Bs} {pre : List Bs} (h : out.Sublist pre) (p : Bs) : (rstep out p).Sublist (pre ++ [p]) := by
  unfold rstep
  split
  · exact (List.dropLast_sublist _).trans (h.trans (List.sublist_append_left _ _))
  · split
    · exact h.trans (List.sublist_append_left _ _)
    · exact h.append (List.Sublist.refl _)
theorem foldl_sub (ps : List Bs) : ∀ (out pre : List Bs), out.Sublist pre → (ps.foldl rstep out).Sublist (pre ++ ps) := by
  induction ps with
  | nil => intro out pre h; simpa using h
  | cons p ps ih => intro out pre h; rw [List.foldl_cons]; have := ih _ _ (rstep_sub h p); simpa using this
theorem resolve_sub (ps : List Bs) : (resolve ps).Sublist ps := by simpa [resolve] using foldl_sub ps [] [] (List.Sublist.refl _)
theorem foldl_dots (ps : List Bs) : ∀ out : List Bs, (∀ p ∈ out, p ≠ [46] ∧ p ≠ [46, 46]) → ∀ p ∈ ps.foldl rstep out, p ≠ [46] ∧ p ≠ [46, 46] := by
  induction ps with
  | nil => intro out h; exact h
  | cons q ps ih =>
    intro out h
    refine ih _ ?_
    intro p hp
    unfold rstep at hp
    split at hp
    · exact h p ((List.dropLast_sublist _).mem hp)
    · split at hp
      · exact h p hp
      · rcases List.mem_append.1 hp with hp | hp
        · exact h p hp
        · obtain rfl : p = q := by simpa using hp
          exact ⟨by assumption, by assumption⟩
theorem resolve_dots (ps : List Bs) : ∀ p ∈ resolve ps, p ≠ [46] ∧ p ≠ [46, 46] := foldl_dots ps [] (by simp)
theorem foldl_id (ps : List Bs) (h : ∀ p ∈ ps, p ≠ [46] ∧ p ≠ [46, 46]) : ∀ out, ps.foldl rstep out = out ++ ps := by
  induction ps with
  | nil => intro out; simp
  | cons p ps ih =>
    intro out
    have hp := h p (by simp)
    rw [List.foldl_cons, ih (fun q hq => h q (by simp [hq]))]
    simp [rstep, hp.1, hp.2]
theorem resolve_id (ps : List Bs) (h : ∀ p ∈ ps, p ≠ [46] ∧ p ≠ [46, 46]) : resolve ps = ps := by simpa [resolve] using foldl_id ps h []

-- Parts are no empty texts without slashes.
def good (p : Bs) : Prop := p ≠ [] ∧ (47 : UInt8) ∉ p
theorem parts0_good (l : Bs) : ∀ u, (47 : UInt8) ∉ u → ∀ p ∈ parts0 u l, good p ∧ ∀ x ∈ p, x ∈ u ∨ x ∈ l := by
  induction l with
  | nil =>
    intro u hu p hp
    unfold parts0 at hp
    split at hp
    · cases hp
    · obtain rfl : p = u := by simpa using hp
      exact ⟨⟨by assumption, hu⟩, fun x hx => .inl hx⟩
  | cons c l ih =>
    intro u hu p hp
    unfold parts0 at hp
    split at hp
    · split at hp
      · have := ih [] (by simp) p hp
        exact ⟨this.1, fun x hx => by rcases this.2 x hx with h | h; · cases h
                                      · exact .inr (List.mem_cons_of_mem _ h)⟩
      · rcases List.mem_cons.1 hp with rfl | hp
        · exact ⟨⟨by assumption, hu⟩, fun x hx => .inl hx⟩
        · have := ih [] (by simp) p hp
          exact ⟨this.1, fun x hx => by rcases this.2 x hx with h | h; · cases h
                                        · exact .inr (List.mem_cons_of_mem _ h)⟩
    · rename_i hc
      have := ih (u ++ [c]) (by simp only [List.mem_append, List.mem_singleton, not_or]; exact ⟨hu, fun e => hc e.symm⟩) p hp
      refine ⟨this.1, fun x hx => ?_⟩
      rcases this.2 x hx with h | h
      · rcases List.mem_append.1 h with h | h
        · exact .inl h
        · right; rw [List.mem_singleton.1 h]; simp
      · exact .inr (List.mem_cons_of_mem _ h)
theorem parts_good (s : Bs) : ∀ p ∈ parts s, good p ∧ ∀ x ∈ p, x ∈ s := fun p hp => by
  have := parts0_good s [] (by simp) p hp
  exact ⟨this.1, fun x hx => by simpa using this.2 x hx⟩
theorem parts0_run (p : Bs) (h : (47 : UInt8) ∉ p) : ∀ u l, parts0 u (p ++ l) = parts0 (u ++ p) l := by
  induction p with
  | nil => intro u l; simp
  | cons c p ih =>
    intro u l
    simp only [List.mem_cons, not_or] at h
    rw [List.cons_append, parts0, if_neg (fun e => h.1 e.symm), ih h.2]; simp
theorem parts0_jn (ps : List Bs) (h : ∀ p ∈ ps, good p) : ∀ u, (47 : UInt8) ∉ u → parts0 u (jn ps) = (if u = [] then [] else [u]) ++ ps := by
  induction ps with
  | nil => intro u _; simp [jn, parts0]
  | cons p ps ih =>
    intro u hu
    have hp := h p (by simp)
    have := ih (fun q hq => h q (by simp [hq])) p hp.2
    rw [if_neg hp.1] at this
    rw [jn, parts0, if_pos rfl, parts0_run p hp.2]
    rw [List.nil_append, this]
    split <;> simp
theorem parts_joined (ps : List Bs) (h : ∀ p ∈ ps, good p) : parts (joined ps) = ps := by
  unfold joined
  split
  · rename_i e; subst e; simp [parts, parts0]
  · have := parts0_jn ps h [] (by simp); simpa [parts] using this

-- The one form, or the error's number.
def okb (c : UInt8) : Bool := decide (33 ≤ c.toNat) && decide (c.toNat ≤ 126)
def cleanE (s : Bs) : Bs × Int :=
  if s.head? = some 47 ∧ s.all okb = true then (if 200 < (joined (resolve (parts s))).length then ([], 8) else (joined (resolve (parts s)), 0)) else ([], 1)
def right (s : Bs) : Bool := decide (cleanE s = (s, 0))
theorem joined_all (ps : List Bs) (h : ∀ p ∈ ps, p.all okb = true) : (joined ps).all okb = true := by
  have : ∀ ps : List Bs, (∀ p ∈ ps, p.all okb = true) → (jn ps).all okb = true := by
    intro ps
    induction ps with
    | nil => intro _; rfl
    | cons p ps ih =>
      intro h
      rw [jn, List.all_cons, List.all_append, h p (by simp), ih (fun q hq => h q (by simp [hq]))]
      decide
  unfold joined
  split
  · decide
  · exact this ps h
theorem joined_head (ps : List Bs) : (joined ps).head? = some 47 := by
  cases ps with
  | nil => rfl
  | cons p ps => simp [joined, jn]
theorem cleanE_joined (ps : List Bs) (hg : ∀ p ∈ ps, good p) (hd : ∀ p ∈ ps, p ≠ [46] ∧ p ≠ [46, 46]) (ha : ∀ p ∈ ps, p.all okb = true) (hl : (joined ps).length ≤ 200) : cleanE (joined ps) = (joined ps, 0) := by
  unfold cleanE
  rw [parts_joined ps hg, resolve_id ps hd, if_pos ⟨joined_head ps, joined_all ps ha⟩, if_neg (by omega)]
theorem cleanE_zero {s a : Bs} (h : cleanE s = (a, 0)) : a = joined (resolve (parts s)) ∧ s.all okb = true ∧ a.length ≤ 200 := by
  unfold cleanE at h
  split at h
  · rename_i hc
    split at h
    · simp at h
    · simp at h; subst h; exact ⟨rfl, hc.2, by omega⟩
  · simp at h
theorem cleaned {s a : Bs} (h : cleanE s = (a, 0)) : ∃ ps, a = joined ps ∧ (∀ p ∈ ps, good p) ∧ (∀ p ∈ ps, p ≠ [46] ∧ p ≠ [46, 46]) ∧ (∀ p ∈ ps, p.all okb = true) ∧ (joined ps).length ≤ 200 := by
  obtain ⟨e, hall, hl⟩ := cleanE_zero h
  refine ⟨resolve (parts s), e, fun p hp => (parts_good s p ((resolve_sub _).mem hp)).1, resolve_dots _, fun p hp => ?_, by rw [← e]; exact hl⟩
  rw [List.all_eq_true] at hall ⊢
  exact fun x hx => hall x ((parts_good s p ((resolve_sub _).mem hp)).2 x hx)
theorem clean_right {s a : Bs} (h : cleanE s = (a, 0)) : right a = true := by
  obtain ⟨ps, rfl, hg, hd, ha, hl⟩ := cleaned h
  exact decide_eq_true (cleanE_joined ps hg hd ha hl)
theorem right_parts {s : Bs} (h : right s = true) : s = joined (parts s) ∧ (∀ p ∈ parts s, good p) ∧ (∀ p ∈ parts s, p ≠ [46] ∧ p ≠ [46, 46]) ∧ (∀ p ∈ parts s, p.all okb = true) ∧ s.length ≤ 200 := by
  have h' : cleanE s = (s, 0) := of_decide_eq_true h
  obtain ⟨ps, e, hg, hd, ha, hl⟩ := cleaned h'
  have hp : parts s = ps := by rw [e]; exact parts_joined ps hg
  rw [hp, ← e] at *
  exact ⟨rfl, hg, hd, ha, hl⟩
theorem clean_len (s : Bs) : (joined (resolve (parts s))).length ≤ s.length + 1 := by
  have h1 := jn_sub (resolve_sub (parts s))
  have h2 := jn_parts s
  unfold joined
  split
  · simp
  · omega

-- Directories: with a slash at the end; above; below.
def ended (d : Bs) : Bs := if d.getLast? = some 47 then d else d ++ [47]
def under (d s : Bs) : Bool := (ended d).isPrefixOf s && decide ((ended d).length < s.length)
theorem ended_len (d : Bs) : d.length ≤ (ended d).length := by unfold ended; split <;> simp
theorem under_self (s : Bs) : under s s = false := by
  have := ended_len s
  unfold under
  rw [decide_eq_false (by omega)]; simp
theorem under_lt {d s : Bs} (h : under d s = true) : d.length < s.length := by
  have := ended_len d
  unfold under at h
  simp only [Bool.and_eq_true, decide_eq_true_eq] at h
  omega
theorem under_one {d s : Bs} (h : under d s = true) : under s d = false := by
  have h1 := under_lt h
  cases h2 : under s d with
  | false => rfl
  | true => have := under_lt h2; omega
theorem jn_last (ps : List Bs) (h : ∀ p ∈ ps, good p) (hne : ps ≠ []) : (jn ps).getLast? ≠ some 47 := by
  obtain ⟨q, p, rfl⟩ : ∃ q p, ps = q ++ [p] := ⟨ps.dropLast, ps.getLast hne, (List.dropLast_concat_getLast hne).symm⟩
  have hp := h p (by simp)
  rw [jn_append, jn, jn, List.append_nil, List.getLast?_append]
  intro hc
  cases hl : (47 :: p).getLast? with
  | none => simp at hl
  | some x =>
    rw [hl] at hc
    simp at hc
    subst hc
    have e : (47 :: p).getLast? = p.getLast? := by
      cases p with
      | nil => exact absurd rfl hp.1
      | cons a b => rw [List.getLast?_cons_cons]
    rw [e] at hl
    exact hp.2 (List.mem_of_getLast? hl)
theorem ended_joined (ps : List Bs) (h : ∀ p ∈ ps, good p) : ended (joined ps) = jn ps ++ [47] := by
  unfold ended joined
  by_cases hne : ps = []
  · subst hne; simp [jn]
  · rw [if_neg hne, if_neg (jn_last ps h hne)]
theorem joined_next (ps : List Bs) (p : Bs) (h : ∀ q ∈ ps, good q) : ended (joined ps) ++ p = joined (ps ++ [p]) := by
  rw [ended_joined ps h]
  unfold joined
  rw [if_neg (by simp), jn_append]
  simp [jn]
theorem joined_le {a b : List Bs} (h : a.Sublist b) : (joined a).length ≤ (joined b).length := by
  have := jn_sub h
  unfold joined
  split
  · split
    · simp
    · rename_i hb
      cases b with
      | nil => exact absurd rfl hb
      | cons p b => simp [jn]
  · split
    · rename_i ha hb; subst hb; simp at h; exact absurd h ha
    · exact this
theorem right_take {s : Bs} (h : right s = true) (i : Nat) : right (joined ((parts s).take i)) = true := by
  obtain ⟨e, hg, hd, ha, hl⟩ := right_parts h
  have hm : ∀ p, p ∈ (parts s).take i → p ∈ parts s := fun p hp => List.mem_of_mem_take hp
  refine decide_eq_true (cleanE_joined _ (fun p hp => hg p (hm p hp)) (fun p hp => hd p (hm p hp)) (fun p hp => ha p (hm p hp)) ?_)
  have := joined_le (List.take_sublist i (parts s))
  rw [← e] at this
  omega
theorem under_take {s : Bs} (h : right s = true) (i : Nat) (hi : i < (parts s).length) : under (joined ((parts s).take i)) s = true := by
  obtain ⟨e, hg, _, _, _⟩ := right_parts h
  have hm : ∀ p, p ∈ (parts s).take i → p ∈ parts s := fun p hp => List.mem_of_mem_take hp
  obtain ⟨p, r, hpr⟩ : ∃ p r, (parts s).drop i = p :: r := by
    cases hdr : (parts s).drop i with
    | nil => have := congrArg List.length hdr; simp at this; omega
    | cons p r => exact ⟨p, r, rfl⟩
  have hpg : good p := hg p (List.mem_of_mem_drop (by rw [hpr]; simp))
  have hs : s = jn ((parts s).take i) ++ 47 :: (p ++ jn r) := by
    have hne : parts s ≠ [] := by intro e0; rw [e0] at hi; simp at hi
    have e1 : s = jn (parts s) := by rw [joined, if_neg hne] at e; exact e
    have e2 : jn (parts s) = jn ((parts s).take i) ++ jn ((parts s).drop i) := by rw [← jn_append, List.take_append_drop]
    rw [hpr, jn] at e2
    exact e1.trans e2
  unfold under
  rw [ended_joined _ (fun p hp => hg p (hm p hp))]
  have hlen : 0 < p.length := by
    cases p with
    | nil => exact absurd rfl hpg.1
    | cons _ _ => simp
  have e3 : s = (jn ((parts s).take i) ++ [47]) ++ (p ++ jn r) := by rw [List.append_assoc]; exact hs
  generalize jn ((parts s).take i) = J at e3
  subst e3
  simp only [Bool.and_eq_true, decide_eq_true_eq]
  exact ⟨by simp, by simp; omega⟩
end Go.Proofs.YtbeoklihpkfofaaGreatDoor
namespace Go.Proofs.YtbeoklihpkfofaaGreatDoor
open Go.RowKit Go.Sort
theorem str_of {x : ByteArray} {l : Bs} (h : x.data.toList = l) : x = ⟨l.toArray⟩ := by subst h; simp
theorem ret_bool {a b : Bool} (h : a = b) : Ending.returned (.bool a) = Ending.returned (.bool b) := congrArg (fun b => Ending.returned (.bool b)) h
theorem ne_empty (x : ByteArray) : (!x.toList.isEmpty) = decide (x.data.toList ≠ []) := by rw [ByteArray.toList_eq]; cases x.data.toList <;> simp
theorem ne_text (x : ByteArray) (l : Bs) : (!x.toList == l) = decide (x.data.toList ≠ l) := by
  rw [ByteArray.toList_eq]; by_cases h : x.data.toList = l <;> simp [h]
theorem suf_eq (l : Bs) : Lib.hasSuffix l [47] = decide (l.getLast? = some 47) := by
  rcases List.eq_nil_or_concat l with rfl | ⟨a, b, rfl⟩
  · decide
  · rw [Bool.eq_iff_iff]
    unfold Lib.hasSuffix
    rw [List.isSuffixOf_iff_suffix]
    simp only [List.concat_eq_append, List.getLast?_append, List.getLast?_singleton, Option.some_or, Option.some.injEq, decide_eq_true_eq]
    constructor
    · rintro ⟨t, ht⟩
      have := congrArg List.getLast? ht
      simpa using this.symm
    · rintro rfl
      exact ⟨a, rfl⟩
theorem ended_size (d : ByteArray) (E : ByteArray) (h : E.data.toList = ended d.data.toList) : E.size ≤ d.size + 1 := by
  rw [Lib.size_eq, Lib.size_eq, h]; unfold ended; split <;> simp
theorem nonempty_any (x : ByteArray) (w : World) : Calls Tryz.prog 163 #[.string x] w fun e w' => e = .returned (.bool (decide (x.data.toList ≠ []))) ∧ w = w' := by
  go_enter Tryz.func163, Tryz.ntmps163
  go_wp2
  go_ret
  exact ⟨ret_bool (ne_empty x), rfl⟩
theorem nodot_any (x : ByteArray) (w : World) : Calls Tryz.prog 162 #[.string x] w fun e w' => e = .returned (.bool (decide (x.data.toList ≠ [46]))) ∧ w = w' := by
  go_enter Tryz.func162, Tryz.ntmps162
  go_wp2
  go_ret
  exact ⟨ret_bool (ne_text x _), rfl⟩
theorem last_eq (d : ByteArray) (_ : 0 < d.size) (hp : d.size - 1 < d.size) : d.data.toList.getLast? = some d[d.size - 1] := by
  rw [List.getLast?_eq_getElem?]
  have : d.data.toList.length = d.size := Lib.size_eq d ▸ rfl
  rw [this, List.getElem?_eq_getElem (by omega)]
  simp
  rfl
theorem last_none (d : ByteArray) (h : d.size = 0) : d.data.toList.getLast? = none := by
  have : d.data.toList.length = d.size := Lib.size_eq d ▸ rfl
  rw [List.getLast?_eq_none_iff]
  exact List.eq_nil_of_length_eq_zero (by omega)
theorem ended_yes {d : ByteArray} (h0 : 0 < d.size) (hp : d.size - 1 < d.size) (hc : d[d.size - 1] = 47) : ended d.data.toList = d.data.toList := by
  rw [ended, if_pos (by rw [last_eq d h0 hp, hc])]
theorem ended_no {d : ByteArray} (h0 : 0 < d.size) (hp : d.size - 1 < d.size) (hc : ¬ d[d.size - 1] = 47) : ended d.data.toList = d.data.toList ++ [47] := by
  rw [ended, if_neg (by rw [last_eq d h0 hp]; simpa using hc)]
theorem ended_nil {d : ByteArray} (h0 : d.size = 0) : ended d.data.toList = d.data.toList ++ [47] := by
  rw [ended, if_neg (by rw [last_none d h0]; simp)]
theorem is47 {x : UInt8} (h : x = 47) : (x.toNat : Int) = 47 := by rw [h]; rfl
theorem not47 {x : UInt8} (h : ¬ x = 47) : ¬ (x.toNat : Int) = 47 := fun e => h (UInt8.toNat_inj.1 (by show x.toNat = 47; omega))
theorem pre_eq (s E : ByteArray) : ((s.extract 0 E.size).toList == E.toList) = E.data.toList.isPrefixOf s.data.toList := by
  have e1 : (s.extract 0 E.size).data.toList = s.data.toList.take E.data.toList.length := by rw [Lib.extract_from_zero, Lib.size_eq E]
  rw [ByteArray.toList_eq, ByteArray.toList_eq, e1, Bool.eq_iff_iff, List.isPrefixOf_iff_prefix, beq_iff_eq, List.prefix_iff_eq_take]
  exact eq_comm
theorem under_yes {d s E : ByteArray} (hE : E.data.toList = ended d.data.toList) (h : E.size < s.size) : ((s.extract 0 E.size).toList == E.toList) = under d.data.toList s.data.toList := by
  rw [pre_eq s E, under, ← hE, decide_eq_true (by rw [← Lib.size_eq, ← Lib.size_eq]; exact h), Bool.and_true]
theorem under_no {d s E : ByteArray} (hE : E.data.toList = ended d.data.toList) (h : ¬ E.size < s.size) : false = under d.data.toList s.data.toList := by
  rw [under, ← hE, decide_eq_false (by rw [← Lib.size_eq, ← Lib.size_eq]; exact h), Bool.and_false]
end Go.Proofs.YtbeoklihpkfofaaGreatDoor
namespace Go.Proofs.YtbeoklihpkfofaaGreatDoor
open Go.RowKit Go.Sort
def alB (c : UInt8) : Bool := decide (97 ≤ c.toNat) && decide (c.toNat ≤ 122) || decide (48 ≤ c.toNat) && decide (c.toNat ≤ 57)
def markB (c : UInt8) : Bool := c == 43 || c == 45 || c == 46
def inB (c : UInt8) : Bool := alB c || markB c
def headB : Bs → Bool
  | [] => false
  | c :: _ => alB c
def nameB (l : Bs) : Bool := decide (1 ≤ l.length) && decide (l.length ≤ 60) && headB l && l.all inB
theorem take_snoc (s : ByteArray) (k : Nat) (h : k < s.size) : s.data.toList.take (k + 1) = s.data.toList.take k ++ [s[k]] := by
  have hl : k < s.data.toList.length := by rw [← Lib.size_eq]; exact h
  rw [List.take_add_one, List.getElem?_eq_getElem hl]
  simp; rfl
theorem all_false {l : Bs} {f : UInt8 → Bool} (k : Nat) (x : UInt8) (h : x ∈ l.take k) (hf : f x = false) : l.all f = false := by
  rw [List.all_eq_false]
  exact ⟨x, List.mem_of_mem_take h, by simp [hf]⟩
theorem all_next {s : ByteArray} {f : UInt8 → Bool} {k : Nat} (h : k < s.size) (ha : (s.data.toList.take k).all f = true) (hf : f s[k] = true) : (s.data.toList.take (k + 1)).all f = true := by
  rw [take_snoc s k h, List.all_append, ha]; simp [hf]
theorem all_stop {s : ByteArray} {f : UInt8 → Bool} {k : Nat} (h : k < s.size) (hf : f s[k] = false) : s.data.toList.all f = false :=
  all_false (k + 1) s[k] (by rw [take_snoc s k h]; simp) hf
theorem all_done {s : ByteArray} {f : UInt8 → Bool} (ha : (s.data.toList.take s.size).all f = true) : s.data.toList.all f = true := by
  rwa [List.take_of_length_le (by rw [← Lib.size_eq]; exact Nat.le_refl _)] at ha
theorem alnum_any (c : UInt8) (w : World) : Calls Tryz.prog 69 #[.int .u8 c.toNat] w fun e w' => e = .returned (.bool (alB c)) ∧ w = w' := by
  have hc := c.toNat_lt
  obtain ⟨B, HB⟩ : ∃ B, Hid (alB c = B) := ⟨_, rfl⟩
  rw [HB.out]
  unfold alB at HB
  generalize c.toNat = n at *
  by_cases h1 : 97 ≤ n
  · by_cases h2 : n ≤ 122
    · go_enter Tryz.func69, Tryz.ntmps69
      go_wp2
      go_ret
      exact ⟨ret_bool (by rw [← HB.out, Bool.eq_iff_iff]; simp only [Bool.or_eq_true, Bool.and_eq_true, decide_eq_true_eq, true_iff]; omega), rfl⟩
    · go_enter Tryz.func69, Tryz.ntmps69
      go_wp2
      go_ret
      exact ⟨ret_bool (by rw [← HB.out, Bool.eq_iff_iff]; simp only [Bool.or_eq_true, Bool.and_eq_true, decide_eq_true_eq]; omega), rfl⟩
  · by_cases h3 : 48 ≤ n
    · go_enter Tryz.func69, Tryz.ntmps69
      go_wp2
      go_ret
      exact ⟨ret_bool (by rw [← HB.out, Bool.eq_iff_iff]; simp only [Bool.or_eq_true, Bool.and_eq_true, decide_eq_true_eq]; omega), rfl⟩
    · go_enter Tryz.func69, Tryz.ntmps69
      go_wp2
      go_ret
      exact ⟨ret_bool (by rw [← HB.out, Bool.eq_iff_iff]; simp only [Bool.or_eq_true, Bool.and_eq_true, decide_eq_true_eq, Bool.false_eq_true, false_iff]; omega), rfl⟩
set_option maxHeartbeats 1000000 in
theorem printable_any (s : ByteArray) (hs : s.size ≤ 4000) (w : World) : Calls Tryz.prog 118 #[.string s] w fun e w' => e = .returned (.bool (s.data.toList.all okb)) ∧ w = w' := by
  obtain ⟨B, HB⟩ : ∃ B, Hid (s.data.toList.all okb = B) := ⟨_, rfl⟩
  rw [HB.out]
  go_enter Tryz.func118, Tryz.ntmps118
  go_wp2
  go_loop [6] (fun i => ∃ k : Nat, k ≤ s.size ∧ i = .int .i64 k ∧ Hid ((s.data.toList.take k).all okb = true)) (fun i => s.size - (intOf i).toNat)
  case atStart => exact ⟨0, by omega, rfl, Lib.hid (by simp)⟩
  case round =>
    obtain ⟨k, hk, rfl, H⟩ := hrel
    by_cases hlt : k < s.size
    · have hc := s[k].toNat_lt
      by_cases h1 : s[k].toNat < 33
      · have HR : Hid (false = B) := Lib.hid (by rw [← HB.out, all_stop hlt (by unfold okb; rw [decide_eq_false (by omega)]; rfl)])
        go_wp2
        go_ret
        exact ⟨ret_bool HR.out, rfl⟩
      · by_cases h2 : 126 < s[k].toNat
        · have HR : Hid (false = B) := Lib.hid (by rw [← HB.out, all_stop hlt (by unfold okb; rw [decide_eq_false (p := s[k].toNat ≤ 126) (by omega)]; simp)])
          go_wp2
          go_ret
          exact ⟨ret_bool HR.out, rfl⟩
        · have HN : Hid ((s.data.toList.take (k + 1)).all okb = true) := Lib.hid (all_next hlt H.out (by unfold okb; rw [decide_eq_true (by omega), decide_eq_true (by omega)]; rfl))
          go_wp2
          go_round
          case rel => exact ⟨k + 1, by omega, by go_num, HN⟩
          case measure => simp [intOf]; omega
    · obtain rfl : k = s.size := by omega
      have HR : Hid (true = B) := Lib.hid (by rw [← HB.out]; exact (all_done H.out).symm)
      clear hlt
      go_wp2
      go_ret
      exact ⟨ret_bool HR.out, rfl⟩
theorem mark_idx (c : UInt8) : Lib.indexByte (ByteArray.mk #[43, 45, 46]).data.toList (c.toNat : Int).toNat.toUInt8 < 0 ↔ markB c = false := by
  have e : (c.toNat : Int).toNat.toUInt8 = c := by simp
  rw [e]
  unfold markB
  simp only [Lib.indexByte]
  by_cases h1 : c = 43
  · subst h1; decide
  · by_cases h2 : c = 45
    · subst h2; decide
    · by_cases h3 : c = 46
      · subst h3; decide
      · have a1 : ((43 : UInt8) == c) = false := by simp; exact fun h => h1 h.symm
        have a2 : ((45 : UInt8) == c) = false := by simp; exact fun h => h2 h.symm
        have a3 : ((46 : UInt8) == c) = false := by simp; exact fun h => h3 h.symm
        simp [a1, a2, a3, h1, h2, h3]
theorem nat_of_u8 {a b : UInt8} : a = b ↔ a.toNat = b.toNat := UInt8.toNat_inj.symm
set_option maxHeartbeats 2000000 in
theorem name_any (s : ByteArray) (hs : s.size ≤ 4000) (w : World) : Calls Tryz.prog 34 #[.string s] w fun e w' => e = .returned (.bool (nameB s.data.toList)) ∧ w = w' := by
  obtain ⟨B, HB⟩ : ∃ B, Hid (nameB s.data.toList = B) := ⟨_, rfl⟩
  rw [HB.out]
  have hl := Lib.size_eq s
  by_cases h0 : 1 ≤ s.size ∧ s.size ≤ 60
  · obtain ⟨h1, h60⟩ := h0
    have hhd : headB s.data.toList = alB s[0] := by
      have : s.data.toList = s[0] :: s.data.toList.drop 1 := by
        have := List.drop_eq_getElem_cons (l := s.data.toList) (i := 0) (by omega)
        rw [List.drop_zero] at this
        exact this
      rw [this]; rfl
    have HE : Hid ((alB s[0] && s.data.toList.all inB) = B) := Lib.hid (by rw [← HB.out, nameB, decide_eq_true (by omega), decide_eq_true (by omega), hhd]; rfl)
    clear hl hhd
    have C1 := fun c w => alnum_any c w
    cases ha : alB s[0]
    · have HR : Hid (false = B) := Lib.hid (by rw [← HE.out, ha]; rfl)
      have C0 := C1 s[0]
      rw [ha] at C0
      clear ha HE HB C1
      have hc := s[0].toNat_lt
      go_enter Tryz.func34, Tryz.ntmps34
      go_wp2_with (go_at_call 69; refine (C0 _).mono ?_; rintro e w1 ⟨rfl, rfl⟩)
      go_ret
      exact ⟨ret_bool HR.out, rfl⟩
    · have HF : Hid (s.data.toList.all inB = B) := Lib.hid (by rw [← HE.out, ha, Bool.true_and])
      have C0 := C1 s[0]
      rw [ha] at C0
      clear ha HE HB
      have hc := s[0].toNat_lt
      go_enter Tryz.func34, Tryz.ntmps34
      go_wp2_with (go_at_call 69; refine (C0 _).mono ?_; rintro e w1 ⟨rfl, rfl⟩)
      clear C0 hc
      go_loop [20] (fun i => ∃ k : Nat, k ≤ s.size ∧ i = .int .i64 k ∧ Hid ((s.data.toList.take k).all inB = true)) (fun i => s.size - (intOf i).toNat)
      case atStart => exact ⟨0, by omega, rfl, Lib.hid (by simp)⟩
      case round =>
        obtain ⟨k, hk, rfl, H⟩ := hrel
        by_cases hlt : k < s.size
        · have hc := s[k].toNat_lt
          have CK := C1 s[k]
          cases hal : alB s[k]
          · rw [hal] at CK
            have C3 := fun w => Tryz.strings_IndexByte ⟨#[43, 45, 46]⟩ (s[k].toNat : Int) w
            have hge := Lib.indexByte_ge (ByteArray.mk #[43, 45, 46]).data.toList (s[k].toNat : Int).toNat.toUInt8
            have hix := mark_idx s[k]
            generalize Lib.indexByte (ByteArray.mk #[43, 45, 46]).data.toList (s[k].toNat : Int).toNat.toUInt8 = ix at C3 hge hix
            cases hm : markB s[k]
            · have hneg : ix < 0 := hix.2 hm
              have HR : Hid (false = B) := Lib.hid (by rw [← HF.out, all_stop hlt (by unfold inB; rw [hal, hm]; rfl)])
              clear hal hm hix C1
              go_wp2_with (first | (go_at_call 69; refine (CK _).mono ?_; rintro e w1 ⟨rfl, rfl⟩) | (go_at_call 70; refine (C3 _).mono ?_; rintro e w1 ⟨rfl, rfl⟩))
              go_ret
              exact ⟨ret_bool HR.out, rfl⟩
            · have hneg : ¬ ix < 0 := fun h => by rw [hix.1 h] at hm; cases hm
              have HN : Hid ((s.data.toList.take (k + 1)).all inB = true) := Lib.hid (all_next hlt H.out (by unfold inB; rw [hal, hm]; rfl))
              clear hal hm hix C1
              go_wp2_with (first | (go_at_call 69; refine (CK _).mono ?_; rintro e w1 ⟨rfl, rfl⟩) | (go_at_call 70; refine (C3 _).mono ?_; rintro e w1 ⟨rfl, rfl⟩))
              go_round
              case rel => exact ⟨k + 1, by omega, by go_num, HN⟩
              case measure => simp [intOf]; omega
          · rw [hal] at CK
            have HN : Hid ((s.data.toList.take (k + 1)).all inB = true) := Lib.hid (all_next hlt H.out (by unfold inB; rw [hal]; rfl))
            clear hal C1
            go_wp2_with (go_at_call 69; refine (CK _).mono ?_; rintro e w1 ⟨rfl, rfl⟩)
            go_round
            case rel => exact ⟨k + 1, by omega, by go_num, HN⟩
            case measure => simp [intOf]; omega
        · obtain rfl : k = s.size := by omega
          have HR : Hid (true = B) := Lib.hid (by rw [← HF.out]; exact (all_done H.out).symm)
          clear hlt C1
          go_wp2
          go_ret
          exact ⟨ret_bool HR.out, rfl⟩
  · have HR : Hid (false = B) := Lib.hid (by
      rw [← HB.out, nameB]
      by_cases h : 1 ≤ s.data.toList.length
      · rw [decide_eq_false (p := s.data.toList.length ≤ 60) (by omega)]; simp
      · rw [decide_eq_false h]; rfl)
    have h0' : s.size < 1 ∨ (1 ≤ s.size ∧ 60 < s.size) := by omega
    clear h0 HB hl
    rcases h0' with h0 | ⟨h0, h60⟩
    · go_enter Tryz.func34, Tryz.ntmps34
      go_wp2
      go_ret
      exact ⟨ret_bool HR.out, rfl⟩
    · go_enter Tryz.func34, Tryz.ntmps34
      go_wp2
      go_ret
      exact ⟨ret_bool HR.out, rfl⟩
end Go.Proofs.YtbeoklihpkfofaaGreatDoor
namespace Go.Proofs.YtbeoklihpkfofaaGreatDoor
open Go.RowKit Go.Sort
theorem cls (n : Nat) : (97 ≤ n ∧ n ≤ 122) ∨ (48 ≤ n ∧ n ≤ 57) ∨ (n = 43 ∨ n = 45 ∨ n = 46) ∨ (122 < n ∨ (57 < n ∧ n < 97) ∨ (n < 48 ∧ ¬ n = 43 ∧ ¬ n = 45 ∧ ¬ n = 46)) := by omega
theorem alB_iff (c : UInt8) : alB c = true ↔ (97 ≤ c.toNat ∧ c.toNat ≤ 122) ∨ (48 ≤ c.toNat ∧ c.toNat ≤ 57) := by
  unfold alB; simp only [Bool.or_eq_true, Bool.and_eq_true, decide_eq_true_eq]
theorem markB_iff (c : UInt8) : markB c = true ↔ c.toNat = 43 ∨ c.toNat = 45 ∨ c.toNat = 46 := by
  unfold markB
  simp only [Bool.or_eq_true, beq_iff_eq, nat_of_u8]
  show (c.toNat = 43 ∨ c.toNat = 45) ∨ c.toNat = 46 ↔ _
  omega
theorem inB_iff (c : UInt8) : inB c = true ↔ alB c = true ∨ markB c = true := by unfold inB; rw [Bool.or_eq_true]
theorem inB_no {c : UInt8} (h1 : ¬ alB c = true) (h2 : ¬ markB c = true) : inB c = false := by
  cases h : inB c with
  | false => rfl
  | true => exact absurd ((inB_iff c).1 h) (fun h => h.elim h1 h2)
/-- What is known of the first k bytes. -/
def NameTo (l : Bs) (k : Nat) : Prop := (l.take k).all inB = true ∧ (0 < k → headB l = true)
theorem nameTo_next {s : ByteArray} {k : Nat} (h : k < s.size) (H : NameTo s.data.toList k) (hi : inB s[k] = true) (h0 : k = 0 → alB s[k] = true) : NameTo s.data.toList (k + 1) := by
  refine ⟨all_next h H.1 hi, fun _ => ?_⟩
  by_cases hk : k = 0
  · subst hk
    have hl := Lib.size_eq s
    have := List.drop_eq_getElem_cons (l := s.data.toList) (i := 0) (by omega)
    rw [List.drop_zero] at this
    rw [this]
    exact h0 rfl
  · exact H.2 (by omega)
theorem name_bad {s : ByteArray} {k : Nat} (h : k < s.size) (hi : inB s[k] = false) : nameB s.data.toList = false := by
  unfold nameB; rw [all_stop h hi, Bool.and_false]
theorem name_bad0 {s : ByteArray} (h : 0 < s.size) (hi : ¬ alB s[0] = true) : nameB s.data.toList = false := by
  have hl := Lib.size_eq s
  have := List.drop_eq_getElem_cons (l := s.data.toList) (i := 0) (by omega)
  rw [List.drop_zero] at this
  have e : headB s.data.toList = false := by
    rw [this]
    cases h : headB (s.data.toList[0] :: List.drop (0 + 1) s.data.toList) with
    | false => rfl
    | true => exact absurd h hi
  unfold nameB; rw [e, Bool.and_false, Bool.false_and]
theorem name_end {s : ByteArray} (H : NameTo s.data.toList s.size) : nameB s.data.toList = (decide (1 ≤ s.size) && decide (s.size ≤ 60)) := by
  have hl := Lib.size_eq s
  unfold nameB
  rw [all_done H.1, ← hl]
  by_cases h : 1 ≤ s.size
  · rw [H.2 h]; simp
  · rw [decide_eq_false h]; simp
set_option maxHeartbeats 2000000 in
theorem name_ref (s : ByteArray) (hs : s.size ≤ 4000) (w : World) : Calls Tryz.prog 36 #[.string s] w fun e w' => e = .returned (.bool (nameB s.data.toList)) ∧ w = w' := by
  obtain ⟨B, HB⟩ : ∃ B, Hid (nameB s.data.toList = B) := ⟨_, rfl⟩
  rw [HB.out]
  go_enter Tryz.func36, Tryz.ntmps36
  go_wp2
  go_loop [3] (fun i => ∃ k : Nat, k ≤ s.size ∧ i = .int .i64 k ∧ Hid (NameTo s.data.toList k)) (fun i => s.size - (intOf i).toNat)
  case atStart => exact ⟨0, by omega, rfl, Lib.hid ⟨by simp, fun h => absurd h (by omega)⟩⟩
  case round =>
    obtain ⟨k, hk, rfl, H⟩ := hrel
    by_cases hlt : k < s.size
    · have hc := s[k].toNat_lt
      rcases cls s[k].toNat with h | h | h | h
      · have HN : Hid (NameTo s.data.toList (k + 1)) := Lib.hid (nameTo_next hlt H.out ((inB_iff _).2 (.inl ((alB_iff _).2 (.inl h)))) (fun _ => (alB_iff _).2 (.inl h)))
        obtain ⟨ha, hb⟩ := h
        go_wp2
        go_round
        case rel => exact ⟨k + 1, by omega, by go_num, HN⟩
        case measure => simp [intOf]; omega
      · have HN : Hid (NameTo s.data.toList (k + 1)) := Lib.hid (nameTo_next hlt H.out ((inB_iff _).2 (.inl ((alB_iff _).2 (.inr h)))) (fun _ => (alB_iff _).2 (.inr h)))
        obtain ⟨ha, hb⟩ := h
        go_wp2
        go_round
        case rel => exact ⟨k + 1, by omega, by go_num, HN⟩
        case measure => simp [intOf]; omega
      · have hm : markB s[k] = true := (markB_iff _).2 h
        have hna : ¬ alB s[k] = true := fun e => by have := (alB_iff _).1 e; omega
        by_cases hk0 : k = 0
        · have HR : Hid (false = B) := Lib.hid (by rw [← HB.out]; exact (name_bad0 (by omega) (by subst hk0; exact hna)).symm)
          have hkb : ((k : Int) == 0) = true := by simp [hk0]
          clear hm hna hk0
          rcases h with h | h | h
          all_goals
            go_wp2
            go_ret
            exact ⟨ret_bool HR.out, rfl⟩
        · have HN : Hid (NameTo s.data.toList (k + 1)) := Lib.hid (nameTo_next hlt H.out ((inB_iff _).2 (.inr hm)) (fun e => absurd e hk0))
          have hkb : ((k : Int) == 0) = false := by simp [hk0]
          clear hm hna
          rcases h with h | h | h
          all_goals
            go_wp2
            go_round
            case rel => exact ⟨k + 1, by omega, by go_num, HN⟩
            case measure => simp [intOf]; omega
      · have HR : Hid (false = B) := Lib.hid (by rw [← HB.out]; exact (name_bad hlt (inB_no (fun e => by have := (alB_iff _).1 e; omega) (fun e => by have := (markB_iff _).1 e; omega))).symm)
        rcases h with h | ⟨h, h'⟩ | ⟨h, h1, h2, h3⟩
        · go_wp2
          go_ret
          exact ⟨ret_bool HR.out, rfl⟩
        · go_wp2
          go_ret
          exact ⟨ret_bool HR.out, rfl⟩
        · have h1' : ((s[k].toNat : Int) == 43) = false := by simp; omega
          have h2' : ((s[k].toNat : Int) == 45) = false := by simp; omega
          have h3' : ((s[k].toNat : Int) == 46) = false := by simp; omega
          go_wp2
          go_ret
          exact ⟨ret_bool HR.out, rfl⟩
    · obtain rfl : k = s.size := by omega
      have HE := Lib.hid ((name_end H.out).symm.trans HB.out)
      clear hlt HB H
      by_cases h1 : 1 ≤ s.size
      · go_wp2
        go_ret
        exact ⟨ret_bool (by rw [← HE.out, decide_eq_true h1, Bool.true_and, Bool.eq_iff_iff]; simp only [decide_eq_true_eq]; omega), rfl⟩
      · go_wp2
        go_ret
        exact ⟨ret_bool (by rw [← HE.out, decide_eq_false h1]; simp), rfl⟩
end Go.Proofs.YtbeoklihpkfofaaGreatDoor
