/-
  Lists of texts in memory: what a slice of texts that was made by the call, or that came in, holds; how it is carried.
-/
import Derived.Lib.SplitLaws
import Derived.Lib.Join
import Derived.Lib.LastIndexLaws
import Derived.Test.YtkcamfcjkjiijaaGreatDoorGShelf
import Derived.WalkKit
import Derived.Lib.Hide
import Derived.WalkSmall
import Derived.Lib.OwnBridge
import Derived.OwnWalk
namespace Go.Proofs.YtkcamfcjkjiijaaGreatDoor
open Go.Lib

abbrev Bs := List UInt8
def pieces (u : Bs) : Bs → List Bs
  | [] => [u]
  | c :: l => if c = 47 then u :: pieces [] l else pieces (u ++ [c]) l
def parts0 (u : Bs) : Bs → List Bs
  | [] => if u = [] then [] else [u]
  | c :: l => if c = 47 then (if u = [] then parts0 [] l else u :: parts0 [] l) else parts0 (u ++ [c]) l
def parts (s : Bs) : List Bs := parts0 [] s

theorem parts0_filter (l : Bs) : ∀ u, (pieces u l).filter (· ≠ []) = parts0 u l := by
  induction l with
  | nil => intro u; by_cases h : u = [] <;> simp [pieces, parts0, h]
  | cons c l ih =>
    intro u
    by_cases hc : c = 47
    · by_cases hu : u = []
      · simp only [pieces, parts0, hc, if_pos, hu]; rw [List.filter_cons, ih]; simp
      · simp only [pieces, parts0, hc, if_pos, if_neg hu]; rw [List.filter_cons, ih]; simp [hu]
    · simp only [pieces, parts0, if_neg hc]; exact ih _

theorem index_no (a : Bs) (h : (47 : UInt8) ∉ a) : index a [47] = -1 := by
  induction a with
  | nil => simp [index]
  | cons b l ih =>
    simp only [List.mem_cons, not_or] at h
    have hp : ([47] : List UInt8).isPrefixOf (b :: l) = false := by simp [List.isPrefixOf, h.1]
    rw [index, hp, ih h.2]; simp
theorem index_at (a r : Bs) (h : (47 : UInt8) ∉ a) : index (a ++ 47 :: r) [47] = (a.length : Int) := by
  induction a with
  | nil => simp [index, List.isPrefixOf]
  | cons b l ih =>
    simp only [List.mem_cons, not_or] at h
    have hp : ([47] : List UInt8).isPrefixOf (b :: l ++ 47 :: r) = false := by simp [List.isPrefixOf, h.1]
    rw [List.cons_append, index, ← List.cons_append, hp, ih h.2]
    have : ¬ ((l.length : Int) == -1) = true := by simp
    simp [this]
theorem pieces_no (a : Bs) (h : (47 : UInt8) ∉ a) : ∀ u, pieces u a = [u ++ a] := by
  induction a with
  | nil => intro u; simp [pieces]
  | cons b l ih =>
    intro u
    simp only [List.mem_cons, not_or] at h
    rw [pieces, if_neg (fun e => h.1 e.symm), ih h.2]; simp
theorem pieces_at (a r : Bs) (h : (47 : UInt8) ∉ a) : ∀ u, pieces u (a ++ 47 :: r) = (u ++ a) :: pieces [] r := by
  induction a with
  | nil => intro u; simp [pieces]
  | cons b l ih =>
    intro u
    simp only [List.mem_cons, not_or] at h
    rw [List.cons_append, pieces, if_neg (fun e => h.1 e.symm), ih h.2]; simp
theorem cut_at (s : Bs) : (47 : UInt8) ∉ s ∨ ∃ a r, (47 : UInt8) ∉ a ∧ s = a ++ 47 :: r := by
  induction s with
  | nil => left; simp
  | cons b l ih =>
    by_cases hb : b = 47
    · right; exact ⟨[], l, by simp, by simp [hb]⟩
    · rcases ih with h | ⟨a, r, h, rfl⟩
      · left; simp only [List.mem_cons, not_or]; exact ⟨fun e => hb e.symm, h⟩
      · right; exact ⟨b :: a, r, by simp only [List.mem_cons, not_or]; exact ⟨fun e => hb e.symm, h⟩, by simp⟩
theorem split_pieces : ∀ (n : Nat) (s : Bs), s.length ≤ n → splitK [47] 0 (count s [47]) s = pieces [] s
  | n, s, hn => by
    rcases cut_at s with h | ⟨a, r, h, rfl⟩
    · rw [count_miss (index_no s h), pieces_no s h]; simp [splitK]
    · match n with
      | 0 => simp at hn
      | n + 1 =>
        have hi := index_at a r h
        have e : a ++ 47 :: r = (a ++ [47]) ++ r := by simp
        have hd : List.drop (a.length + 1) (a ++ 47 :: r) = r := by rw [e]; exact List.drop_left' (by simp)
        rw [count_hit (by simp) hi, pieces_at a r h]
        simp only [List.length_cons, List.length_nil, Nat.zero_add]
        rw [hd, Nat.add_comm, splitK, hi]
        have : ¬ ((a.length : Int) == -1) = true := by simp
        rw [if_neg this]
        simp only [Int.toNat_natCast, Nat.add_zero, List.length_cons, List.length_nil, Nat.zero_add]
        rw [hd, split_pieces n r (by simp at hn; omega)]
        simp
theorem parts_split (s : Bs) : (splitK [47] 0 (count s [47]) s).filter (· ≠ []) = parts s := by rw [split_pieces _ s (Nat.le_refl _), parts0_filter]; rfl

-- Joined
def jn : List Bs → Bs
  | [] => []
  | p :: ps => 47 :: (p ++ jn ps)
def joined (ps : List Bs) : Bs := if ps = [] then [47] else jn ps
theorem jn_tail (ps : List Bs) : joinTail [47] ps = jn ps := by
  induction ps with
  | nil => rfl
  | cons p ps ih => simp [joinTail, jn] at ih ⊢; exact ih
theorem joined_join (ps : List Bs) : 47 :: join ps [47] = joined ps := by
  cases ps with
  | nil => rfl
  | cons p ps => rw [join_cons, jn_tail]; simp [joined, jn]
theorem jn_sub {a b : List Bs} (h : a.Sublist b) : (jn a).length ≤ (jn b).length := by
  induction h with
  | slnil => simp
  | cons p _ ih => simp [jn]; omega
  | cons_cons p _ ih => simp [jn]; omega
theorem jn_parts0 (l : Bs) : ∀ u, (jn (parts0 u l)).length ≤ u.length + l.length + 1 := by
  induction l with
  | nil => intro u; unfold parts0; split <;> simp [jn]
  | cons c l ih =>
    intro u
    unfold parts0
    split
    · split
      · have := ih []; simp at this ⊢; omega
      · have := ih []; simp [jn] at this ⊢; omega
    · have := ih (u ++ [c]); simp at this ⊢; omega
theorem jn_parts (s : Bs) : (jn (parts s)).length ≤ s.length + 1 := by have := jn_parts0 s []; simpa [parts] using this
theorem len_le_jn (ps : List Bs) : ps.length ≤ (jn ps).length := by
  induction ps with
  | nil => simp
  | cons p ps ih => simp [jn]; omega
theorem parts_len (s : Bs) : (parts s).length ≤ s.length + 1 := Nat.le_trans (len_le_jn _) (jn_parts s)
-- Resolved
def rstep (out : List Bs) (p : Bs) : List Bs := if p = [46, 46] then out.dropLast else if p = [46] then out else out ++ [p]
def resolve (ps : List Bs) : List Bs := ps.foldl rstep []
theorem foldl_filter (ps : List Bs) : ∀ out, (ps.filter (· ≠ [46])).foldl rstep out = ps.foldl rstep out := by
  induction ps with
  | nil => intro out; rfl
  | cons p ps ih =>
    intro out
    by_cases h : p = [46]
    · subst h
      have e : rstep out [46] = out := by simp [rstep]
      rw [List.filter_cons_of_neg (by simp), ih, List.foldl_cons, e]
    · rw [List.filter_cons_of_pos (by simpa using h), List.foldl_cons, List.foldl_cons, ih]
theorem rstep_sub {out : List Bs} {pre : List Bs} (h : out.Sublist pre) (p : Bs) : (rstep out p).Sublist (pre ++ [p]) := by
  unfold rstep
  split
  · exact (List.dropLast_sublist _).trans (h.trans (List.sublist_append_left _ _))
  · split
    · exact h.trans (List.sublist_append_left _ _)
    · exact h.append (List.Sublist.refl _)
theorem foldl_sub (ps : List Bs) : ∀ (out pre : List Bs), out.Sublist pre → (ps.foldl rstep out).Sublist (pre ++ ps) := by
  induction ps with
  | nil => intro out pre h; simpa using h
  | cons p ps ih => intro out pre h; rw [List.foldl_cons]; have := ih _ _ (rstep_sub h p); simpa using this
theorem resolve_sub (ps : List Bs) : (resolve ps).Sublist ps := by simpa [resolve] using foldl_sub ps [] [] (List.Sublist.refl _)
-- Parts are no empty texts without slashes.
-- The one form, or the error's number.
def okb (c : UInt8) : Bool := decide (33 ≤ c.toNat) && decide (c.toNat ≤ 126)
def cleanE (s : Bs) : Bs × Int :=
  if s.head? = some 47 ∧ s.all okb = true then (if 200 < (joined (resolve (parts s))).length then ([], 8) else (joined (resolve (parts s)), 0)) else ([], 1)
def right (s : Bs) : Bool := decide (cleanE s = (s, 0))
theorem clean_len (s : Bs) : (joined (resolve (parts s))).length ≤ s.length + 1 := by
  have h1 := jn_sub (resolve_sub (parts s))
  have h2 := jn_parts s
  unfold joined
  split
  · simp
  · omega

-- Directories: with a slash at the end; above; below.
end Go.Proofs.YtkcamfcjkjiijaaGreatDoor
namespace Go.Proofs.YtkcamfcjkjiijaaGreatDoor
open Go.RowKit Go.Sort
theorem str_of {x : ByteArray} {l : Bs} (h : x.data.toList = l) : x = ⟨l.toArray⟩ := by subst h; simp
theorem ret_bool {a b : Bool} (h : a = b) : Ending.returned (.bool a) = Ending.returned (.bool b) := congrArg (fun b => Ending.returned (.bool b)) h
theorem ne_empty (x : ByteArray) : (!x.toList.isEmpty) = decide (x.data.toList ≠ []) := by rw [ByteArray.toList_eq]; cases x.data.toList <;> simp
theorem ne_text (x : ByteArray) (l : Bs) : (!x.toList == l) = decide (x.data.toList ≠ l) := by
  rw [ByteArray.toList_eq]; by_cases h : x.data.toList = l <;> simp [h]
theorem nonempty_any (x : ByteArray) (w : World) : Calls Tryz.prog 149 #[.string x] w fun e w' => e = .returned (.bool (decide (x.data.toList ≠ []))) ∧ w = w' := by
  go_enter Tryz.func149, Tryz.ntmps149
  go_wp2
  go_ret
  exact ⟨ret_bool (ne_empty x), rfl⟩
theorem nodot_any (x : ByteArray) (w : World) : Calls Tryz.prog 147 #[.string x] w fun e w' => e = .returned (.bool (decide (x.data.toList ≠ [46]))) ∧ w = w' := by
  go_enter Tryz.func147, Tryz.ntmps147
  go_wp2
  go_ret
  exact ⟨ret_bool (ne_text x _), rfl⟩
end Go.Proofs.YtkcamfcjkjiijaaGreatDoor
namespace Go.Proofs.YtkcamfcjkjiijaaGreatDoor
open Go.RowKit Go.Sort
theorem infoS : (Tryz.prog.info? 9).map (fun i => (i.zero, i.size, i.bytes)) = some (some (.string ⟨#[]⟩), 1, 16) := by kernel_rfl
/-- The slice value v holds the texts ls, wherever it lies. -/
def Holds' (w : World) (v : Value) (ls : List Bs) : Prop :=
  ∃ (a : Option Addr) (c b o : Nat), v = .slice a ls.length c ∧ ls.length ≤ c ∧ (0 < ls.length → a = some ⟨b, o, none⟩ ∧ b < w.heap.size) ∧ ∀ (j : Nat) l, ls[j]? = some l → w.cell? ⟨b, o + j, none⟩ = some (.string ⟨l.toArray⟩)
theorem Holds'.on {w w' : World} {v : Value} {ls : List Bs} (h : Holds' w v ls) (hb : Below w.heap.size w w') : Holds' w' v ls := by
  obtain ⟨a, c, b, o, rfl, hc, ha, hcell⟩ := h
  refine ⟨a, c, b, o, rfl, hc, fun h0 => ⟨(ha h0).1, Nat.lt_of_lt_of_le (ha h0).2 hb.size⟩, fun j l hj => ?_⟩
  have h0 : 0 < ls.length := by
    have := (List.getElem?_eq_some_iff.1 hj).1; omega
  rw [hb.cell (ha h0).2]
  exact hcell j l hj
abbrev strs (ls : List Bs) : List Value := ls.map fun l => Value.string ⟨l.toArray⟩
/-- The slice value v owns the texts ls (in blocks from base on). -/
def OwnS (w : World) (base : Nat) (v : Value) (ls : List Bs) : Prop := w.ownsRow base 9 1 v ls.length (strs ls)
theorem OwnS.nil (w : World) (base : Nat) : OwnS w base (.slice none 0 0) [] := World.ownsRow_nil _ _ _ _
theorem OwnS.holds {w : World} {base : Nat} {v : Value} {ls : List Bs} (h : OwnS w base v ls) : Holds' w v ls := by
  rcases h.2 with ⟨rfl, h0⟩ | ⟨g, cap, cur, rfl, hb, hg, hn, hm, hs, ht⟩
  · have : ls = [] := List.eq_nil_of_length_eq_zero h0
    subst this
    exact ⟨none, 0, 0, 0, rfl, Nat.le_refl _, fun h => absurd h (by simp), fun j l hj => by simp at hj⟩
  · refine ⟨some ⟨g, 0, none⟩, cap, g, 0, rfl, hn, fun _ => ⟨rfl, (Array.getElem?_eq_some_iff.1 hg).1⟩, fun j l hj => ?_⟩
    have hj' := (List.getElem?_eq_some_iff.1 hj).1
    have e1 : (cur.toList.take (ls.length * 1))[j]? = (strs ls)[j]? := by rw [ht]
    rw [List.getElem?_take, if_pos (by omega), Array.getElem?_toList, List.getElem?_map, hj] at e1
    rw [Nat.zero_add, cell_of_row w g j cur 9 (0, 0) hg, e1]
    rfl
theorem OwnS.mono {w : World} {base base' : Nat} {v : Value} {ls : List Bs} (h : OwnS w base v ls) (hb : base' ≤ base) : OwnS w base' v ls := by
  refine ⟨h.1, ?_⟩
  rcases h.2 with hn | ⟨g, cap, cur, hv, hb', rest⟩
  · exact .inl hn
  · exact .inr ⟨g, cap, cur, hv, by omega, rest⟩
/-- Cut at its end. -/
theorem OwnS.cut {w : World} {base : Nat} {a : Option Addr} {c n : Nat} {ls : List Bs} (h : OwnS w base (.slice a n c) ls) (hl : 0 < ls.length) : OwnS w base (.slice a (n - 1) c) ls.dropLast := by
  rcases h.2 with ⟨_, h0⟩ | ⟨g, cap, cur, hv, hb, hg, hn, hm, hs, ht⟩
  · omega
  · simp only [Value.slice.injEq] at hv
    obtain ⟨rfl, rfl, rfl⟩ := hv
    refine ⟨by simp [strs], .inr ⟨g, c, cur, by rw [List.length_dropLast], hb, hg, by rw [List.length_dropLast]; omega, hm, hs, ?_⟩⟩
    rw [List.length_dropLast]
    have : cur.toList.take ((ls.length - 1) * 1) = (cur.toList.take (ls.length * 1)).take (ls.length - 1) := by rw [List.take_take]; congr 1; omega
    rw [this, ht, strs, strs, List.dropLast_eq_take, List.map_take]
/-- A slice that the library laid in a new block. -/
theorem OwnS.made (w : World) (xs : List ByteArray) (hn : xs.length ≤ maxLen) : OwnS (w.alloc (.cells (xs.map Value.string).toArray 9)) w.heap.size (.slice (some ⟨w.heap.size, 0, none⟩) xs.length xs.length) (xs.map (·.data.toList)) := by
  refine ⟨by simp [strs], .inr ⟨w.heap.size, xs.length, (xs.map Value.string).toArray, by simp, Nat.le_refl _, heap_alloc_new w _, by simp, hn, by simp, ?_⟩⟩
  rw [List.length_map, Nat.mul_one, List.take_of_length_le (by simp)]
  simp [strs]
theorem OwnS.app {w' : World} {base : Nat} {v' : Value} {ls : List Bs} {x : ByteArray} {l : Bs} (hx : x.data.toList = l) (h : w'.ownsRow base 9 1 v' (ls.length + 1) (strs ls ++ [.string x])) : OwnS w' base v' (ls ++ [l]) := by
  have e : strs (ls ++ [l]) = strs ls ++ [.string x] := by simp [strs, str_of hx]
  unfold OwnS
  rw [e, List.length_append]
  exact h
/-- Of a slice whose block the row turned: everything below base stays. -/
theorem below_grown {B : Nat} {w0 w w' : World} {o : Obj} {base : Nat} {v : Value} {ls : List Bs} (h : Below B w0 w) (hown : OwnS w base v ls) (hg : (w.alloc o).grownBy w' v.ownBlock) (hB : B ≤ base) (hBw : B ≤ w.heap.size) : Below B w0 w' :=
  (h.alloc hBw o).grown hg (by simp; omega) (fun k hk => by have := (hown.lt k hk).1; omega)
end Go.Proofs.YtkcamfcjkjiijaaGreatDoor
