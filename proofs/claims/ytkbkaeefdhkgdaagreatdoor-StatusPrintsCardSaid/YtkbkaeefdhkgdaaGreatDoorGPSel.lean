import Derived.Test.YtkbkaeefdhkgdaaGreatDoorGShelf
import Derived.WalkSmall
import Derived.Lib.OwnBridge
set_option maxRecDepth 100000
set_option maxHeartbeats 32000000
namespace Go.Proofs.YtkbkaeefdhkgdaaGreatDoor
section
open Go.Lib
abbrev Bs := List UInt8
def pieces (u : Bs) : Bs → List Bs
 | [] => [u]
 | c :: l => if c = 47 then u :: pieces [] l else pieces (u ++ [c]) l
def parts0 (u : Bs) : Bs → List Bs
 | [] => if u = [] then [] else [u]
 | c :: l => if c = 47 then (if u = [] then parts0 [] l else u :: parts0 [] l) else parts0 (u ++ [c]) l
def parts (s : Bs) : List Bs := parts0 [] s
theorem parts0_filter (l : Bs) : ∀ u, (pieces u l).filter (· ≠ []) = parts0 u l := by
 induction l with
 | nil => intro u; by_cases h : u = [] <;> simp [pieces, parts0, h]
 | cons c l ih =>
  intro u
  by_cases hc : c = 47
  ·
   by_cases hu : u = []
   ·
    simp only [pieces, parts0, hc, if_pos, hu]; rw [List.filter_cons, ih]; simp
   ·
    simp only [pieces, parts0, hc, if_pos, if_neg hu]; rw [List.filter_cons, ih]; simp [hu]
  ·
   simp only [pieces, parts0, if_neg hc]; exact ih _
theorem index_no (a : Bs) (h : (47 : UInt8) ∉ a) : index a [47] = -1 := by
 induction a with
 | nil => simp [index]
 | cons b l ih =>
  simp only [List.mem_cons, not_or] at h
  have hp : ([47] : List UInt8).isPrefixOf (b :: l) = false := by simp [List.isPrefixOf, h.1]
  rw [index, hp, ih h.2]; simp
theorem index_at (a r : Bs) (h : (47 : UInt8) ∉ a) : index (a ++ 47 :: r) [47] = (a.length : Int) := by
 induction a with
 | nil => simp [index, List.isPrefixOf]
 | cons b l ih =>
  simp only [List.mem_cons, not_or] at h
  have hp : ([47] : List UInt8).isPrefixOf (b :: l ++ 47 :: r) = false := by simp [List.isPrefixOf, h.1]
  rw [List.cons_append, index, ← List.cons_append, hp, ih h.2]
  have : ¬ ((l.length : Int) == -1) = true := by simp
  simp [this]
theorem pieces_no (a : Bs) (h : (47 : UInt8) ∉ a) : ∀ u, pieces u a = [u ++ a] := by
 induction a with
 | nil => intro u; simp [pieces]
 | cons b l ih =>
  intro u
  simp only [List.mem_cons, not_or] at h
  rw [pieces, if_neg (fun e => h.1 e.symm), ih h.2]; simp
theorem pieces_at (a r : Bs) (h : (47 : UInt8) ∉ a) : ∀ u, pieces u (a ++ 47 :: r) = (u ++ a) :: pieces [] r := by
 induction a with
 | nil => intro u; simp [pieces]
 | cons b l ih =>
  intro u
  simp only [List.mem_cons, not_or] at h
  rw [List.cons_append, pieces, if_neg (fun e => h.1 e.symm), ih h.2]; simp
theorem cut_at (s : Bs) : (47 : UInt8) ∉ s ∨ ∃ a r, (47 : UInt8) ∉ a ∧ s = a ++ 47 :: r := by
 induction s with
 | nil => left; simp
 | cons b l ih =>
  by_cases hb : b = 47
  ·
   right; exact ⟨[], l, by simp, by simp [hb]⟩
  ·
   rcases ih with h | ⟨a, r, h, rfl⟩
   ·
    left; simp only [List.mem_cons, not_or]; exact ⟨fun e => hb e.symm, h⟩
   ·
    right; exact ⟨b :: a, r, by simp only [List.mem_cons, not_or]; exact ⟨fun e => hb e.symm, h⟩, by simp⟩
theorem split_pieces : ∀ (n : Nat) (s : Bs), s.length ≤ n → splitK [47] 0 (count s [47]) s = pieces [] s
 | n, s, hn => by
  rcases cut_at s with h | ⟨a, r, h, rfl⟩
  ·
   rw [count_miss (index_no s h), pieces_no s h]; simp [splitK]
  ·
   match n with
   | 0 => simp at hn
   | n + 1 =>
    have hi := index_at a r h
    have e : a ++ 47 :: r = (a ++ [47]) ++ r := by simp
    have hd : List.drop (a.length + 1) (a ++ 47 :: r) = r := by rw [e]; exact List.drop_left' (by simp)
    rw [count_hit (by simp) hi, pieces_at a r h]
    simp only [List.length_cons, List.length_nil, Nat.zero_add]
    rw [hd, Nat.add_comm, splitK, hi]
    have : ¬ ((a.length : Int) == -1) = true := by simp
    rw [if_neg this]
    simp only [Int.toNat_natCast, Nat.add_zero, List.length_cons, List.length_nil, Nat.zero_add]
    rw [hd, split_pieces n r (by simp at hn; omega)]
    simp
theorem parts_split (s : Bs) : (splitK [47] 0 (count s [47]) s).filter (· ≠ []) = parts s := by rw [split_pieces _ s (Nat.le_refl _), parts0_filter]; rfl
-- Joined
def jn : List Bs → Bs
 | [] => []
 | p :: ps => 47 :: (p ++ jn ps)
def joined (ps : List Bs) : Bs := if ps = [] then [47] else jn ps
theorem jn_append (a b : List Bs) : jn (a ++ b) = jn a ++ jn b := by
 induction a with
 | nil => rfl
 | cons p a ih => simp [jn, ih]
theorem jn_tail (ps : List Bs) : joinTail [47] ps = jn ps := by
 induction ps with
 | nil => rfl
 | cons p ps ih => simp [joinTail, jn] at ih ⊢; exact ih
theorem joined_join (ps : List Bs) : 47 :: join ps [47] = joined ps := by
 cases ps with
 | nil => rfl
 | cons p ps => rw [join_cons, jn_tail]; simp [joined, jn]
theorem jn_sub {a b : List Bs} (h : a.Sublist b) : (jn a).length ≤ (jn b).length := by
 induction h with
 | slnil => simp
 | cons p _ ih => simp [jn]; omega
 | cons_cons p _ ih => simp [jn]; omega
theorem jn_parts0 (l : Bs) : ∀ u, (jn (parts0 u l)).length ≤ u.length + l.length + 1 := by
 induction l with
 | nil => intro u; unfold parts0; split <;> simp [jn]
 | cons c l ih =>
  intro u
  unfold parts0
  split
  ·
   split
   ·
    have := ih []; simp at this ⊢; omega
   ·
    have := ih []; simp [jn] at this ⊢; omega
  ·
   have := ih (u ++ [c]); simp at this ⊢; omega
theorem jn_parts (s : Bs) : (jn (parts s)).length ≤ s.length + 1 := by have := jn_parts0 s []; simpa [parts] using this
theorem len_le_jn (ps : List Bs) : ps.length ≤ (jn ps).length := by
 induction ps with
 | nil => simp
 | cons p ps ih => simp [jn]; omega
theorem parts_len (s : Bs) : (parts s).length ≤ s.length + 1 := Nat.le_trans (len_le_jn _) (jn_parts s)
theorem mem_len {p : Bs} {ps : List Bs} (h : p ∈ ps) : p.length ≤ (jn ps).length := by
 induction ps with
 | nil => cases h
 | cons q ps ih =>
  rcases List.mem_cons.1 h with rfl | h
  ·
   simp [jn]; omega
  ·
   have := ih h; simp [jn]; omega
-- Resolved
def rstep (out : List Bs) (p : Bs) : List Bs := if p = [46, 46] then out.dropLast else if p = [46] then out else out ++ [p]
def resolve (ps : List Bs) : List Bs := ps.foldl rstep []
theorem foldl_filter (ps : List Bs) : ∀ out, (ps.filter (· ≠ [46])).foldl rstep out = ps.foldl rstep out := by
 induction ps with
 | nil => intro out; rfl
 | cons p ps ih =>
  intro out
  by_cases h : p = [46]
  ·
   subst h
   have e : rstep out [46] = out := by simp [rstep]
   rw [List.filter_cons_of_neg (by simp), ih, List.foldl_cons, e]
  ·
   rw [List.filter_cons_of_pos (by simpa using h), List.foldl_cons, List.foldl_cons, ih]
theorem rstep_sub {out : List Bs} {pre : List Bs} (h : out.Sublist pre) (p : Bs) : (rstep out p).Sublist (pre ++ [p]) := by
 unfold rstep
 split
 ·
  exact (List.dropLast_sublist _).trans (h.trans (List.sublist_append_left _ _))
 ·
  split
  ·
   exact h.trans (List.sublist_append_left _ _)
  ·
   exact h.append (List.Sublist.refl _)
theorem foldl_sub (ps : List Bs) : ∀ (out pre : List Bs), out.Sublist pre → (ps.foldl rstep out).Sublist (pre ++ ps) := by
 induction ps with
 | nil => intro out pre h; simpa using h
 | cons p ps ih => intro out pre h; rw [List.foldl_cons]; have := ih _ _ (rstep_sub h p); simpa using this
theorem resolve_sub (ps : List Bs) : (resolve ps).Sublist ps := by simpa [resolve] using foldl_sub ps [] [] (List.Sublist.refl _)
-- Parts are no empty texts without slashes.
def good (p : Bs) : Prop := p ≠ [] ∧ (47 : UInt8) ∉ p
-- The one form, or the error's number.
def okb (c : UInt8) : Bool := decide (33 ≤ c.toNat) && decide (c.toNat ≤ 126)
def cleanE (s : Bs) : Bs × Int :=
 if s.head? = some 47 ∧ s.all okb = true then (if 200 < (joined (resolve (parts s))).length then ([], 8) else (joined (resolve (parts s)), 0)) else ([], 1)
def right (s : Bs) : Bool := decide (cleanE s = (s, 0))
theorem cleanE_zero {s a : Bs} (h : cleanE s = (a, 0)) : a = joined (resolve (parts s)) ∧ s.all okb = true ∧ a.length ≤ 200 := by
 unfold cleanE at h
 split at h
 ·
  rename_i hc
  split at h
  ·
   simp at h
  ·
   simp at h; subst h; exact ⟨rfl, hc.2, by omega⟩
 ·
  simp at h
theorem clean_len (s : Bs) : (joined (resolve (parts s))).length ≤ s.length + 1 := by
 have h1 := jn_sub (resolve_sub (parts s))
 have h2 := jn_parts s
 unfold joined
 split
 ·
  simp
 ·
  omega
-- Directories: with a slash at the end; above; below.
end
section
open Go.Lib
-- Orders that tell -1, 0 or 1
structure Good {α : Type} (c : α → α → Int) : Prop where
 anti : ∀ x y, c y x = -c x y
 vals : ∀ x y, c x y = -1 ∨ c x y = 0 ∨ c x y = 1
 trans : ∀ x y z, c x y ≤ 0 → c y z ≤ 0 → c x z ≤ 0
theorem Good.same {α : Type} {c : α → α → Int} (h : Good c) {x y : α} (z : α) (e : c x y = 0) : c x z = c y z := by
 have h1 := h.anti x y
 have a := h.trans x y z (by omega)
 have b := h.trans y x z (by omega)
 have a' := fun g => h.trans z y x g (by omega)
 have b' := fun g => h.trans z x y g (by omega)
 have v1 := h.vals x z
 have v2 := h.vals y z
 have w1 := h.anti x z
 have w2 := h.anti y z
 rcases v1 with v1 | v1 | v1 <;> rcases v2 with v2 | v2 | v2 <;> first | omega | (have := a (by omega); have := b (by omega); have := a' (by omega); have := b' (by omega); omega) | (have := a (by omega); omega) | (have := b (by omega); omega) | (have := a' (by omega); omega) | (have := b' (by omega); omega)
theorem Good.on {α β : Type} {c : α → α → Int} (h : Good c) (f : β → α) : Good fun x y => c (f x) (f y) :=
 ⟨fun _ _ => h.anti _ _, fun _ _ => h.vals _ _, fun _ _ _ => h.trans _ _ _⟩
def hd {α : Type} (pad : α) (l : List α) : α := l.head?.getD pad
-- Bytes
def dgB (c : UInt8) : Bool := decide (48 ≤ c.toNat) && decide (c.toNat ≤ 57)
def ltB (c : UInt8) : Bool := decide (97 ≤ c.toNat) && decide (c.toNat ≤ 122) || decide (65 ≤ c.toNat) && decide (c.toNat ≤ 90)
-- Pieces
def nonD (s : Bs) : Bs := s.takeWhile fun c => !dgB c
def digs (s : Bs) : Bs := (s.drop (nonD s).length).takeWhile dgB
def rest (s : Bs) : Bs := s.drop ((nonD s).length + (digs s).length)
theorem takeWhile_le {α : Type} (p : α → Bool) (l : List α) : (l.takeWhile p).length ≤ l.length := (List.takeWhile_sublist p).length_le
-- Parts of a version
abbrev Ver := Int × Bs × Bs
def onlyB (marks : Bs) (s : Bs) : Bool := s.all fun c => dgB c || ltB c || marks.contains c
def epochOf (s : Bs) : Int := s.foldl (fun n c => 10 * n + (c.toNat : Int) - 48) 0
def colonAt (s : Bs) : Nat := (s.takeWhile fun c => decide (c ≠ 58)).length
def hyAt (s : Bs) : Nat := s.length - (s.reverse.takeWhile fun c => decide (c ≠ 45)).length
def cutHy (s : Bs) : Bs × Bs := if hyAt s = 0 then (s, [48]) else (s.take (hyAt s - 1), s.drop (hyAt s))
def headDg : Bs → Bool
 | [] => false
 | c :: _ => dgB c
def restV (e : Int) (marks s : Bs) : Option Ver := if headDg (cutHy s).1 = true ∧ onlyB marks (cutHy s).1 = true ∧ (cutHy s).2 ≠ [] ∧ onlyB [46, 43, 126] (cutHy s).2 = true then some (e, cutHy s) else none
def verOf (s : Bs) : Option Ver :=
 if colonAt s < s.length then
  if 1 ≤ colonAt s ∧ colonAt s ≤ 9 ∧ (s.take (colonAt s)).all dgB = true then restV (epochOf (s.take (colonAt s))) [46, 43, 45, 126, 58] (s.drop (colonAt s + 1)) else none
 else restV 0 [46, 43, 45, 126] s
def parseE (s : Bs) : Ver × Int := if 80 < s.length then ((0, [], []), 8) else match verOf s with
 | some v => (v, 0)
 | none => ((0, [], []), 2)
-- A text is parsed as it was
theorem epochOf_snoc (l : Bs) (c : UInt8) : epochOf (l ++ [c]) = 10 * epochOf l + (c.toNat : Int) - 48 := by unfold epochOf; rw [List.foldl_append]; rfl
theorem epoch_bd (l : Bs) : l.all dgB = true → 0 ≤ epochOf l ∧ epochOf l < 10 ^ l.length := by
 have key : ∀ (l : Bs) (n : Int), 0 ≤ n → l.all dgB = true → 0 ≤ l.foldl (fun n c => 10 * n + (c.toNat : Int) - 48) n ∧ l.foldl (fun n c => 10 * n + (c.toNat : Int) - 48) n < (n + 1) * 10 ^ l.length := by
  intro l
  induction l with
  | nil => intro n hn _; simp only [List.foldl_nil, List.length_nil, Int.pow_zero]; omega
  | cons c l ih =>
   intro n hn h
   rw [List.all_cons, Bool.and_eq_true] at h
   have h3 := h.1
   simp only [dgB, Bool.and_eq_true, decide_eq_true_eq] at h3
   obtain ⟨h1, h2⟩ := ih (10 * n + (c.toNat : Int) - 48) (by omega) h.2
   rw [List.foldl_cons, List.length_cons, Int.pow_succ]
   refine ⟨h1, Int.lt_of_lt_of_le h2 ?_⟩
   have hp : (0 : Int) ≤ 10 ^ l.length := Int.le_of_lt (Int.pow_pos (by decide))
   have : (10 * n + (c.toNat : Int) - 48 + 1) * 10 ^ l.length ≤ ((n + 1) * 10) * 10 ^ l.length := Int.mul_le_mul_of_nonneg_right (by omega) hp
   rw [show (n + 1) * (10 ^ l.length * 10) = ((n + 1) * 10) * 10 ^ l.length from by rw [Int.mul_assoc, Int.mul_comm 10]]
   exact this
 intro h
 have := key l 0 (Int.le_refl _) h
 simpa [epochOf] using this
theorem takeWhile_at {α : Type} (p : α → Bool) (a : List α) (x : α) (r : List α) (h : ∀ y ∈ a, p y = true) (hx : p x = false) : (a ++ x :: r).takeWhile p = a := by
 rw [List.takeWhile_append_of_pos h, List.takeWhile_cons]; simp [hx]
theorem takeWhile_all {α : Type} (p : α → Bool) (a : List α) (h : ∀ y ∈ a, p y = true) : a.takeWhile p = a := by
 have := List.takeWhile_append_of_pos (l₂ := []) h
 simpa using this
theorem colonAt_at (a r : Bs) (h : (58 : UInt8) ∉ a) : colonAt (a ++ 58 :: r) = a.length := by
 unfold colonAt; rw [takeWhile_at _ _ _ _ (fun y hy => by simp; rintro rfl; exact h hy) (by simp)]
theorem colonAt_no (a : Bs) (h : (58 : UInt8) ∉ a) : colonAt a = a.length := by
 unfold colonAt; rw [takeWhile_all _ _ (fun y hy => by simp; rintro rfl; exact h hy)]
structure VerOk (v : Ver) : Prop where
 lo : 0 ≤ v.1
 hi : v.1 < 1000000000
 head : headDg v.2.1 = true
 up : onlyB [46, 43, 45, 126, 58] v.2.1 = true
 ne : v.2.2 ≠ []
 rev : onlyB [46, 43, 126] v.2.2 = true
end
section
open Go.RowKit Go.Sort
theorem str_of {x : ByteArray} {l : Bs} (h : x.data.toList = l) : x = ⟨l.toArray⟩ := by subst h; simp
theorem ret_bool {a b : Bool} (h : a = b) : Ending.returned (.bool a) = Ending.returned (.bool b) := congrArg (fun b => Ending.returned (.bool b)) h
theorem ne_empty (x : ByteArray) : (!x.toList.isEmpty) = decide (x.data.toList ≠ []) := by rw [ByteArray.toList_eq]; cases x.data.toList <;> simp
theorem ne_text (x : ByteArray) (l : Bs) : (!x.toList == l) = decide (x.data.toList ≠ l) := by
 rw [ByteArray.toList_eq]; by_cases h : x.data.toList = l <;> simp [h]
theorem nonempty_any (x : ByteArray) (w : World) : Calls Tryz.prog 207 #[.string x] w fun e w' => e = .returned (.bool (decide (x.data.toList ≠ []))) ∧ w = w' := by
 go_enter Tryz.func207, Tryz.ntmps207
 go_wp2
 go_ret
 exact ⟨ret_bool (ne_empty x), rfl⟩
theorem nodot_any (x : ByteArray) (w : World) : Calls Tryz.prog 206 #[.string x] w fun e w' => e = .returned (.bool (decide (x.data.toList ≠ [46]))) ∧ w = w' := by
 go_enter Tryz.func206, Tryz.ntmps206
 go_wp2
 go_ret
 exact ⟨ret_bool (ne_text x _), rfl⟩
theorem is47 {x : UInt8} (h : x = 47) : (x.toNat : Int) = 47 := by rw [h]; rfl
theorem not47 {x : UInt8} (h : ¬ x = 47) : ¬ (x.toNat : Int) = 47 := fun e => h (UInt8.toNat_inj.1 (by show x.toNat = 47; omega))
end
section
-- Marks
theorem only_same {m m' s : Bs} (h : ∀ c ∈ s, m.contains c = m'.contains c) : onlyB m s = onlyB m' s := by
 unfold onlyB
 rw [Bool.eq_iff_iff, List.all_eq_true, List.all_eq_true]
 exact ⟨fun g c hc => by rw [← h c hc]; exact g c hc, fun g c hc => by rw [h c hc]; exact g c hc⟩
theorem cut_sub (s : Bs) : ∀ c ∈ (cutHy s).1, c ∈ s := by
 unfold cutHy
 split
 ·
  exact fun c h => h
 ·
  exact fun c h => List.mem_of_mem_take h
theorem restV_plain {e : Int} {s : Bs} (h : (58 : UInt8) ∉ s) : restV e [46, 43, 45, 126] s = restV e [46, 43, 45, 126, 58] s := by
 unfold restV
 rw [only_same (m := [46, 43, 45, 126]) (m' := [46, 43, 45, 126, 58]) (s := (cutHy s).1)]
 intro c hc
 have hn : c ≠ 58 := fun e => h (e ▸ cut_sub s c hc)
 simp [hn]
end
section
open Go.RowKit Go.Sort
theorem infoS : (Tryz.prog.info? 9).map (fun i => (i.zero, i.size, i.bytes)) = some (some (.string ⟨#[]⟩), 1, 16) := by kernel_rfl
def Holds' (w : World) (v : Value) (ls : List Bs) : Prop :=
 ∃ (a : Option Addr) (c b o : Nat), v = .slice a ls.length c ∧ ls.length ≤ c ∧ (0 < ls.length → a = some ⟨b, o, none⟩ ∧ b < w.heap.size) ∧ ∀ (j : Nat) l, ls[j]? = some l → w.cell? ⟨b, o + j, none⟩ = some (.string ⟨l.toArray⟩)
theorem Holds'.on {w w' : World} {v : Value} {ls : List Bs} (h : Holds' w v ls) (hb : Below w.heap.size w w') : Holds' w' v ls := by
 obtain ⟨a, c, b, o, rfl, hc, ha, hcell⟩ := h
 refine ⟨a, c, b, o, rfl, hc, fun h0 => ⟨(ha h0).1, Nat.lt_of_lt_of_le (ha h0).2 hb.size⟩, fun j l hj => ?_⟩
 have h0 : 0 < ls.length := by
  have := (List.getElem?_eq_some_iff.1 hj).1; omega
 rw [hb.cell (ha h0).2]
 exact hcell j l hj
abbrev strs (ls : List Bs) : List Value := ls.map fun l => Value.string ⟨l.toArray⟩
def OwnS (w : World) (base : Nat) (v : Value) (ls : List Bs) : Prop := w.ownsRow base 9 1 v ls.length (strs ls)
theorem OwnS.nil (w : World) (base : Nat) : OwnS w base (.slice none 0 0) [] := World.ownsRow_nil _ _ _ _
theorem OwnS.holds {w : World} {base : Nat} {v : Value} {ls : List Bs} (h : OwnS w base v ls) : Holds' w v ls := by
 rcases h.2 with ⟨rfl, h0⟩ | ⟨g, cap, cur, rfl, hb, hg, hn, hm, hs, ht⟩
 ·
  have : ls = [] := List.eq_nil_of_length_eq_zero h0
  subst this
  exact ⟨none, 0, 0, 0, rfl, Nat.le_refl _, fun h => absurd h (by simp), fun j l hj => by simp at hj⟩
 ·
  refine ⟨some ⟨g, 0, none⟩, cap, g, 0, rfl, hn, fun _ => ⟨rfl, (Array.getElem?_eq_some_iff.1 hg).1⟩, fun j l hj => ?_⟩
  have hj' := (List.getElem?_eq_some_iff.1 hj).1
  have e1 : (cur.toList.take (ls.length * 1))[j]? = (strs ls)[j]? := by rw [ht]
  rw [List.getElem?_take, if_pos (by omega), Array.getElem?_toList, List.getElem?_map, hj] at e1
  rw [Nat.zero_add, cell_of_row w g j cur 9 (0, 0) hg, e1]
  rfl
theorem OwnS.mono {w : World} {base base' : Nat} {v : Value} {ls : List Bs} (h : OwnS w base v ls) (hb : base' ≤ base) : OwnS w base' v ls := by
 refine ⟨h.1, ?_⟩
 rcases h.2 with hn | ⟨g, cap, cur, hv, hb', rest⟩
 ·
  exact .inl hn
 ·
  exact .inr ⟨g, cap, cur, hv, by omega, rest⟩
theorem OwnS.cut {w : World} {base : Nat} {a : Option Addr} {c n : Nat} {ls : List Bs} (h : OwnS w base (.slice a n c) ls) (hl : 0 < ls.length) : OwnS w base (.slice a (n - 1) c) ls.dropLast := by
 rcases h.2 with ⟨_, h0⟩ | ⟨g, cap, cur, hv, hb, hg, hn, hm, hs, ht⟩
 ·
  omega
 ·
  simp only [Value.slice.injEq] at hv
  obtain ⟨rfl, rfl, rfl⟩ := hv
  refine ⟨by simp [strs], .inr ⟨g, c, cur, by rw [List.length_dropLast], hb, hg, by rw [List.length_dropLast]; omega, hm, hs, ?_⟩⟩
  rw [List.length_dropLast]
  have : cur.toList.take ((ls.length - 1) * 1) = (cur.toList.take (ls.length * 1)).take (ls.length - 1) := by rw [List.take_take]; congr 1; omega
  rw [this, ht, strs, strs, List.dropLast_eq_take, List.map_take]
theorem OwnS.made (w : World) (xs : List ByteArray) (hn : xs.length ≤ maxLen) : OwnS (w.alloc (.cells (xs.map Value.string).toArray 9)) w.heap.size (.slice (some ⟨w.heap.size, 0, none⟩) xs.length xs.length) (xs.map (·.data.toList)) := by
 refine ⟨by simp [strs], .inr ⟨w.heap.size, xs.length, (xs.map Value.string).toArray, by simp, Nat.le_refl _, heap_alloc_new w _, by simp, hn, by simp, ?_⟩⟩
 rw [List.length_map, Nat.mul_one, List.take_of_length_le (by simp)]
 simp [strs]
theorem OwnS.app {w' : World} {base : Nat} {v' : Value} {ls : List Bs} {x : ByteArray} {l : Bs} (hx : x.data.toList = l) (h : w'.ownsRow base 9 1 v' (ls.length + 1) (strs ls ++ [.string x])) : OwnS w' base v' (ls ++ [l]) := by
 have e : strs (ls ++ [l]) = strs ls ++ [.string x] := by simp [strs, str_of hx]
 unfold OwnS
 rw [e, List.length_append]
 exact h
theorem below_grown {B : Nat} {w0 w w' : World} {o : Obj} {base : Nat} {v : Value} {ls : List Bs} (h : Below B w0 w) (hown : OwnS w base v ls) (hg : (w.alloc o).grownBy w' v.ownBlock) (hB : B ≤ base) (hBw : B ≤ w.heap.size) : Below B w0 w' :=
 (h.alloc hBw o).grown hg (by simp; omega) (fun k hk => by have := (hown.lt k hk).1; omega)
end
section
open Go.RowKit Go.Sort
theorem take_filter (ls : List Bs) (p : Bs → Bool) (k : Nat) (h : k < ls.length) : (ls.take (k + 1)).filter p = (ls.take k).filter p ++ (if p ls[k] then [ls[k]] else []) := by
 rw [List.take_add_one, List.getElem?_eq_getElem h, List.filter_append]
 congr 1
 by_cases hp : p ls[k] <;> simp [hp]
theorem filter_len (ls : List Bs) (p : Bs → Bool) (k : Nat) : ((ls.take k).filter p).length ≤ k := Nat.le_trans (List.length_filter_le _ _) (List.length_take_le _ _)
theorem sel_empty (v : Value) (ls : List Bs) (hn : ls.length ≤ 5000) (w : World) (h : Holds' w v ls) :
  Calls Tryz.prog 205 #[v, .func (.func 207) #[] #[]] w fun e w' => ∃ v', e = .returned v' ∧ OwnS w' w.heap.size v' (ls.filter (fun l => decide (l ≠ []))) ∧ Below w.heap.size w w' := by
 obtain ⟨i0, hi, hz0, hz1, hz2⟩ := info_parts infoS
 obtain ⟨a, c, b, o, rfl, hc, ha, hcell⟩ := h
 generalize hN : ls.length = n at *
 generalize hP : (fun l : Bs => decide (l ≠ [])) = P at *
 have C := fun x w => nonempty_any x w
 go_enter Tryz.func205, Tryz.ntmps205
 go_wp2
 go_loopw [5, 10] (fun u i wr => ∃ k : Nat, k ≤ n ∧ i = .int .i64 k ∧ OwnS wr w.heap.size u ((ls.take k).filter P) ∧ Below w.heap.size w wr) (fun _ i _ => n - (intOf i).toNat)
 case atStart => exact ⟨0, Nat.zero_le _, rfl, by simpa using OwnS.nil _ _, Below.refl _ _⟩
 case round =>
  obtain ⟨k, hk, rfl, hown, hnx⟩ := hrel
  by_cases hlt : k < n
  ·
   obtain ⟨rfl, hbw⟩ := ha (by omega)
   obtain ⟨x, hx, hcx⟩ : ∃ x : ByteArray, x.data.toList = ls[k] ∧ wr.cell? ⟨b, o + k, none⟩ = some (.string x) := ⟨⟨(ls[k]).toArray⟩, by simp, (hnx.cell (p := ⟨b, o + k, none⟩) hbw).trans (hcell k _ (List.getElem?_eq_getElem (by omega)))⟩
   have hlen := filter_len ls P k
   have hnxt := take_filter ls P k (by omega)
   have hpk : P ls[k] = decide (x.data.toList ≠ []) := by rw [← hP, hx]
   have HS := Lib.hid (And.intro hnxt (And.intro hpk hx))
   have HO := Lib.hid hown
   have HX := Lib.hid hnx
   have hsz := hnx.size
   have Cx := C x
   clear hnxt hpk hx hown hnx hcell ha C
   by_cases hp : x.data.toList ≠ []
   ·
    simp only [decide_eq_true hp] at Cx
    have e := HS.out.1
    rw [HS.out.2.1, decide_eq_true hp, if_pos rfl] at e
    have HE := Lib.hid e
    clear e hp
    go_wp2_with (first
     | (go_at_call 207; refine (Cx _).mono ?_; rintro e w1 ⟨rfl, rfl⟩)
     | (at_builtin; refine wpList_append_own _ rfl _ _ 40 rfl w.heap.size 9 i0 (.string ⟨#[]⟩) 1 16 Tryz.underlying40 hi hz0 hz1 hz2 rfl (by decide) _ _ _ rfl (World.ownsRow.alloc HO.out _) ⟨wr.heap.size, 0, none⟩ 1 1 [.string x] rfl rfl ?c1 ?c2 ?c3 ?c4 ?c5 ?_))
    case c1 =>
     intro j u hj
     match j, hj with
     | 0, hj => simp at hj; subst hj; simp [Addr.add]
    case c2 => intro u hu; simp at hu; subst hu; rfl
    case c3 => unfold maxLen; omega
    case c4 => omega
    case c5 => simp; omega
    ·
     intro v' w1 hown' hgrow _
     have HO' : Hid (OwnS w1 w.heap.size v' ((ls.take (k + 1)).filter P)) := Lib.hid (by rw [HE.out]; exact OwnS.app HS.out.2.2 hown')
     have HB' : Hid (Below w.heap.size w w1) := Lib.hid (below_grown HX.out HO.out hgrow (Nat.le_refl _) hsz)
     clear hown' hgrow
     go_wp2
     go_roundw
     case rel => exact ⟨k + 1, by omega, by go_num, HO'.out, HB'.out⟩
     case measure => simp [intOf]; omega
   ·
    simp only [decide_eq_false hp] at Cx
    have e := HS.out.1
    rw [HS.out.2.1, decide_eq_false hp, if_neg (by simp), List.append_nil] at e
    have HE := Lib.hid e
    clear e hp
    go_wp2_with (go_at_call 207; refine (Cx _).mono ?_; rintro e w1 ⟨rfl, rfl⟩)
    go_roundw
    case rel => exact ⟨k + 1, by omega, by go_num, by rw [HE.out]; exact HO.out, HX.out⟩
    case measure => simp [intOf]; omega
  ·
   obtain rfl : k = n := by omega
   rw [List.take_of_length_le (by omega)] at hown
   have HO := Lib.hid hown
   have HX := Lib.hid hnx
   clear hown hnx hlt ha hcell C
   go_wp2
   go_ret
   exact ⟨_, rfl, HO.out, HX.out⟩
theorem sel_dot (v : Value) (ls : List Bs) (hn : ls.length ≤ 5000) (w : World) (h : Holds' w v ls) :
  Calls Tryz.prog 205 #[v, .func (.func 206) #[] #[]] w fun e w' => ∃ v', e = .returned v' ∧ OwnS w' w.heap.size v' (ls.filter (fun l => decide (l ≠ [46]))) ∧ Below w.heap.size w w' := by
 obtain ⟨i0, hi, hz0, hz1, hz2⟩ := info_parts infoS
 obtain ⟨a, c, b, o, rfl, hc, ha, hcell⟩ := h
 generalize hN : ls.length = n at *
 generalize hP : (fun l : Bs => decide (l ≠ [46])) = P at *
 have C := fun x w => nodot_any x w
 go_enter Tryz.func205, Tryz.ntmps205
 go_wp2
 go_loopw [5, 10] (fun u i wr => ∃ k : Nat, k ≤ n ∧ i = .int .i64 k ∧ OwnS wr w.heap.size u ((ls.take k).filter P) ∧ Below w.heap.size w wr) (fun _ i _ => n - (intOf i).toNat)
 case atStart => exact ⟨0, Nat.zero_le _, rfl, by simpa using OwnS.nil _ _, Below.refl _ _⟩
 case round =>
  obtain ⟨k, hk, rfl, hown, hnx⟩ := hrel
  by_cases hlt : k < n
  ·
   obtain ⟨rfl, hbw⟩ := ha (by omega)
   obtain ⟨x, hx, hcx⟩ : ∃ x : ByteArray, x.data.toList = ls[k] ∧ wr.cell? ⟨b, o + k, none⟩ = some (.string x) := ⟨⟨(ls[k]).toArray⟩, by simp, (hnx.cell (p := ⟨b, o + k, none⟩) hbw).trans (hcell k _ (List.getElem?_eq_getElem (by omega)))⟩
   have hlen := filter_len ls P k
   have hnxt := take_filter ls P k (by omega)
   have hpk : P ls[k] = decide (x.data.toList ≠ [46]) := by rw [← hP, hx]
   have HS := Lib.hid (And.intro hnxt (And.intro hpk hx))
   have HO := Lib.hid hown
   have HX := Lib.hid hnx
   have hsz := hnx.size
   have Cx := C x
   clear hnxt hpk hx hown hnx hcell ha C
   by_cases hp : x.data.toList ≠ [46]
   ·
    simp only [decide_eq_true hp] at Cx
    have e := HS.out.1
    rw [HS.out.2.1, decide_eq_true hp, if_pos rfl] at e
    have HE := Lib.hid e
    clear e hp
    go_wp2_with (first
     | (go_at_call 206; refine (Cx _).mono ?_; rintro e w1 ⟨rfl, rfl⟩)
     | (at_builtin; refine wpList_append_own _ rfl _ _ 40 rfl w.heap.size 9 i0 (.string ⟨#[]⟩) 1 16 Tryz.underlying40 hi hz0 hz1 hz2 rfl (by decide) _ _ _ rfl (World.ownsRow.alloc HO.out _) ⟨wr.heap.size, 0, none⟩ 1 1 [.string x] rfl rfl ?c1 ?c2 ?c3 ?c4 ?c5 ?_))
    case c1 =>
     intro j u hj
     match j, hj with
     | 0, hj => simp at hj; subst hj; simp [Addr.add]
    case c2 => intro u hu; simp at hu; subst hu; rfl
    case c3 => unfold maxLen; omega
    case c4 => omega
    case c5 => simp; omega
    ·
     intro v' w1 hown' hgrow _
     have HO' : Hid (OwnS w1 w.heap.size v' ((ls.take (k + 1)).filter P)) := Lib.hid (by rw [HE.out]; exact OwnS.app HS.out.2.2 hown')
     have HB' : Hid (Below w.heap.size w w1) := Lib.hid (below_grown HX.out HO.out hgrow (Nat.le_refl _) hsz)
     clear hown' hgrow
     go_wp2
     go_roundw
     case rel => exact ⟨k + 1, by omega, by go_num, HO'.out, HB'.out⟩
     case measure => simp [intOf]; omega
   ·
    simp only [decide_eq_false hp] at Cx
    have e := HS.out.1
    rw [HS.out.2.1, decide_eq_false hp, if_neg (by simp), List.append_nil] at e
    have HE := Lib.hid e
    clear e hp
    go_wp2_with (go_at_call 206; refine (Cx _).mono ?_; rintro e w1 ⟨rfl, rfl⟩)
    go_roundw
    case rel => exact ⟨k + 1, by omega, by go_num, by rw [HE.out]; exact HO.out, HX.out⟩
    case measure => simp [intOf]; omega
  ·
   obtain rfl : k = n := by omega
   rw [List.take_of_length_le (by omega)] at hown
   have HO := Lib.hid hown
   have HX := Lib.hid hnx
   clear hown hnx hlt ha hcell C
   go_wp2
   go_ret
   exact ⟨_, rfl, HO.out, HX.out⟩
end
end Go.Proofs.YtkbkaeefdhkgdaaGreatDoor
