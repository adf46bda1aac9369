import Derived.Lib.SplitLaws
import Derived.Lib.Join
import Derived.Lib.LastIndexLaws
import Derived.Lib.ItoaMem
import Derived.Test.YtkbkaeefdhkgdaaGreatDoorProg
import Derived.Lib.SmallJoins
import Derived.WalkLawsBesides
import Derived.WalkSpells
import Derived.BigQuiet
import Derived.Deep.RegionHeld3
namespace Go.Proofs.YtkbkaeefdhkgdaaGreatDoor
section
theorem SL {α : Type} : (∀ (x : α) (l : List α), (l.toArray.setIfInBounds 0 x) = (l.set 0 x).toArray) ∧ (∀ (x : α) (l : List α) (i : Nat), (l.toArray.setIfInBounds i x) = (l.set i x).toArray) ∧ (∀ (x y : α) (l : List α), (y :: l).set 0 x = x :: l) ∧ (∀ (x y : α) (l : List α) (i : Nat), (y :: l).set (i + 1) x = y :: l.set i x) :=
 ⟨fun _ _ => by simp, fun _ _ _ => by simp, fun _ _ _ => rfl, fun _ _ _ _ => rfl⟩
open Go.Lib
abbrev Bs := List UInt8
def pieces (u : Bs) : Bs → List Bs
 | [] => [u]
 | c :: l => if c = 47 then u :: pieces [] l else pieces (u ++ [c]) l
def parts0 (u : Bs) : Bs → List Bs
 | [] => if u = [] then [] else [u]
 | c :: l => if c = 47 then (if u = [] then parts0 [] l else u :: parts0 [] l) else parts0 (u ++ [c]) l
def parts (s : Bs) : List Bs := parts0 [] s
theorem parts0_filter (l : Bs) : ∀ u, (pieces u l).filter (· ≠ []) = parts0 u l := by
 induction l with
 | nil => intro u; by_cases h : u = [] <;> simp [pieces, parts0, h]
 | cons c l ih =>
  intro u
  by_cases hc : c = 47
  ·
   by_cases hu : u = []
   ·
    simp only [pieces, parts0, hc, if_pos, hu]; rw [List.filter_cons, ih]; simp
   ·
    simp only [pieces, parts0, hc, if_pos, if_neg hu]; rw [List.filter_cons, ih]; simp [hu]
  ·
   simp only [pieces, parts0, if_neg hc]; exact ih _
theorem index_no (a : Bs) (h : (47 : UInt8) ∉ a) : index a [47] = -1 := by
 induction a with
 | nil => simp [index]
 | cons b l ih =>
  simp only [List.mem_cons, not_or] at h
  have hp : ([47] : List UInt8).isPrefixOf (b :: l) = false := by simp [List.isPrefixOf, h.1]
  rw [index, hp, ih h.2]; simp
theorem index_at (a r : Bs) (h : (47 : UInt8) ∉ a) : index (a ++ 47 :: r) [47] = (a.length : Int) := by
 induction a with
 | nil => simp [index, List.isPrefixOf]
 | cons b l ih =>
  simp only [List.mem_cons, not_or] at h
  have hp : ([47] : List UInt8).isPrefixOf (b :: l ++ 47 :: r) = false := by simp [List.isPrefixOf, h.1]
  rw [List.cons_append, index, ← List.cons_append, hp, ih h.2]
  have : ¬ ((l.length : Int) == -1) = true := by simp
  simp [this]
theorem pieces_no (a : Bs) (h : (47 : UInt8) ∉ a) : ∀ u, pieces u a = [u ++ a] := by
 induction a with
 | nil => intro u; simp [pieces]
 | cons b l ih =>
  intro u
  simp only [List.mem_cons, not_or] at h
  rw [pieces, if_neg (fun e => h.1 e.symm), ih h.2]; simp
theorem pieces_at (a r : Bs) (h : (47 : UInt8) ∉ a) : ∀ u, pieces u (a ++ 47 :: r) = (u ++ a) :: pieces [] r := by
 induction a with
 | nil => intro u; simp [pieces]
 | cons b l ih =>
  intro u
  simp only [List.mem_cons, not_or] at h
  rw [List.cons_append, pieces, if_neg (fun e => h.1 e.symm), ih h.2]; simp
theorem cut_at (s : Bs) : (47 : UInt8) ∉ s ∨ ∃ a r, (47 : UInt8) ∉ a ∧ s = a ++ 47 :: r := by
 induction s with
 | nil => left; simp
 | cons b l ih =>
  by_cases hb : b = 47
  ·
   right; exact ⟨[], l, by simp, by simp [hb]⟩
  ·
   rcases ih with h | ⟨a, r, h, rfl⟩
   ·
    left; simp only [List.mem_cons, not_or]; exact ⟨fun e => hb e.symm, h⟩
   ·
    right; exact ⟨b :: a, r, by simp only [List.mem_cons, not_or]; exact ⟨fun e => hb e.symm, h⟩, by simp⟩
theorem split_pieces : ∀ (n : Nat) (s : Bs), s.length ≤ n → splitK [47] 0 (count s [47]) s = pieces [] s
 | n, s, hn => by
  rcases cut_at s with h | ⟨a, r, h, rfl⟩
  ·
   rw [count_miss (index_no s h), pieces_no s h]; simp [splitK]
  ·
   match n with
   | 0 => simp at hn
   | n + 1 =>
    have hi := index_at a r h
    have e : a ++ 47 :: r = (a ++ [47]) ++ r := by simp
    have hd : List.drop (a.length + 1) (a ++ 47 :: r) = r := by rw [e]; exact List.drop_left' (by simp)
    rw [count_hit (by simp) hi, pieces_at a r h]
    simp only [List.length_cons, List.length_nil, Nat.zero_add]
    rw [hd, Nat.add_comm, splitK, hi]
    have : ¬ ((a.length : Int) == -1) = true := by simp
    rw [if_neg this]
    simp only [Int.toNat_natCast, Nat.add_zero, List.length_cons, List.length_nil, Nat.zero_add]
    rw [hd, split_pieces n r (by simp at hn; omega)]
    simp
theorem parts_split (s : Bs) : (splitK [47] 0 (count s [47]) s).filter (· ≠ []) = parts s := by rw [split_pieces _ s (Nat.le_refl _), parts0_filter]; rfl
-- Joined
def jn : List Bs → Bs
 | [] => []
 | p :: ps => 47 :: (p ++ jn ps)
def joined (ps : List Bs) : Bs := if ps = [] then [47] else jn ps
theorem jn_append (a b : List Bs) : jn (a ++ b) = jn a ++ jn b := by
 induction a with
 | nil => rfl
 | cons p a ih => simp [jn, ih]
theorem jn_tail (ps : List Bs) : joinTail [47] ps = jn ps := by
 induction ps with
 | nil => rfl
 | cons p ps ih => simp [joinTail, jn] at ih ⊢; exact ih
theorem joined_join (ps : List Bs) : 47 :: join ps [47] = joined ps := by
 cases ps with
 | nil => rfl
 | cons p ps => rw [join_cons, jn_tail]; simp [joined, jn]
theorem jn_sub {a b : List Bs} (h : a.Sublist b) : (jn a).length ≤ (jn b).length := by
 induction h with
 | slnil => simp
 | cons p _ ih => simp [jn]; omega
 | cons_cons p _ ih => simp [jn]; omega
theorem jn_parts0 (l : Bs) : ∀ u, (jn (parts0 u l)).length ≤ u.length + l.length + 1 := by
 induction l with
 | nil => intro u; unfold parts0; split <;> simp [jn]
 | cons c l ih =>
  intro u
  unfold parts0
  split
  ·
   split
   ·
    have := ih []; simp at this ⊢; omega
   ·
    have := ih []; simp [jn] at this ⊢; omega
  ·
   have := ih (u ++ [c]); simp at this ⊢; omega
theorem jn_parts (s : Bs) : (jn (parts s)).length ≤ s.length + 1 := by have := jn_parts0 s []; simpa [parts] using this
theorem len_le_jn (ps : List Bs) : ps.length ≤ (jn ps).length := by
 induction ps with
 | nil => simp
 | cons p ps ih => simp [jn]; omega
theorem parts_len (s : Bs) : (parts s).length ≤ s.length + 1 := Nat.le_trans (len_le_jn _) (jn_parts s)
theorem mem_len {p : Bs} {ps : List Bs} (h : p ∈ ps) : p.length ≤ (jn ps).length := by
 induction ps with
 | nil => cases h
 | cons q ps ih =>
  rcases List.mem_cons.1 h with rfl | h
  ·
   simp [jn]; omega
  ·
   have := ih h; simp [jn]; omega
-- Resolved
def rstep (out : List Bs) (p : Bs) : List Bs := if p = [46, 46] then out.dropLast else if p = [46] then out else out ++ [p]
def resolve (ps : List Bs) : List Bs := ps.foldl rstep []
theorem foldl_filter (ps : List Bs) : ∀ out, (ps.filter (· ≠ [46])).foldl rstep out = ps.foldl rstep out := by
 induction ps with
 | nil => intro out; rfl
 | cons p ps ih =>
  intro out
  by_cases h : p = [46]
  ·
   subst h
   have e : rstep out [46] = out := by simp [rstep]
   rw [List.filter_cons_of_neg (by simp), ih, List.foldl_cons, e]
  ·
   rw [List.filter_cons_of_pos (by simpa using h), List.foldl_cons, List.foldl_cons, ih]
theorem rstep_sub {out : List Bs} {pre : List Bs} (h : out.Sublist pre) (p : Bs) : (rstep out p).Sublist (pre ++ [p]) := by
 unfold rstep
 split
 ·
  exact (List.dropLast_sublist _).trans (h.trans (List.sublist_append_left _ _))
 ·
  split
  ·
   exact h.trans (List.sublist_append_left _ _)
  ·
   exact h.append (List.Sublist.refl _)
theorem foldl_sub (ps : List Bs) : ∀ (out pre : List Bs), out.Sublist pre → (ps.foldl rstep out).Sublist (pre ++ ps) := by
 induction ps with
 | nil => intro out pre h; simpa using h
 | cons p ps ih => intro out pre h; rw [List.foldl_cons]; have := ih _ _ (rstep_sub h p); simpa using this
theorem resolve_sub (ps : List Bs) : (resolve ps).Sublist ps := by simpa [resolve] using foldl_sub ps [] [] (List.Sublist.refl _)
-- Parts are no empty texts without slashes.
def good (p : Bs) : Prop := p ≠ [] ∧ (47 : UInt8) ∉ p
-- The one form, or the error's number.
def okb (c : UInt8) : Bool := decide (33 ≤ c.toNat) && decide (c.toNat ≤ 126)
def cleanE (s : Bs) : Bs × Int :=
 if s.head? = some 47 ∧ s.all okb = true then (if 200 < (joined (resolve (parts s))).length then ([], 8) else (joined (resolve (parts s)), 0)) else ([], 1)
def right (s : Bs) : Bool := decide (cleanE s = (s, 0))
theorem cleanE_zero {s a : Bs} (h : cleanE s = (a, 0)) : a = joined (resolve (parts s)) ∧ s.all okb = true ∧ a.length ≤ 200 := by
 unfold cleanE at h
 split at h
 ·
  rename_i hc
  split at h
  ·
   simp at h
  ·
   simp at h; subst h; exact ⟨rfl, hc.2, by omega⟩
 ·
  simp at h
theorem clean_len (s : Bs) : (joined (resolve (parts s))).length ≤ s.length + 1 := by
 have h1 := jn_sub (resolve_sub (parts s))
 have h2 := jn_parts s
 unfold joined
 split
 ·
  simp
 ·
  omega
-- Directories: with a slash at the end; above; below.
end
section
open Go.Lib
-- Orders that tell -1, 0 or 1
structure Good {α : Type} (c : α → α → Int) : Prop where
 anti : ∀ x y, c y x = -c x y
 vals : ∀ x y, c x y = -1 ∨ c x y = 0 ∨ c x y = 1
 trans : ∀ x y z, c x y ≤ 0 → c y z ≤ 0 → c x z ≤ 0
theorem Good.same {α : Type} {c : α → α → Int} (h : Good c) {x y : α} (z : α) (e : c x y = 0) : c x z = c y z := by
 have h1 := h.anti x y
 have a := h.trans x y z (by omega)
 have b := h.trans y x z (by omega)
 have a' := fun g => h.trans z y x g (by omega)
 have b' := fun g => h.trans z x y g (by omega)
 have v1 := h.vals x z
 have v2 := h.vals y z
 have w1 := h.anti x z
 have w2 := h.anti y z
 rcases v1 with v1 | v1 | v1 <;> rcases v2 with v2 | v2 | v2 <;> first | omega | (have := a (by omega); have := b (by omega); have := a' (by omega); have := b' (by omega); omega) | (have := a (by omega); omega) | (have := b (by omega); omega) | (have := a' (by omega); omega) | (have := b' (by omega); omega)
theorem Good.on {α β : Type} {c : α → α → Int} (h : Good c) (f : β → α) : Good fun x y => c (f x) (f y) :=
 ⟨fun _ _ => h.anti _ _, fun _ _ => h.vals _ _, fun _ _ _ => h.trans _ _ _⟩
def hd {α : Type} (pad : α) (l : List α) : α := l.head?.getD pad
-- Bytes
def dgB (c : UInt8) : Bool := decide (48 ≤ c.toNat) && decide (c.toNat ≤ 57)
def ltB (c : UInt8) : Bool := decide (97 ≤ c.toNat) && decide (c.toNat ≤ 122) || decide (65 ≤ c.toNat) && decide (c.toNat ≤ 90)
-- Pieces
def nonD (s : Bs) : Bs := s.takeWhile fun c => !dgB c
def digs (s : Bs) : Bs := (s.drop (nonD s).length).takeWhile dgB
def rest (s : Bs) : Bs := s.drop ((nonD s).length + (digs s).length)
theorem takeWhile_le {α : Type} (p : α → Bool) (l : List α) : (l.takeWhile p).length ≤ l.length := (List.takeWhile_sublist p).length_le
-- Parts of a version
abbrev Ver := Int × Bs × Bs
def onlyB (marks : Bs) (s : Bs) : Bool := s.all fun c => dgB c || ltB c || marks.contains c
def epochOf (s : Bs) : Int := s.foldl (fun n c => 10 * n + (c.toNat : Int) - 48) 0
def colonAt (s : Bs) : Nat := (s.takeWhile fun c => decide (c ≠ 58)).length
def hyAt (s : Bs) : Nat := s.length - (s.reverse.takeWhile fun c => decide (c ≠ 45)).length
def cutHy (s : Bs) : Bs × Bs := if hyAt s = 0 then (s, [48]) else (s.take (hyAt s - 1), s.drop (hyAt s))
def headDg : Bs → Bool
 | [] => false
 | c :: _ => dgB c
def restV (e : Int) (marks s : Bs) : Option Ver := if headDg (cutHy s).1 = true ∧ onlyB marks (cutHy s).1 = true ∧ (cutHy s).2 ≠ [] ∧ onlyB [46, 43, 126] (cutHy s).2 = true then some (e, cutHy s) else none
def verOf (s : Bs) : Option Ver :=
 if colonAt s < s.length then
  if 1 ≤ colonAt s ∧ colonAt s ≤ 9 ∧ (s.take (colonAt s)).all dgB = true then restV (epochOf (s.take (colonAt s))) [46, 43, 45, 126, 58] (s.drop (colonAt s + 1)) else none
 else restV 0 [46, 43, 45, 126] s
def parseE (s : Bs) : Ver × Int := if 80 < s.length then ((0, [], []), 8) else match verOf s with
 | some v => (v, 0)
 | none => ((0, [], []), 2)
-- A text is parsed as it was
theorem epochOf_snoc (l : Bs) (c : UInt8) : epochOf (l ++ [c]) = 10 * epochOf l + (c.toNat : Int) - 48 := by unfold epochOf; rw [List.foldl_append]; rfl
theorem epoch_bd (l : Bs) : l.all dgB = true → 0 ≤ epochOf l ∧ epochOf l < 10 ^ l.length := by
 have key : ∀ (l : Bs) (n : Int), 0 ≤ n → l.all dgB = true → 0 ≤ l.foldl (fun n c => 10 * n + (c.toNat : Int) - 48) n ∧ l.foldl (fun n c => 10 * n + (c.toNat : Int) - 48) n < (n + 1) * 10 ^ l.length := by
  intro l
  induction l with
  | nil => intro n hn _; simp only [List.foldl_nil, List.length_nil, Int.pow_zero]; omega
  | cons c l ih =>
   intro n hn h
   rw [List.all_cons, Bool.and_eq_true] at h
   have h3 := h.1
   simp only [dgB, Bool.and_eq_true, decide_eq_true_eq] at h3
   obtain ⟨h1, h2⟩ := ih (10 * n + (c.toNat : Int) - 48) (by omega) h.2
   rw [List.foldl_cons, List.length_cons, Int.pow_succ]
   refine ⟨h1, Int.lt_of_lt_of_le h2 ?_⟩
   have hp : (0 : Int) ≤ 10 ^ l.length := Int.le_of_lt (Int.pow_pos (by decide))
   have : (10 * n + (c.toNat : Int) - 48 + 1) * 10 ^ l.length ≤ ((n + 1) * 10) * 10 ^ l.length := Int.mul_le_mul_of_nonneg_right (by omega) hp
   rw [show (n + 1) * (10 ^ l.length * 10) = ((n + 1) * 10) * 10 ^ l.length from by rw [Int.mul_assoc, Int.mul_comm 10]]
   exact this
 intro h
 have := key l 0 (Int.le_refl _) h
 simpa [epochOf] using this
theorem takeWhile_at {α : Type} (p : α → Bool) (a : List α) (x : α) (r : List α) (h : ∀ y ∈ a, p y = true) (hx : p x = false) : (a ++ x :: r).takeWhile p = a := by
 rw [List.takeWhile_append_of_pos h, List.takeWhile_cons]; simp [hx]
theorem takeWhile_all {α : Type} (p : α → Bool) (a : List α) (h : ∀ y ∈ a, p y = true) : a.takeWhile p = a := by
 have := List.takeWhile_append_of_pos (l₂ := []) h
 simpa using this
theorem colonAt_at (a r : Bs) (h : (58 : UInt8) ∉ a) : colonAt (a ++ 58 :: r) = a.length := by
 unfold colonAt; rw [takeWhile_at _ _ _ _ (fun y hy => by simp; rintro rfl; exact h hy) (by simp)]
theorem colonAt_no (a : Bs) (h : (58 : UInt8) ∉ a) : colonAt a = a.length := by
 unfold colonAt; rw [takeWhile_all _ _ (fun y hy => by simp; rintro rfl; exact h hy)]
structure VerOk (v : Ver) : Prop where
 lo : 0 ≤ v.1
 hi : v.1 < 1000000000
 head : headDg v.2.1 = true
 up : onlyB [46, 43, 45, 126, 58] v.2.1 = true
 ne : v.2.2 ≠ []
 rev : onlyB [46, 43, 126] v.2.2 = true
end
section
open Go.RowKit
theorem retb {a b : Bool} (h : a = b) : Ending.returned (.bool a) = Ending.returned (.bool b) := congrArg (fun b => Ending.returned (.bool b)) h
theorem reti {k : IntKind} {a b : Int} (h : a = b) : Ending.returned (.int k a) = Ending.returned (.int k b) := congrArg (fun b => Ending.returned (.int k b)) h
theorem strOf {x : ByteArray} {l : Bs} (h : x.data.toList = l) : x = ⟨l.toArray⟩ := by subst h; simp
theorem bytesOf (l : Bs) : (ByteArray.mk l.toArray).data.toList = l := by simp
theorem sizeOf (s : ByteArray) : s.size = s.data.toList.length := Lib.size_eq s
theorem takeSn (s : ByteArray) (k : Nat) (h : k < s.size) : s.data.toList.take (k + 1) = s.data.toList.take k ++ [s[k]] := by
 have hl : k < s.data.toList.length := by rw [← Lib.size_eq]; exact h
 rw [List.take_add_one, List.getElem?_eq_getElem hl]
 simp; rfl
theorem takeAll (s : ByteArray) : s.data.toList.take s.size = s.data.toList := by rw [sizeOf]; exact List.take_length
theorem takeLen (s : ByteArray) (k : Nat) (h : k ≤ s.size) : (s.data.toList.take k).length = k := by rw [List.length_take, ← sizeOf]; omega
theorem dropC (s : ByteArray) (k : Nat) (h : k < s.size) : s.data.toList.drop k = s[k] :: s.data.toList.drop (k + 1) := by
 have hl : k < s.data.toList.length := by rw [← Lib.size_eq]; exact h
 rw [List.drop_eq_getElem_cons hl]; rfl
theorem dropAll (s : ByteArray) : s.data.toList.drop s.size = [] := by rw [sizeOf]; exact List.drop_length
theorem allNx {s : ByteArray} {f : UInt8 → Bool} {k : Nat} (h : k < s.size) (ha : (s.data.toList.take k).all f = true) (hf : f s[k] = true) : (s.data.toList.take (k + 1)).all f = true := by
 rw [takeSn s k h, List.all_append, ha]; simp [hf]
theorem allSt {s : ByteArray} {f : UInt8 → Bool} {k : Nat} (h : k < s.size) (hf : f s[k] = false) : s.data.toList.all f = false := by
 rw [List.all_eq_false]
 exact ⟨s[k], by have := takeSn s k h; exact List.mem_of_mem_take (by rw [this]; simp), by simp [hf]⟩
theorem allDn {s : ByteArray} {f : UInt8 → Bool} (ha : (s.data.toList.take s.size).all f = true) : s.data.toList.all f = true := by rwa [takeAll] at ha
theorem extL (s : ByteArray) (a b : Nat) : (s.extract a b).data.toList = (s.data.toList.drop a).take (b - a) := by
 rw [Lib.extract_data]
theorem eqT (x y : ByteArray) : (x.toList == y.toList) = decide (x.data.toList = y.data.toList) := by
 rw [ByteArray.toList_eq, ByteArray.toList_eq]
 by_cases h : x.data.toList = y.data.toList
 ·
  simp [h]
 ·
  rw [decide_eq_false h]; simpa using h
theorem eqTL (x : ByteArray) (l : Bs) : (x.toList == l) = decide (x.data.toList = l) := by
 rw [ByteArray.toList_eq]
 by_cases h : x.data.toList = l
 ·
  simp [h]
 ·
  rw [decide_eq_false h]; simpa using h
theorem lessL : ∀ (x y : Bs), Op.bytesLess x y = decide (x < y)
 | x, [] => by simp [Op.bytesLess]
 | [], b :: y => by simp [Op.bytesLess]
 | a :: x, b :: y => by
  rw [Op.bytesLess, lessL x y, Bool.eq_iff_iff]
  simp [List.cons_lt_cons_iff]
theorem lessT (x y : ByteArray) : Op.bytesLess x.toList y.toList = decide (x.data.toList < y.data.toList) := by
 rw [ByteArray.toList_eq, ByteArray.toList_eq]; exact lessL _ _
theorem emptyT (x : ByteArray) : x.toList.isEmpty = decide (x.size = 0) := by
 rw [ByteArray.toList_eq, sizeOf]; cases x.data.toList <;> simp
theorem belowQ {B : Nat} {a w : World} (h : Below B a w) (n : Nat) : Below B a (w.drewN n) := ⟨h.os, h.tape, h.output, h.size, h.block⟩
end
section
open Go.RowKit
section
variable {P : Program} {ops : Array Oper} {Q : Exit → Act → World → Prop} {md : Region.Mode} {S : World → Prop}
theorem heldYes (i d : Nat) (v : Value) {fuel : Nat} {listed : Array Bool} {a : Act} {w : World} (hd : (ops[i]?).map (·.dst) = some (some d)) (hs : Region.noSelect ops = true) (hf : Region.free md ops listed i = true) (hr : (Region.ready md ops listed).contains i = true)
  (hQ : ∀ c a w, Q (.panic c) (a.put (some d) v) w → Q (.panic c) a w) (hw : ((ops[i]?).map fun o => Region.wanted o (yielded ops a.tmps)) = some true) (hS : S w)
  (hy : ∀ w, S w → ((ops[i]?).map fun o => (execOp a.eval o).run P w) = some (.ok (.value v) w))
  (h : wpAnyH P md ops Q S fuel (listed.setIfInBounds i true) { tmps := a.tmps.setIfInBounds d v, defers := a.defers } w) : wpAnyH P md ops Q S (fuel + 1) listed a w := by
 cases ho : ops[i]? with
 | none => rw [ho] at hd; cases hd
 | some o =>
  rw [ho] at hd hw hy
  simp only [Option.map_some, Option.some.injEq] at hd hw hy
  refine wpAnyH_take ho hs hf hr (v := v) (fun c a w => by rw [hd]; exact hQ c a w) (Or.inl ⟨hw, hy⟩) hS ?_
  rw [hd]; exact h
theorem heldNo (i d : Nat) {fuel : Nat} {listed : Array Bool} {a : Act} {w : World} (hd : (ops[i]?).map (·.dst) = some (some d)) (hs : Region.noSelect ops = true) (hf : Region.free md ops listed i = true) (hr : (Region.ready md ops listed).contains i = true)
  (hQ : ∀ c a w, Q (.panic c) (a.put (some d) undef) w → Q (.panic c) a w) (hw : ((ops[i]?).map fun o => Region.wanted o (yielded ops a.tmps)) = some false) (hS : S w)
  (h : wpAnyH P md ops Q S fuel (listed.setIfInBounds i true) { tmps := a.tmps.setIfInBounds d undef, defers := a.defers } w) : wpAnyH P md ops Q S (fuel + 1) listed a w := by
 cases ho : ops[i]? with
 | none => rw [ho] at hd; cases hd
 | some o =>
  rw [ho] at hd hw
  simp only [Option.map_some, Option.some.injEq] at hd hw
  refine wpAnyH_take ho hs hf hr (v := undef) (fun c a w => by rw [hd]; exact hQ c a w) (Or.inr ⟨hw, rfl⟩) hS ?_
  rw [hd]; exact h
end
end
section
open Go.RowKit
theorem infoT : (Tryz.prog.info? 9).map (fun i => (i.zero, i.size, i.bytes)) = some (some (.string ⟨#[]⟩), 1, 16) := by kernel_rfl
def HoldT (w : World) (v : Value) (ls : List Bs) : Prop :=
 ∃ (a : Option Addr) (c b o : Nat), v = .slice a ls.length c ∧ ls.length ≤ c ∧ (0 < ls.length → a = some ⟨b, o, none⟩ ∧ b < w.heap.size) ∧ ∀ (j : Nat) l, ls[j]? = some l → w.cell? ⟨b, o + j, none⟩ = some (.string ⟨l.toArray⟩)
theorem HoldT.on {w w' : World} {v : Value} {ls : List Bs} (h : HoldT w v ls) (hb : Below w.heap.size w w') : HoldT w' v ls := by
 obtain ⟨a, c, b, o, rfl, hc, ha, hcell⟩ := h
 refine ⟨a, c, b, o, rfl, hc, fun h0 => ⟨(ha h0).1, Nat.lt_of_lt_of_le (ha h0).2 hb.size⟩, fun j l hj => ?_⟩
 have h0 : 0 < ls.length := by
  have := (List.getElem?_eq_some_iff.1 hj).1; omega
 rw [hb.cell (ha h0).2]
 exact hcell j l hj
abbrev txts (ls : List Bs) : List Value := ls.map fun l => Value.string ⟨l.toArray⟩
def OwnT (w : World) (base : Nat) (v : Value) (ls : List Bs) : Prop := w.ownsRow base 9 1 v ls.length (txts ls)
theorem OwnT.nil (w : World) (base : Nat) : OwnT w base (.slice none 0 0) [] := World.ownsRow_nil _ _ _ _
theorem cellRow (w : World) (g i : Nat) (cur : Array Value) (e : TypeId) (fz : Nat × Nat) (hg : w.heap[g]? = some (.cells cur e fz)) : w.cell? ⟨g, i, none⟩ = cur[i]? := by
 simp [World.cell?, hg]
theorem OwnT.holds {w : World} {base : Nat} {v : Value} {ls : List Bs} (h : OwnT w base v ls) : HoldT w v ls := by
 rcases h.2 with ⟨rfl, h0⟩ | ⟨g, cap, cur, rfl, hb, hg, hn, hm, hs, ht⟩
 ·
  have : ls = [] := List.eq_nil_of_length_eq_zero h0
  subst this
  exact ⟨none, 0, 0, 0, rfl, Nat.le_refl _, fun h => absurd h (by simp), fun j l hj => by simp at hj⟩
 ·
  refine ⟨some ⟨g, 0, none⟩, cap, g, 0, rfl, hn, fun _ => ⟨rfl, (Array.getElem?_eq_some_iff.1 hg).1⟩, fun j l hj => ?_⟩
  have hj' := (List.getElem?_eq_some_iff.1 hj).1
  have e1 : (cur.toList.take (ls.length * 1))[j]? = (txts ls)[j]? := by rw [ht]
  rw [List.getElem?_take, if_pos (by omega), Array.getElem?_toList, List.getElem?_map, hj] at e1
  rw [Nat.zero_add, cellRow w g j cur 9 (0, 0) hg, e1]
  rfl
theorem OwnT.mono {w : World} {base base' : Nat} {v : Value} {ls : List Bs} (h : OwnT w base v ls) (hb : base' ≤ base) : OwnT w base' v ls := by
 refine ⟨h.1, ?_⟩
 rcases h.2 with hn | ⟨g, cap, cur, hv, hb', rest⟩
 ·
  exact .inl hn
 ·
  exact .inr ⟨g, cap, cur, hv, by omega, rest⟩
theorem OwnT.cut {w : World} {base : Nat} {a : Option Addr} {c n : Nat} {ls : List Bs} (h : OwnT w base (.slice a n c) ls) (hl : 0 < ls.length) : OwnT w base (.slice a (n - 1) c) ls.dropLast := by
 rcases h.2 with ⟨_, h0⟩ | ⟨g, cap, cur, hv, hb, hg, hn, hm, hs, ht⟩
 ·
  omega
 ·
  simp only [Value.slice.injEq] at hv
  obtain ⟨rfl, rfl, rfl⟩ := hv
  refine ⟨by simp [txts], .inr ⟨g, c, cur, by rw [List.length_dropLast], hb, hg, by rw [List.length_dropLast]; omega, hm, hs, ?_⟩⟩
  rw [List.length_dropLast]
  have : cur.toList.take ((ls.length - 1) * 1) = (cur.toList.take (ls.length * 1)).take (ls.length - 1) := by rw [List.take_take]; congr 1; omega
  rw [this, ht, txts, txts, List.dropLast_eq_take, List.map_take]
theorem OwnT.made (w : World) (xs : List ByteArray) (hn : xs.length ≤ maxLen) : OwnT (w.alloc (.cells (xs.map Value.string).toArray 9)) w.heap.size (.slice (some ⟨w.heap.size, 0, none⟩) xs.length xs.length) (xs.map (·.data.toList)) := by
 refine ⟨by simp [txts], .inr ⟨w.heap.size, xs.length, (xs.map Value.string).toArray, by simp, Nat.le_refl _, heap_alloc_new w _, by simp, hn, by simp, ?_⟩⟩
 rw [List.length_map, Nat.mul_one, List.take_of_length_le (by simp)]
 simp [txts]
theorem OwnT.app {w' : World} {base : Nat} {v' : Value} {ls : List Bs} {x : ByteArray} {l : Bs} (hx : x.data.toList = l) (h : w'.ownsRow base 9 1 v' (ls.length + 1) (txts ls ++ [.string x])) : OwnT w' base v' (ls ++ [l]) := by
 have e : txts (ls ++ [l]) = txts ls ++ [.string x] := by simp [txts, strOf hx]
 unfold OwnT
 rw [e, List.length_append]
 exact h
theorem belowG {B : Nat} {w0 w w' : World} {o : Obj} {base : Nat} {v : Value} {ls : List Bs} (h : Below B w0 w) (hown : OwnT w base v ls) (hg : (w.alloc o).grownBy w' v.ownBlock) (hB : B ≤ base) (hBw : B ≤ w.heap.size) : Below B w0 w' :=
 (h.alloc hBw o).grown hg (by simp; omega) (fun k hk => by have := (hown.lt k hk).1; omega)
end
section
open Go.RowKit
def AtF (w : World) : List (Addr × Value) → World → Prop
 | [], V => Below w.heap.size w V
 | (a, v) :: l, V => V.cell? a = some v ∧ AtF w l V
theorem AtF.be {w V : World} : ∀ {l : List (Addr × Value)}, AtF w l V → Below w.heap.size w V
 | [], h => h
 | (_, _) :: _, h => AtF.be h.2
theorem AtF.on {w V V' : World} : ∀ {l : List (Addr × Value)}, AtF w l V → Below V.heap.size V V' → AtF w l V'
 | [], h, hb => Below.trans h (hb.mono (Below.size h))
 | (_, _) :: _, h, hb => ⟨(hb.cell (World.block_lt_of_cell? V _ h.1)).trans h.1, AtF.on h.2 hb⟩
theorem AtF.dr {w V : World} {l : List (Addr × Value)} (h : AtF w l V) : AtF w l V.drew := h.on (Below.refl _ _).drew
section
variable {P : Program} {ops : Array Oper} {Q : Exit → Act → World → Prop} {md : Region.Mode} {S : World → Prop}
theorem heldY (i d : Nat) (v : Value) (o : Oper) {fuel : Nat} {listed : Array Bool} {a : Act} {w : World} (ho : ops[i]? = some o) (hd : o.dst = some d) (hs : Region.noSelect ops = true) (hf : Region.free md ops listed i = true) (hr : (Region.ready md ops listed).contains i = true)
  (hQ : ∀ c a w, Q (.panic c) (a.put (some d) v) w → Q (.panic c) a w) (hw : Region.wanted o (yielded ops a.tmps) = true) (hS : S w)
  (hy : ∀ w, S w → (execOp a.eval o).run P w = .ok (.value v) w)
  (h : wpAnyH P md ops Q S fuel (listed.setIfInBounds i true) { tmps := a.tmps.setIfInBounds d v, defers := a.defers } w) : wpAnyH P md ops Q S (fuel + 1) listed a w :=
 heldYes i d v (by rw [ho]; exact congrArg some hd) hs hf hr hQ (by rw [ho]; exact congrArg some hw) hS (fun w hw => by rw [ho]; exact congrArg some (hy w hw)) h
end
theorem AtF.al {w V : World} {l : List (Addr × Value)} (h : AtF w l V) (o : Obj) : AtF w l (V.alloc o) := h.on ((Below.refl _ _).alloc (Nat.le_refl _) o)
theorem AtF.ald {w V : World} {l : List (Addr × Value)} (h : AtF w l V) (o : Obj) : AtF w l (V.alloc o).drew := (h.al o).dr
theorem boxV2 (W : World) (x y : Value) (t : TypeId) : (W.alloc (.cells #[x, y] t)).cell? ⟨W.heap.size, 0, none⟩ = some x ∧ (W.alloc (.cells #[x, y] t)).cell? ⟨W.heap.size, 1, none⟩ = some y := by
 have h := heap_alloc_new W (.cells #[x, y] t)
 exact ⟨by rw [cellRow _ W.heap.size 0 _ t (0, 0) h]; rfl, by rw [cellRow _ W.heap.size 1 _ t (0, 0) h]; rfl⟩
theorem boxV3 (W : World) (x y z : Value) (t : TypeId) : (W.alloc (.cells #[x, y, z] t)).cell? ⟨W.heap.size, 0, none⟩ = some x ∧ (W.alloc (.cells #[x, y, z] t)).cell? ⟨W.heap.size, 1, none⟩ = some y ∧ (W.alloc (.cells #[x, y, z] t)).cell? ⟨W.heap.size, 2, none⟩ = some z := by
 have h := heap_alloc_new W (.cells #[x, y, z] t)
 exact ⟨by rw [cellRow _ W.heap.size 0 _ t (0, 0) h]; rfl, by rw [cellRow _ W.heap.size 1 _ t (0, 0) h]; rfl, by rw [cellRow _ W.heap.size 2 _ t (0, 0) h]; rfl⟩
structure AtK (w : World) (l : List (Addr × Value)) : Prop where
 dr : ∀ V, AtF w l V → AtF w l V.drew
 on : ∀ V V', AtF w l V → Below V.heap.size V V' → AtF w l V'
 al : ∀ V o, AtF w l V → AtF w l (V.alloc o)
 ald : ∀ V o, AtF w l V → AtF w l (V.alloc o).drew
theorem atK (w : World) (l : List (Addr × Value)) : AtK w l := ⟨fun _ h => h.dr, fun _ _ h hb => h.on hb, fun _ o h => h.al o, fun _ o h => h.ald o⟩
end
section
-- Marks
theorem only_same {m m' s : Bs} (h : ∀ c ∈ s, m.contains c = m'.contains c) : onlyB m s = onlyB m' s := by
 unfold onlyB
 rw [Bool.eq_iff_iff, List.all_eq_true, List.all_eq_true]
 exact ⟨fun g c hc => by rw [← h c hc]; exact g c hc, fun g c hc => by rw [h c hc]; exact g c hc⟩
theorem cut_sub (s : Bs) : ∀ c ∈ (cutHy s).1, c ∈ s := by
 unfold cutHy
 split
 ·
  exact fun c h => h
 ·
  exact fun c h => List.mem_of_mem_take h
theorem restV_plain {e : Int} {s : Bs} (h : (58 : UInt8) ∉ s) : restV e [46, 43, 45, 126] s = restV e [46, 43, 45, 126, 58] s := by
 unfold restV
 rw [only_same (m := [46, 43, 45, 126]) (m' := [46, 43, 45, 126, 58]) (s := (cutHy s).1)]
 intro c hc
 have hn : c ≠ 58 := fun e => h (e ▸ cut_sub s c hc)
 simp [hn]
end
section
open Go.RowKit
-- Rows
def HoldR (k : Nat) (w : World) (v : Value) (rs : List (List Bs)) : Prop :=
 ∃ (a : Option Addr) (c b o : Nat), v = .slice a rs.length c ∧ rs.length ≤ c ∧ (0 < rs.length → a = some ⟨b, o, none⟩ ∧ b < w.heap.size) ∧
  ∀ (j : Nat) r, rs[j]? = some r → ∀ (i : Nat) x, i < k → r[i]? = some x → w.cell? ⟨b, o + j * k + i, none⟩ = some (.string ⟨x.toArray⟩)
theorem HoldR.on {k : Nat} {w w' : World} {v : Value} {rs : List (List Bs)} (h : HoldR k w v rs) (hb : Below w.heap.size w w') : HoldR k w' v rs := by
 obtain ⟨a, c, b, o, rfl, hc, ha, hcell⟩ := h
 refine ⟨a, c, b, o, rfl, hc, fun h0 => ⟨(ha h0).1, Nat.lt_of_lt_of_le (ha h0).2 hb.size⟩, fun j r hj i x hi hx => ?_⟩
 have h0 : 0 < rs.length := by have := (List.getElem?_eq_some_iff.1 hj).1; omega
 rw [hb.cell (ha h0).2]
 exact hcell j r hj i x hi hx
theorem HoldR.cut {k : Nat} {w : World} {a : Option Addr} {c n : Nat} {rs : List (List Bs)} (h : HoldR k w (.slice a n c) rs) (m : Nat) (hm : m ≤ n) : HoldR k w (.slice a m c) (rs.take m) := by
 obtain ⟨a', c', b, o, e, hc, ha, hcell⟩ := h
 simp only [Value.slice.injEq] at e
 obtain ⟨rfl, rfl, rfl⟩ := e
 have hl : (rs.take m).length = m := by rw [List.length_take]; omega
 refine ⟨a, c, b, o, by rw [hl], by omega, fun h0 => ha (by omega), fun j r hj => ?_⟩
 rw [List.getElem?_take] at hj
 split at hj
 ·
  exact hcell j r hj
 ·
  cases hj
end
end Go.Proofs.YtkbkaeefdhkgdaaGreatDoor
