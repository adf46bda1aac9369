/-
  Versions: an order out of orders; pieces, words, numbers; a version's parts and its text; nothing of the program. Small words that every seat's walks over texts want: results, the next byte, cut texts, what the world keeps. Lists of texts in memory, for every seat: what a slice of texts holds, what one of the call's own owns; how it is carried.
-/
import Derived.Test.YtbeoklihpkfofaaGreatDoorPNameRef
import Derived.Lib.ItoaMem
import Derived.Test.YtbeoklihpkfofaaGreatDoorProg
import Derived.WalkKit
import Derived.Lib.Hide
import Derived.Below
import Derived.OwnWalk
import Derived.Lib.SmallJoins
import Derived.WalkLawsBesides
import Derived.WalkSpells
import Derived.Deep.QuietTactic
import Derived.BigQuiet
namespace Go.Proofs.YtbeoklihpkfofaaGreatDoor
open Go.Lib

-- Orders that tell -1, 0 or 1
structure Good {α : Type} (c : α → α → Int) : Prop where
  anti : ∀ x y, c y x = -c x y
  vals : ∀ x y, c x y = -1 ∨ c x y = 0 ∨ c x y = 1
  trans : ∀ x y z, c x y ≤ 0 → c y z ≤ 0 → c x z ≤ 0
theorem Good.self {α : Type} {c : α → α → Int} (h : Good c) (x : α) : c x x = 0 := by have := h.anti x x; omega
theorem Good.same {α : Type} {c : α → α → Int} (h : Good c) {x y : α} (z : α) (e : c x y = 0) : c x z = c y z := by
  have h1 := h.anti x y
  have a := h.trans x y z (by omega)
  have b := h.trans y x z (by omega)
  have a' := fun g => h.trans z y x g (by omega)
  have b' := fun g => h.trans z x y g (by omega)
  have v1 := h.vals x z
  have v2 := h.vals y z
  have w1 := h.anti x z
  have w2 := h.anti y z
  rcases v1 with v1 | v1 | v1 <;> rcases v2 with v2 | v2 | v2 <;> first | omega | (have := a (by omega); have := b (by omega); have := a' (by omega); have := b' (by omega); omega) | (have := a (by omega); omega) | (have := b (by omega); omega) | (have := a' (by omega); omega) | (have := b' (by omega); omega)
theorem Good.less {α : Type} {c : α → α → Int} (h : Good c) {x y z : α} (h1 : c x y < 0) (h2 : c y z ≤ 0) : c x z < 0 := by
  have a := h.trans x y z (by omega) h2
  rcases Int.lt_or_eq_of_le a with a | a
  · exact a
  · have := h.same y a
    have := h.anti y z
    omega
theorem Good.less' {α : Type} {c : α → α → Int} (h : Good c) {x y z : α} (h1 : c x y ≤ 0) (h2 : c y z < 0) : c x z < 0 := by
  have a := h.trans x y z h1 (by omega)
  rcases Int.lt_or_eq_of_le a with a | a
  · exact a
  · have := h.same y a
    have := h.anti x y
    have := h.anti y z
    omega
theorem Good.on {α β : Type} {c : α → α → Int} (h : Good c) (f : β → α) : Good fun x y => c (f x) (f y) :=
  ⟨fun _ _ => h.anti _ _, fun _ _ => h.vals _ _, fun _ _ _ => h.trans _ _ _⟩
def both {α β : Type} (c : α → α → Int) (d : β → β → Int) (x y : α × β) : Int := if c x.1 y.1 ≠ 0 then c x.1 y.1 else d x.2 y.2
theorem Good.both {α β : Type} {c : α → α → Int} {d : β → β → Int} (h : Good c) (g : Good d) : Good (both c d) where
  anti x y := by
    unfold Proofs.YtbeoklihpkfofaaGreatDoor.both
    have h1 := h.anti x.1 y.1
    have h2 := g.anti x.2 y.2
    by_cases e : c x.1 y.1 = 0
    · rw [if_neg (by omega), if_neg (by omega)]; omega
    · rw [if_pos (by omega), if_pos (by omega)]; omega
  vals x y := by
    unfold Proofs.YtbeoklihpkfofaaGreatDoor.both
    split
    · exact h.vals _ _
    · exact g.vals _ _
  trans x y z := by
    unfold Proofs.YtbeoklihpkfofaaGreatDoor.both
    by_cases e : c x.1 y.1 = 0
    · have s := h.same z.1 e
      rw [if_neg (by omega), s]
      by_cases f : c y.1 z.1 = 0
      · rw [if_neg (by omega), if_neg (by omega)]; exact g.trans _ _ _
      · rw [if_pos f, if_pos f]; intro _ hh; exact hh
    · rw [if_pos e]
      intro h1
      by_cases f : c y.1 z.1 = 0
      · have := h.less (x := x.1) (y := y.1) (z := z.1) (by omega) (by omega)
        rw [if_pos (by omega : c x.1 z.1 ≠ 0)]; intro _; omega
      · rw [if_pos f]; intro h2
        have := h.less (x := x.1) (y := y.1) (z := z.1) (by omega) h2
        rw [if_pos (by omega : c x.1 z.1 ≠ 0)]; omega
def hd {α : Type} (pad : α) (l : List α) : α := l.head?.getD pad
def lexR {α : Type} (c : α → α → Int) (pad : α) : List α → Int
  | [] => 0
  | y :: ys => if c pad y ≠ 0 then c pad y else lexR c pad ys
/-- One by one; what is short goes on with pads. -/
def lexL {α : Type} (c : α → α → Int) (pad : α) : List α → List α → Int
  | [], ys => lexR c pad ys
  | x :: xs, ys => if c x (hd pad ys) ≠ 0 then c x (hd pad ys) else lexL c pad xs ys.tail
theorem lexL_next {α : Type} {c : α → α → Int} (h : Good c) (pad : α) (xs ys : List α) : lexL c pad xs ys = if c (hd pad xs) (hd pad ys) ≠ 0 then c (hd pad xs) (hd pad ys) else lexL c pad xs.tail ys.tail := by
  cases xs with
  | cons x xs => rfl
  | nil =>
    cases ys with
    | nil => simp [lexL, lexR, hd, h.self]
    | cons y ys => rfl
theorem lexL_nil {α : Type} (c : α → α → Int) (pad : α) : lexL c pad [] [] = 0 := rfl
theorem lexL_good {α : Type} {c : α → α → Int} (h : Good c) (pad : α) : Good (lexL c pad) := by
  have anti : ∀ n (xs ys : List α), xs.length + ys.length ≤ n → lexL c pad ys xs = -lexL c pad xs ys := by
    intro n
    induction n with
    | zero =>
      intro xs ys hn
      obtain rfl := List.eq_nil_of_length_eq_zero (by omega : xs.length = 0)
      obtain rfl := List.eq_nil_of_length_eq_zero (by omega : ys.length = 0)
      rw [lexL_nil]; rfl
    | succ n ih =>
      intro xs ys hn
      by_cases h0 : xs.length + ys.length = 0
      · obtain rfl := List.eq_nil_of_length_eq_zero (by omega : xs.length = 0)
        obtain rfl := List.eq_nil_of_length_eq_zero (by omega : ys.length = 0)
        rw [lexL_nil]; rfl
      · have := ih xs.tail ys.tail (by simp only [List.length_tail]; omega)
        rw [lexL_next h, lexL_next h pad xs ys]
        have a := h.anti (hd pad xs) (hd pad ys)
        by_cases e : c (hd pad xs) (hd pad ys) = 0
        · rw [if_neg (by omega), if_neg (by omega)]; exact this
        · rw [if_pos (by omega), if_pos e]; exact a
  have vals : ∀ n (xs ys : List α), xs.length + ys.length ≤ n → lexL c pad xs ys = -1 ∨ lexL c pad xs ys = 0 ∨ lexL c pad xs ys = 1 := by
    intro n
    induction n with
    | zero =>
      intro xs ys hn
      obtain rfl := List.eq_nil_of_length_eq_zero (by omega : xs.length = 0)
      obtain rfl := List.eq_nil_of_length_eq_zero (by omega : ys.length = 0)
      exact .inr (.inl (lexL_nil _ _))
    | succ n ih =>
      intro xs ys hn
      by_cases h0 : xs.length + ys.length = 0
      · obtain rfl := List.eq_nil_of_length_eq_zero (by omega : xs.length = 0)
        obtain rfl := List.eq_nil_of_length_eq_zero (by omega : ys.length = 0)
        exact .inr (.inl (lexL_nil _ _))
      · rw [lexL_next h]
        split
        · exact h.vals _ _
        · exact ih _ _ (by simp only [List.length_tail]; omega)
  have trans : ∀ n (xs ys zs : List α), xs.length + ys.length + zs.length ≤ n → lexL c pad xs ys ≤ 0 → lexL c pad ys zs ≤ 0 → lexL c pad xs zs ≤ 0 := by
    intro n
    induction n with
    | zero =>
      intro xs ys zs hn
      obtain rfl := List.eq_nil_of_length_eq_zero (by omega : xs.length = 0)
      obtain rfl := List.eq_nil_of_length_eq_zero (by omega : zs.length = 0)
      intro _ _
      exact Int.le_of_eq (lexL_nil _ _)
    | succ n ih =>
      intro xs ys zs hn
      by_cases h0 : xs.length + ys.length + zs.length = 0
      · obtain rfl := List.eq_nil_of_length_eq_zero (by omega : xs.length = 0)
        obtain rfl := List.eq_nil_of_length_eq_zero (by omega : zs.length = 0)
        intro _ _
        exact Int.le_of_eq (lexL_nil _ _)
      · have := ih xs.tail ys.tail zs.tail (by simp only [List.length_tail]; omega)
        rw [lexL_next h pad xs ys, lexL_next h pad ys zs, lexL_next h pad xs zs]
        generalize hd pad xs = x at *
        generalize hd pad ys = y at *
        generalize hd pad zs = z at *
        by_cases e : c x y = 0
        · have s := h.same z e
          rw [if_neg (by omega), s]
          by_cases f : c y z = 0
          · rw [if_neg (by omega), if_neg (by omega)]; exact this
          · rw [if_pos f, if_pos f]; intro _ hh; exact hh
        · rw [if_pos e]
          intro h1
          by_cases f : c y z = 0
          · have := h.less (x := x) (y := y) (z := z) (by omega) (by omega)
            rw [if_pos (by omega : c x z ≠ 0)]; intro _; omega
          · rw [if_pos f]; intro h2
            have := h.less (x := x) (y := y) (z := z) (by omega) h2
            rw [if_pos (by omega : c x z ≠ 0)]; omega
  exact ⟨fun x y => anti _ x y (Nat.le_refl _), fun x y => vals _ x y (Nat.le_refl _), fun x y z => trans _ x y z (Nat.le_refl _)⟩
def sgn (x y : Int) : Int := if x < y then -1 else if y < x then 1 else 0
theorem sgn_lt {x y : Int} (h : x < y) : sgn x y = -1 := by unfold sgn; rw [if_pos h]
theorem sgn_gt {x y : Int} (h : y < x) : sgn x y = 1 := by unfold sgn; rw [if_neg (by omega), if_pos h]
theorem sgn_eq (x : Int) : sgn x x = 0 := by unfold sgn; rw [if_neg (by omega), if_neg (by omega)]
theorem sgn_cases (x y : Int) : (x < y ∧ sgn x y = -1) ∨ (y < x ∧ sgn x y = 1) ∨ (x = y ∧ sgn x y = 0) := by
  rcases Int.lt_trichotomy x y with h | h | h
  · exact .inl ⟨h, sgn_lt h⟩
  · subst h; exact .inr (.inr ⟨rfl, sgn_eq x⟩)
  · exact .inr (.inl ⟨h, sgn_gt h⟩)
theorem sgn_good : Good sgn where
  anti x y := by have := sgn_cases x y; have := sgn_cases y x; omega
  vals x y := by have := sgn_cases x y; omega
  trans x y z := by have := sgn_cases x y; have := sgn_cases y z; have := sgn_cases x z; omega
def bcmp (x y : Bs) : Int := if x < y then -1 else if x = y then 0 else 1
theorem bcmp_good : Good bcmp where
  anti x y := by
    unfold bcmp
    by_cases h : x < y
    · rw [if_pos h, if_neg (fun g => List.lt_irrefl _ (List.lt_trans h g)), if_neg (fun g => by subst g; exact List.lt_irrefl _ h)]; rfl
    · rw [if_neg h]
      by_cases e : x = y
      · subst e; rw [if_neg (List.lt_irrefl _)]; simp
      · rw [if_neg e]
        have : y < x := by
          rcases List.le_total x y with g | g
          · exact absurd (List.le_antisymm g (List.not_lt.1 h)) e
          · exact List.not_le.1 fun g' => e (List.le_antisymm g' g)
        rw [if_pos this]
  vals x y := by
    unfold bcmp
    by_cases h : x < y
    · rw [if_pos h]; omega
    · rw [if_neg h]
      by_cases e : x = y
      · rw [if_pos e]; omega
      · rw [if_neg e]; omega
  trans x y z := by
    have key : ∀ a b : Bs, bcmp a b ≤ 0 ↔ a ≤ b := fun a b => by
      unfold bcmp
      by_cases h : a < b
      · rw [if_pos h]; exact ⟨fun _ => List.le_of_lt h, fun _ => by omega⟩
      · rw [if_neg h]
        by_cases e : a = b
        · subst e; simp
        · rw [if_neg e]; exact ⟨fun g => absurd g (by decide), fun g => absurd (List.le_antisymm g (List.not_lt.1 h)) e⟩
    rw [key, key, key]
    exact List.le_trans

-- Bytes
def dgB (c : UInt8) : Bool := decide (48 ≤ c.toNat) && decide (c.toNat ≤ 57)
def ltB (c : UInt8) : Bool := decide (97 ≤ c.toNat) && decide (c.toNat ≤ 122) || decide (65 ≤ c.toNat) && decide (c.toNat ≤ 90)
def wt (c : UInt8) : Int := if c.toNat = 126 then -1 else if ltB c = true then (c.toNat : Int) else 256 + (c.toNat : Int)
theorem wt_bd (c : UInt8) : -1 ≤ wt c ∧ wt c ≤ 600 := by
  have := UInt8.toNat_lt c
  unfold wt
  by_cases h : c.toNat = 126
  · rw [if_pos h]; omega
  · rw [if_neg h]
    by_cases g : ltB c = true
    · rw [if_pos g]; omega
    · rw [if_neg g]; omega
def wcmp (p q : Bs) : Int := lexL sgn 0 (p.map wt) (q.map wt)
theorem wcmp_good : Good wcmp := (lexL_good sgn_good 0).on fun p : Bs => p.map wt
def ncmp (n m : Bs) : Int := if n.length < m.length ∨ n.length = m.length ∧ n < m then -1 else if n = m then 0 else 1
theorem ncmp_both (n m : Bs) : ncmp n m = both sgn bcmp ((n.length : Int), n) ((m.length : Int), m) := by
  unfold ncmp both bcmp
  show _ = if sgn (n.length : Int) (m.length : Int) ≠ 0 then sgn (n.length : Int) (m.length : Int) else _
  by_cases h : n.length < m.length
  · rw [if_pos (.inl h), sgn_lt (by omega)]; rfl
  · by_cases g : m.length < n.length
    · have e : n ≠ m := fun e => by subst e; omega
      rw [if_neg (by omega), if_neg e, sgn_gt (by omega)]; rfl
    · have e : n.length = m.length := by omega
      rw [e, sgn_eq]
      simp only [Nat.lt_irrefl, false_or, true_and, ne_eq, not_true, if_false]
theorem ncmp_good : Good ncmp := by
  have := (sgn_good.both bcmp_good).on fun n : Bs => ((n.length : Int), n)
  have e : ncmp = fun x y => both sgn bcmp ((x.length : Int), x) ((y.length : Int), y) := by funext x y; exact ncmp_both x y
  rw [e]; exact this

-- Pieces
def nonD (s : Bs) : Bs := s.takeWhile fun c => !dgB c
def digs (s : Bs) : Bs := (s.drop (nonD s).length).takeWhile dgB
def noughts (s : Bs) : Bs := s.dropWhile fun c => decide (c = 48)
def rest (s : Bs) : Bs := s.drop ((nonD s).length + (digs s).length)
theorem takeWhile_le {α : Type} (p : α → Bool) (l : List α) : (l.takeWhile p).length ≤ l.length := (List.takeWhile_sublist p).length_le
theorem nonD_le (s : Bs) : (nonD s).length ≤ s.length := takeWhile_le _ _
theorem digs_le (s : Bs) : (nonD s).length + (digs s).length ≤ s.length := by
  have := takeWhile_le dgB (s.drop (nonD s).length)
  have h2 := nonD_le s
  rw [List.length_drop] at this
  unfold digs; omega
theorem rest_lt (s : Bs) (h : s ≠ []) : (rest s).length < s.length := by
  unfold rest
  rw [List.length_drop]
  have h0 : 0 < s.length := List.length_pos_iff.2 h
  have : 0 < (nonD s).length + (digs s).length := by
    cases s with
    | nil => exact absurd rfl h
    | cons c s =>
      cases hc : dgB c
      · have : 0 < (nonD (c :: s)).length := by simp [nonD, hc]
        omega
      · have : 0 < (digs (c :: s)).length := by simp [digs, nonD, hc]
        omega
  omega
theorem rest_le (s : Bs) : (rest s).length ≤ s.length := by unfold rest; rw [List.length_drop]; omega
def pcsN : Nat → Bs → List (Bs × Bs)
  | 0, _ => []
  | k + 1, s => if s = [] then [] else (nonD s, noughts (digs s)) :: pcsN k (rest s)
def pcs (s : Bs) : List (Bs × Bs) := pcsN s.length s
theorem pcsN_any : ∀ (k j : Nat) (s : Bs), s.length ≤ k → s.length ≤ j → pcsN k s = pcsN j s
  | 0, j, s, hk, hj => by
    obtain rfl := List.eq_nil_of_length_eq_zero (by omega : s.length = 0)
    cases j <;> simp [pcsN]
  | k + 1, 0, s, hk, hj => by
    obtain rfl := List.eq_nil_of_length_eq_zero (by omega : s.length = 0)
    simp [pcsN]
  | k + 1, j + 1, s, hk, hj => by
    by_cases h : s = []
    · simp [pcsN, h]
    · have := rest_lt s h
      rw [pcsN, pcsN, if_neg h, if_neg h, pcsN_any k j (rest s) (by omega) (by omega)]
theorem pcs_nil : pcs [] = [] := rfl
theorem pcs_cons (s : Bs) (h : s ≠ []) : pcs s = (nonD s, noughts (digs s)) :: pcs (rest s) := by
  have h0 : 0 < s.length := List.length_pos_iff.2 h
  have h1 := rest_lt s h
  obtain ⟨k, hk⟩ : ∃ k, s.length = k + 1 := ⟨s.length - 1, by omega⟩
  unfold pcs
  rw [hk, pcsN, if_neg h, pcsN_any k (rest s).length (rest s) (by omega) (Nat.le_refl _)]
theorem piece_nil : nonD [] = [] ∧ noughts (digs []) = [] ∧ rest [] = [] := ⟨rfl, rfl, rfl⟩
theorem pcs_hd (s : Bs) : hd ([], []) (pcs s) = (nonD s, noughts (digs s)) := by
  by_cases h : s = []
  · subst h; rfl
  · rw [pcs_cons s h]; rfl
theorem pcs_tl (s : Bs) : (pcs s).tail = pcs (rest s) := by
  by_cases h : s = []
  · subst h; rfl
  · rw [pcs_cons s h]; rfl
def pcmp : Bs × Bs → Bs × Bs → Int := both wcmp ncmp
theorem pcmp_good : Good pcmp := wcmp_good.both ncmp_good
def order (a b : Bs) : Int := lexL pcmp ([], []) (pcs a) (pcs b)
theorem order_good : Good order := (lexL_good pcmp_good _).on pcs
theorem order_end : order [] [] = 0 := lexL_nil _ _
theorem order_next (a b : Bs) : order a b = if wcmp (nonD a) (nonD b) ≠ 0 then wcmp (nonD a) (nonD b) else if ncmp (noughts (digs a)) (noughts (digs b)) ≠ 0 then ncmp (noughts (digs a)) (noughts (digs b)) else order (rest a) (rest b) := by
  unfold order
  rw [lexL_next pcmp_good, pcs_hd, pcs_hd, pcs_tl, pcs_tl]
  unfold pcmp both
  simp only []
  by_cases h : wcmp (nonD a) (nonD b) = 0
  · rw [if_neg (by omega : ¬ wcmp (nonD a) (nonD b) ≠ 0)]; simp only [h, ne_eq, not_true, if_false]
  · rw [if_pos (by omega : wcmp (nonD a) (nonD b) ≠ 0)]; simp only [ne_eq, h, not_false_eq_true, if_true]

-- Parts of a version
abbrev Ver := Int × Bs × Bs
def onlyB (marks : Bs) (s : Bs) : Bool := s.all fun c => dgB c || ltB c || marks.contains c
def epochOf (s : Bs) : Int := s.foldl (fun n c => 10 * n + (c.toNat : Int) - 48) 0
def colonAt (s : Bs) : Nat := (s.takeWhile fun c => decide (c ≠ 58)).length
def hyAt (s : Bs) : Nat := s.length - (s.reverse.takeWhile fun c => decide (c ≠ 45)).length
/-- What stands ahead of the last hyphen, and behind it. -/
def cutHy (s : Bs) : Bs × Bs := if hyAt s = 0 then (s, [48]) else (s.take (hyAt s - 1), s.drop (hyAt s))
def headDg : Bs → Bool
  | [] => false
  | c :: _ => dgB c
def restV (e : Int) (marks s : Bs) : Option Ver := if headDg (cutHy s).1 = true ∧ onlyB marks (cutHy s).1 = true ∧ (cutHy s).2 ≠ [] ∧ onlyB [46, 43, 126] (cutHy s).2 = true then some (e, cutHy s) else none
def verOf (s : Bs) : Option Ver :=
  if colonAt s < s.length then
    if 1 ≤ colonAt s ∧ colonAt s ≤ 9 ∧ (s.take (colonAt s)).all dgB = true then restV (epochOf (s.take (colonAt s))) [46, 43, 45, 126, 58] (s.drop (colonAt s + 1)) else none
  else restV 0 [46, 43, 45, 126] s
/-- A version's parts; else the error. -/
def parseE (s : Bs) : Ver × Int := if 80 < s.length then ((0, [], []), 8) else match verOf s with
  | some v => (v, 0)
  | none => ((0, [], []), 2)
def verText (v : Ver) : Bs := (if 0 < v.1 ∨ (58 : UInt8) ∈ v.2.1 then itoa (max v.1 0) ++ [58] else []) ++ (v.2.1 ++ if v.2.2 ≠ [48] ∨ (45 : UInt8) ∈ v.2.1 then 45 :: v.2.2 else [])
def verAs (s : Bs) : Ver := if (parseE s).2 = 0 then (parseE s).1 else (0, s, [48])
def vcmp : Ver → Ver → Int := both sgn (both order order)
theorem vcmp_good : Good vcmp := sgn_good.both (order_good.both order_good)
def compareV (a b : Bs) : Int := vcmp (verAs a) (verAs b)
theorem compareV_good : Good compareV := vcmp_good.on verAs
def holdsV (v op other : Bs) : Bool :=
  let c := compareV v other
  decide (op = []) || decide (op = [60, 60]) && decide (c < 0) || decide (op = [60, 61]) && decide (c ≤ 0) || decide (op = [61]) && decide (c = 0) || decide (op = [62, 61]) && decide (0 ≤ c) || decide (op = [62, 62]) && decide (0 < c)

-- A text is parsed as it was
theorem dec1 (u : Nat) (h : u < 10) : decDigits u = [UInt8.ofNat (48 + u)] := by rw [decDigits, dif_pos h]
theorem dec2 (u : Nat) (h : ¬ u < 10) : decDigits u = decDigits (u / 10) ++ [UInt8.ofNat (48 + u % 10)] := by rw [decDigits, dif_neg h]
theorem dg_nat (d : Nat) (h : d < 10) : (UInt8.ofNat (48 + d)).toNat = 48 + d := by rw [UInt8.toNat_ofNat']; omega
theorem epochOf_snoc (l : Bs) (c : UInt8) : epochOf (l ++ [c]) = 10 * epochOf l + (c.toNat : Int) - 48 := by unfold epochOf; rw [List.foldl_append]; rfl
theorem dec_epoch (u : Nat) : epochOf (decDigits u) = u ∧ (decDigits u).all dgB = true := by
  induction u using Nat.strongRecOn with
  | _ u ih =>
    by_cases h : u < 10
    · rw [dec1 u h]
      have := dg_nat u h
      constructor
      · show 10 * 0 + ((UInt8.ofNat (48 + u)).toNat : Int) - 48 = u
        omega
      · simp only [List.all_cons, List.all_nil, Bool.and_true, dgB, Bool.and_eq_true, decide_eq_true_eq]; omega
    · rw [dec2 u h, epochOf_snoc]
      have := dg_nat (u % 10) (by omega)
      obtain ⟨h1, h2⟩ := ih (u / 10) (by omega)
      constructor
      · rw [h1]; omega
      · rw [List.all_append, h2]
        simp only [List.all_cons, List.all_nil, Bool.and_true, Bool.true_and, dgB, Bool.and_eq_true, decide_eq_true_eq]; omega
theorem dec_len : ∀ (k u : Nat), u < 10 ^ (k + 1) → (decDigits u).length ≤ k + 1 ∧ 1 ≤ (decDigits u).length
  | 0, u, h => by rw [dec1 u (by simpa using h)]; simp
  | k + 1, u, h => by
    by_cases g : u < 10
    · rw [dec1 u g]; simp
    · have h1 : u / 10 < 10 ^ (k + 1) := by
        rw [Nat.pow_succ] at h
        exact Nat.div_lt_of_lt_mul (by rw [Nat.mul_comm]; exact h)
      have := dec_len k (u / 10) h1
      rw [dec2 u g, List.length_append, List.length_singleton]; omega
theorem epoch_bd (l : Bs) : l.all dgB = true → 0 ≤ epochOf l ∧ epochOf l < 10 ^ l.length := by
  have key : ∀ (l : Bs) (n : Int), 0 ≤ n → l.all dgB = true → 0 ≤ l.foldl (fun n c => 10 * n + (c.toNat : Int) - 48) n ∧ l.foldl (fun n c => 10 * n + (c.toNat : Int) - 48) n < (n + 1) * 10 ^ l.length := by
    intro l
    induction l with
    | nil => intro n hn _; simp only [List.foldl_nil, List.length_nil, Int.pow_zero]; omega
    | cons c l ih =>
      intro n hn h
      rw [List.all_cons, Bool.and_eq_true] at h
      have h3 := h.1
      simp only [dgB, Bool.and_eq_true, decide_eq_true_eq] at h3
      obtain ⟨h1, h2⟩ := ih (10 * n + (c.toNat : Int) - 48) (by omega) h.2
      rw [List.foldl_cons, List.length_cons, Int.pow_succ]
      refine ⟨h1, Int.lt_of_lt_of_le h2 ?_⟩
      have hp : (0 : Int) ≤ 10 ^ l.length := Int.le_of_lt (Int.pow_pos (by decide))
      have : (10 * n + (c.toNat : Int) - 48 + 1) * 10 ^ l.length ≤ ((n + 1) * 10) * 10 ^ l.length := Int.mul_le_mul_of_nonneg_right (by omega) hp
      rw [show (n + 1) * (10 ^ l.length * 10) = ((n + 1) * 10) * 10 ^ l.length from by rw [Int.mul_assoc, Int.mul_comm 10]]
      exact this
  intro h
  have := key l 0 (Int.le_refl _) h
  simpa [epochOf] using this
theorem takeWhile_at {α : Type} (p : α → Bool) (a : List α) (x : α) (r : List α) (h : ∀ y ∈ a, p y = true) (hx : p x = false) : (a ++ x :: r).takeWhile p = a := by
  rw [List.takeWhile_append_of_pos h, List.takeWhile_cons]; simp [hx]
theorem takeWhile_all {α : Type} (p : α → Bool) (a : List α) (h : ∀ y ∈ a, p y = true) : a.takeWhile p = a := by
  have := List.takeWhile_append_of_pos (l₂ := []) h
  simpa using this
theorem colonAt_at (a r : Bs) (h : (58 : UInt8) ∉ a) : colonAt (a ++ 58 :: r) = a.length := by
  unfold colonAt; rw [takeWhile_at _ _ _ _ (fun y hy => by simp; rintro rfl; exact h hy) (by simp)]
theorem colonAt_no (a : Bs) (h : (58 : UInt8) ∉ a) : colonAt a = a.length := by
  unfold colonAt; rw [takeWhile_all _ _ (fun y hy => by simp; rintro rfl; exact h hy)]
theorem cutHy_at (u r : Bs) (h : (45 : UInt8) ∉ r) : cutHy (u ++ 45 :: r) = (u, r) := by
  have e : hyAt (u ++ 45 :: r) = u.length + 1 := by
    unfold hyAt
    rw [List.reverse_append, List.reverse_cons, List.append_assoc, List.singleton_append, takeWhile_at _ _ _ _ (fun y hy => by simp; rintro rfl; exact h (List.mem_reverse.1 hy)) (by simp)]
    simp only [List.length_append, List.length_cons, List.length_reverse]; omega
  unfold cutHy
  rw [e, if_neg (by omega)]
  simp
theorem cutHy_no (u : Bs) (h : (45 : UInt8) ∉ u) : cutHy u = (u, [48]) := by
  have e : hyAt u = 0 := by
    unfold hyAt
    rw [takeWhile_all _ _ (fun y hy => by simp; rintro rfl; exact h (List.mem_reverse.1 hy))]
    simp
  unfold cutHy; rw [if_pos e]
theorem only_not {marks s : Bs} {c : UInt8} (h : onlyB marks s = true) (hm : c ∉ marks) (hd : dgB c = false) (hl : ltB c = false) : c ∉ s := fun hc => by
  have := List.all_eq_true.1 h c hc
  simp [hd, hl, hm] at this
theorem only_more {marks marks' s : Bs} (h : onlyB marks s = true) (hm : ∀ c ∈ s, c ∈ marks → c ∈ marks') : onlyB marks' s = true := by
  unfold onlyB at h ⊢
  rw [List.all_eq_true] at h ⊢
  intro c hc
  have := h c hc
  simp only [Bool.or_eq_true, List.contains_iff_mem] at this ⊢
  rcases this with this | this
  · exact .inl this
  · exact .inr (hm c hc this)
structure VerOk (v : Ver) : Prop where
  lo : 0 ≤ v.1
  hi : v.1 < 1000000000
  head : headDg v.2.1 = true
  up : onlyB [46, 43, 45, 126, 58] v.2.1 = true
  ne : v.2.2 ≠ []
  rev : onlyB [46, 43, 126] v.2.2 = true
theorem restV_some {e : Int} {marks s : Bs} {v : Ver} (h : restV e marks s = some v) : v = (e, cutHy s) ∧ headDg (cutHy s).1 = true ∧ onlyB marks (cutHy s).1 = true ∧ (cutHy s).2 ≠ [] ∧ onlyB [46, 43, 126] (cutHy s).2 = true := by
  unfold restV at h
  split at h
  · rename_i g; cases h; exact ⟨rfl, g⟩
  · cases h
theorem verOf_ok {s : Bs} {v : Ver} (h : verOf s = some v) : VerOk v := by
  unfold verOf at h
  split at h
  · split at h
    · rename_i g
      obtain ⟨rfl, h1, h2, h3, h4⟩ := restV_some h
      have hb := epoch_bd _ g.2.2
      refine ⟨hb.1, ?_, h1, h2, h3, h4⟩
      show epochOf (s.take (colonAt s)) < 1000000000
      have h5 : (10 : Int) ^ (s.take (colonAt s)).length ≤ 10 ^ 9 := by
        have h6 : (s.take (colonAt s)).length ≤ 9 := by rw [List.length_take]; omega
        have h7 := Nat.pow_le_pow_right (n := 10) (by decide) h6
        exact_mod_cast h7
      have e9 : (10 : Int) ^ 9 = 1000000000 := by decide
      omega
    · cases h
  · obtain ⟨rfl, h1, h2, h3, h4⟩ := restV_some h
    exact ⟨Int.le_refl _, by show (0 : Int) < _; omega, h1, only_more h2 (fun c _ hm => by simp at hm ⊢; rcases hm with h | h | h | h <;> simp [h]), h3, h4⟩
theorem restV_back {v : Ver} (h : VerOk v) (marks : Bs) (hm : onlyB marks v.2.1 = true) : restV v.1 marks (v.2.1 ++ if v.2.2 ≠ [48] ∨ (45 : UInt8) ∈ v.2.1 then 45 :: v.2.2 else []) = some v := by
  have e : cutHy (v.2.1 ++ if v.2.2 ≠ [48] ∨ (45 : UInt8) ∈ v.2.1 then 45 :: v.2.2 else []) = v.2 := by
    by_cases g : v.2.2 ≠ [48] ∨ (45 : UInt8) ∈ v.2.1
    · rw [if_pos g, cutHy_at _ _ (only_not h.rev (by decide) (by decide) (by decide))]
    · rw [if_neg g, List.append_nil]
      obtain ⟨g1, g2⟩ := not_or.1 g
      rw [cutHy_no _ g2, ← Decidable.not_not.1 g1]
  unfold restV
  rw [e, if_pos ⟨h.head, hm, h.ne, h.rev⟩]
theorem itoa_nat (n : Int) (h : 0 ≤ n) : itoa n = decDigits n.toNat := by unfold itoa; rw [if_neg (by omega)]
theorem verOf_text {v : Ver} (h : VerOk v) : verOf (verText v) = some v := by
  have hno : (58 : UInt8) ∉ v.2.2 := only_not h.rev (by decide) (by decide) (by decide)
  by_cases g : 0 < v.1 ∨ (58 : UInt8) ∈ v.2.1
  · have hl := dec_len 8 v.1.toNat (by have := h.hi; have := h.lo; omega)
    obtain ⟨he, ha⟩ := dec_epoch v.1.toNat
    have hmax : max v.1 0 = v.1 := by have := h.lo; omega
    have hc : (58 : UInt8) ∉ decDigits v.1.toNat := fun hc => by have := List.all_eq_true.1 ha _ hc; simp [dgB] at this
    unfold verText
    rw [if_pos g, hmax, itoa_nat _ h.lo, List.append_assoc, List.singleton_append]
    generalize ht : (v.2.1 ++ if v.2.2 ≠ [48] ∨ (45 : UInt8) ∈ v.2.1 then 45 :: v.2.2 else []) = t
    unfold verOf
    rw [colonAt_at _ _ hc, if_pos (by simp), List.take_left', if_pos ⟨hl.2, by omega, ha⟩, he]
    · have hd : List.drop ((decDigits v.1.toNat).length + 1) (decDigits v.1.toNat ++ 58 :: t) = t := by
        have : decDigits v.1.toNat ++ 58 :: t = (decDigits v.1.toNat ++ [58]) ++ t := by simp
        rw [this]; exact List.drop_left' (by simp)
      rw [hd, ← ht]
      have := restV_back h _ h.up
      rwa [show ((v.1.toNat : Nat) : Int) = v.1 from by have := h.lo; omega]
    · rfl
  · obtain ⟨g1, g2⟩ := not_or.1 g
    have h0 : v.1 = 0 := by have := h.lo; omega
    unfold verText
    rw [if_neg g, List.nil_append]
    have hno2 : (58 : UInt8) ∉ (v.2.1 ++ if v.2.2 ≠ [48] ∨ (45 : UInt8) ∈ v.2.1 then 45 :: v.2.2 else []) := by
      rw [List.mem_append]
      rintro (x | x)
      · exact g2 x
      · split at x
        · rcases List.mem_cons.1 x with x | x
          · exact absurd x (by decide)
          · exact hno x
        · cases x
    unfold verOf
    rw [colonAt_no _ hno2, if_neg (by omega)]
    have := restV_back h [46, 43, 45, 126] (only_more h.up (fun c hc hm => by
      have : c ≠ 58 := fun e => g2 (e ▸ hc)
      simp at hm ⊢; simp [this] at hm; exact hm))
    rwa [h0] at this
theorem parse_text {s : Bs} {v : Ver} (h : parseE s = (v, 0)) (hl : (verText v).length ≤ 80) : parseE (verText v) = (v, 0) := by
  have hv : VerOk v := by
    unfold parseE at h
    split at h
    · simp at h
    · split at h
      · rename_i x hx; simp at h; subst h; exact verOf_ok hx
      · simp at h
  unfold parseE
  rw [if_neg (by omega), verOf_text hv]
theorem compare_text {s : Bs} {v : Ver} (h : parseE s = (v, 0)) (hl : (verText v).length ≤ 80) : compareV s (verText v) = 0 := by
  have h2 := parse_text h hl
  unfold compareV verAs
  rw [h, h2]
  exact vcmp_good.self v
end Go.Proofs.YtbeoklihpkfofaaGreatDoor
namespace Go.Proofs.YtbeoklihpkfofaaGreatDoor
open Go.RowKit
theorem retb {a b : Bool} (h : a = b) : Ending.returned (.bool a) = Ending.returned (.bool b) := congrArg (fun b => Ending.returned (.bool b)) h
theorem reti {k : IntKind} {a b : Int} (h : a = b) : Ending.returned (.int k a) = Ending.returned (.int k b) := congrArg (fun b => Ending.returned (.int k b)) h
theorem retv {a b : Value} (h : a = b) : Ending.returned a = Ending.returned b := congrArg Ending.returned h
theorem strOf {x : ByteArray} {l : Bs} (h : x.data.toList = l) : x = ⟨l.toArray⟩ := by subst h; simp
theorem bytesOf (l : Bs) : (ByteArray.mk l.toArray).data.toList = l := by simp
theorem sizeOf (s : ByteArray) : s.size = s.data.toList.length := Lib.size_eq s
theorem takeSn (s : ByteArray) (k : Nat) (h : k < s.size) : s.data.toList.take (k + 1) = s.data.toList.take k ++ [s[k]] := by
  have hl : k < s.data.toList.length := by rw [← Lib.size_eq]; exact h
  rw [List.take_add_one, List.getElem?_eq_getElem hl]
  simp; rfl
theorem takeAll (s : ByteArray) : s.data.toList.take s.size = s.data.toList := by rw [sizeOf]; exact List.take_length
theorem takeLen (s : ByteArray) (k : Nat) (h : k ≤ s.size) : (s.data.toList.take k).length = k := by rw [List.length_take, ← sizeOf]; omega
theorem dropC (s : ByteArray) (k : Nat) (h : k < s.size) : s.data.toList.drop k = s[k] :: s.data.toList.drop (k + 1) := by
  have hl : k < s.data.toList.length := by rw [← Lib.size_eq]; exact h
  rw [List.drop_eq_getElem_cons hl]; rfl
theorem dropAll (s : ByteArray) : s.data.toList.drop s.size = [] := by rw [sizeOf]; exact List.drop_length
theorem allNx {s : ByteArray} {f : UInt8 → Bool} {k : Nat} (h : k < s.size) (ha : (s.data.toList.take k).all f = true) (hf : f s[k] = true) : (s.data.toList.take (k + 1)).all f = true := by
  rw [takeSn s k h, List.all_append, ha]; simp [hf]
theorem allSt {s : ByteArray} {f : UInt8 → Bool} {k : Nat} (h : k < s.size) (hf : f s[k] = false) : s.data.toList.all f = false := by
  rw [List.all_eq_false]
  exact ⟨s[k], by have := takeSn s k h; exact List.mem_of_mem_take (by rw [this]; simp), by simp [hf]⟩
theorem allDn {s : ByteArray} {f : UInt8 → Bool} (ha : (s.data.toList.take s.size).all f = true) : s.data.toList.all f = true := by rwa [takeAll] at ha
theorem extL (s : ByteArray) (a b : Nat) : (s.extract a b).data.toList = (s.data.toList.drop a).take (b - a) := by
  rw [Lib.extract_data]
theorem eqT (x y : ByteArray) : (x.toList == y.toList) = decide (x.data.toList = y.data.toList) := by
  rw [ByteArray.toList_eq, ByteArray.toList_eq]
  by_cases h : x.data.toList = y.data.toList
  · simp [h]
  · rw [decide_eq_false h]; simpa using h
theorem eqTL (x : ByteArray) (l : Bs) : (x.toList == l) = decide (x.data.toList = l) := by
  rw [ByteArray.toList_eq]
  by_cases h : x.data.toList = l
  · simp [h]
  · rw [decide_eq_false h]; simpa using h
theorem lessL : ∀ (x y : Bs), Op.bytesLess x y = decide (x < y)
  | x, [] => by simp [Op.bytesLess]
  | [], b :: y => by simp [Op.bytesLess]
  | a :: x, b :: y => by
    rw [Op.bytesLess, lessL x y, Bool.eq_iff_iff]
    simp [List.cons_lt_cons_iff]
theorem lessT (x y : ByteArray) : Op.bytesLess x.toList y.toList = decide (x.data.toList < y.data.toList) := by
  rw [ByteArray.toList_eq, ByteArray.toList_eq]; exact lessL _ _
theorem emptyT (x : ByteArray) : x.toList.isEmpty = decide (x.size = 0) := by
  rw [ByteArray.toList_eq, sizeOf]; cases x.data.toList <;> simp
theorem belowQ {B : Nat} {a w : World} (h : Below B a w) (n : Nat) : Below B a (w.drewN n) := ⟨h.os, h.tape, h.output, h.size, h.block⟩
end Go.Proofs.YtbeoklihpkfofaaGreatDoor
namespace Go.Proofs.YtbeoklihpkfofaaGreatDoor
open Go.RowKit
theorem infoT : (Tryz.prog.info? 9).map (fun i => (i.zero, i.size, i.bytes)) = some (some (.string ⟨#[]⟩), 1, 16) := by kernel_rfl
/-- The slice value v holds the texts ls, wherever it lies. -/
def HoldT (w : World) (v : Value) (ls : List Bs) : Prop :=
  ∃ (a : Option Addr) (c b o : Nat), v = .slice a ls.length c ∧ ls.length ≤ c ∧ (0 < ls.length → a = some ⟨b, o, none⟩ ∧ b < w.heap.size) ∧ ∀ (j : Nat) l, ls[j]? = some l → w.cell? ⟨b, o + j, none⟩ = some (.string ⟨l.toArray⟩)
theorem HoldT.on {w w' : World} {v : Value} {ls : List Bs} (h : HoldT w v ls) (hb : Below w.heap.size w w') : HoldT w' v ls := by
  obtain ⟨a, c, b, o, rfl, hc, ha, hcell⟩ := h
  refine ⟨a, c, b, o, rfl, hc, fun h0 => ⟨(ha h0).1, Nat.lt_of_lt_of_le (ha h0).2 hb.size⟩, fun j l hj => ?_⟩
  have h0 : 0 < ls.length := by
    have := (List.getElem?_eq_some_iff.1 hj).1; omega
  rw [hb.cell (ha h0).2]
  exact hcell j l hj
abbrev txts (ls : List Bs) : List Value := ls.map fun l => Value.string ⟨l.toArray⟩
/-- The slice value v owns the texts ls (in blocks from base on). -/
def OwnT (w : World) (base : Nat) (v : Value) (ls : List Bs) : Prop := w.ownsRow base 9 1 v ls.length (txts ls)
theorem OwnT.nil (w : World) (base : Nat) : OwnT w base (.slice none 0 0) [] := World.ownsRow_nil _ _ _ _
theorem cellRow (w : World) (g i : Nat) (cur : Array Value) (e : TypeId) (fz : Nat × Nat) (hg : w.heap[g]? = some (.cells cur e fz)) : w.cell? ⟨g, i, none⟩ = cur[i]? := by
  simp [World.cell?, hg]
theorem OwnT.holds {w : World} {base : Nat} {v : Value} {ls : List Bs} (h : OwnT w base v ls) : HoldT w v ls := by
  rcases h.2 with ⟨rfl, h0⟩ | ⟨g, cap, cur, rfl, hb, hg, hn, hm, hs, ht⟩
  · have : ls = [] := List.eq_nil_of_length_eq_zero h0
    subst this
    exact ⟨none, 0, 0, 0, rfl, Nat.le_refl _, fun h => absurd h (by simp), fun j l hj => by simp at hj⟩
  · refine ⟨some ⟨g, 0, none⟩, cap, g, 0, rfl, hn, fun _ => ⟨rfl, (Array.getElem?_eq_some_iff.1 hg).1⟩, fun j l hj => ?_⟩
    have hj' := (List.getElem?_eq_some_iff.1 hj).1
    have e1 : (cur.toList.take (ls.length * 1))[j]? = (txts ls)[j]? := by rw [ht]
    rw [List.getElem?_take, if_pos (by omega), Array.getElem?_toList, List.getElem?_map, hj] at e1
    rw [Nat.zero_add, cellRow w g j cur 9 (0, 0) hg, e1]
    rfl
theorem OwnT.mono {w : World} {base base' : Nat} {v : Value} {ls : List Bs} (h : OwnT w base v ls) (hb : base' ≤ base) : OwnT w base' v ls := by
  refine ⟨h.1, ?_⟩
  rcases h.2 with hn | ⟨g, cap, cur, hv, hb', rest⟩
  · exact .inl hn
  · exact .inr ⟨g, cap, cur, hv, by omega, rest⟩
/-- Cut at its end. -/
theorem OwnT.cut {w : World} {base : Nat} {a : Option Addr} {c n : Nat} {ls : List Bs} (h : OwnT w base (.slice a n c) ls) (hl : 0 < ls.length) : OwnT w base (.slice a (n - 1) c) ls.dropLast := by
  rcases h.2 with ⟨_, h0⟩ | ⟨g, cap, cur, hv, hb, hg, hn, hm, hs, ht⟩
  · omega
  · simp only [Value.slice.injEq] at hv
    obtain ⟨rfl, rfl, rfl⟩ := hv
    refine ⟨by simp [txts], .inr ⟨g, c, cur, by rw [List.length_dropLast], hb, hg, by rw [List.length_dropLast]; omega, hm, hs, ?_⟩⟩
    rw [List.length_dropLast]
    have : cur.toList.take ((ls.length - 1) * 1) = (cur.toList.take (ls.length * 1)).take (ls.length - 1) := by rw [List.take_take]; congr 1; omega
    rw [this, ht, txts, txts, List.dropLast_eq_take, List.map_take]
/-- A slice that the library laid in a new block. -/
theorem OwnT.made (w : World) (xs : List ByteArray) (hn : xs.length ≤ maxLen) : OwnT (w.alloc (.cells (xs.map Value.string).toArray 9)) w.heap.size (.slice (some ⟨w.heap.size, 0, none⟩) xs.length xs.length) (xs.map (·.data.toList)) := by
  refine ⟨by simp [txts], .inr ⟨w.heap.size, xs.length, (xs.map Value.string).toArray, by simp, Nat.le_refl _, heap_alloc_new w _, by simp, hn, by simp, ?_⟩⟩
  rw [List.length_map, Nat.mul_one, List.take_of_length_le (by simp)]
  simp [txts]
theorem OwnT.app {w' : World} {base : Nat} {v' : Value} {ls : List Bs} {x : ByteArray} {l : Bs} (hx : x.data.toList = l) (h : w'.ownsRow base 9 1 v' (ls.length + 1) (txts ls ++ [.string x])) : OwnT w' base v' (ls ++ [l]) := by
  have e : txts (ls ++ [l]) = txts ls ++ [.string x] := by simp [txts, strOf hx]
  unfold OwnT
  rw [e, List.length_append]
  exact h
/-- Of a slice whose block the row turned: everything below base stays. -/
theorem belowG {B : Nat} {w0 w w' : World} {o : Obj} {base : Nat} {v : Value} {ls : List Bs} (h : Below B w0 w) (hown : OwnT w base v ls) (hg : (w.alloc o).grownBy w' v.ownBlock) (hB : B ≤ base) (hBw : B ≤ w.heap.size) : Below B w0 w' :=
  (h.alloc hBw o).grown hg (by simp; omega) (fun k hk => by have := (hown.lt k hk).1; omega)
theorem HoldT.get {w : World} {v : Value} {ls : List Bs} (h : HoldT w v ls) : ∃ (a : Option Addr) (c b o : Nat), v = .slice a ls.length c ∧ ls.length ≤ c ∧ (0 < ls.length → a = some ⟨b, o, none⟩ ∧ b < w.heap.size) ∧ ∀ (j : Nat) (h : j < ls.length), w.cell? ⟨b, o + j, none⟩ = some (.string ⟨(ls[j]).toArray⟩) := by
  obtain ⟨a, c, b, o, e, hc, ha, hcell⟩ := h
  exact ⟨a, c, b, o, e, hc, ha, fun j hj => hcell j _ (List.getElem?_eq_getElem hj)⟩
end Go.Proofs.YtbeoklihpkfofaaGreatDoor
