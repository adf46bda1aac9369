/-
  Versions: an order out of orders; pieces, words, numbers; a version's parts and its text; nothing of the program.
-/
import Derived.Test.YtkcamfcjkjiijaaGreatDoorPPSortMath
import Derived.Lib.ItoaMem
namespace Go.Proofs.YtkcamfcjkjiijaaGreatDoor
open Go.Lib

-- Orders that tell -1, 0 or 1
structure Good {α : Type} (c : α → α → Int) : Prop where
  anti : ∀ x y, c y x = -c x y
  vals : ∀ x y, c x y = -1 ∨ c x y = 0 ∨ c x y = 1
  trans : ∀ x y z, c x y ≤ 0 → c y z ≤ 0 → c x z ≤ 0
theorem Good.self {α : Type} {c : α → α → Int} (h : Good c) (x : α) : c x x = 0 := by have := h.anti x x; omega
theorem Good.same {α : Type} {c : α → α → Int} (h : Good c) {x y : α} (z : α) (e : c x y = 0) : c x z = c y z := by
  have h1 := h.anti x y
  have a := h.trans x y z (by omega)
  have b := h.trans y x z (by omega)
  have a' := fun g => h.trans z y x g (by omega)
  have b' := fun g => h.trans z x y g (by omega)
  have v1 := h.vals x z
  have v2 := h.vals y z
  have w1 := h.anti x z
  have w2 := h.anti y z
  rcases v1 with v1 | v1 | v1 <;> rcases v2 with v2 | v2 | v2 <;> first | omega | (have := a (by omega); have := b (by omega); have := a' (by omega); have := b' (by omega); omega) | (have := a (by omega); omega) | (have := b (by omega); omega) | (have := a' (by omega); omega) | (have := b' (by omega); omega)
theorem Good.less {α : Type} {c : α → α → Int} (h : Good c) {x y z : α} (h1 : c x y < 0) (h2 : c y z ≤ 0) : c x z < 0 := by
  have a := h.trans x y z (by omega) h2
  rcases Int.lt_or_eq_of_le a with a | a
  · exact a
  · have := h.same y a
    have := h.anti y z
    omega
theorem Good.less' {α : Type} {c : α → α → Int} (h : Good c) {x y z : α} (h1 : c x y ≤ 0) (h2 : c y z < 0) : c x z < 0 := by
  have a := h.trans x y z h1 (by omega)
  rcases Int.lt_or_eq_of_le a with a | a
  · exact a
  · have := h.same y a
    have := h.anti x y
    have := h.anti y z
    omega
theorem Good.on {α β : Type} {c : α → α → Int} (h : Good c) (f : β → α) : Good fun x y => c (f x) (f y) :=
  ⟨fun _ _ => h.anti _ _, fun _ _ => h.vals _ _, fun _ _ _ => h.trans _ _ _⟩
def both {α β : Type} (c : α → α → Int) (d : β → β → Int) (x y : α × β) : Int := if c x.1 y.1 ≠ 0 then c x.1 y.1 else d x.2 y.2
theorem Good.both {α β : Type} {c : α → α → Int} {d : β → β → Int} (h : Good c) (g : Good d) : Good (both c d) where
  anti x y := by
    unfold Proofs.YtkcamfcjkjiijaaGreatDoor.both
    have h1 := h.anti x.1 y.1
    have h2 := g.anti x.2 y.2
    by_cases e : c x.1 y.1 = 0
    · rw [if_neg (by omega), if_neg (by omega)]; omega
    · rw [if_pos (by omega), if_pos (by omega)]; omega
  vals x y := by
    unfold Proofs.YtkcamfcjkjiijaaGreatDoor.both
    split
    · exact h.vals _ _
    · exact g.vals _ _
  trans x y z := by
    unfold Proofs.YtkcamfcjkjiijaaGreatDoor.both
    by_cases e : c x.1 y.1 = 0
    · have s := h.same z.1 e
      rw [if_neg (by omega), s]
      by_cases f : c y.1 z.1 = 0
      · rw [if_neg (by omega), if_neg (by omega)]; exact g.trans _ _ _
      · rw [if_pos f, if_pos f]; intro _ hh; exact hh
    · rw [if_pos e]
      intro h1
      by_cases f : c y.1 z.1 = 0
      · have := h.less (x := x.1) (y := y.1) (z := z.1) (by omega) (by omega)
        rw [if_pos (by omega : c x.1 z.1 ≠ 0)]; intro _; omega
      · rw [if_pos f]; intro h2
        have := h.less (x := x.1) (y := y.1) (z := z.1) (by omega) h2
        rw [if_pos (by omega : c x.1 z.1 ≠ 0)]; omega
def hd {α : Type} (pad : α) (l : List α) : α := l.head?.getD pad
def lexR {α : Type} (c : α → α → Int) (pad : α) : List α → Int
  | [] => 0
  | y :: ys => if c pad y ≠ 0 then c pad y else lexR c pad ys
/-- One by one; what is short goes on with pads. -/
def lexL {α : Type} (c : α → α → Int) (pad : α) : List α → List α → Int
  | [], ys => lexR c pad ys
  | x :: xs, ys => if c x (hd pad ys) ≠ 0 then c x (hd pad ys) else lexL c pad xs ys.tail
theorem lexL_next {α : Type} {c : α → α → Int} (h : Good c) (pad : α) (xs ys : List α) : lexL c pad xs ys = if c (hd pad xs) (hd pad ys) ≠ 0 then c (hd pad xs) (hd pad ys) else lexL c pad xs.tail ys.tail := by
  cases xs with
  | cons x xs => rfl
  | nil =>
    cases ys with
    | nil => simp [lexL, lexR, hd, h.self]
    | cons y ys => rfl
theorem lexL_nil {α : Type} (c : α → α → Int) (pad : α) : lexL c pad [] [] = 0 := rfl
theorem lexL_good {α : Type} {c : α → α → Int} (h : Good c) (pad : α) : Good (lexL c pad) := by
  have anti : ∀ n (xs ys : List α), xs.length + ys.length ≤ n → lexL c pad ys xs = -lexL c pad xs ys := by
    intro n
    induction n with
    | zero =>
      intro xs ys hn
      obtain rfl := List.eq_nil_of_length_eq_zero (by omega : xs.length = 0)
      obtain rfl := List.eq_nil_of_length_eq_zero (by omega : ys.length = 0)
      rw [lexL_nil]; rfl
    | succ n ih =>
      intro xs ys hn
      by_cases h0 : xs.length + ys.length = 0
      · obtain rfl := List.eq_nil_of_length_eq_zero (by omega : xs.length = 0)
        obtain rfl := List.eq_nil_of_length_eq_zero (by omega : ys.length = 0)
        rw [lexL_nil]; rfl
      · have := ih xs.tail ys.tail (by simp only [List.length_tail]; omega)
        rw [lexL_next h, lexL_next h pad xs ys]
        have a := h.anti (hd pad xs) (hd pad ys)
        by_cases e : c (hd pad xs) (hd pad ys) = 0
        · rw [if_neg (by omega), if_neg (by omega)]; exact this
        · rw [if_pos (by omega), if_pos e]; exact a
  have vals : ∀ n (xs ys : List α), xs.length + ys.length ≤ n → lexL c pad xs ys = -1 ∨ lexL c pad xs ys = 0 ∨ lexL c pad xs ys = 1 := by
    intro n
    induction n with
    | zero =>
      intro xs ys hn
      obtain rfl := List.eq_nil_of_length_eq_zero (by omega : xs.length = 0)
      obtain rfl := List.eq_nil_of_length_eq_zero (by omega : ys.length = 0)
      exact .inr (.inl (lexL_nil _ _))
    | succ n ih =>
      intro xs ys hn
      by_cases h0 : xs.length + ys.length = 0
      · obtain rfl := List.eq_nil_of_length_eq_zero (by omega : xs.length = 0)
        obtain rfl := List.eq_nil_of_length_eq_zero (by omega : ys.length = 0)
        exact .inr (.inl (lexL_nil _ _))
      · rw [lexL_next h]
        split
        · exact h.vals _ _
        · exact ih _ _ (by simp only [List.length_tail]; omega)
  have trans : ∀ n (xs ys zs : List α), xs.length + ys.length + zs.length ≤ n → lexL c pad xs ys ≤ 0 → lexL c pad ys zs ≤ 0 → lexL c pad xs zs ≤ 0 := by
    intro n
    induction n with
    | zero =>
      intro xs ys zs hn
      obtain rfl := List.eq_nil_of_length_eq_zero (by omega : xs.length = 0)
      obtain rfl := List.eq_nil_of_length_eq_zero (by omega : zs.length = 0)
      intro _ _
      exact Int.le_of_eq (lexL_nil _ _)
    | succ n ih =>
      intro xs ys zs hn
      by_cases h0 : xs.length + ys.length + zs.length = 0
      · obtain rfl := List.eq_nil_of_length_eq_zero (by omega : xs.length = 0)
        obtain rfl := List.eq_nil_of_length_eq_zero (by omega : zs.length = 0)
        intro _ _
        exact Int.le_of_eq (lexL_nil _ _)
      · have := ih xs.tail ys.tail zs.tail (by simp only [List.length_tail]; omega)
        rw [lexL_next h pad xs ys, lexL_next h pad ys zs, lexL_next h pad xs zs]
        generalize hd pad xs = x at *
        generalize hd pad ys = y at *
        generalize hd pad zs = z at *
        by_cases e : c x y = 0
        · have s := h.same z e
          rw [if_neg (by omega), s]
          by_cases f : c y z = 0
          · rw [if_neg (by omega), if_neg (by omega)]; exact this
          · rw [if_pos f, if_pos f]; intro _ hh; exact hh
        · rw [if_pos e]
          intro h1
          by_cases f : c y z = 0
          · have := h.less (x := x) (y := y) (z := z) (by omega) (by omega)
            rw [if_pos (by omega : c x z ≠ 0)]; intro _; omega
          · rw [if_pos f]; intro h2
            have := h.less (x := x) (y := y) (z := z) (by omega) h2
            rw [if_pos (by omega : c x z ≠ 0)]; omega
  exact ⟨fun x y => anti _ x y (Nat.le_refl _), fun x y => vals _ x y (Nat.le_refl _), fun x y z => trans _ x y z (Nat.le_refl _)⟩
def sgn (x y : Int) : Int := if x < y then -1 else if y < x then 1 else 0
theorem sgn_lt {x y : Int} (h : x < y) : sgn x y = -1 := by unfold sgn; rw [if_pos h]
theorem sgn_gt {x y : Int} (h : y < x) : sgn x y = 1 := by unfold sgn; rw [if_neg (by omega), if_pos h]
theorem sgn_eq (x : Int) : sgn x x = 0 := by unfold sgn; rw [if_neg (by omega), if_neg (by omega)]
theorem sgn_cases (x y : Int) : (x < y ∧ sgn x y = -1) ∨ (y < x ∧ sgn x y = 1) ∨ (x = y ∧ sgn x y = 0) := by
  rcases Int.lt_trichotomy x y with h | h | h
  · exact .inl ⟨h, sgn_lt h⟩
  · subst h; exact .inr (.inr ⟨rfl, sgn_eq x⟩)
  · exact .inr (.inl ⟨h, sgn_gt h⟩)
theorem sgn_good : Good sgn where
  anti x y := by have := sgn_cases x y; have := sgn_cases y x; omega
  vals x y := by have := sgn_cases x y; omega
  trans x y z := by have := sgn_cases x y; have := sgn_cases y z; have := sgn_cases x z; omega
def bcmp (x y : Bs) : Int := if x < y then -1 else if x = y then 0 else 1
theorem bcmp_good : Good bcmp where
  anti x y := by
    unfold bcmp
    by_cases h : x < y
    · rw [if_pos h, if_neg (fun g => List.lt_irrefl _ (List.lt_trans h g)), if_neg (fun g => by subst g; exact List.lt_irrefl _ h)]; rfl
    · rw [if_neg h]
      by_cases e : x = y
      · subst e; rw [if_neg (List.lt_irrefl _)]; simp
      · rw [if_neg e]
        have : y < x := by
          rcases List.le_total x y with g | g
          · exact absurd (List.le_antisymm g (List.not_lt.1 h)) e
          · exact List.not_le.1 fun g' => e (List.le_antisymm g' g)
        rw [if_pos this]
  vals x y := by
    unfold bcmp
    by_cases h : x < y
    · rw [if_pos h]; omega
    · rw [if_neg h]
      by_cases e : x = y
      · rw [if_pos e]; omega
      · rw [if_neg e]; omega
  trans x y z := by
    have key : ∀ a b : Bs, bcmp a b ≤ 0 ↔ a ≤ b := fun a b => by
      unfold bcmp
      by_cases h : a < b
      · rw [if_pos h]; exact ⟨fun _ => List.le_of_lt h, fun _ => by omega⟩
      · rw [if_neg h]
        by_cases e : a = b
        · subst e; simp
        · rw [if_neg e]; exact ⟨fun g => absurd g (by decide), fun g => absurd (List.le_antisymm g (List.not_lt.1 h)) e⟩
    rw [key, key, key]
    exact List.le_trans

-- Bytes
def dgB (c : UInt8) : Bool := decide (48 ≤ c.toNat) && decide (c.toNat ≤ 57)
def ltB (c : UInt8) : Bool := decide (97 ≤ c.toNat) && decide (c.toNat ≤ 122) || decide (65 ≤ c.toNat) && decide (c.toNat ≤ 90)
def wt (c : UInt8) : Int := if c.toNat = 126 then -1 else if ltB c = true then (c.toNat : Int) else 256 + (c.toNat : Int)
theorem wt_bd (c : UInt8) : -1 ≤ wt c ∧ wt c ≤ 600 := by
  have := UInt8.toNat_lt c
  unfold wt
  by_cases h : c.toNat = 126
  · rw [if_pos h]; omega
  · rw [if_neg h]
    by_cases g : ltB c = true
    · rw [if_pos g]; omega
    · rw [if_neg g]; omega
def wcmp (p q : Bs) : Int := lexL sgn 0 (p.map wt) (q.map wt)
theorem wcmp_good : Good wcmp := (lexL_good sgn_good 0).on fun p : Bs => p.map wt
def ncmp (n m : Bs) : Int := if n.length < m.length ∨ n.length = m.length ∧ n < m then -1 else if n = m then 0 else 1
theorem ncmp_both (n m : Bs) : ncmp n m = both sgn bcmp ((n.length : Int), n) ((m.length : Int), m) := by
  unfold ncmp both bcmp
  show _ = if sgn (n.length : Int) (m.length : Int) ≠ 0 then sgn (n.length : Int) (m.length : Int) else _
  by_cases h : n.length < m.length
  · rw [if_pos (.inl h), sgn_lt (by omega)]; rfl
  · by_cases g : m.length < n.length
    · have e : n ≠ m := fun e => by subst e; omega
      rw [if_neg (by omega), if_neg e, sgn_gt (by omega)]; rfl
    · have e : n.length = m.length := by omega
      rw [e, sgn_eq]
      simp only [Nat.lt_irrefl, false_or, true_and, ne_eq, not_true, if_false]
theorem ncmp_good : Good ncmp := by
  have := (sgn_good.both bcmp_good).on fun n : Bs => ((n.length : Int), n)
  have e : ncmp = fun x y => both sgn bcmp ((x.length : Int), x) ((y.length : Int), y) := by funext x y; exact ncmp_both x y
  rw [e]; exact this

-- Pieces
def nonD (s : Bs) : Bs := s.takeWhile fun c => !dgB c
def digs (s : Bs) : Bs := (s.drop (nonD s).length).takeWhile dgB
def noughts (s : Bs) : Bs := s.dropWhile fun c => decide (c = 48)
def rest (s : Bs) : Bs := s.drop ((nonD s).length + (digs s).length)
theorem takeWhile_le {α : Type} (p : α → Bool) (l : List α) : (l.takeWhile p).length ≤ l.length := (List.takeWhile_sublist p).length_le
theorem nonD_le (s : Bs) : (nonD s).length ≤ s.length := takeWhile_le _ _
theorem digs_le (s : Bs) : (nonD s).length + (digs s).length ≤ s.length := by
  have := takeWhile_le dgB (s.drop (nonD s).length)
  have h2 := nonD_le s
  rw [List.length_drop] at this
  unfold digs; omega
theorem rest_lt (s : Bs) (h : s ≠ []) : (rest s).length < s.length := by
  unfold rest
  rw [List.length_drop]
  have h0 : 0 < s.length := List.length_pos_iff.2 h
  have : 0 < (nonD s).length + (digs s).length := by
    cases s with
    | nil => exact absurd rfl h
    | cons c s =>
      cases hc : dgB c
      · have : 0 < (nonD (c :: s)).length := by simp [nonD, hc]
        omega
      · have : 0 < (digs (c :: s)).length := by simp [digs, nonD, hc]
        omega
  omega
theorem rest_le (s : Bs) : (rest s).length ≤ s.length := by unfold rest; rw [List.length_drop]; omega
def pcsN : Nat → Bs → List (Bs × Bs)
  | 0, _ => []
  | k + 1, s => if s = [] then [] else (nonD s, noughts (digs s)) :: pcsN k (rest s)
def pcs (s : Bs) : List (Bs × Bs) := pcsN s.length s
theorem pcsN_any : ∀ (k j : Nat) (s : Bs), s.length ≤ k → s.length ≤ j → pcsN k s = pcsN j s
  | 0, j, s, hk, hj => by
    obtain rfl := List.eq_nil_of_length_eq_zero (by omega : s.length = 0)
    cases j <;> simp [pcsN]
  | k + 1, 0, s, hk, hj => by
    obtain rfl := List.eq_nil_of_length_eq_zero (by omega : s.length = 0)
    simp [pcsN]
  | k + 1, j + 1, s, hk, hj => by
    by_cases h : s = []
    · simp [pcsN, h]
    · have := rest_lt s h
      rw [pcsN, pcsN, if_neg h, if_neg h, pcsN_any k j (rest s) (by omega) (by omega)]
theorem pcs_cons (s : Bs) (h : s ≠ []) : pcs s = (nonD s, noughts (digs s)) :: pcs (rest s) := by
  have h0 : 0 < s.length := List.length_pos_iff.2 h
  have h1 := rest_lt s h
  obtain ⟨k, hk⟩ : ∃ k, s.length = k + 1 := ⟨s.length - 1, by omega⟩
  unfold pcs
  rw [hk, pcsN, if_neg h, pcsN_any k (rest s).length (rest s) (by omega) (Nat.le_refl _)]
theorem pcs_hd (s : Bs) : hd ([], []) (pcs s) = (nonD s, noughts (digs s)) := by
  by_cases h : s = []
  · subst h; rfl
  · rw [pcs_cons s h]; rfl
theorem pcs_tl (s : Bs) : (pcs s).tail = pcs (rest s) := by
  by_cases h : s = []
  · subst h; rfl
  · rw [pcs_cons s h]; rfl
def pcmp : Bs × Bs → Bs × Bs → Int := both wcmp ncmp
theorem pcmp_good : Good pcmp := wcmp_good.both ncmp_good
def order (a b : Bs) : Int := lexL pcmp ([], []) (pcs a) (pcs b)
theorem order_good : Good order := (lexL_good pcmp_good _).on pcs
theorem order_end : order [] [] = 0 := lexL_nil _ _
theorem order_next (a b : Bs) : order a b = if wcmp (nonD a) (nonD b) ≠ 0 then wcmp (nonD a) (nonD b) else if ncmp (noughts (digs a)) (noughts (digs b)) ≠ 0 then ncmp (noughts (digs a)) (noughts (digs b)) else order (rest a) (rest b) := by
  unfold order
  rw [lexL_next pcmp_good, pcs_hd, pcs_hd, pcs_tl, pcs_tl]
  unfold pcmp both
  simp only []
  by_cases h : wcmp (nonD a) (nonD b) = 0
  · rw [if_neg (by omega : ¬ wcmp (nonD a) (nonD b) ≠ 0)]; simp only [h, ne_eq, not_true, if_false]
  · rw [if_pos (by omega : wcmp (nonD a) (nonD b) ≠ 0)]; simp only [ne_eq, h, not_false_eq_true, if_true]

-- Parts of a version
abbrev Ver := Int × Bs × Bs
def onlyB (marks : Bs) (s : Bs) : Bool := s.all fun c => dgB c || ltB c || marks.contains c
def epochOf (s : Bs) : Int := s.foldl (fun n c => 10 * n + (c.toNat : Int) - 48) 0
def colonAt (s : Bs) : Nat := (s.takeWhile fun c => decide (c ≠ 58)).length
def hyAt (s : Bs) : Nat := s.length - (s.reverse.takeWhile fun c => decide (c ≠ 45)).length
/-- What stands ahead of the last hyphen, and behind it. -/
def cutHy (s : Bs) : Bs × Bs := if hyAt s = 0 then (s, [48]) else (s.take (hyAt s - 1), s.drop (hyAt s))
def headDg : Bs → Bool
  | [] => false
  | c :: _ => dgB c
def restV (e : Int) (marks s : Bs) : Option Ver := if headDg (cutHy s).1 = true ∧ onlyB marks (cutHy s).1 = true ∧ (cutHy s).2 ≠ [] ∧ onlyB [46, 43, 126] (cutHy s).2 = true then some (e, cutHy s) else none
def verOf (s : Bs) : Option Ver :=
  if colonAt s < s.length then
    if 1 ≤ colonAt s ∧ colonAt s ≤ 9 ∧ (s.take (colonAt s)).all dgB = true then restV (epochOf (s.take (colonAt s))) [46, 43, 45, 126, 58] (s.drop (colonAt s + 1)) else none
  else restV 0 [46, 43, 45, 126] s
/-- A version's parts; else the error. -/
def parseE (s : Bs) : Ver × Int := if 80 < s.length then ((0, [], []), 8) else match verOf s with
  | some v => (v, 0)
  | none => ((0, [], []), 2)
def verAs (s : Bs) : Ver := if (parseE s).2 = 0 then (parseE s).1 else (0, s, [48])
def vcmp : Ver → Ver → Int := both sgn (both order order)
theorem vcmp_good : Good vcmp := sgn_good.both (order_good.both order_good)
def compareV (a b : Bs) : Int := vcmp (verAs a) (verAs b)
theorem compareV_good : Good compareV := vcmp_good.on verAs
def holdsV (v op other : Bs) : Bool :=
  let c := compareV v other
  decide (op = []) || decide (op = [60, 60]) && decide (c < 0) || decide (op = [60, 61]) && decide (c ≤ 0) || decide (op = [61]) && decide (c = 0) || decide (op = [62, 61]) && decide (0 ≤ c) || decide (op = [62, 62]) && decide (0 < c)

-- A text is parsed as it was
theorem epochOf_snoc (l : Bs) (c : UInt8) : epochOf (l ++ [c]) = 10 * epochOf l + (c.toNat : Int) - 48 := by unfold epochOf; rw [List.foldl_append]; rfl
theorem epoch_bd (l : Bs) : l.all dgB = true → 0 ≤ epochOf l ∧ epochOf l < 10 ^ l.length := by
  have key : ∀ (l : Bs) (n : Int), 0 ≤ n → l.all dgB = true → 0 ≤ l.foldl (fun n c => 10 * n + (c.toNat : Int) - 48) n ∧ l.foldl (fun n c => 10 * n + (c.toNat : Int) - 48) n < (n + 1) * 10 ^ l.length := by
    intro l
    induction l with
    | nil => intro n hn _; simp only [List.foldl_nil, List.length_nil, Int.pow_zero]; omega
    | cons c l ih =>
      intro n hn h
      rw [List.all_cons, Bool.and_eq_true] at h
      have h3 := h.1
      simp only [dgB, Bool.and_eq_true, decide_eq_true_eq] at h3
      obtain ⟨h1, h2⟩ := ih (10 * n + (c.toNat : Int) - 48) (by omega) h.2
      rw [List.foldl_cons, List.length_cons, Int.pow_succ]
      refine ⟨h1, Int.lt_of_lt_of_le h2 ?_⟩
      have hp : (0 : Int) ≤ 10 ^ l.length := Int.le_of_lt (Int.pow_pos (by decide))
      have : (10 * n + (c.toNat : Int) - 48 + 1) * 10 ^ l.length ≤ ((n + 1) * 10) * 10 ^ l.length := Int.mul_le_mul_of_nonneg_right (by omega) hp
      rw [show (n + 1) * (10 ^ l.length * 10) = ((n + 1) * 10) * 10 ^ l.length from by rw [Int.mul_assoc, Int.mul_comm 10]]
      exact this
  intro h
  have := key l 0 (Int.le_refl _) h
  simpa [epochOf] using this
theorem takeWhile_at {α : Type} (p : α → Bool) (a : List α) (x : α) (r : List α) (h : ∀ y ∈ a, p y = true) (hx : p x = false) : (a ++ x :: r).takeWhile p = a := by
  rw [List.takeWhile_append_of_pos h, List.takeWhile_cons]; simp [hx]
theorem takeWhile_all {α : Type} (p : α → Bool) (a : List α) (h : ∀ y ∈ a, p y = true) : a.takeWhile p = a := by
  have := List.takeWhile_append_of_pos (l₂ := []) h
  simpa using this
theorem colonAt_no (a : Bs) (h : (58 : UInt8) ∉ a) : colonAt a = a.length := by
  unfold colonAt; rw [takeWhile_all _ _ (fun y hy => by simp; rintro rfl; exact h hy)]
theorem only_more {marks marks' s : Bs} (h : onlyB marks s = true) (hm : ∀ c ∈ s, c ∈ marks → c ∈ marks') : onlyB marks' s = true := by
  unfold onlyB at h ⊢
  rw [List.all_eq_true] at h ⊢
  intro c hc
  have := h c hc
  simp only [Bool.or_eq_true, List.contains_iff_mem] at this ⊢
  rcases this with this | this
  · exact .inl this
  · exact .inr (hm c hc this)
structure VerOk (v : Ver) : Prop where
  lo : 0 ≤ v.1
  hi : v.1 < 1000000000
  head : headDg v.2.1 = true
  up : onlyB [46, 43, 45, 126, 58] v.2.1 = true
  ne : v.2.2 ≠ []
  rev : onlyB [46, 43, 126] v.2.2 = true
theorem restV_some {e : Int} {marks s : Bs} {v : Ver} (h : restV e marks s = some v) : v = (e, cutHy s) ∧ headDg (cutHy s).1 = true ∧ onlyB marks (cutHy s).1 = true ∧ (cutHy s).2 ≠ [] ∧ onlyB [46, 43, 126] (cutHy s).2 = true := by
  unfold restV at h
  split at h
  · rename_i g; cases h; exact ⟨rfl, g⟩
  · cases h
theorem verOf_ok {s : Bs} {v : Ver} (h : verOf s = some v) : VerOk v := by
  unfold verOf at h
  split at h
  · split at h
    · rename_i g
      obtain ⟨rfl, h1, h2, h3, h4⟩ := restV_some h
      have hb := epoch_bd _ g.2.2
      refine ⟨hb.1, ?_, h1, h2, h3, h4⟩
      show epochOf (s.take (colonAt s)) < 1000000000
      have h5 : (10 : Int) ^ (s.take (colonAt s)).length ≤ 10 ^ 9 := by
        have h6 : (s.take (colonAt s)).length ≤ 9 := by rw [List.length_take]; omega
        have h7 := Nat.pow_le_pow_right (n := 10) (by decide) h6
        exact_mod_cast h7
      have e9 : (10 : Int) ^ 9 = 1000000000 := by decide
      omega
    · cases h
  · obtain ⟨rfl, h1, h2, h3, h4⟩ := restV_some h
    exact ⟨Int.le_refl _, by show (0 : Int) < _; omega, h1, only_more h2 (fun c _ hm => by simp at hm ⊢; rcases hm with h | h | h | h <;> simp [h]), h3, h4⟩
end Go.Proofs.YtkcamfcjkjiijaaGreatDoor
