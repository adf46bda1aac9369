import Derived.Test.YtnnagboeimeiiaaGreatDoorWPSel
import Derived.Lib.ItoaMem
namespace Go.Proofs.YtnnagboeimeiiaaGreatDoor
open Go.Lib
-- Orders that tell -1, 0 or 1
structure Good {α : Type} (c : α → α → Int) : Prop where
 anti : ∀ x y, c y x = -c x y
 vals : ∀ x y, c x y = -1 ∨ c x y = 0 ∨ c x y = 1
 trans : ∀ x y z, c x y ≤ 0 → c y z ≤ 0 → c x z ≤ 0
theorem Good.same {α : Type} {c : α → α → Int} (h : Good c) {x y : α} (z : α) (e : c x y = 0) : c x z = c y z := by
 have h1 := h.anti x y
 have a := h.trans x y z (by omega)
 have b := h.trans y x z (by omega)
 have a' := fun g => h.trans z y x g (by omega)
 have b' := fun g => h.trans z x y g (by omega)
 have v1 := h.vals x z
 have v2 := h.vals y z
 have w1 := h.anti x z
 have w2 := h.anti y z
 rcases v1 with v1 | v1 | v1 <;> rcases v2 with v2 | v2 | v2 <;> first | omega | (have := a (by omega); have := b (by omega); have := a' (by omega); have := b' (by omega); omega) | (have := a (by omega); omega) | (have := b (by omega); omega) | (have := a' (by omega); omega) | (have := b' (by omega); omega)
theorem Good.on {α β : Type} {c : α → α → Int} (h : Good c) (f : β → α) : Good fun x y => c (f x) (f y) :=
 ⟨fun _ _ => h.anti _ _, fun _ _ => h.vals _ _, fun _ _ _ => h.trans _ _ _⟩
def hd {α : Type} (pad : α) (l : List α) : α := l.head?.getD pad
-- Bytes
def dgB (c : UInt8) : Bool := decide (48 ≤ c.toNat) && decide (c.toNat ≤ 57)
def ltB (c : UInt8) : Bool := decide (97 ≤ c.toNat) && decide (c.toNat ≤ 122) || decide (65 ≤ c.toNat) && decide (c.toNat ≤ 90)
-- Pieces
def nonD (s : Bs) : Bs := s.takeWhile fun c => !dgB c
def digs (s : Bs) : Bs := (s.drop (nonD s).length).takeWhile dgB
def rest (s : Bs) : Bs := s.drop ((nonD s).length + (digs s).length)
theorem takeWhile_le {α : Type} (p : α → Bool) (l : List α) : (l.takeWhile p).length ≤ l.length := (List.takeWhile_sublist p).length_le
-- Parts of a version
abbrev Ver := Int × Bs × Bs
def onlyB (marks : Bs) (s : Bs) : Bool := s.all fun c => dgB c || ltB c || marks.contains c
def epochOf (s : Bs) : Int := s.foldl (fun n c => 10 * n + (c.toNat : Int) - 48) 0
def colonAt (s : Bs) : Nat := (s.takeWhile fun c => decide (c ≠ 58)).length
def hyAt (s : Bs) : Nat := s.length - (s.reverse.takeWhile fun c => decide (c ≠ 45)).length
def cutHy (s : Bs) : Bs × Bs := if hyAt s = 0 then (s, [48]) else (s.take (hyAt s - 1), s.drop (hyAt s))
def headDg : Bs → Bool
 | [] => false
 | c :: _ => dgB c
def restV (e : Int) (marks s : Bs) : Option Ver := if headDg (cutHy s).1 = true ∧ onlyB marks (cutHy s).1 = true ∧ (cutHy s).2 ≠ [] ∧ onlyB [46, 43, 126] (cutHy s).2 = true then some (e, cutHy s) else none
def verOf (s : Bs) : Option Ver :=
 if colonAt s < s.length then
   if 1 ≤ colonAt s ∧ colonAt s ≤ 9 ∧ (s.take (colonAt s)).all dgB = true then restV (epochOf (s.take (colonAt s))) [46, 43, 45, 126, 58] (s.drop (colonAt s + 1)) else none
 else restV 0 [46, 43, 45, 126] s
def parseE (s : Bs) : Ver × Int := if 80 < s.length then ((0, [], []), 8) else match verOf s with
 | some v => (v, 0)
 | none => ((0, [], []), 2)
-- A text is parsed as it was
theorem epochOf_snoc (l : Bs) (c : UInt8) : epochOf (l ++ [c]) = 10 * epochOf l + (c.toNat : Int) - 48 := by unfold epochOf; rw [List.foldl_append]; rfl
theorem epoch_bd (l : Bs) : l.all dgB = true → 0 ≤ epochOf l ∧ epochOf l < 10 ^ l.length := by
 have key : ∀ (l : Bs) (n : Int), 0 ≤ n → l.all dgB = true → 0 ≤ l.foldl (fun n c => 10 * n + (c.toNat : Int) - 48) n ∧ l.foldl (fun n c => 10 * n + (c.toNat : Int) - 48) n < (n + 1) * 10 ^ l.length := by
   intro l
   induction l with
   | nil => intro n hn _; simp only [List.foldl_nil, List.length_nil, Int.pow_zero]; omega
   | cons c l ih =>
     intro n hn h
     rw [List.all_cons, Bool.and_eq_true] at h
     have h3 := h.1
     simp only [dgB, Bool.and_eq_true, decide_eq_true_eq] at h3
     obtain ⟨h1, h2⟩ := ih (10 * n + (c.toNat : Int) - 48) (by omega) h.2
     rw [List.foldl_cons, List.length_cons, Int.pow_succ]
     refine ⟨h1, Int.lt_of_lt_of_le h2 ?_⟩
     have hp : (0 : Int) ≤ 10 ^ l.length := Int.le_of_lt (Int.pow_pos (by decide))
     have : (10 * n + (c.toNat : Int) - 48 + 1) * 10 ^ l.length ≤ ((n + 1) * 10) * 10 ^ l.length := Int.mul_le_mul_of_nonneg_right (by omega) hp
     rw [show (n + 1) * (10 ^ l.length * 10) = ((n + 1) * 10) * 10 ^ l.length from by rw [Int.mul_assoc, Int.mul_comm 10]]
     exact this
 intro h
 have := key l 0 (Int.le_refl _) h
 simpa [epochOf] using this
theorem takeWhile_at {α : Type} (p : α → Bool) (a : List α) (x : α) (r : List α) (h : ∀ y ∈ a, p y = true) (hx : p x = false) : (a ++ x :: r).takeWhile p = a := by
 rw [List.takeWhile_append_of_pos h, List.takeWhile_cons]; simp [hx]
theorem takeWhile_all {α : Type} (p : α → Bool) (a : List α) (h : ∀ y ∈ a, p y = true) : a.takeWhile p = a := by
 have := List.takeWhile_append_of_pos (l₂ := []) h
 simpa using this
theorem colonAt_at (a r : Bs) (h : (58 : UInt8) ∉ a) : colonAt (a ++ 58 :: r) = a.length := by
 unfold colonAt; rw [takeWhile_at _ _ _ _ (fun y hy => by simp; rintro rfl; exact h hy) (by simp)]
theorem colonAt_no (a : Bs) (h : (58 : UInt8) ∉ a) : colonAt a = a.length := by
 unfold colonAt; rw [takeWhile_all _ _ (fun y hy => by simp; rintro rfl; exact h hy)]
structure VerOk (v : Ver) : Prop where
 lo : 0 ≤ v.1
 hi : v.1 < 1000000000
 head : headDg v.2.1 = true
 up : onlyB [46, 43, 45, 126, 58] v.2.1 = true
 ne : v.2.2 ≠ []
 rev : onlyB [46, 43, 126] v.2.2 = true
end Go.Proofs.YtnnagboeimeiiaaGreatDoor
