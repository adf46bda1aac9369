/-
  Who is configured, one behind the other, on lists of records; nothing of the program.
-/
import Derived.Test.YtkcamfcjkjiijaaGreatDoorGBRefR
import Derived.Laws.BitsLemmas
import Derived.Laws.BitsAllLaws
import Derived.Lib.Itoa
import Derived.Lib.ItoaWalk
import Derived.Sort.Row
import Derived.Lib.Hide
import Derived.ShutString
import Derived.Test.YtkcamfcjkjiijaaGreatDoorGPName
import Derived.Test.YtkcamfcjkjiijaaGreatDoorGTMath
import Derived.Test.YtkcamfcjkjiijaaGreatDoorGBoxV
import Derived.IntWalk
import Derived.Deep.RegionHeld3
import Derived.RangeFuncBox
import Derived.Test.YtkcamfcjkjiijaaGreatDoorGZHold
import Derived.Test.YtkcamfcjkjiijaaGreatDoorGShelf
import Derived.Test.YtkcamfcjkjiijaaGreatDoorGVPParse
import Derived.Test.YtkcamfcjkjiijaaGreatDoorGQLacks2
namespace Go.Proofs.YtkcamfcjkjiijaaGreatDoor
open Go.RowKit
def BigQ (l : List Rl) : Prop := ∀ x ∈ l, x.1.length ≤ maxLen ∧ x.2.1.length ≤ maxLen ∧ x.2.2.length ≤ maxLen
theorem smallR_right {x : Rl} (h : rightR x = true) : x.1.length ≤ 4000 ∧ x.2.1.length ≤ 4000 ∧ x.2.2.length ≤ 4000 := by
  unfold rightR at h
  rw [Bool.and_eq_true] at h
  have h1 : x.1.length ≤ 60 := by
    have := h.1
    unfold nameB at this
    simp only [Bool.and_eq_true, decide_eq_true_eq] at this
    omega
  by_cases h2 : x.2.1 = []
  · rw [if_pos h2, decide_eq_true_eq] at h
    rw [h2, h.2]
    exact ⟨by omega, by simp, by simp⟩
  · rw [if_neg h2, Bool.and_eq_true, decide_eq_true_eq] at h
    have h3 : x.2.1.length ≤ 2 := by
      have := h.2.1
      unfold opB at this
      simp only [Bool.or_eq_true, decide_eq_true_eq] at this
      rcases this with ((((e | e) | e) | e) | e) <;> rw [e] <;> simp
    have h4 : x.2.2.length ≤ 80 := by
      by_cases h80 : 80 < x.2.2.length
      · have := h.2.2
        unfold parseE at this
        rw [if_pos h80] at this
        simp at this
      · omega
    exact ⟨by omega, by omega, by omega⟩
theorem smallQ_right {l : List Rl} (h : l.all rightR = true) : SmallQ l := fun x hx => smallR_right (List.all_eq_true.1 h x hx)
end Go.Proofs.YtkcamfcjkjiijaaGreatDoor
namespace Go.Proofs.YtkcamfcjkjiijaaGreatDoor
open Go.RowKit
def BigG (l : List Gv) : Prop := ∀ x ∈ l, BigQ x.1 ∧ x.1.length ≤ 500
theorem goodG_right {g : List Rl} (h : ¬ badG g = true) : g.all rightR = true := by
  unfold badG at h
  rw [Bool.or_eq_true, not_or] at h
  simpa using h.2
end Go.Proofs.YtkcamfcjkjiijaaGreatDoor
namespace Go.Proofs.YtkcamfcjkjiijaaGreatDoor

end Go.Proofs.YtkcamfcjkjiijaaGreatDoor
namespace Go.Proofs.YtkcamfcjkjiijaaGreatDoor
open Go.Sort Go.RowKit

/-- The letter of a digit below 16. -/
def dgc (d : Nat) : UInt8 := if d < 10 then UInt8.ofNat (48 + d) else UInt8.ofNat (87 + d)
/-- WHAT THE BUFFER OF 65 BYTES HOLDS: from place i on the digits, v what is left of u. -/
structure FInv (b u i v : Nat) (dk : Array UInt8) : Prop where
  size : dk.size = 65
  le : i ≤ 65
  rest : v = u / b ^ (65 - i)
  done : ∀ t, i ≤ t → t < 65 → dk[t]! = dgc (u / b ^ (64 - t) % b)
  pos : i = 65 ∨ 1 ≤ v
theorem FInv.start (b u : Nat) (dk : Array UInt8) (h : dk.size = 65) : FInv b u 65 u dk :=
  ⟨h, Nat.le_refl _, by simp, fun t h1 h2 => by omega, Or.inl rfl⟩
theorem getElem!_set_same' (d : Array UInt8) (i : Nat) (x : UInt8) (h : i < d.size) : (d.setIfInBounds i x)[i]! = x := by
  rw [getElem!_pos _ i (by simpa using h)]; simp
theorem getElem!_set_other' (d : Array UInt8) (i j : Nat) (x : UInt8) (h : j ≠ i) : (d.setIfInBounds i x)[j]! = d[j]! := by
  simp only [getElem!_def, Array.getElem?_setIfInBounds]
  rw [if_neg (fun e => h e.symm)]
theorem FInv.step {b u i v : Nat} {dk : Array UInt8} (h : FInv b u (i + 1) v dk) (hb : 0 < b) (hv : b ≤ v) : FInv b u i (v / b) (dk.setIfInBounds i (dgc (v % b))) where
  size := by simpa using h.size
  le := by have := h.le; omega
  rest := by
    have hle := h.le
    have e : 65 - i = (65 - (i + 1)) + 1 := by omega
    rw [h.rest, e, Nat.pow_succ, Nat.div_div_eq_div_mul]
  done := fun t h1 h2 => by
    have hs := h.size
    by_cases ht : t = i
    · subst ht
      rw [getElem!_set_same' _ _ _ (by omega), h.rest]
      have e : 65 - (t + 1) = 64 - t := by omega
      rw [e]
    · rw [getElem!_set_other' _ _ _ _ ht]
      exact h.done t (by omega) h2
  pos := by
    right; exact (Nat.one_le_div_iff hb).2 hv
end Go.Proofs.YtkcamfcjkjiijaaGreatDoor
namespace Go.Proofs.YtkcamfcjkjiijaaGreatDoor
open Go.RowKit
-- Lists by keys
section
variable {α : Type} (rt : α → Bool) (key : α → Bs)
end
section
variable {α : Type} {rt : α → Bool} {key : α → Bs}
end
end Go.Proofs.YtkcamfcjkjiijaaGreatDoor
namespace Go.Proofs.YtkcamfcjkjiijaaGreatDoor
open Go.RowKit
abbrev agZU (x : Uv) : Value := .agg #[.string (⟨(x.nm).toArray⟩ : ByteArray), .string (⟨(x.vr).toArray⟩ : ByteArray), .int .i64 (x.st), x.dv, x.cv, x.rv, x.fv, x.pv, x.av]
theorem formU3 {w : World} {x : Uv} (h : InU w x) : ∃ a n c, x.dv = .slice a n c := by obtain ⟨⟨a, c, b, o, e, _⟩, _⟩ := h.dp; exact ⟨_, _, _, e⟩
theorem formU4 {w : World} {x : Uv} (h : InU w x) : ∃ a n c, x.cv = .slice a n c := by obtain ⟨a, c, b, o, e, _⟩ := h.cn; exact ⟨_, _, _, e⟩
theorem formU5 {w : World} {x : Uv} (h : InU w x) : ∃ a n c, x.rv = .slice a n c := by obtain ⟨a, c, b, o, e, _⟩ := h.rp; exact ⟨_, _, _, e⟩
theorem formU6 {w : World} {x : Uv} (h : InU w x) : ∃ a n c, x.fv = .slice a n c := by obtain ⟨a, c, b, o, e, _⟩ := h.cf; exact ⟨_, _, _, e⟩
theorem formU7 {w : World} {x : Uv} (h : InU w x) : ∃ a n c, x.pv = .slice a n c := by obtain ⟨a, c, b, o, e, _⟩ := h.pd; exact ⟨_, _, _, e⟩
theorem formU8 {w : World} {x : Uv} (h : InU w x) : ∃ a n c, x.av = .slice a n c := by obtain ⟨a, c, b, o, e, _⟩ := h.aw; exact ⟨_, _, _, e⟩
end Go.Proofs.YtkcamfcjkjiijaaGreatDoor
namespace Go.Proofs.YtkcamfcjkjiijaaGreatDoor
def lo (c : UInt8) : Nat := c.toNat ||| 32
def dv (c : UInt8) : Option Nat := if 48 ≤ c.toNat ∧ c.toNat ≤ 57 then some (c.toNat - 48) else if 97 ≤ lo c ∧ lo c ≤ 122 then some (lo c - 87) else none
def dvb (b : Nat) (c : UInt8) : Option Nat := match dv c with
  | some d => if d < b then some d else none
  | none => none
def pv (b : Nat) : Nat → List UInt8 → Option Nat
  | acc, [] => some acc
  | acc, c :: l => match dvb b c with
    | some d => pv b (acc * b + d) l
    | none => none
end Go.Proofs.YtkcamfcjkjiijaaGreatDoor
namespace Go.Proofs.YtkcamfcjkjiijaaGreatDoor
open Go.RowKit
end Go.Proofs.YtkcamfcjkjiijaaGreatDoor
namespace Go.Proofs.YtkcamfcjkjiijaaGreatDoor
open Go.RowKit
end Go.Proofs.YtkcamfcjkjiijaaGreatDoor
namespace Go.Proofs.YtkcamfcjkjiijaaGreatDoor
open Go.RowKit
end Go.Proofs.YtkcamfcjkjiijaaGreatDoor
namespace Go.Proofs.YtkcamfcjkjiijaaGreatDoor
open Go.RowKit Go.Shelf
end Go.Proofs.YtkcamfcjkjiijaaGreatDoor
namespace Go.Proofs.YtkcamfcjkjiijaaGreatDoor
open Go.RowKit Go.Shelf
end Go.Proofs.YtkcamfcjkjiijaaGreatDoor
namespace Go.Proofs.YtkcamfcjkjiijaaGreatDoor
open Go.RowKit Go.Shelf
end Go.Proofs.YtkcamfcjkjiijaaGreatDoor
namespace Go.Proofs.YtkcamfcjkjiijaaGreatDoor
open Go.RowKit Go.Shelf
/-- A record of some size. -/
structure SmallU (x : Uv) : Prop where
  nm : x.nm.length ≤ 4000
  vr : x.vr.length ≤ 4000
  dn : x.dp.length ≤ 70
  dp : BigG x.dp
  cl : x.cn.length ≤ 70
  cq : BigQ x.cn
  rl : x.rp.length ≤ 4000
  rp : ∀ s ∈ x.rp, s.length ≤ 4000
  fl : x.cf.length ≤ 4000
  cf : ∀ c ∈ x.cf, c.1.length ≤ 4000 ∧ c.2.length ≤ 4000
  pl : x.pd.length ≤ 4000
  pd : ∀ s ∈ x.pd, s.length ≤ 4000
  al : x.aw.length ≤ 4000
  aw : ∀ s ∈ x.aw, s.length ≤ 4000
end Go.Proofs.YtkcamfcjkjiijaaGreatDoor
namespace Go.Proofs.YtkcamfcjkjiijaaGreatDoor
open Go.RowKit Go.Shelf
def openZ (z : Int) : Bool := decide (z = 3) || decide (z = 4)
def isThere (z : Int) : Bool := decide (z = 7) || decide (z = 6)
abbrev relU (x : Uv) : Rl := (x.nm, [], x.vr)
def thereU (l : List Uv) : List Rl := (l.filter fun x => isThere x.st).map relU
def lackN (t : List Rl) (x : Uv) : Nat := (lackL t 0 (fsts x.dp)).length
def enoughB (t : List Rl) (x : Uv) : Bool := lackN t x == 0
def mayB (s : List Bs) (t : List Rl) (x : Uv) : Bool := !decide (x.nm ∈ s) && openZ x.st && enoughB t x
/-- The next one. -/
def nextU (l : List Uv) (s : List Bs) (t : List Rl) : Option Uv := l.find? (mayB s t)
abbrev nmsU (xs : List Uv) : List Bs := xs.map (·.nm)
abbrev behindU (l xs : List Uv) : List Rl := thereU l ++ xs.map relU
/-- What is planned so far. -/
def PlanTo (l xs : List Uv) : Prop := ∀ (i : Nat) x, xs[i]? = some x → nextU l (nmsU (xs.take i)) (behindU l (xs.take i)) = some x
structure PlanOf (l xs : List Uv) : Prop where
  plan : PlanTo l xs
  done : nextU l (nmsU xs) (behindU l xs) = none
theorem PlanTo.nil (l : List Uv) : PlanTo l [] := fun i x h => by simp at h
theorem next_some {l : List Uv} {s : List Bs} {t : List Rl} {x : Uv} (h : nextU l s t = some x) : x ∈ l ∧ mayB s t x = true := ⟨List.mem_of_find?_eq_some h, List.find?_some h⟩
theorem mayB_parts {s : List Bs} {t : List Rl} {x : Uv} (h : mayB s t x = true) : x.nm ∉ s ∧ openZ x.st = true ∧ enoughB t x = true := by
  unfold mayB at h
  simp only [Bool.and_eq_true, Bool.not_eq_true', decide_eq_false_iff_not] at h
  exact ⟨h.1.1, h.1.2, h.2⟩
theorem nd_len : ∀ (a b : List Bs), a.Nodup → (∀ x ∈ a, x ∈ b) → a.length ≤ b.length
  | [], b, _, _ => Nat.zero_le _
  | x :: a, b, hn, hs => by
    have hx := hs x (by simp)
    have h1 := List.nodup_cons.1 hn
    have ih := nd_len a (b.erase x) h1.2 (fun y hy => (List.mem_erase_of_ne (fun e => h1.1 (by rw [← e]; exact hy))).2 (hs y (List.mem_cons_of_mem _ hy)))
    have h2 := List.length_erase_of_mem hx
    have h3 := List.length_pos_of_mem hx
    simp only [List.length_cons]
    omega
theorem PlanTo.nodup {l xs : List Uv} (h : PlanTo l xs) : (nmsU xs).Nodup := by
  rw [List.nodup_iff_pairwise_ne, List.pairwise_iff_getElem]
  intro i j hi hj hij e
  simp only [List.length_map] at hi hj
  have := (mayB_parts (next_some (h j _ (List.getElem?_eq_getElem hj))).2).1
  refine this ?_
  simp only [List.getElem_map] at e
  rw [← e]
  refine List.mem_map_of_mem ?_
  rw [List.mem_take_iff_getElem]
  exact ⟨i, by omega, rfl⟩
theorem PlanTo.len {l xs : List Uv} (h : PlanTo l xs) : xs.length ≤ l.length := by
  have := nd_len (nmsU xs) (nmsU l) h.nodup (fun n hn => by
    obtain ⟨x, hx, rfl⟩ := List.mem_map.1 hn
    obtain ⟨i, hi, rfl⟩ := List.mem_iff_getElem.1 hx
    exact List.mem_map_of_mem (next_some (h i _ (List.getElem?_eq_getElem hi))).1)
  simpa using this
end Go.Proofs.YtkcamfcjkjiijaaGreatDoor
