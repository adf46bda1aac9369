/-
  The reference's only, words, numbers, piece: what each returns; the world stays as it was, but for draws.
-/
import Derived.Test.YtolpcnhgmmnmcaaGreatDoorVRefA
namespace Go.Proofs.YtolpcnhgmmnmcaaGreatDoor
open Go.RowKit
def inM (m : Bs) (c : UInt8) : Bool := dgB c || ltB c || m.contains c
theorem onlyB_in (m s : Bs) : onlyB m s = s.all (inM m) := rfl
theorem inM_mark {m : Bs} {c : UInt8} (hd : dgB c = false) (hl : ltB c = false) (h : firstI c m < 0) : inM m c = false := by
  unfold inM; rw [hd, hl]
  have := firstI_neg.1 h
  simpa using this
theorem inM_yes {m : Bs} {c : UInt8} (h : ¬ firstI c m < 0) : inM m c = true := by
  unfold inM
  have : c ∈ m := Decidable.of_not_not fun g => h (firstI_neg.2 g)
  simp [this]
-- words
def wAt (s : ByteArray) (k : Nat) : Int := if h : k < s.size then wt s[k] else 0
theorem hd_drop (s : ByteArray) (k : Nat) : hd 0 ((s.data.toList.drop k).map wt) = wAt s k := by
  unfold wAt hd
  by_cases h : k < s.size
  · rw [dif_pos h, dropC s k h]; rfl
  · rw [dif_neg h, List.drop_of_length_le (by rw [← sizeOf]; omega)]; rfl
theorem tl_drop (s : ByteArray) (k : Nat) : ((s.data.toList.drop k).map wt).tail = (s.data.toList.drop (k + 1)).map wt := by
  rw [← List.map_tail, List.tail_drop]
theorem words_next (a b : ByteArray) (k : Nat) : wcmp (a.data.toList.drop k) (b.data.toList.drop k) = if sgn (wAt a k) (wAt b k) ≠ 0 then sgn (wAt a k) (wAt b k) else wcmp (a.data.toList.drop (k + 1)) (b.data.toList.drop (k + 1)) := by
  unfold wcmp
  rw [lexL_next sgn_good, hd_drop, hd_drop, tl_drop, tl_drop]
theorem ncmp_len {n m : Bs} (h : n.length < m.length) : ncmp n m = -1 := by unfold ncmp; rw [if_pos (.inl h)]
theorem ncmp_less {n m : Bs} (h : n.length = m.length) (g : n < m) : ncmp n m = -1 := by unfold ncmp; rw [if_pos (.inr ⟨h, g⟩)]
theorem ncmp_rest {n m : Bs} (h : ¬ n.length < m.length) (g : n.length = m.length → ¬ n < m) : ncmp n m = if n = m then 0 else 1 := by unfold ncmp; rw [if_neg (fun x => x.elim h fun y => g y.1 y.2)]
end Go.Proofs.YtolpcnhgmmnmcaaGreatDoor
