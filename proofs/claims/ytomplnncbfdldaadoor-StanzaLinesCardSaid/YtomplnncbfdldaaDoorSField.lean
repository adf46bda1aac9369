/-
  The reference's Field: what it returns; nothing old turns.
-/
import Derived.Test.YtomplnncbfdldaaDoorSWords
import Derived.Test.YtomplnncbfdldaaDoorVRefL
namespace Go.Proofs.YtomplnncbfdldaaDoor
open Go.RowKit
def lineAt (k : Nat) (p : Bs) : Bool := !(decide (k = 0) && decide (p.head? = some 32)) && endB p && !(decide (0 < k) && decide (p = []))
theorem linesB_at : ∀ (ls : List Bs), ls ≠ [] → (linesB ls = true ↔ ∀ (j : Nat) (h : j < ls.length), lineAt j ls[j] = true)
  | [], h => absurd rfl h
  | p :: ps, _ => by
    simp only [linesB, Bool.and_eq_true, Bool.not_eq_true', decide_eq_false_iff_not, List.all_eq_true, decide_eq_true_eq]
    constructor
    · rintro ⟨⟨h1, h2⟩, h3⟩ j hj
      cases j with
      | zero => simp [lineAt, h1, h2]
      | succ j =>
        have hj' : j < ps.length := by simpa using hj
        have := h3 ps[j] (List.getElem_mem hj')
        simp [lineAt, this.1]
        exact this.2
    · intro h
      have h0 := h 0 (by simp)
      simp [lineAt] at h0
      refine ⟨⟨h0.1, h0.2⟩, fun q hq => ?_⟩
      obtain ⟨j, hj, rfl⟩ := List.mem_iff_getElem.1 hq
      have := h (j + 1) (by simp; omega)
      simp [lineAt] at this
      exact ⟨this.1, this.2⟩
theorem linesB_no {ls : List Bs} (hne : ls ≠ []) {j : Nat} (h : j < ls.length) (g : lineAt j ls[j] = false) : linesB ls = false := by
  cases e : linesB ls
  · rfl
  · have := (linesB_at ls hne).1 e j h
    rw [g] at this; cases this
theorem lastB (x : ByteArray) (h2 : x.size - 1 < x.size) : x.data.toList.getLast? = some x[x.size - 1] := by
  have e := sizeOf x
  rw [List.getLast?_eq_getElem?, ← e, List.getElem?_eq_getElem (by rw [← e]; omega)]
  rfl
theorem headB0 (x : ByteArray) (h : 0 < x.size) : x.data.toList.head? = some x[0] := by
  have := dropC x 0 h
  rw [List.drop_zero] at this
  rw [this]; rfl
theorem field_is (n t : Bs) : fieldB (n, t) = (decide (1 ≤ n.length) && decide (n.length ≤ 60) && decide (t.length ≤ 65536) && headUp n && n.all nmB && t.all txB && linesB (spl 10 t)) := rfl
theorem not32 {x : UInt8} (h : ¬ x = 32) : ((x.toNat : Int) == 32) = false := by rw [beq_eq_false_iff_ne]; intro g; exact h (UInt8.toNat_inj.1 (by show x.toNat = 32; omega))
theorem yes32 {x : UInt8} (h : x = 32) : ((x.toNat : Int) == 32) = true := by rw [h]; rfl
end Go.Proofs.YtomplnncbfdldaaDoor
