/-
  The reference's head of a field's line: what it returns; nothing old turns.
-/
import Derived.Test.YtomplnncbfdldaaDoorSPrint
namespace Go.Proofs.YtomplnncbfdldaaDoor
open Go.RowKit
def fldV (f : Fld) : Value := .agg #[.string ⟨f.1.toArray⟩, .string ⟨f.2.toArray⟩]
def headV : Option Fld → Value
  | some f => .tuple #[fldV f, .bool true]
  | none => .tuple #[fldV ([], []), .bool false]
theorem headF_no {s : ByteArray} (h : ∀ (j : Nat) (hj : j < s.size), ¬ s[j] = 58) : headF s.data.toList = none := by
  have h58 : (58 : UInt8) ∉ s.data.toList := fun hm => by
    obtain ⟨j, hj, e⟩ := List.mem_iff_getElem.1 hm
    exact h j (by rw [sizeOf]; exact hj) e
  unfold headF
  rw [colonAt_no _ h58, if_neg (by omega)]
theorem headF_at {s : ByteArray} {k : Nat} (hk : k < s.size) (h : ∀ (j : Nat) (hj : j < s.size), j < k → ¬ s[j] = 58) (e : s[k] = 58) : headF s.data.toList = some (s.data.toList.take k, if (s.data.toList.drop (k + 1)).head? = some 32 then (s.data.toList.drop (k + 1)).tail else s.data.toList.drop (k + 1)) := by
  have h58 : (58 : UInt8) ∉ s.data.toList.take k := fun hm => by
    obtain ⟨j, hj, e⟩ := List.mem_iff_getElem.1 hm
    rw [List.length_take] at hj
    have hs := sizeOf s
    rw [List.getElem_take] at e
    exact h j (by omega) (by omega) e
  have hd : s.data.toList = s.data.toList.take k ++ 58 :: s.data.toList.drop (k + 1) := by
    have h1 := dropC s k hk
    rw [e] at h1
    rw [← h1, List.take_append_drop]
  have hl : (s.data.toList.take k).length = k := by rw [List.length_take]; have := sizeOf s; omega
  have hc : colonAt s.data.toList = k := by
    have h1 := colonAt_at _ (s.data.toList.drop (k + 1)) h58
    rw [← hd, hl] at h1
    exact h1
  unfold headF
  rw [hc, if_pos (by rw [← sizeOf]; exact hk)]
theorem ext_end (s : ByteArray) (k : Nat) : (s.extract k s.size).data.toList = s.data.toList.drop k := by
  rw [extL, List.take_of_length_le (by rw [List.length_drop, ← sizeOf]; omega)]
def HeadPost (s : Bs) (w : World) (e : Ending) (w' : World) : Prop := e = .returned (headV (headF s)) ∧ Below w.heap.size w w'
end Go.Proofs.YtomplnncbfdldaaDoor
