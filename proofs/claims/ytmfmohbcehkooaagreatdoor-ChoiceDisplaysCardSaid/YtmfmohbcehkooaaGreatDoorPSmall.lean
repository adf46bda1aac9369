/-
  The small functions of path (alnum, printable, ended, Join, Under and the tests of parts) and the reference's Join and Under, each by what it returns for every argument; the world stays as it was.
-/
import Derived.Test.YtmfmohbcehkooaaGreatDoorShelf
import Derived.Test.YtmfmohbcehkooaaGreatDoorPMath
import Derived.WalkKit
import Derived.Lib.Hide
import Derived.WalkSmall
import Derived.Lib.OwnBridge
namespace Go.Proofs.YtmfmohbcehkooaaGreatDoor
open Go.RowKit Go.Sort
theorem str_of {x : ByteArray} {l : Bs} (h : x.data.toList = l) : x = ⟨l.toArray⟩ := by subst h; simp
theorem ret_bool {a b : Bool} (h : a = b) : Ending.returned (.bool a) = Ending.returned (.bool b) := congrArg (fun b => Ending.returned (.bool b)) h
theorem ne_empty (x : ByteArray) : (!x.toList.isEmpty) = decide (x.data.toList ≠ []) := by rw [ByteArray.toList_eq]; cases x.data.toList <;> simp
theorem ne_text (x : ByteArray) (l : Bs) : (!x.toList == l) = decide (x.data.toList ≠ l) := by
  rw [ByteArray.toList_eq]; by_cases h : x.data.toList = l <;> simp [h]
theorem suf_eq (l : Bs) : Lib.hasSuffix l [47] = decide (l.getLast? = some 47) := by
  rcases List.eq_nil_or_concat l with rfl | ⟨a, b, rfl⟩
  · decide
  · rw [Bool.eq_iff_iff]
    unfold Lib.hasSuffix
    rw [List.isSuffixOf_iff_suffix]
    simp only [List.concat_eq_append, List.getLast?_append, List.getLast?_singleton, Option.some_or, Option.some.injEq, decide_eq_true_eq]
    constructor
    · rintro ⟨t, ht⟩
      have := congrArg List.getLast? ht
      simpa using this.symm
    · rintro rfl
      exact ⟨a, rfl⟩
theorem ended_size (d : ByteArray) (E : ByteArray) (h : E.data.toList = ended d.data.toList) : E.size ≤ d.size + 1 := by
  rw [Lib.size_eq, Lib.size_eq, h]; unfold ended; split <;> simp
theorem nonempty_any (x : ByteArray) (w : World) : Calls Tryz.prog 134 #[.string x] w fun e w' => e = .returned (.bool (decide (x.data.toList ≠ []))) ∧ w = w' := by
  go_enter Tryz.func134, Tryz.ntmps134
  go_wp2
  go_ret
  exact ⟨ret_bool (ne_empty x), rfl⟩
theorem nodot_any (x : ByteArray) (w : World) : Calls Tryz.prog 132 #[.string x] w fun e w' => e = .returned (.bool (decide (x.data.toList ≠ [46]))) ∧ w = w' := by
  go_enter Tryz.func132, Tryz.ntmps132
  go_wp2
  go_ret
  exact ⟨ret_bool (ne_text x _), rfl⟩
theorem last_eq (d : ByteArray) (_ : 0 < d.size) (hp : d.size - 1 < d.size) : d.data.toList.getLast? = some d[d.size - 1] := by
  rw [List.getLast?_eq_getElem?]
  have : d.data.toList.length = d.size := Lib.size_eq d ▸ rfl
  rw [this, List.getElem?_eq_getElem (by omega)]
  simp
  rfl
theorem last_none (d : ByteArray) (h : d.size = 0) : d.data.toList.getLast? = none := by
  have : d.data.toList.length = d.size := Lib.size_eq d ▸ rfl
  rw [List.getLast?_eq_none_iff]
  exact List.eq_nil_of_length_eq_zero (by omega)
theorem ended_yes {d : ByteArray} (h0 : 0 < d.size) (hp : d.size - 1 < d.size) (hc : d[d.size - 1] = 47) : ended d.data.toList = d.data.toList := by
  rw [ended, if_pos (by rw [last_eq d h0 hp, hc])]
theorem ended_no {d : ByteArray} (h0 : 0 < d.size) (hp : d.size - 1 < d.size) (hc : ¬ d[d.size - 1] = 47) : ended d.data.toList = d.data.toList ++ [47] := by
  rw [ended, if_neg (by rw [last_eq d h0 hp]; simpa using hc)]
theorem ended_nil {d : ByteArray} (h0 : d.size = 0) : ended d.data.toList = d.data.toList ++ [47] := by
  rw [ended, if_neg (by rw [last_none d h0]; simp)]
theorem is47 {x : UInt8} (h : x = 47) : (x.toNat : Int) = 47 := by rw [h]; rfl
theorem not47 {x : UInt8} (h : ¬ x = 47) : ¬ (x.toNat : Int) = 47 := fun e => h (UInt8.toNat_inj.1 (by show x.toNat = 47; omega))
theorem pre_eq (s E : ByteArray) : ((s.extract 0 E.size).toList == E.toList) = E.data.toList.isPrefixOf s.data.toList := by
  have e1 : (s.extract 0 E.size).data.toList = s.data.toList.take E.data.toList.length := by rw [Lib.extract_from_zero, Lib.size_eq E]
  rw [ByteArray.toList_eq, ByteArray.toList_eq, e1, Bool.eq_iff_iff, List.isPrefixOf_iff_prefix, beq_iff_eq, List.prefix_iff_eq_take]
  exact eq_comm
theorem under_yes {d s E : ByteArray} (hE : E.data.toList = ended d.data.toList) (h : E.size < s.size) : ((s.extract 0 E.size).toList == E.toList) = under d.data.toList s.data.toList := by
  rw [pre_eq s E, under, ← hE, decide_eq_true (by rw [← Lib.size_eq, ← Lib.size_eq]; exact h), Bool.and_true]
theorem under_no {d s E : ByteArray} (hE : E.data.toList = ended d.data.toList) (h : ¬ E.size < s.size) : false = under d.data.toList s.data.toList := by
  rw [under, ← hE, decide_eq_false (by rw [← Lib.size_eq, ← Lib.size_eq]; exact h), Bool.and_false]
end Go.Proofs.YtmfmohbcehkooaaGreatDoor
