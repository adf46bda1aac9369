/-
  Small words that every seat's walks over texts want: results, the next byte, cut texts, what the world keeps.
-/
import Derived.Test.YtmfmohbcehkooaaGreatDoorProg
import Derived.Test.YtmfmohbcehkooaaGreatDoorVMath
import Derived.WalkKit
import Derived.Lib.Hide
import Derived.Below
import Derived.OwnWalk
import Derived.Lib.SmallJoins
import Derived.WalkLawsBesides
import Derived.WalkSpells
import Derived.Deep.QuietTactic
import Derived.BigQuiet
namespace Go.Proofs.YtmfmohbcehkooaaGreatDoor
open Go.RowKit
theorem retb {a b : Bool} (h : a = b) : Ending.returned (.bool a) = Ending.returned (.bool b) := congrArg (fun b => Ending.returned (.bool b)) h
theorem reti {k : IntKind} {a b : Int} (h : a = b) : Ending.returned (.int k a) = Ending.returned (.int k b) := congrArg (fun b => Ending.returned (.int k b)) h
theorem retv {a b : Value} (h : a = b) : Ending.returned a = Ending.returned b := congrArg Ending.returned h
theorem strOf {x : ByteArray} {l : Bs} (h : x.data.toList = l) : x = ⟨l.toArray⟩ := by subst h; simp
theorem bytesOf (l : Bs) : (ByteArray.mk l.toArray).data.toList = l := by simp
theorem sizeOf (s : ByteArray) : s.size = s.data.toList.length := Lib.size_eq s
theorem takeSn (s : ByteArray) (k : Nat) (h : k < s.size) : s.data.toList.take (k + 1) = s.data.toList.take k ++ [s[k]] := by
  have hl : k < s.data.toList.length := by rw [← Lib.size_eq]; exact h
  rw [List.take_add_one, List.getElem?_eq_getElem hl]
  simp; rfl
theorem takeAll (s : ByteArray) : s.data.toList.take s.size = s.data.toList := by rw [sizeOf]; exact List.take_length
theorem takeLen (s : ByteArray) (k : Nat) (h : k ≤ s.size) : (s.data.toList.take k).length = k := by rw [List.length_take, ← sizeOf]; omega
theorem dropC (s : ByteArray) (k : Nat) (h : k < s.size) : s.data.toList.drop k = s[k] :: s.data.toList.drop (k + 1) := by
  have hl : k < s.data.toList.length := by rw [← Lib.size_eq]; exact h
  rw [List.drop_eq_getElem_cons hl]; rfl
theorem dropAll (s : ByteArray) : s.data.toList.drop s.size = [] := by rw [sizeOf]; exact List.drop_length
theorem allNx {s : ByteArray} {f : UInt8 → Bool} {k : Nat} (h : k < s.size) (ha : (s.data.toList.take k).all f = true) (hf : f s[k] = true) : (s.data.toList.take (k + 1)).all f = true := by
  rw [takeSn s k h, List.all_append, ha]; simp [hf]
theorem allSt {s : ByteArray} {f : UInt8 → Bool} {k : Nat} (h : k < s.size) (hf : f s[k] = false) : s.data.toList.all f = false := by
  rw [List.all_eq_false]
  exact ⟨s[k], by have := takeSn s k h; exact List.mem_of_mem_take (by rw [this]; simp), by simp [hf]⟩
theorem allDn {s : ByteArray} {f : UInt8 → Bool} (ha : (s.data.toList.take s.size).all f = true) : s.data.toList.all f = true := by rwa [takeAll] at ha
theorem extL (s : ByteArray) (a b : Nat) : (s.extract a b).data.toList = (s.data.toList.drop a).take (b - a) := by
  rw [Lib.extract_data]
theorem eqT (x y : ByteArray) : (x.toList == y.toList) = decide (x.data.toList = y.data.toList) := by
  rw [ByteArray.toList_eq, ByteArray.toList_eq]
  by_cases h : x.data.toList = y.data.toList
  · simp [h]
  · rw [decide_eq_false h]; simpa using h
theorem eqTL (x : ByteArray) (l : Bs) : (x.toList == l) = decide (x.data.toList = l) := by
  rw [ByteArray.toList_eq]
  by_cases h : x.data.toList = l
  · simp [h]
  · rw [decide_eq_false h]; simpa using h
theorem lessL : ∀ (x y : Bs), Op.bytesLess x y = decide (x < y)
  | x, [] => by simp [Op.bytesLess]
  | [], b :: y => by simp [Op.bytesLess]
  | a :: x, b :: y => by
    rw [Op.bytesLess, lessL x y, Bool.eq_iff_iff]
    simp [List.cons_lt_cons_iff]
theorem lessT (x y : ByteArray) : Op.bytesLess x.toList y.toList = decide (x.data.toList < y.data.toList) := by
  rw [ByteArray.toList_eq, ByteArray.toList_eq]; exact lessL _ _
theorem emptyT (x : ByteArray) : x.toList.isEmpty = decide (x.size = 0) := by
  rw [ByteArray.toList_eq, sizeOf]; cases x.data.toList <;> simp
theorem belowQ {B : Nat} {a w : World} (h : Below B a w) (n : Nat) : Below B a (w.drewN n) := ⟨h.os, h.tape, h.output, h.size, h.block⟩
end Go.Proofs.YtmfmohbcehkooaaGreatDoor
