/-
  Lists of texts in memory, for every seat: what a slice of texts holds, what one of the call's own owns; how it is carried.
-/
import Derived.Test.YtkcamfcjkjiijaaGreatDoorProg
import Derived.Test.YtkcamfcjkjiijaaGreatDoorGVMath
import Derived.WalkKit
import Derived.Lib.Hide
import Derived.Below
import Derived.OwnWalk
import Derived.Lib.SmallJoins
import Derived.WalkLawsBesides
import Derived.WalkSpells
import Derived.Deep.QuietTactic
import Derived.BigQuiet
namespace Go.Proofs.YtkcamfcjkjiijaaGreatDoor
open Go.RowKit
theorem retb {a b : Bool} (h : a = b) : Ending.returned (.bool a) = Ending.returned (.bool b) := congrArg (fun b => Ending.returned (.bool b)) h
theorem reti {k : IntKind} {a b : Int} (h : a = b) : Ending.returned (.int k a) = Ending.returned (.int k b) := congrArg (fun b => Ending.returned (.int k b)) h
theorem strOf {x : ByteArray} {l : Bs} (h : x.data.toList = l) : x = ⟨l.toArray⟩ := by subst h; simp
theorem bytesOf (l : Bs) : (ByteArray.mk l.toArray).data.toList = l := by simp
theorem sizeOf (s : ByteArray) : s.size = s.data.toList.length := Lib.size_eq s
theorem takeSn (s : ByteArray) (k : Nat) (h : k < s.size) : s.data.toList.take (k + 1) = s.data.toList.take k ++ [s[k]] := by
  have hl : k < s.data.toList.length := by rw [← Lib.size_eq]; exact h
  rw [List.take_add_one, List.getElem?_eq_getElem hl]
  simp; rfl
theorem takeAll (s : ByteArray) : s.data.toList.take s.size = s.data.toList := by rw [sizeOf]; exact List.take_length
theorem takeLen (s : ByteArray) (k : Nat) (h : k ≤ s.size) : (s.data.toList.take k).length = k := by rw [List.length_take, ← sizeOf]; omega
theorem dropC (s : ByteArray) (k : Nat) (h : k < s.size) : s.data.toList.drop k = s[k] :: s.data.toList.drop (k + 1) := by
  have hl : k < s.data.toList.length := by rw [← Lib.size_eq]; exact h
  rw [List.drop_eq_getElem_cons hl]; rfl
theorem dropAll (s : ByteArray) : s.data.toList.drop s.size = [] := by rw [sizeOf]; exact List.drop_length
theorem allNx {s : ByteArray} {f : UInt8 → Bool} {k : Nat} (h : k < s.size) (ha : (s.data.toList.take k).all f = true) (hf : f s[k] = true) : (s.data.toList.take (k + 1)).all f = true := by
  rw [takeSn s k h, List.all_append, ha]; simp [hf]
theorem allSt {s : ByteArray} {f : UInt8 → Bool} {k : Nat} (h : k < s.size) (hf : f s[k] = false) : s.data.toList.all f = false := by
  rw [List.all_eq_false]
  exact ⟨s[k], by have := takeSn s k h; exact List.mem_of_mem_take (by rw [this]; simp), by simp [hf]⟩
theorem allDn {s : ByteArray} {f : UInt8 → Bool} (ha : (s.data.toList.take s.size).all f = true) : s.data.toList.all f = true := by rwa [takeAll] at ha
theorem extL (s : ByteArray) (a b : Nat) : (s.extract a b).data.toList = (s.data.toList.drop a).take (b - a) := by
  rw [Lib.extract_data]
theorem eqT (x y : ByteArray) : (x.toList == y.toList) = decide (x.data.toList = y.data.toList) := by
  rw [ByteArray.toList_eq, ByteArray.toList_eq]
  by_cases h : x.data.toList = y.data.toList
  · simp [h]
  · rw [decide_eq_false h]; simpa using h
theorem eqTL (x : ByteArray) (l : Bs) : (x.toList == l) = decide (x.data.toList = l) := by
  rw [ByteArray.toList_eq]
  by_cases h : x.data.toList = l
  · simp [h]
  · rw [decide_eq_false h]; simpa using h
theorem lessL : ∀ (x y : Bs), Op.bytesLess x y = decide (x < y)
  | x, [] => by simp [Op.bytesLess]
  | [], b :: y => by simp [Op.bytesLess]
  | a :: x, b :: y => by
    rw [Op.bytesLess, lessL x y, Bool.eq_iff_iff]
    simp [List.cons_lt_cons_iff]
theorem lessT (x y : ByteArray) : Op.bytesLess x.toList y.toList = decide (x.data.toList < y.data.toList) := by
  rw [ByteArray.toList_eq, ByteArray.toList_eq]; exact lessL _ _
theorem emptyT (x : ByteArray) : x.toList.isEmpty = decide (x.size = 0) := by
  rw [ByteArray.toList_eq, sizeOf]; cases x.data.toList <;> simp
theorem belowQ {B : Nat} {a w : World} (h : Below B a w) (n : Nat) : Below B a (w.drewN n) := ⟨h.os, h.tape, h.output, h.size, h.block⟩
end Go.Proofs.YtkcamfcjkjiijaaGreatDoor
namespace Go.Proofs.YtkcamfcjkjiijaaGreatDoor
open Go.RowKit
theorem infoT : (Tryz.prog.info? 9).map (fun i => (i.zero, i.size, i.bytes)) = some (some (.string ⟨#[]⟩), 1, 16) := by kernel_rfl
/-- The slice value v holds the texts ls, wherever it lies. -/
def HoldT (w : World) (v : Value) (ls : List Bs) : Prop :=
  ∃ (a : Option Addr) (c b o : Nat), v = .slice a ls.length c ∧ ls.length ≤ c ∧ (0 < ls.length → a = some ⟨b, o, none⟩ ∧ b < w.heap.size) ∧ ∀ (j : Nat) l, ls[j]? = some l → w.cell? ⟨b, o + j, none⟩ = some (.string ⟨l.toArray⟩)
theorem HoldT.on {w w' : World} {v : Value} {ls : List Bs} (h : HoldT w v ls) (hb : Below w.heap.size w w') : HoldT w' v ls := by
  obtain ⟨a, c, b, o, rfl, hc, ha, hcell⟩ := h
  refine ⟨a, c, b, o, rfl, hc, fun h0 => ⟨(ha h0).1, Nat.lt_of_lt_of_le (ha h0).2 hb.size⟩, fun j l hj => ?_⟩
  have h0 : 0 < ls.length := by
    have := (List.getElem?_eq_some_iff.1 hj).1; omega
  rw [hb.cell (ha h0).2]
  exact hcell j l hj
abbrev txts (ls : List Bs) : List Value := ls.map fun l => Value.string ⟨l.toArray⟩
/-- The slice value v owns the texts ls (in blocks from base on). -/
def OwnT (w : World) (base : Nat) (v : Value) (ls : List Bs) : Prop := w.ownsRow base 9 1 v ls.length (txts ls)
theorem OwnT.nil (w : World) (base : Nat) : OwnT w base (.slice none 0 0) [] := World.ownsRow_nil _ _ _ _
theorem cellRow (w : World) (g i : Nat) (cur : Array Value) (e : TypeId) (fz : Nat × Nat) (hg : w.heap[g]? = some (.cells cur e fz)) : w.cell? ⟨g, i, none⟩ = cur[i]? := by
  simp [World.cell?, hg]
theorem OwnT.holds {w : World} {base : Nat} {v : Value} {ls : List Bs} (h : OwnT w base v ls) : HoldT w v ls := by
  rcases h.2 with ⟨rfl, h0⟩ | ⟨g, cap, cur, rfl, hb, hg, hn, hm, hs, ht⟩
  · have : ls = [] := List.eq_nil_of_length_eq_zero h0
    subst this
    exact ⟨none, 0, 0, 0, rfl, Nat.le_refl _, fun h => absurd h (by simp), fun j l hj => by simp at hj⟩
  · refine ⟨some ⟨g, 0, none⟩, cap, g, 0, rfl, hn, fun _ => ⟨rfl, (Array.getElem?_eq_some_iff.1 hg).1⟩, fun j l hj => ?_⟩
    have hj' := (List.getElem?_eq_some_iff.1 hj).1
    have e1 : (cur.toList.take (ls.length * 1))[j]? = (txts ls)[j]? := by rw [ht]
    rw [List.getElem?_take, if_pos (by omega), Array.getElem?_toList, List.getElem?_map, hj] at e1
    rw [Nat.zero_add, cellRow w g j cur 9 (0, 0) hg, e1]
    rfl
theorem OwnT.mono {w : World} {base base' : Nat} {v : Value} {ls : List Bs} (h : OwnT w base v ls) (hb : base' ≤ base) : OwnT w base' v ls := by
  refine ⟨h.1, ?_⟩
  rcases h.2 with hn | ⟨g, cap, cur, hv, hb', rest⟩
  · exact .inl hn
  · exact .inr ⟨g, cap, cur, hv, by omega, rest⟩
/-- Cut at its end. -/
theorem OwnT.cut {w : World} {base : Nat} {a : Option Addr} {c n : Nat} {ls : List Bs} (h : OwnT w base (.slice a n c) ls) (hl : 0 < ls.length) : OwnT w base (.slice a (n - 1) c) ls.dropLast := by
  rcases h.2 with ⟨_, h0⟩ | ⟨g, cap, cur, hv, hb, hg, hn, hm, hs, ht⟩
  · omega
  · simp only [Value.slice.injEq] at hv
    obtain ⟨rfl, rfl, rfl⟩ := hv
    refine ⟨by simp [txts], .inr ⟨g, c, cur, by rw [List.length_dropLast], hb, hg, by rw [List.length_dropLast]; omega, hm, hs, ?_⟩⟩
    rw [List.length_dropLast]
    have : cur.toList.take ((ls.length - 1) * 1) = (cur.toList.take (ls.length * 1)).take (ls.length - 1) := by rw [List.take_take]; congr 1; omega
    rw [this, ht, txts, txts, List.dropLast_eq_take, List.map_take]
/-- A slice that the library laid in a new block. -/
theorem OwnT.made (w : World) (xs : List ByteArray) (hn : xs.length ≤ maxLen) : OwnT (w.alloc (.cells (xs.map Value.string).toArray 9)) w.heap.size (.slice (some ⟨w.heap.size, 0, none⟩) xs.length xs.length) (xs.map (·.data.toList)) := by
  refine ⟨by simp [txts], .inr ⟨w.heap.size, xs.length, (xs.map Value.string).toArray, by simp, Nat.le_refl _, heap_alloc_new w _, by simp, hn, by simp, ?_⟩⟩
  rw [List.length_map, Nat.mul_one, List.take_of_length_le (by simp)]
  simp [txts]
theorem OwnT.app {w' : World} {base : Nat} {v' : Value} {ls : List Bs} {x : ByteArray} {l : Bs} (hx : x.data.toList = l) (h : w'.ownsRow base 9 1 v' (ls.length + 1) (txts ls ++ [.string x])) : OwnT w' base v' (ls ++ [l]) := by
  have e : txts (ls ++ [l]) = txts ls ++ [.string x] := by simp [txts, strOf hx]
  unfold OwnT
  rw [e, List.length_append]
  exact h
/-- Of a slice whose block the row turned: everything below base stays. -/
theorem belowG {B : Nat} {w0 w w' : World} {o : Obj} {base : Nat} {v : Value} {ls : List Bs} (h : Below B w0 w) (hown : OwnT w base v ls) (hg : (w.alloc o).grownBy w' v.ownBlock) (hB : B ≤ base) (hBw : B ≤ w.heap.size) : Below B w0 w' :=
  (h.alloc hBw o).grown hg (by simp; omega) (fun k hk => by have := (hown.lt k hk).1; omega)
end Go.Proofs.YtkcamfcjkjiijaaGreatDoor
