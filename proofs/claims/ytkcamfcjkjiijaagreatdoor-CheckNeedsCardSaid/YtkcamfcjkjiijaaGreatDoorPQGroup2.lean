/-
  What the program and the document's answer read of a text of groups: the same; nothing of the program.
-/
import Derived.Test.YtkcamfcjkjiijaaGreatDoorProg
import Derived.Test.YtkcamfcjkjiijaaGreatDoorPVMath
import Derived.WalkKit
import Derived.Lib.Hide
import Derived.Below
import Derived.OwnWalk
import Derived.Lib.SmallJoins
import Derived.WalkLawsBesides
import Derived.WalkSpells
import Derived.Deep.QuietTactic
import Derived.BigQuiet
import Derived.Test.YtkcamfcjkjiijaaGreatDoorPPSortMath
import Derived.Deep.RegionHeld3
import Derived.Lib.Split
import Derived.Lib.Join
namespace Go.Proofs.YtkcamfcjkjiijaaGreatDoor
open Go.RowKit
theorem retb {a b : Bool} (h : a = b) : Ending.returned (.bool a) = Ending.returned (.bool b) := congrArg (fun b => Ending.returned (.bool b)) h
theorem reti {k : IntKind} {a b : Int} (h : a = b) : Ending.returned (.int k a) = Ending.returned (.int k b) := congrArg (fun b => Ending.returned (.int k b)) h
theorem strOf {x : ByteArray} {l : Bs} (h : x.data.toList = l) : x = ⟨l.toArray⟩ := by subst h; simp
theorem bytesOf (l : Bs) : (ByteArray.mk l.toArray).data.toList = l := by simp
theorem sizeOf (s : ByteArray) : s.size = s.data.toList.length := Lib.size_eq s
theorem takeSn (s : ByteArray) (k : Nat) (h : k < s.size) : s.data.toList.take (k + 1) = s.data.toList.take k ++ [s[k]] := by
  have hl : k < s.data.toList.length := by rw [← Lib.size_eq]; exact h
  rw [List.take_add_one, List.getElem?_eq_getElem hl]
  simp; rfl
theorem takeAll (s : ByteArray) : s.data.toList.take s.size = s.data.toList := by rw [sizeOf]; exact List.take_length
theorem takeLen (s : ByteArray) (k : Nat) (h : k ≤ s.size) : (s.data.toList.take k).length = k := by rw [List.length_take, ← sizeOf]; omega
theorem dropC (s : ByteArray) (k : Nat) (h : k < s.size) : s.data.toList.drop k = s[k] :: s.data.toList.drop (k + 1) := by
  have hl : k < s.data.toList.length := by rw [← Lib.size_eq]; exact h
  rw [List.drop_eq_getElem_cons hl]; rfl
theorem dropAll (s : ByteArray) : s.data.toList.drop s.size = [] := by rw [sizeOf]; exact List.drop_length
theorem allNx {s : ByteArray} {f : UInt8 → Bool} {k : Nat} (h : k < s.size) (ha : (s.data.toList.take k).all f = true) (hf : f s[k] = true) : (s.data.toList.take (k + 1)).all f = true := by
  rw [takeSn s k h, List.all_append, ha]; simp [hf]
theorem allSt {s : ByteArray} {f : UInt8 → Bool} {k : Nat} (h : k < s.size) (hf : f s[k] = false) : s.data.toList.all f = false := by
  rw [List.all_eq_false]
  exact ⟨s[k], by have := takeSn s k h; exact List.mem_of_mem_take (by rw [this]; simp), by simp [hf]⟩
theorem allDn {s : ByteArray} {f : UInt8 → Bool} (ha : (s.data.toList.take s.size).all f = true) : s.data.toList.all f = true := by rwa [takeAll] at ha
theorem extL (s : ByteArray) (a b : Nat) : (s.extract a b).data.toList = (s.data.toList.drop a).take (b - a) := by
  rw [Lib.extract_data]
theorem eqT (x y : ByteArray) : (x.toList == y.toList) = decide (x.data.toList = y.data.toList) := by
  rw [ByteArray.toList_eq, ByteArray.toList_eq]
  by_cases h : x.data.toList = y.data.toList
  · simp [h]
  · rw [decide_eq_false h]; simpa using h
theorem eqTL (x : ByteArray) (l : Bs) : (x.toList == l) = decide (x.data.toList = l) := by
  rw [ByteArray.toList_eq]
  by_cases h : x.data.toList = l
  · simp [h]
  · rw [decide_eq_false h]; simpa using h
theorem lessL : ∀ (x y : Bs), Op.bytesLess x y = decide (x < y)
  | x, [] => by simp [Op.bytesLess]
  | [], b :: y => by simp [Op.bytesLess]
  | a :: x, b :: y => by
    rw [Op.bytesLess, lessL x y, Bool.eq_iff_iff]
    simp [List.cons_lt_cons_iff]
theorem lessT (x y : ByteArray) : Op.bytesLess x.toList y.toList = decide (x.data.toList < y.data.toList) := by
  rw [ByteArray.toList_eq, ByteArray.toList_eq]; exact lessL _ _
theorem emptyT (x : ByteArray) : x.toList.isEmpty = decide (x.size = 0) := by
  rw [ByteArray.toList_eq, sizeOf]; cases x.data.toList <;> simp
theorem belowQ {B : Nat} {a w : World} (h : Below B a w) (n : Nat) : Below B a (w.drewN n) := ⟨h.os, h.tape, h.output, h.size, h.block⟩
end Go.Proofs.YtkcamfcjkjiijaaGreatDoor
namespace Go.Proofs.YtkcamfcjkjiijaaGreatDoor
open Go.RowKit
theorem infoT : (Tryz.prog.info? 9).map (fun i => (i.zero, i.size, i.bytes)) = some (some (.string ⟨#[]⟩), 1, 16) := by kernel_rfl
/-- The slice value v holds the texts ls, wherever it lies. -/
def HoldT (w : World) (v : Value) (ls : List Bs) : Prop :=
  ∃ (a : Option Addr) (c b o : Nat), v = .slice a ls.length c ∧ ls.length ≤ c ∧ (0 < ls.length → a = some ⟨b, o, none⟩ ∧ b < w.heap.size) ∧ ∀ (j : Nat) l, ls[j]? = some l → w.cell? ⟨b, o + j, none⟩ = some (.string ⟨l.toArray⟩)
theorem HoldT.on {w w' : World} {v : Value} {ls : List Bs} (h : HoldT w v ls) (hb : Below w.heap.size w w') : HoldT w' v ls := by
  obtain ⟨a, c, b, o, rfl, hc, ha, hcell⟩ := h
  refine ⟨a, c, b, o, rfl, hc, fun h0 => ⟨(ha h0).1, Nat.lt_of_lt_of_le (ha h0).2 hb.size⟩, fun j l hj => ?_⟩
  have h0 : 0 < ls.length := by
    have := (List.getElem?_eq_some_iff.1 hj).1; omega
  rw [hb.cell (ha h0).2]
  exact hcell j l hj
abbrev txts (ls : List Bs) : List Value := ls.map fun l => Value.string ⟨l.toArray⟩
/-- The slice value v owns the texts ls (in blocks from base on). -/
def OwnT (w : World) (base : Nat) (v : Value) (ls : List Bs) : Prop := w.ownsRow base 9 1 v ls.length (txts ls)
theorem OwnT.nil (w : World) (base : Nat) : OwnT w base (.slice none 0 0) [] := World.ownsRow_nil _ _ _ _
theorem cellRow (w : World) (g i : Nat) (cur : Array Value) (e : TypeId) (fz : Nat × Nat) (hg : w.heap[g]? = some (.cells cur e fz)) : w.cell? ⟨g, i, none⟩ = cur[i]? := by
  simp [World.cell?, hg]
theorem OwnT.holds {w : World} {base : Nat} {v : Value} {ls : List Bs} (h : OwnT w base v ls) : HoldT w v ls := by
  rcases h.2 with ⟨rfl, h0⟩ | ⟨g, cap, cur, rfl, hb, hg, hn, hm, hs, ht⟩
  · have : ls = [] := List.eq_nil_of_length_eq_zero h0
    subst this
    exact ⟨none, 0, 0, 0, rfl, Nat.le_refl _, fun h => absurd h (by simp), fun j l hj => by simp at hj⟩
  · refine ⟨some ⟨g, 0, none⟩, cap, g, 0, rfl, hn, fun _ => ⟨rfl, (Array.getElem?_eq_some_iff.1 hg).1⟩, fun j l hj => ?_⟩
    have hj' := (List.getElem?_eq_some_iff.1 hj).1
    have e1 : (cur.toList.take (ls.length * 1))[j]? = (txts ls)[j]? := by rw [ht]
    rw [List.getElem?_take, if_pos (by omega), Array.getElem?_toList, List.getElem?_map, hj] at e1
    rw [Nat.zero_add, cellRow w g j cur 9 (0, 0) hg, e1]
    rfl
theorem OwnT.mono {w : World} {base base' : Nat} {v : Value} {ls : List Bs} (h : OwnT w base v ls) (hb : base' ≤ base) : OwnT w base' v ls := by
  refine ⟨h.1, ?_⟩
  rcases h.2 with hn | ⟨g, cap, cur, hv, hb', rest⟩
  · exact .inl hn
  · exact .inr ⟨g, cap, cur, hv, by omega, rest⟩
theorem OwnT.app {w' : World} {base : Nat} {v' : Value} {ls : List Bs} {x : ByteArray} {l : Bs} (hx : x.data.toList = l) (h : w'.ownsRow base 9 1 v' (ls.length + 1) (txts ls ++ [.string x])) : OwnT w' base v' (ls ++ [l]) := by
  have e : txts (ls ++ [l]) = txts ls ++ [.string x] := by simp [txts, strOf hx]
  unfold OwnT
  rw [e, List.length_append]
  exact h
/-- Of a slice whose block the row turned: everything below base stays. -/
theorem belowG {B : Nat} {w0 w w' : World} {o : Obj} {base : Nat} {v : Value} {ls : List Bs} (h : Below B w0 w) (hown : OwnT w base v ls) (hg : (w.alloc o).grownBy w' v.ownBlock) (hB : B ≤ base) (hBw : B ≤ w.heap.size) : Below B w0 w' :=
  (h.alloc hBw o).grown hg (by simp; omega) (fun k hk => by have := (hown.lt k hk).1; omega)
end Go.Proofs.YtkcamfcjkjiijaaGreatDoor
namespace Go.Proofs.YtkcamfcjkjiijaaGreatDoor
open Go.RowKit Go.Sort
theorem cls (n : Nat) : (97 ≤ n ∧ n ≤ 122) ∨ (48 ≤ n ∧ n ≤ 57) ∨ (n = 43 ∨ n = 45 ∨ n = 46) ∨ (122 < n ∨ (57 < n ∧ n < 97) ∨ (n < 48 ∧ ¬ n = 43 ∧ ¬ n = 45 ∧ ¬ n = 46)) := by omega
theorem alB_iff (c : UInt8) : alB c = true ↔ (97 ≤ c.toNat ∧ c.toNat ≤ 122) ∨ (48 ≤ c.toNat ∧ c.toNat ≤ 57) := by
  unfold alB; simp only [Bool.or_eq_true, Bool.and_eq_true, decide_eq_true_eq]
theorem markB_iff (c : UInt8) : markB c = true ↔ c.toNat = 43 ∨ c.toNat = 45 ∨ c.toNat = 46 := by
  unfold markB
  simp only [Bool.or_eq_true, beq_iff_eq, nat_of_u8]
  show (c.toNat = 43 ∨ c.toNat = 45) ∨ c.toNat = 46 ↔ _
  omega
theorem inB_iff (c : UInt8) : inB c = true ↔ alB c = true ∨ markB c = true := by unfold inB; rw [Bool.or_eq_true]
theorem inB_no {c : UInt8} (h1 : ¬ alB c = true) (h2 : ¬ markB c = true) : inB c = false := by
  cases h : inB c with
  | false => rfl
  | true => exact absurd ((inB_iff c).1 h) (fun h => h.elim h1 h2)
/-- What is known of the first k bytes. -/
def NameTo (l : Bs) (k : Nat) : Prop := (l.take k).all inB = true ∧ (0 < k → headB l = true)
theorem nameTo_next {s : ByteArray} {k : Nat} (h : k < s.size) (H : NameTo s.data.toList k) (hi : inB s[k] = true) (h0 : k = 0 → alB s[k] = true) : NameTo s.data.toList (k + 1) := by
  refine ⟨all_next h H.1 hi, fun _ => ?_⟩
  by_cases hk : k = 0
  · subst hk
    have hl := Lib.size_eq s
    have := List.drop_eq_getElem_cons (l := s.data.toList) (i := 0) (by omega)
    rw [List.drop_zero] at this
    rw [this]
    exact h0 rfl
  · exact H.2 (by omega)
theorem name_bad {s : ByteArray} {k : Nat} (h : k < s.size) (hi : inB s[k] = false) : nameB s.data.toList = false := by
  unfold nameB; rw [all_stop h hi, Bool.and_false]
theorem name_bad0 {s : ByteArray} (h : 0 < s.size) (hi : ¬ alB s[0] = true) : nameB s.data.toList = false := by
  have hl := Lib.size_eq s
  have := List.drop_eq_getElem_cons (l := s.data.toList) (i := 0) (by omega)
  rw [List.drop_zero] at this
  have e : headB s.data.toList = false := by
    rw [this]
    cases h : headB (s.data.toList[0] :: List.drop (0 + 1) s.data.toList) with
    | false => rfl
    | true => exact absurd h hi
  unfold nameB; rw [e, Bool.and_false, Bool.false_and]
theorem name_end {s : ByteArray} (H : NameTo s.data.toList s.size) : nameB s.data.toList = (decide (1 ≤ s.size) && decide (s.size ≤ 60)) := by
  have hl := Lib.size_eq s
  unfold nameB
  rw [all_done H.1, ← hl]
  by_cases h : 1 ≤ s.size
  · rw [H.2 h]; simp
  · rw [decide_eq_false h]; simp
end Go.Proofs.YtkcamfcjkjiijaaGreatDoor
namespace Go.Proofs.YtkcamfcjkjiijaaGreatDoor
open Go.Lib

-- Cut at a byte
def spl (c : UInt8) : Bs → List Bs
  | [] => [[]]
  | x :: s => if x = c then [] :: spl c s else match spl c s with
    | [] => [[x]]
    | p :: ps => (x :: p) :: ps
/-- What goes ahead of the first piece. -/
def glue (u : Bs) : List Bs → List Bs
  | [] => [u]
  | p :: ps => (u ++ p) :: ps
theorem spl_ne (c : UInt8) (s : Bs) : spl c s ≠ [] := by
  cases s with
  | nil => simp [spl]
  | cons x s =>
    unfold spl; split
    · simp
    · split <;> simp
theorem spl_cons (c x : UInt8) (s : Bs) : spl c (x :: s) = if x = c then [] :: spl c s else glue [x] (spl c s) := by
  rw [spl]; split
  · rfl
  · cases spl c s <;> rfl
theorem glue_glue (u v : Bs) (l : List Bs) : glue u (glue v l) = glue (u ++ v) l := by cases l <;> simp [glue]
theorem glue_nil {l : List Bs} (h : l ≠ []) : glue [] l = l := by cases l <;> simp_all [glue]
theorem spl_run (c : UInt8) (u s : Bs) (h : c ∉ u) : spl c (u ++ s) = glue u (spl c s) := by
  induction u with
  | nil => rw [List.nil_append, glue_nil (spl_ne _ _)]
  | cons x u ih =>
    simp only [List.mem_cons, not_or] at h
    rw [List.cons_append, spl_cons, if_neg (fun e => h.1 e.symm), ih h.2, glue_glue]; rfl
theorem spl_at (c : UInt8) (u s : Bs) (h : c ∉ u) : spl c (u ++ c :: s) = u :: spl c s := by
  rw [spl_run c u _ h, spl_cons, if_pos rfl]; simp [glue]
theorem spl_len (c : UInt8) (s : Bs) : (spl c s).length ≤ s.length + 1 := by
  induction s with
  | nil => simp [spl]
  | cons x s ih =>
    rw [spl_cons]; split
    · simp; omega
    · have e : (glue [x] (spl c s)).length = (spl c s).length := by
        have := spl_ne c s
        cases h : spl c s with
        | nil => exact absurd h this
        | cons _ _ => simp [glue]
      rw [e]; simp; omega
-- Lines
-- Fields
abbrev Fld := Bs × Bs
def upB (c : UInt8) : Bool := decide (65 ≤ c.toNat) && decide (c.toNat ≤ 90)
def nmB (c : UInt8) : Bool := ltB c || dgB c || decide (c.toNat = 45)
def txB (c : UInt8) : Bool := decide (c.toNat = 10) || decide (32 ≤ c.toNat) && decide (c.toNat ≤ 126)
def headUp : Bs → Bool
  | [] => false
  | c :: _ => upB c
/-- A line that may be, but for the first one's head. -/
def endB (p : Bs) : Bool := !decide (p.getLast? = some 32)
def linesB : List Bs → Bool
  | [] => true
  | p :: ps => !decide (p.head? = some 32) && endB p && ps.all fun q => endB q && decide (q ≠ [])
-- Printed
-- Parsed
-- What is printed is parsed as it was
structure FldOk (f : Fld) : Prop where
  ne : f.1 ≠ []
  up : headUp f.1 = true
  nm : f.1.all nmB = true
  tx : f.2.all txB = true
  ls : linesB (spl 10 f.2) = true
end Go.Proofs.YtkcamfcjkjiijaaGreatDoor
namespace Go.Proofs.YtkcamfcjkjiijaaGreatDoor
open Go.RowKit
def SplTo (c : UInt8) (s : Bs) (k : Nat) (out : List Bs) (u : Bs) : Prop := spl c s = out ++ glue u (spl c (s.drop k))
theorem SplTo.start (c : UInt8) (s : Bs) : SplTo c s 0 [] [] := by unfold SplTo; rw [List.drop_zero, glue_nil (spl_ne _ _)]; rfl
theorem SplTo.done {c : UInt8} {s : ByteArray} {out : List Bs} {u : Bs} (h : SplTo c s.data.toList s.size out u) : spl c s.data.toList = out ++ [u] := by
  unfold SplTo at h
  rw [h, dropAll]; simp [spl, glue]
end Go.Proofs.YtkcamfcjkjiijaaGreatDoor
namespace Go.Proofs.YtkcamfcjkjiijaaGreatDoor
open Go.RowKit
end Go.Proofs.YtkcamfcjkjiijaaGreatDoor
namespace Go.Proofs.YtkcamfcjkjiijaaGreatDoor
open Go.RowKit
abbrev Rl := Bs × Bs × Bs
def opB (o : Bs) : Bool := decide (o = [60, 60]) || decide (o = [60, 61]) || decide (o = [61]) || decide (o = [62, 61]) || decide (o = [62, 62])
def rightR (x : Rl) : Bool := nameB x.1 && if x.2.1 = [] then decide (x.2.2 = []) else opB x.2.1 && decide ((parseE x.2.2).2 = 0)
def textR (x : Rl) : Bs := if x.2.1 = [] then x.1 else x.1 ++ 32 :: 40 :: (x.2.1 ++ 32 :: (x.2.2 ++ [41]))
end Go.Proofs.YtkcamfcjkjiijaaGreatDoor
namespace Go.Proofs.YtkcamfcjkjiijaaGreatDoor
open Go.RowKit Go.Lib
end Go.Proofs.YtkcamfcjkjiijaaGreatDoor
namespace Go.Proofs.YtkcamfcjkjiijaaGreatDoor
open Go.RowKit Go.Lib
end Go.Proofs.YtkcamfcjkjiijaaGreatDoor
namespace Go.Proofs.YtkcamfcjkjiijaaGreatDoor
open Go.RowKit Go.Lib
abbrev sepG : Bs := [32, 124, 32]
abbrev sepA : Bs := [44, 32]
def textG (g : List Rl) : Bs := Lib.join (g.map textR) sepG
def textA (l : List (List Rl)) : Bs := Lib.join (l.map textG) sepA
-- The document's reading.
theorem join_two (p q : Bs) (ps : List Bs) (sep : Bs) : Lib.join (p :: q :: ps) sep = p ++ (sep ++ Lib.join (q :: ps) sep) := by
  rw [join_cons, join_cons]; simp [joinTail]
end Go.Proofs.YtkcamfcjkjiijaaGreatDoor
