import Derived.Test.YtnnagboeimeiiaaGreatDoorWBRefR
import Derived.Lib.Split
import Derived.Lib.Join
namespace Go.Proofs.YtnnagboeimeiiaaGreatDoor
open Go.RowKit Go.Lib
def Apart (sep p : Bs) : Prop := ∀ r : Bs, index (p ++ (sep ++ r)) sep = p.length
def Lone (sep p : Bs) : Prop := index p sep = -1
theorem occ_head {s : Bs} {a : UInt8} {t : Bs} {j : Nat} (h : s[j]? ≠ some a) : occAt s (a :: t) j = false := by
 cases ho : occAt s (a :: t) j
 · rfl
 · exact absurd (occAt_head rfl ho) h
theorem occ_self (p sep r : Bs) : occAt (p ++ (sep ++ r)) sep p.length = true := by
 unfold occAt
 rw [List.drop_left, List.isPrefixOf_iff_prefix]
 exact List.prefix_append _ _
theorem get_lt {p q : Bs} {j : Nat} {c : UInt8} (h : j < p.length) (hc : c ∉ p) : (p ++ q)[j]? ≠ some c := by
 rw [List.getElem?_append_left h]
 intro e
 exact hc (List.mem_of_getElem? e)
theorem apart_first {a : UInt8} {t p : Bs} (h : a ∉ p) : Apart (a :: t) p := fun r => by
 refine index_first (by simp) (occ_self p (a :: t) r) (fun j hj => occ_head (get_lt hj h))
theorem lone_first {a : UInt8} {t p : Bs} (h : a ∉ p) : Lone (a :: t) p := index_none (fun _ _ => occ_head (fun e => h (List.mem_of_getElem? e)))
theorem splitK_len (sep : Bs) : ∀ (k : Nat) (s : Bs), (splitK sep 0 k s).length ≤ k + 1
 | 0, s => by simp [splitK]
 | k + 1, s => by
   rw [splitK]
   split
   · simp
   · have := splitK_len sep k (s.drop ((index s sep).toNat + sep.length))
     simp only [List.length_cons]; omega
def cutP {α : Type} (parse : Bs → Option α) (sep s : Bs) : Option (List α) := if 64 < (splitN s sep 65).length then none else (splitN s sep 65).mapM parse
end Go.Proofs.YtnnagboeimeiiaaGreatDoor
namespace Go.Proofs.YtnnagboeimeiiaaGreatDoor
open Go.RowKit Go.Lib
end Go.Proofs.YtnnagboeimeiiaaGreatDoor
namespace Go.Proofs.YtnnagboeimeiiaaGreatDoor
open Go.RowKit Go.Lib
abbrev sepG : Bs := [32, 124, 32]
abbrev sepA : Bs := [44, 32]
def textG (g : List Rl) : Bs := Lib.join (g.map textR) sepG
def textA (l : List (List Rl)) : Bs := Lib.join (l.map textG) sepA
def textQ (l : List Rl) : Bs := Lib.join (l.map textR) sepA
def parseG (s : Bs) : Option (List Rl) := cutP parseR sepG s
def parseA (s : Bs) : Option (List (List Rl)) := if s = [] then some [] else cutP parseG sepA s
def parseQ (s : Bs) : Option (List Rl) := if s = [] then some [] else cutP parseR sepA s
-- The document's reading.
theorem join_two (p q : Bs) (ps : List Bs) (sep : Bs) : Lib.join (p :: q :: ps) sep = p ++ (sep ++ Lib.join (q :: ps) sep) := by
 rw [join_cons, join_cons]; simp [joinTail]
end Go.Proofs.YtnnagboeimeiiaaGreatDoor
