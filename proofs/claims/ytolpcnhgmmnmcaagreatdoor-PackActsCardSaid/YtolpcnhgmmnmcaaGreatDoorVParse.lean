/-
  The reference's Parse: what it returns; nothing old turns.
-/
import Derived.Test.YtolpcnhgmmnmcaaGreatDoorVOrder
import Derived.RegionTactic
import Derived.ChangeAlike
import Derived.Deep.DeepCutAuto
import Derived.Deep.CutRange
namespace Go.Proofs.YtolpcnhgmmnmcaaGreatDoor
open Go.RowKit
def verV (v : Ver) : Value := .agg #[.int .i64 v.1, .string ⟨v.2.1.toArray⟩, .string ⟨v.2.2.toArray⟩]
def parseV (l : Bs) : Value := .tuple #[verV (parseE l).1, .int .i64 (parseE l).2]
theorem colonAt_first (l : Bs) : (58 ∈ l → firstI 58 l = colonAt l ∧ colonAt l < l.length) ∧ (58 ∉ l → firstI 58 l = -1 ∧ colonAt l = l.length) := by
  constructor
  · intro h
    have h1 : firstI 58 l = colonAt l := by unfold firstI colonAt; rw [if_pos h]
    have h2 := firstI_ge (c := 58) (l := l)
    refine ⟨h1, ?_⟩
    rcases h2 with h2 | h2
    · omega
    · rw [h2.1] at h; cases h
  · intro h
    exact ⟨firstI_no h, colonAt_no l h⟩
theorem hyAt_last (l : Bs) : (hyAt l : Int) = lastI 45 l + 1 := by
  have := takeWhile_le (fun x => decide (x ≠ 45)) l.reverse
  rw [List.length_reverse] at this
  unfold hyAt lastI; omega
def ParsePost (l : Bs) (w : World) (e : Ending) (w' : World) : Prop := e = .returned (parseV l) ∧ Below w.heap.size w w'
theorem parseV_long {l : Bs} (h : 80 < l.length) : parseV l = .tuple #[.agg #[.int .i64 0, .string ⟨#[]⟩, .string ⟨#[]⟩], .int .i64 8] := by unfold parseV parseE; rw [if_pos h]; rfl
theorem parseV_none {l : Bs} (h : ¬ 80 < l.length) (g : verOf l = none) : parseV l = .tuple #[.agg #[.int .i64 0, .string ⟨#[]⟩, .string ⟨#[]⟩], .int .i64 2] := by unfold parseV parseE; rw [if_neg h, g]; rfl
theorem parseV_some {l : Bs} {v : Ver} (h : ¬ 80 < l.length) (g : verOf l = some v) : parseV l = .tuple #[verV v, .int .i64 0] := by unfold parseV parseE; rw [if_neg h, g]
/-- How the text goes on behind the epoch: each check in its order. -/
inductive Rest (e : Int) (m l : Bs) : Option Ver → Prop
  | empty (h : (cutHy l).1 = []) : Rest e m l none
  | head (c : UInt8) (t : Bs) (h : (cutHy l).1 = c :: t) (g : dgB c = false) : Rest e m l none
  | up (c : UInt8) (t : Bs) (h : (cutHy l).1 = c :: t) (g : dgB c = true) (u : onlyB m (cutHy l).1 = false) : Rest e m l none
  | rev0 (c : UInt8) (t : Bs) (h : (cutHy l).1 = c :: t) (g : dgB c = true) (u : onlyB m (cutHy l).1 = true) (r : (cutHy l).2 = []) : Rest e m l none
  | rev (c : UInt8) (t : Bs) (h : (cutHy l).1 = c :: t) (g : dgB c = true) (u : onlyB m (cutHy l).1 = true) (r : (cutHy l).2 ≠ []) (o : onlyB [46, 43, 126] (cutHy l).2 = false) : Rest e m l none
  | ok (c : UInt8) (t : Bs) (h : (cutHy l).1 = c :: t) (g : dgB c = true) (u : onlyB m (cutHy l).1 = true) (r : (cutHy l).2 ≠ []) (o : onlyB [46, 43, 126] (cutHy l).2 = true) : Rest e m l (some (e, cutHy l))
theorem rest_is (e : Int) (m l : Bs) : Rest e m l (restV e m l) := by
  unfold restV
  cases h : (cutHy l).1 with
  | nil => rw [if_neg (fun x => by simp [headDg] at x)]; exact .empty h
  | cons c t =>
    cases g : dgB c
    · rw [if_neg (fun x => by simp [headDg, g] at x)]; exact .head c t h g
    · cases u : onlyB m (c :: t)
      · rw [if_neg (fun x => by simp at x)]; exact .up c t h g (by rw [h]; exact u)
      · by_cases r : (cutHy l).2 = []
        · rw [if_neg (fun x => x.2.2.1 r)]; exact .rev0 c t h g (by rw [h]; exact u) r
        · cases o : onlyB [46, 43, 126] (cutHy l).2
          · rw [if_neg (fun x => by simp at x)]; exact .rev c t h g (by rw [h]; exact u) r o
          · rw [if_pos ⟨g, rfl, r, rfl⟩]; exact .ok c t h g (by rw [h]; exact u) r o

theorem setQ (w : World) (n : Nat) (a : Addr) (v : Value) : (w.drewN n).setCell a v = (w.setCell a v).drewN n := by
  induction n with
  | zero => rfl
  | succ n ih => first | rfl | (rw [World.drewN, World.setCell_drew, ih]; rfl)
theorem setZ (w : World) (z v : Int) (q : Nat) : ((((w.alloc (.cells #[.int .i64 0, .string ⟨#[]⟩, .string ⟨#[]⟩] 65)).alloc (.cells #[.int .i64 z, .string ⟨#[]⟩, .string ⟨#[48]⟩] 65)).alloc (.cells #[.int .i64 0, .string ⟨#[]⟩, .string ⟨#[]⟩] 65)).drewN q).setCell ⟨w.heap.size + 1, 0, none⟩ (.int .i64 v) = (((w.alloc (.cells #[.int .i64 0, .string ⟨#[]⟩, .string ⟨#[]⟩] 65)).alloc (.cells #[.int .i64 v, .string ⟨#[]⟩, .string ⟨#[48]⟩] 65)).alloc (.cells #[.int .i64 0, .string ⟨#[]⟩, .string ⟨#[]⟩] 65)).drewN q := by
  rw [setQ, World.setCell_alloc_past _ _ _ _ (by simp), World.setCell_alloc_at _ _ _ _ _ (by simp)]
  simp
/-- What becomes of a text, by where its first colon is. -/
theorem verOf_ways (l : Bs) : (firstI 58 l = -1 ∧ verOf l = restV 0 [46, 43, 45, 126] l) ∨ ∃ k : Nat, firstI 58 l = k ∧ k < l.length ∧ ((k < 1 ∨ 9 < k) → verOf l = none) ∧
    (1 ≤ k → k ≤ 9 → ((l.take k).all dgB = true → verOf l = restV (epochOf (l.take k)) [46, 43, 45, 126, 58] (l.drop (k + 1))) ∧ ((l.take k).all dgB = false → verOf l = none)) := by
  obtain ⟨h1, h2⟩ := colonAt_first l
  by_cases h : (58 : UInt8) ∈ l
  · obtain ⟨a, b⟩ := h1 h
    right
    refine ⟨colonAt l, a, b, fun g => ?_, fun g1 g2 => ⟨fun g => ?_, fun g => ?_⟩⟩
    · unfold verOf; rw [if_pos b, if_neg (fun x => by omega)]
    · unfold verOf; rw [if_pos b, if_pos ⟨g1, g2, g⟩]
    · unfold verOf; rw [if_pos b, if_neg (fun x => by rw [g] at x; simp at x)]
  · obtain ⟨a, b⟩ := h2 h
    left
    refine ⟨a, ?_⟩
    unfold verOf; rw [if_neg (by omega)]
def AtTail (s l m : ByteArray) (e : Int) : Prop := verOf s.data.toList = restV e m.data.toList l.data.toList
def Cut2 (l U V : ByteArray) : Prop := cutHy l.data.toList = (U.data.toList, V.data.toList)
theorem ext_all (s : ByteArray) (k : Nat) : (s.extract k s.size).data.toList = s.data.toList.drop k := by
  rw [extL, List.take_of_length_le (by rw [List.length_drop, sizeOf]; omega)]
theorem cut_none {l : ByteArray} (h : lastI 45 l.data.toList < 0) : Cut2 l l ⟨#[48]⟩ := by
  have := hyAt_last l.data.toList
  unfold Cut2 cutHy
  rw [if_pos (by omega)]
theorem cut_some {l : ByteArray} {k : Nat} (h : lastI 45 l.data.toList = k) : Cut2 l (l.extract 0 k) (l.extract (k + 1) l.size) := by
  have := hyAt_last l.data.toList
  unfold Cut2 cutHy
  have e : hyAt l.data.toList = k + 1 := by omega
  rw [e, if_neg (by omega), ext_all, extL]
  simp
theorem epoch_take {s : ByteArray} {j : Nat} (hj : j ≤ 8) (h : (s.data.toList.take j).all dgB = true) : 0 ≤ epochOf (s.data.toList.take j) ∧ epochOf (s.data.toList.take j) ≤ 100000000 := by
  have h1 := epoch_bd _ h
  have h2 : (10 : Int) ^ (s.data.toList.take j).length ≤ 10 ^ 8 := by
    have h3 : (s.data.toList.take j).length ≤ 8 := by rw [List.length_take]; omega
    exact_mod_cast Nat.pow_le_pow_right (n := 10) (by decide) h3
  have e : (10 : Int) ^ 8 = 100000000 := by decide
  omega
def parsedV (o : Option Ver) : Value := match o with
  | none => .tuple #[.agg #[.int .i64 0, .string ⟨#[]⟩, .string ⟨#[]⟩], .int .i64 2]
  | some v => .tuple #[verV v, .int .i64 0]
theorem verOf_parse {s l m : ByteArray} {e : Int} {o : Option Ver} (hs : ¬ 80 < s.data.toList.length) (ht : AtTail s l m e) (hr : restV e m.data.toList l.data.toList = o) : parseV s.data.toList = parsedV o := by
  have h : verOf s.data.toList = o := ht.trans hr
  cases o with
  | none => exact parseV_none hs h
  | some v => exact parseV_some hs h
end Go.Proofs.YtolpcnhgmmnmcaaGreatDoor
