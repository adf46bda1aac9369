/-
  path.Parents, the reference's Parents and Same: what each returns; nothing old turns.
-/
import Derived.Test.YtkcamfcjkjiijaaGreatDoorPPSortMath
import Derived.Test.YtkcamfcjkjiijaaGreatDoorPQGroup2
import Derived.Laws.DeepStrings4
import Derived.RangeFuncBox
import Derived.Test.YtkcamfcjkjiijaaGreatDoorPQAll
import Derived.Test.YtkcamfcjkjiijaaGreatDoorPZHold
import Derived.IntWalk
import Derived.Laws.StructEq
import Derived.Test.YtkcamfcjkjiijaaGreatDoorPQOnes
import Derived.WalkLawsBesides
import Derived.Sort.OwnSorted
import Derived.Lib.OwnBridge
import Derived.Laws.AppendOwnNone
namespace Go.Proofs.YtkcamfcjkjiijaaGreatDoor
open Go.RowKit
abbrev Dv := Bs × Bs × Bs
def plB (s : Bs) : Bool := right s && decide (s ≠ [47])
def rightD (x : Dv) : Bool := plB x.1 && plB x.2.1 && decide (x.1 ≠ x.2.1) && (decide (x.2.2 = []) || nameB x.2.2)
def stepD (l : List Dv) (i : Nat) (x : Dv) : Prop := rightD x = true ∧ ∀ y, 0 < i → l[i - 1]? = some y → y.1 < x.1
-- Where a path is.
def toD (l : List Dv) (p b : Bs) : Bs := match l.find? (fun x => decide (x.1 = p)) with
  | none => p
  | some x => if b ≠ [] ∧ x.2.2 = b then p else x.2.1
end Go.Proofs.YtkcamfcjkjiijaaGreatDoor
namespace Go.Proofs.YtkcamfcjkjiijaaGreatDoor
open Go.RowKit Go.Sort
end Go.Proofs.YtkcamfcjkjiijaaGreatDoor
namespace Go.Proofs.YtkcamfcjkjiijaaGreatDoor
open Go.RowKit Go.Sort
/-- The library's MaxLen holds some int. -/
structure LaidP (w : World) : Prop where
  mx : ∃ m, w.cell? ⟨0, 0, none⟩ = some (.int .i64 m)
  lt : 0 < w.heap.size
theorem LaidP.on {w w' : World} (h : LaidP w) (hb : Below w.heap.size w w') : LaidP w' :=
  ⟨h.mx.imp fun _ hm => (hb.cell (p := ⟨0, 0, none⟩) h.lt).trans hm, Nat.lt_of_lt_of_le h.lt hb.size⟩
end Go.Proofs.YtkcamfcjkjiijaaGreatDoor
namespace Go.Proofs.YtkcamfcjkjiijaaGreatDoor
open Go.RowKit Go.Sort
end Go.Proofs.YtkcamfcjkjiijaaGreatDoor
namespace Go.Proofs.YtkcamfcjkjiijaaGreatDoor
open Go.RowKit Go.Sort
end Go.Proofs.YtkcamfcjkjiijaaGreatDoor
namespace Go.Proofs.YtkcamfcjkjiijaaGreatDoor
open Go.RowKit Go.Sort
end Go.Proofs.YtkcamfcjkjiijaaGreatDoor
namespace Go.Proofs.YtkcamfcjkjiijaaGreatDoor
open Go.RowKit
-- Rows
/-- The slice value v holds the rows rs, of k texts each. -/
def HoldR (k : Nat) (w : World) (v : Value) (rs : List (List Bs)) : Prop :=
  ∃ (a : Option Addr) (c b o : Nat), v = .slice a rs.length c ∧ rs.length ≤ c ∧ (0 < rs.length → a = some ⟨b, o, none⟩ ∧ b < w.heap.size) ∧
    ∀ (j : Nat) r, rs[j]? = some r → ∀ (i : Nat) x, i < k → r[i]? = some x → w.cell? ⟨b, o + j * k + i, none⟩ = some (.string ⟨x.toArray⟩)
theorem HoldR.on {k : Nat} {w w' : World} {v : Value} {rs : List (List Bs)} (h : HoldR k w v rs) (hb : Below w.heap.size w w') : HoldR k w' v rs := by
  obtain ⟨a, c, b, o, rfl, hc, ha, hcell⟩ := h
  refine ⟨a, c, b, o, rfl, hc, fun h0 => ⟨(ha h0).1, Nat.lt_of_lt_of_le (ha h0).2 hb.size⟩, fun j r hj i x hi hx => ?_⟩
  have h0 : 0 < rs.length := by have := (List.getElem?_eq_some_iff.1 hj).1; omega
  rw [hb.cell (ha h0).2]
  exact hcell j r hj i x hi hx
end Go.Proofs.YtkcamfcjkjiijaaGreatDoor
namespace Go.Proofs.YtkcamfcjkjiijaaGreatDoor
open Go.RowKit
abbrev aggD (a b c : ByteArray) : Value := .agg #[.string a, .string b, .string c]
theorem pathOf_any (a b c : ByteArray) (w : World) : Calls Tryz.prog 89 #[aggD a b c] w fun e w' => e = .returned (.string a) ∧ Below w.heap.size w w' := by
  go_enter Tryz.func89, Tryz.ntmps89
  go_wp2
  go_ret
  exact ⟨rfl, (Below.refl _ _).alloc (Nat.le_refl _) _⟩
end Go.Proofs.YtkcamfcjkjiijaaGreatDoor
namespace Go.Proofs.YtkcamfcjkjiijaaGreatDoor
open Go.RowKit
theorem box3xD (W : World) (x y z : ByteArray) (t : TypeId) : (W.alloc (.cells #[.string x, .string y, .string z] t)).cell? ⟨W.heap.size, 0, none⟩ = some (.string x) ∧ (W.alloc (.cells #[.string x, .string y, .string z] t)).cell? ⟨W.heap.size, 1, none⟩ = some (.string y) ∧ (W.alloc (.cells #[.string x, .string y, .string z] t)).cell? ⟨W.heap.size, 2, none⟩ = some (.string z) := by
  refine ⟨?_, ?_, ?_⟩ <;> (rw [cellRow _ _ _ _ _ (0, 0) (World.alloc_heap_new W _)]; rfl)
/-- Three cells of a block, and that it is there. -/
def At3 (W : World) (b : Nat) (x y z : ByteArray) : Prop := W.cell? ⟨b, 0, none⟩ = some (.string x) ∧ W.cell? ⟨b, 1, none⟩ = some (.string y) ∧ W.cell? ⟨b, 2, none⟩ = some (.string z)
theorem At3.on {W W' : World} {b : Nat} {x y z : ByteArray} (h : At3 W b x y z) (hb : Below W.heap.size W W') : At3 W' b x y z := by
  have l := World.block_lt_of_cell? W _ h.1
  exact ⟨(hb.cell (p := ⟨b, 0, none⟩) l).trans h.1, (hb.cell (p := ⟨b, 1, none⟩) l).trans h.2.1, (hb.cell (p := ⟨b, 2, none⟩) l).trans h.2.2⟩
theorem byEmpty (c : ByteArray) : c.toList.isEmpty = decide (c.data.toList = []) := by rw [ByteArray.toList_eq]; cases c.data.toList <;> simp
end Go.Proofs.YtkcamfcjkjiijaaGreatDoor
namespace Go.Proofs.YtkcamfcjkjiijaaGreatDoor
open Go.RowKit
/-- A record, and the slice values of its lists. -/
structure Uv where
  nm : Bs
  vr : Bs
  st : Int
  dp : List Gv
  cn : List Rl
  rp : List Bs
  cf : List (Bs × Bs)
  pd : List Bs
  aw : List Bs
  dv : Value
  cv : Value
  rv : Value
  fv : Value
  pv : Value
  av : Value
abbrev cellsW2 (x : Bs × Bs) : Rw := [.string ((⟨x.1.toArray⟩ : ByteArray)), .string ((⟨x.2.toArray⟩ : ByteArray))]
abbrev HoldW2 (w : World) (v : Value) (l : List (Bs × Bs)) : Prop := HoldV 2 w v (l.map cellsW2)
abbrev cellsU (x : Uv) : Rw := [.string ((⟨x.nm.toArray⟩ : ByteArray)), .string ((⟨x.vr.toArray⟩ : ByteArray)), .int .i64 x.st, x.dv, x.cv, x.rv, x.fv, x.pv, x.av]
structure InU (w : World) (x : Uv) : Prop where
  dp : HoldGs w x.dv x.dp
  cn : HoldQ w x.cv x.cn
  rp : HoldT w x.rv x.rp
  cf : HoldW2 w x.fv x.cf
  pd : HoldT w x.pv x.pd
  aw : HoldT w x.av x.aw
theorem InU.on {w w' : World} {x : Uv} (h : InU w x) (hb : Below w.heap.size w w') : InU w' x := ⟨HoldGs.on h.dp hb, HoldV.on h.cn hb, h.rp.on hb, HoldV.on h.cf hb, h.pd.on hb, h.aw.on hb⟩
abbrev HoldU (w : World) (v : Value) (l : List Uv) : Prop := HoldV 9 w v (l.map cellsU) ∧ ∀ x ∈ l, InU w x
theorem HoldU.on {w w' : World} {v : Value} {l : List Uv} (h : HoldU w v l) (hb : Below w.heap.size w w') : HoldU w' v l := ⟨HoldV.on h.1 hb, fun x hx => (h.2 x hx).on hb⟩
theorem HoldW2.parts {w : World} {v : Value} {l : List (Bs × Bs)} (h : HoldW2 w v l) : ∃ (a : Option Addr) (c b o : Nat), v = .slice a l.length c ∧ l.length ≤ c ∧ (0 < l.length → a = some ⟨b, o, none⟩ ∧ b < w.heap.size) ∧
    ∀ (j : Nat) x, l[j]? = some x → w.cell? ⟨b, o + j * 2, none⟩ = some (.string ((⟨x.1.toArray⟩ : ByteArray))) ∧ w.cell? ⟨b, o + j * 2 + 1, none⟩ = some (.string ((⟨x.2.toArray⟩ : ByteArray))) := by
  obtain ⟨a, c, b, o, e, hc, ha, hcell⟩ := h
  rw [List.length_map] at e hc ha
  refine ⟨a, c, b, o, e, hc, ha, fun j x hx => ?_⟩
  have := hcell j (cellsW2 x) (by rw [List.getElem?_map, hx]; rfl)
  exact ⟨this 0 _ (by omega) rfl, this 1 _ (by omega) rfl⟩
theorem HoldU.parts {w : World} {v : Value} {l : List Uv} (h : HoldU w v l) : ∃ (a : Option Addr) (c b o : Nat), v = .slice a l.length c ∧ l.length ≤ c ∧ (0 < l.length → a = some ⟨b, o, none⟩ ∧ b < w.heap.size) ∧
    ∀ (j : Nat) x, l[j]? = some x → w.cell? ⟨b, o + j * 9, none⟩ = some (.string ((⟨x.nm.toArray⟩ : ByteArray))) ∧ w.cell? ⟨b, o + j * 9 + 1, none⟩ = some (.string ((⟨x.vr.toArray⟩ : ByteArray))) ∧ w.cell? ⟨b, o + j * 9 + 2, none⟩ = some (.int .i64 x.st) ∧ w.cell? ⟨b, o + j * 9 + 3, none⟩ = some (x.dv) ∧ w.cell? ⟨b, o + j * 9 + 4, none⟩ = some (x.cv) ∧ w.cell? ⟨b, o + j * 9 + 5, none⟩ = some (x.rv) ∧ w.cell? ⟨b, o + j * 9 + 6, none⟩ = some (x.fv) ∧ w.cell? ⟨b, o + j * 9 + 7, none⟩ = some (x.pv) ∧ w.cell? ⟨b, o + j * 9 + 8, none⟩ = some (x.av) := by
  obtain ⟨⟨a, c, b, o, e, hc, ha, hcell⟩, -⟩ := h
  rw [List.length_map] at e hc ha
  refine ⟨a, c, b, o, e, hc, ha, fun j x hx => ?_⟩
  have := hcell j (cellsU x) (by rw [List.getElem?_map, hx]; rfl)
  exact ⟨this 0 _ (by omega) rfl, this 1 _ (by omega) rfl, this 2 _ (by omega) rfl, this 3 _ (by omega) rfl, this 4 _ (by omega) rfl, this 5 _ (by omega) rfl, this 6 _ (by omega) rfl, this 7 _ (by omega) rfl, this 8 _ (by omega) rfl⟩
theorem boxV9 (W : World) (c0 c1 c2 c3 c4 c5 c6 c7 c8 : Value) (t : TypeId) : (W.alloc (.cells #[c0, c1, c2, c3, c4, c5, c6, c7, c8] t)).cell? ⟨W.heap.size, 0, none⟩ = some c0 ∧ (W.alloc (.cells #[c0, c1, c2, c3, c4, c5, c6, c7, c8] t)).cell? ⟨W.heap.size, 1, none⟩ = some c1 ∧ (W.alloc (.cells #[c0, c1, c2, c3, c4, c5, c6, c7, c8] t)).cell? ⟨W.heap.size, 2, none⟩ = some c2 ∧ (W.alloc (.cells #[c0, c1, c2, c3, c4, c5, c6, c7, c8] t)).cell? ⟨W.heap.size, 3, none⟩ = some c3 ∧ (W.alloc (.cells #[c0, c1, c2, c3, c4, c5, c6, c7, c8] t)).cell? ⟨W.heap.size, 4, none⟩ = some c4 ∧ (W.alloc (.cells #[c0, c1, c2, c3, c4, c5, c6, c7, c8] t)).cell? ⟨W.heap.size, 5, none⟩ = some c5 ∧ (W.alloc (.cells #[c0, c1, c2, c3, c4, c5, c6, c7, c8] t)).cell? ⟨W.heap.size, 6, none⟩ = some c6 ∧ (W.alloc (.cells #[c0, c1, c2, c3, c4, c5, c6, c7, c8] t)).cell? ⟨W.heap.size, 7, none⟩ = some c7 ∧ (W.alloc (.cells #[c0, c1, c2, c3, c4, c5, c6, c7, c8] t)).cell? ⟨W.heap.size, 8, none⟩ = some c8 := by
  refine ⟨?_, ?_, ?_, ?_, ?_, ?_, ?_, ?_, ?_⟩ <;> (rw [World.cell?_alloc_new]; rfl)
theorem boxV2U (W : World) (c0 c1 : Value) (t : TypeId) : (W.alloc (.cells #[c0, c1] t)).cell? ⟨W.heap.size, 0, none⟩ = some c0 ∧ (W.alloc (.cells #[c0, c1] t)).cell? ⟨W.heap.size, 1, none⟩ = some c1 := by
  refine ⟨?_, ?_⟩ <;> (rw [World.cell?_alloc_new]; rfl)
end Go.Proofs.YtkcamfcjkjiijaaGreatDoor
namespace Go.Proofs.YtkcamfcjkjiijaaGreatDoor
open Go.RowKit
end Go.Proofs.YtkcamfcjkjiijaaGreatDoor
namespace Go.Proofs.YtkcamfcjkjiijaaGreatDoor
open Go.RowKit
-- What stands ahead of a byte, and behind it
-- A list of texts of which each may be, that rises
-- Interests
abbrev It := Bs × Bs × Bool
-- What a right one has no byte of
-- What is read of a line
-- As the reference reads
-- Fired triggers
abbrev Fr := Bs × List Bs
-- As the reference reads
end Go.Proofs.YtkcamfcjkjiijaaGreatDoor
namespace Go.Proofs.YtkcamfcjkjiijaaGreatDoor
open Go.RowKit
/-- What the program lays, of which status speaks. -/
structure LaidU (w : World) : Prop where
  q : LaidQ w
  p : LaidP w
theorem LaidU.on {w w' : World} (h : LaidU w) (hb : Below w.heap.size w w') : LaidU w' :=
  ⟨h.q.on hb, h.p.on hb⟩
end Go.Proofs.YtkcamfcjkjiijaaGreatDoor
namespace Go.Proofs.YtkcamfcjkjiijaaGreatDoor
open Go.RowKit Go.Sort
/-- A nil slice has no room. -/
def Bare (v : Value) : Prop := ∀ n c, v = .slice none n c → n = 0 ∧ c = 0
theorem OwnS.bare {w : World} {base : Nat} {v : Value} {ls : List Bs} (h : OwnS w base v ls) : Bare v := by
  rcases h.2 with ⟨rfl, _⟩ | ⟨g, cap, cur, rfl, _⟩
  · intro n c e; cases e; exact ⟨rfl, rfl⟩
  · intro n c e; cases e
theorem sorted_end {w w1 : World} {g cap nn q : Nat} {os : Array Obj} {ls : List Bs} (hown : OwnS w1 w.heap.size (.slice (some ⟨g, 0, none⟩) ls.length cap) ls) (hbel : Below w.heap.size w w1) (hbg : w.heap.size ≤ g) :
    OwnS (putRow encStr (Sort.ahead (grow (putRow encStr (Sort.ahead w1 nn) g 0 (ls.mergeSort fun x y => decide (x ≤ y)).toArray) os) q) g 0 (Lib.compact (ls.mergeSort fun x y => decide (x ≤ y)) ++ List.replicate ((ls.mergeSort fun x y => decide (x ≤ y)).length - (Lib.compact (ls.mergeSort fun x y => decide (x ≤ y))).length) []).toArray) w.heap.size
      (.slice (some ⟨g, 0, none⟩) (Lib.compact (ls.mergeSort fun x y => decide (x ≤ y))).length cap) (srt ls) ∧
    Below w.heap.size w (putRow encStr (Sort.ahead (grow (putRow encStr (Sort.ahead w1 nn) g 0 (ls.mergeSort fun x y => decide (x ≤ y)).toArray) os) q) g 0 (Lib.compact (ls.mergeSort fun x y => decide (x ≤ y)) ++ List.replicate ((ls.mergeSort fun x y => decide (x ≤ y)).length - (Lib.compact (ls.mergeSort fun x y => decide (x ≤ y))).length) []).toArray) := by
  have hl2 : (ls.mergeSort fun x y => decide (x ≤ y)).length = ls.length := List.length_mergeSort ls
  have hle := Lib.compact_length_le (ls.mergeSort fun x y => decide (x ≤ y))
  rcases hown.2 with ⟨h0, _⟩ | ⟨g', cap', cur, hv, hbase, hb, h1, h2, h3, h4⟩
  · cases h0
  cases hv
  have hs := ownsRow_sorted (n := nn) (os := os) (ts := ls.mergeSort fun x y => decide (x ≤ y)) hl2 hbase hb h1 h2 h3
  have hc := Lib.ownsRow_putRow (q := q) (k := (Lib.compact (ls.mergeSort fun x y => decide (x ≤ y))).length) (ys := Lib.compact (ls.mergeSort fun x y => decide (x ≤ y)) ++ List.replicate ((ls.mergeSort fun x y => decide (x ≤ y)).length - (Lib.compact (ls.mergeSort fun x y => decide (x ≤ y))).length) []) hs (by simp; omega) (by omega)
  rw [List.take_left] at hc
  exact ⟨hc, Lib.below_putRow (hbel.grown (grownBy_sorted _) hbel.size (fun j hj => by cases hj; exact hbase)) hbg⟩
set_option maxRecDepth 100000 in
set_option maxHeartbeats 2000000 in
theorem sorted_nil (a : Option Addr) (c : Nat) (hb : Bare (.slice a 0 c)) (w : World) :
    Calls Tryz.prog 54 #[.slice a 0 c] w fun e w' => ∃ v', e = .returned v' ∧ OwnS w' w.heap.size v' (srt []) ∧ Below w.heap.size w w' := by
  obtain ⟨i0, hi, hz0, hz1, hz2⟩ := info_parts infoS
  have C1 := fun a c w => Tryz.slices_Sort_string_none a c w
  have C2 := fun a c w => Tryz.slices_Compact_string_empty a c w
  rw [srt_nil]
  cases a with
  | none =>
    obtain ⟨_, rfl⟩ := hb 0 c rfl
    clear hb
    go_enter Tryz.func54, Tryz.ntmps54
    go_wp2_with (first
      | (at_builtin; refine wpList_append_own_none rfl _ _ 33 rfl w.heap.size 9 i0 1 Tryz.underlying33 hi _ 0 [] rfl (World.ownsRow_nil _ _ _ _) rfl ?_)
      | (go_at_call 80; refine (C1 _ _ _).mono ?_; rintro e w1 ⟨rfl, rfl⟩)
      | (go_at_call 81; refine (C2 _ _ _).mono ?_; rintro e w1 ⟨rfl, rfl⟩))
    go_ret
    exact ⟨_, rfl, OwnS.nil _ _, Below.refl _ _⟩
  | some ad =>
    clear hb
    go_enter Tryz.func54, Tryz.ntmps54
    go_wp2_with (first
      | (at_builtin; refine wpList_append_own _ rfl _ _ 33 rfl w.heap.size 9 i0 (.string ⟨#[]⟩) 1 16 Tryz.underlying33 hi hz0 hz1 hz2 rfl (by decide) _ 0 [] rfl (World.ownsRow_nil _ _ _ _) ad 0 c [] rfl rfl (fun j u hj => by cases hj) (fun u hu => by cases hu) (by decide) (by decide) (Nat.le_refl _) ?_; intro v' w1 hown hgrow hnil; obtain rfl := hnil.2 ⟨rfl, rfl⟩; have HB := Lib.hid ((Below.refl w.heap.size w).grown hgrow (Nat.le_refl _) (fun k hk => by cases hk)); clear hown hgrow hnil)
      | (go_at_call 80; refine (C1 _ _ _).mono ?_; rintro e w1 ⟨rfl, rfl⟩)
      | (go_at_call 81; refine (C2 _ _ _).mono ?_; rintro e w1 ⟨rfl, rfl⟩))
    go_ret
    exact ⟨_, rfl, OwnS.nil _ _, HB.out⟩
set_option maxRecDepth 100000 in
set_option maxHeartbeats 2000000 in
theorem sorted_some (v : Value) (ls : List Bs) (h0 : 0 < ls.length) (hn : ls.length ≤ 5000) (w : World) (h : Holds' w v ls) :
    Calls Tryz.prog 54 #[v] w fun e w' => ∃ v', e = .returned v' ∧ OwnS w' w.heap.size v' (srt ls) ∧ Below w.heap.size w w' := by
  obtain ⟨i0, hi, hz0, hz1, hz2⟩ := info_parts infoS
  obtain ⟨a, c, b, o, rfl, hc, ha, hcell⟩ := h
  obtain ⟨rfl, hbw⟩ := ha h0
  have hne : ¬ (ls.length = 0) := by omega
  have HC := Lib.hid hcell
  have HN := Lib.hid hne
  have HL : Hid ((strs ls).length = ls.length * 1) := Lib.hid (by simp [strs])
  clear ha hcell hne
  go_enter Tryz.func54, Tryz.ntmps54
  go_wp2_with (at_builtin; refine wpList_append_own _ rfl _ _ 33 rfl w.heap.size 9 i0 (.string ⟨#[]⟩) 1 16 Tryz.underlying33 hi hz0 hz1 hz2 rfl (by decide) _ 0 [] rfl (World.ownsRow_nil _ _ _ _) ⟨b, o, none⟩ ls.length c (strs ls) rfl HL.out ?c1 ?c2 ?c3 ?c4 (Nat.le_refl _) ?_)
  case c1 =>
    intro j u hj
    rw [List.getElem?_map] at hj
    cases hl : ls[j]? with
    | none => rw [hl] at hj; cases hj
    | some l =>
      rw [hl] at hj
      obtain rfl := Option.some.inj hj
      have := HC.out j l hl
      by_cases hj0 : j = 0
      · subst hj0; simpa [Addr.add] using this
      · simpa [Addr.add, hj0] using this
  case c2 =>
    intro u hu
    obtain ⟨l, _, rfl⟩ := List.mem_map.1 hu
    rfl
  case c3 => unfold maxLen; omega
  case c4 => omega
  · intro v' w1 hown hgrow hnil
    have hO : OwnS w1 w.heap.size v' ls := hown
    have hB := (Below.refl w.heap.size w).grown hgrow (Nat.le_refl _) (fun k hk => by cases hk)
    obtain ⟨g, cap, rfl, hbg, hgl, hncap, hcm, hlen, hH⟩ := Lib.holds_of_ownsRow (enc := encStr) (zs := ls) hown (fun e => HN.out (by rw [hnil.1 e]; rfl))
    have C1 := Tryz.slices_Sort_string g 0 cap ls w1 hH hgl (by omega)
    have HH := Lib.hid hH
    have HO := Lib.hid hO
    have HB := Lib.hid hB
    have hl2 : (ls.mergeSort fun x y => decide (x ≤ y)).length = ls.length := List.length_mergeSort ls
    have HL2 := Lib.hid hl2
    have hl3 : (ls.mergeSort fun x y => decide (x ≤ y)).length ≤ 5000 := by omega
    have hl4 : (ls.mergeSort fun x y => decide (x ≤ y)).length ≤ cap := by omega
    clear hown hgrow hnil hO hB hH hlen hl2
    go_wp2_with (go_at_call 80; refine C1.mono ?_; rintro e w2 ⟨rfl, nn, os, rfl⟩; refine Hid.out ?_)
    have hH2 : Holds encStr (grow (putRow encStr (Sort.ahead w1 nn) g 0 (ls.mergeSort fun x y => decide (x ≤ y)).toArray) os) g 0 (ls.mergeSort fun x y => decide (x ≤ y)).toArray :=
      holds_grow encStr _ os g 0 _ (by simpa [putRow, mapBlock, Sort.ahead] using hgl) (holds_putRow encStr _ g 0 _ _ (holds_ahead encStr w1 nn g 0 _ HH.out) (by simp))
    have C2 := Tryz.slices_Compact_string g 0 cap (ls.mergeSort fun x y => decide (x ≤ y)) _ hH2 (by omega) hl4
    rw [HL2.out] at C2
    clear C1 hH2
    refine Lib.hid ?_
    go_wp2_with (go_at_call 81; refine C2.mono ?_; rintro e w3 ⟨rfl, q, rfl⟩)
    go_ret
    have E := sorted_end (nn := nn) (q := q) (os := os) HO.out HB.out hbg
    rw [HL2.out] at E
    exact ⟨_, rfl, E.1, E.2⟩
theorem sorted_any (v : Value) (ls : List Bs) (hn : ls.length ≤ 5000) (hb : Bare v) (w : World) (h : Holds' w v ls) :
    Calls Tryz.prog 54 #[v] w fun e w' => ∃ v', e = .returned v' ∧ OwnS w' w.heap.size v' (srt ls) ∧ Below w.heap.size w w' := by
  by_cases h0 : 0 < ls.length
  · exact sorted_some v ls h0 hn w h
  · have e : ls = [] := List.eq_nil_of_length_eq_zero (by omega)
    subst e
    obtain ⟨a, c, b, o, rfl, _⟩ := h
    exact sorted_nil a c hb w
end Go.Proofs.YtkcamfcjkjiijaaGreatDoor
namespace Go.Proofs.YtkcamfcjkjiijaaGreatDoor
open Go.RowKit Go.Sort
/-- The directories above: of each beginning of the parts. -/
def above (ps : List Bs) (n : Nat) : List Bs := (List.range n).map fun i => joined (ps.take i)
end Go.Proofs.YtkcamfcjkjiijaaGreatDoor
