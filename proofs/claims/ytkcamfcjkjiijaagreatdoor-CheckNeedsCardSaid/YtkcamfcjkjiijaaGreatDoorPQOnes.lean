/-
  Fits, met, Lacks of relations: what each returns; nothing old turns. Condition: LaidV.
-/
import Derived.Test.YtkcamfcjkjiijaaGreatDoorPQAll
import Derived.BigRegion
import Derived.Test.YtkcamfcjkjiijaaGreatDoorPQGroup2
import Derived.Test.YtkcamfcjkjiijaaGreatDoorPZHold
import Derived.Laws.StructEq
import Derived.Deep.QuietTactic
import Derived.BigQuiet
import Derived.Deep.RegionHeld3
import Derived.Test.YtkcamfcjkjiijaaGreatDoorPVPHolds
namespace Go.Proofs.YtkcamfcjkjiijaaGreatDoor
open Go.RowKit
/-- A box of three texts that may be written. -/
structure BoxQ (w : World) (b : Nat) (x y z : ByteArray) : Prop where
  c0 : w.cell? ⟨b, 0, none⟩ = some (.string x)
  c1 : w.cell? ⟨b, 1, none⟩ = some (.string y)
  c2 : w.cell? ⟨b, 2, none⟩ = some (.string z)
  f : ∀ i, w.frozen? ⟨b, i, none⟩ = false
theorem BoxQ.new (A : World) (x y z : ByteArray) (t : TypeId) : BoxQ (A.alloc (.cells #[.string x, .string y, .string z] t)) A.heap.size x y z :=
  ⟨(box3New A x y z t).1, (box3New A x y z t).2.1, (box3New A x y z t).2.2, fun i => frozen_of_row _ A.heap.size i _ t (heap_alloc_new A _)⟩
theorem BoxQ.on {A B : World} {b : Nat} {x y z : ByteArray} (h : BoxQ A b x y z) (hb : Below A.heap.size A B) : BoxQ B b x y z := by
  have hlt := World.block_lt_of_cell? A _ h.c0
  have k := fun o => hb.cell (p := ⟨b, o, none⟩) hlt
  exact ⟨by rw [k]; exact h.c0, by rw [k]; exact h.c1, by rw [k]; exact h.c2, fun i => by rw [hb.frozen (p := ⟨b, i, none⟩) hlt]; exact h.f i⟩
abbrev putQ3 (w : World) (b : Nat) (x y z : ByteArray) : World := ((w.setCell ⟨b, 0, none⟩ (.string x)).setCell ⟨b, 1, none⟩ (.string y)).setCell ⟨b, 2, none⟩ (.string z)
theorem BoxQ.put {w : World} {b : Nat} {x y z : ByteArray} (h : BoxQ w b x y z) (x' y' z' : ByteArray) : (putQ3 w b x' y' z').cell? ⟨b, 0, none⟩ = some (.string x') ∧ (putQ3 w b x' y' z').cell? ⟨b, 1, none⟩ = some (.string y') ∧ (putQ3 w b x' y' z').cell? ⟨b, 2, none⟩ = some (.string z') := by
  have o : ∀ (A : World) (i j : Nat) (u v : Value), i ≠ j → A.cell? ⟨b, j, none⟩ = some v → (A.setCell ⟨b, i, none⟩ u).cell? ⟨b, j, none⟩ = some v := fun A i j u v hij hv => (World.cell?_setCell_other _ _ _ _ (fun e => hij (congrArg Addr.off e))).trans hv
  have s0 : ∀ (A : World) (i : Nat) (u v : Value), A.cell? ⟨b, i, none⟩ = some v → (A.setCell ⟨b, i, none⟩ u).cell? ⟨b, i, none⟩ = some u := fun A i u v hv => World.cell?_setCell_same _ _ _ hv
  exact ⟨o _ 2 0 _ _ (by omega) (o _ 1 0 _ _ (by omega) (s0 _ 0 _ _ h.c0)), o _ 2 1 _ _ (by omega) (s0 _ 1 _ _ (o _ 0 1 _ _ (by omega) h.c1)), s0 _ 2 _ _ (o _ 1 2 _ _ (by omega) (o _ 0 2 _ _ (by omega) h.c2))⟩
end Go.Proofs.YtkcamfcjkjiijaaGreatDoor
namespace Go.Proofs.YtkcamfcjkjiijaaGreatDoor
open Go.RowKit
/-- What the walks ask of the program's variables. -/
structure LaidQ (w : World) : Prop where
  v : LaidV w
  m : ∃ m, w.cell? ⟨0, 0, none⟩ = some (.int .i64 m)
theorem LaidQ.on {w w' : World} (h : LaidQ w) (hb : Below w.heap.size w w') : LaidQ w' := by
  obtain ⟨m, hm⟩ := h.m
  exact ⟨h.v.on hb, m, (hb.cell (World.block_lt_of_cell? w _ hm)).trans hm⟩
end Go.Proofs.YtkcamfcjkjiijaaGreatDoor
namespace Go.Proofs.YtkcamfcjkjiijaaGreatDoor
open Go.RowKit
theorem drop_atQ {α : Type} {l : List α} {i : Nat} {x : α} (h : l[i]? = some x) : l.drop i = x :: l.drop (i + 1) := by
  obtain ⟨hi, e⟩ := List.getElem?_eq_some_iff.1 h
  rw [List.drop_eq_getElem_cons hi, e]
end Go.Proofs.YtkcamfcjkjiijaaGreatDoor
namespace Go.Proofs.YtkcamfcjkjiijaaGreatDoor
open Go.RowKit
end Go.Proofs.YtkcamfcjkjiijaaGreatDoor
namespace Go.Proofs.YtkcamfcjkjiijaaGreatDoor
open Go.RowKit
theorem kinds_apart {w : World} {b1 b2 s1 s2 n1 n2 : Nat} {v1 v2 : Value} {x1 x2 : List Value} {e1 e2 : TypeId} (h1 : w.ownsRow b1 e1 s1 v1 n1 x1) (h2 : w.ownsRow b2 e2 s2 v2 n2 x2) (he : e1 ≠ e2) : v1.ownBlock = none ∨ v1.ownBlock ≠ v2.ownBlock := by
  rcases h1.2 with ⟨rfl, _⟩ | ⟨g, cap, cur, rfl, hb, hg, _⟩
  · exact .inl rfl
  · refine .inr fun e => ?_
    rcases h2.2 with ⟨rfl, _⟩ | ⟨g', cap', cur', rfl, hb', hg', _⟩
    · simp [Value.ownBlock] at e
    · simp only [Value.ownBlock, Option.some.injEq] at e
      subst e
      rw [hg] at hg'
      simp only [Option.some.injEq, Obj.cells.injEq] at hg'
      exact he hg'.2.1
/-- Groups that a call owns: the outer row, and each group's. -/
def OwnGs (w : World) (B : Nat) (v : Value) (L : List Gv) : Prop := OwnV 32 1 w B v (L.map fun x => [x.2]) ∧ ∀ x ∈ L, OwnQ w B x.2 x.1
theorem OwnGs.nil (w : World) (B : Nat) : OwnGs w B (.slice none 0 0) [] := ⟨OwnV.nil _ _ _ _, fun x hx => by simp at hx⟩
theorem OwnGs.on {w w' : World} {B : Nat} {v : Value} {L : List Gv} (h : OwnGs w B v L) (hb : Below w.heap.size w w') : OwnGs w' B v L := ⟨OwnV.on h.1 hb, fun x hx => OwnV.on (h.2 x hx) hb⟩
theorem OwnGs.mono {w : World} {B B' : Nat} {v : Value} {L : List Gv} (h : OwnGs w B v L) (hb : B' ≤ B) : OwnGs w B' v L := ⟨OwnV.mono h.1 hb, fun x hx => OwnV.mono (h.2 x hx) hb⟩
theorem OwnGs.holds {w : World} {B : Nat} {v : Value} {L : List Gv} (h : OwnGs w B v L) : HoldGs w v L := ⟨OwnV.holds h.1, fun x hx => OwnV.holds (h.2 x hx)⟩
theorem OwnGs.app {w w' : World} {o : Obj} {B : Nat} {v v' sv : Value} {L : List Gv} {x : List Rl} (h : OwnGs w B v L) (hx : OwnQ w B sv x) (hown : w'.ownsRow B 32 1 v' (L.length + 1) ((L.map fun x => [x.2]).flatten ++ [sv])) (hg : (w.alloc o).grownBy w' v.ownBlock) : OwnGs w' B v' (L ++ [(x, sv)]) := by
  have key : ∀ (s : Value) (y : List Rl), OwnQ w B s y → OwnQ w' B s y := fun s y hy => ⟨hy.1, World.ownsRow.kept (World.ownsRow.alloc hy.2 o) hg (kinds_apart hy.2 h.1.2 (by decide))⟩
  refine ⟨?_, fun y hy => ?_⟩
  · rw [List.map_append]
    exact OwnV.app h.1.1 rfl (by rw [List.length_map]; exact hown)
  · rcases List.mem_append.1 hy with e | e
    · exact key _ _ (h.2 y e)
    · rw [List.mem_singleton.1 e]; exact key _ _ hx
end Go.Proofs.YtkcamfcjkjiijaaGreatDoor
namespace Go.Proofs.YtkcamfcjkjiijaaGreatDoor
open Go.RowKit
end Go.Proofs.YtkcamfcjkjiijaaGreatDoor
namespace Go.Proofs.YtkcamfcjkjiijaaGreatDoor
open Go.RowKit
theorem join_snocQ (sep x : Bs) : ∀ (ps : List Bs), ps ≠ [] → Lib.join (ps ++ [x]) sep = Lib.join ps sep ++ (sep ++ x)
  | [], h => absurd rfl h
  | [p], _ => by
    have : [p] ++ [x] = p :: x :: [] := rfl
    rw [this, join_two, Lib.join_one, Lib.join_one]
  | p :: q :: ps, _ => by
    have ih := join_snocQ sep x (q :: ps) (by simp)
    have e : (p :: q :: ps) ++ [x] = p :: q :: (ps ++ [x]) := rfl
    have e2 : (q :: ps) ++ [x] = q :: (ps ++ [x]) := rfl
    rw [e, join_two, ← e2, ih, join_two]
    simp
theorem take_snocQ {α : Type} {l : List α} {k : Nat} {x : α} (h : l[k]? = some x) : l.take (k + 1) = l.take k ++ [x] := by
  rw [List.take_add_one, h]; rfl
set_option maxRecDepth 100000 in
set_option maxHeartbeats 8000000 in
theorem join6_any (sep : ByteArray) (hsep : sep.size ≤ 10) (v : Value) (ls : List Bs) (hl : ls.length ≤ 90000) (hs : ∀ p ∈ ls, p.length ≤ 10000000) (w : World) (h : HoldT w v ls) :
    Calls Tryz.prog 92 #[v, .string sep] w fun e w' => e = .returned (.string (bsT (Lib.join ls sep.data.toList))) ∧ w = w' := by
  obtain ⟨a, c, b, o, rfl, hc, ha, hcell⟩ := h
  have HC := Lib.hid hcell
  have HS := Lib.hid hs
  have HJL : Hid (∀ k, (Lib.join (ls.take k) sep.data.toList).length ≤ 90000 * 10000010) := Lib.hid (fun k => by
    have h1 := joinM_len sep.data.toList 10000000 (ls.take k) (fun p hp => hs p (List.mem_of_mem_take hp))
    have h2 : (ls.take k).length ≤ 90000 := Nat.le_trans (List.length_take_le' _ _) hl
    have h3 : (ls.take k).length * (10000000 + sep.data.toList.length) ≤ 90000 * 10000010 := Nat.mul_le_mul h2 (by rw [← sizeOf]; omega)
    omega)
  obtain ⟨n, hN⟩ : ∃ n, ls.length = n := ⟨_, rfl⟩
  rw [hN] at hc ha hl ⊢
  have HN := Lib.hid hN
  clear hcell hN hs
  go_enter Tryz.func92, Tryz.ntmps92
  go_wp2
  go_loop [5, 6] (fun z i => ∃ (k : Nat) (S : ByteArray), k ≤ n ∧ i = .int .i64 k ∧ z = .string S ∧ S.size ≤ 900000900000 ∧ Hid (S.data.toList = Lib.join (ls.take k) sep.data.toList)) (fun _ i => n - (intOf i).toNat)
  case atStart => exact ⟨0, ⟨#[]⟩, by omega, rfl, rfl, by decide, Lib.hid rfl⟩
  case round =>
    obtain ⟨k, S, hk, rfl, rfl, hS, HZ⟩ := hrel
    by_cases hlt : k < n
    · obtain ⟨rfl, hbw⟩ := ha (by omega)
      obtain ⟨p, hp⟩ : ∃ p, ls[k]? = some p := ⟨_, List.getElem?_eq_getElem (by rw [HN.out]; exact hlt)⟩
      have c0 := HC.out k p hp
      have hpl := HS.out p (List.mem_of_getElem? hp)
      have hj := HJL.out (k + 1)
      have hts := take_snocQ hp
      obtain ⟨P, hP⟩ : ∃ P : ByteArray, (⟨p.toArray⟩ : ByteArray) = P := ⟨_, rfl⟩
      have hPL : P.data.toList = p := by rw [← hP]
      have hPs : P.size ≤ 10000000 := by rw [sizeOf, hPL]; exact hpl
      rw [hP] at c0
      by_cases h0 : k = 0
      · subst h0
        have HZ2 : Hid ((S ++ P).data.toList = Lib.join (ls.take (0 + 1)) sep.data.toList) := Lib.hid (by
          rw [hts, ByteArray.data_append, Array.toList_append, HZ.out, hPL]
          simp [Lib.join, List.intercalate])
        have hs2 : (S ++ P).size ≤ 900000900000 := by rw [sizeOf, HZ2.out]; omega
        have q3 : ¬ 9223372036854775807 < S.size + P.size := by omega
        rw [Nat.add_zero] at c0
        clear hp hP hPL hj hts hpl
        go_wp2
        go_round
        case rel => exact ⟨1, _, by omega, rfl, rfl, hs2, HZ2⟩
        case measure => simp [intOf]; omega
      · have hne : ls.take k ≠ [] := fun e => by
          have := congrArg List.length e
          rw [List.length_take, HN.out] at this
          simp at this; omega
        have HZ2 : Hid (((S ++ sep) ++ P).data.toList = Lib.join (ls.take (k + 1)) sep.data.toList) := Lib.hid (by
          rw [hts, join_snocQ _ _ _ hne, ByteArray.data_append, Array.toList_append, ByteArray.data_append, Array.toList_append, HZ.out, hPL, List.append_assoc])
        have hs2 : ((S ++ sep) ++ P).size ≤ 900000900000 := by rw [sizeOf, HZ2.out]; omega
        have q2 : ¬ 9223372036854775807 < S.size + sep.size := by omega
        have q4 : (S ++ sep).size = S.size + sep.size := ByteArray.size_append
        have q3 : ¬ 9223372036854775807 < S.size + sep.size + P.size := by omega
        have hk0 : 0 < k := by omega
        clear hp hP hPL hj hts hpl hne h0
        go_wp2
        go_round
        case rel => exact ⟨k + 1, _, by omega, by go_num, rfl, hs2, HZ2⟩
        case measure => simp [intOf]; omega
    · obtain rfl : k = n := by omega
      have HE : Hid (bsT (Lib.join ls sep.data.toList) = S) := Lib.hid (by
        have := HZ.out
        rw [List.take_of_length_le (by rw [HN.out]; omega)] at this
        rw [← this])
      clear hlt
      go_wp2
      go_ret
      exact ⟨by rw [HE.out]; rfl, rfl⟩
end Go.Proofs.YtkcamfcjkjiijaaGreatDoor
namespace Go.Proofs.YtkcamfcjkjiijaaGreatDoor
open Go.RowKit
theorem long_miss {l : List Gv} (h : ∀ (j : Nat) y, l[j]? = some y → longG y.1 = false) : (fsts l).any longG = false := by
  rw [List.any_eq_false]
  intro g hg
  obtain ⟨x, hx, rfl⟩ := List.mem_map.1 hg
  obtain ⟨j, hj⟩ := List.mem_iff_getElem?.1 hx
  rw [h j x hj]; simp
theorem long_hit {l : List Gv} {k : Nat} {x : Gv} (h : l[k]? = some x) (hb : longG x.1 = true) : (fsts l).any longG = true := List.any_eq_true.2 ⟨x.1, List.mem_map_of_mem (List.mem_of_getElem? h), hb⟩
theorem all_takeQ {g : List Rl} (h : ∀ (j : Nat) y, g[j]? = some y → rightR y = true) : g.all rightR = true := by
  rw [List.all_eq_true]
  intro y hy
  obtain ⟨j, hj⟩ := List.mem_iff_getElem?.1 hy
  exact h j y hj
theorem all_badQ {g : List Rl} {k : Nat} {x : Rl} (h : g[k]? = some x) (hr : rightR x = false) : g.all rightR = false := by
  rw [List.all_eq_false]
  exact ⟨x, List.mem_of_getElem? h, by rw [hr]; simp⟩
theorem OwnT.formQ {w : World} {B : Nat} {v : Value} {ls : List Bs} (h : OwnT w B v ls) : ∃ a c, v = .slice a ls.length c := by
  obtain ⟨a, c, b, o, e, _⟩ := h.holds; exact ⟨a, c, e⟩
theorem OwnT.onQ {w w' : World} {B : Nat} {v : Value} {ls : List Bs} (h : OwnT w B v ls) (hb : Below w.heap.size w w') : OwnT w' B v ls := World.ownsRow.kept h (grownV hb) (by cases v.ownBlock <;> simp)
end Go.Proofs.YtkcamfcjkjiijaaGreatDoor
namespace Go.Proofs.YtkcamfcjkjiijaaGreatDoor
open Go.RowKit
end Go.Proofs.YtkcamfcjkjiijaaGreatDoor
namespace Go.Proofs.YtkcamfcjkjiijaaGreatDoor
open Go.RowKit
theorem OwnQ.lit (w : World) (B : Nat) (P Q Z : ByteArray) (hB : B ≤ w.heap.size) : OwnQ (w.alloc (.cells #[.string P, .string Q, .string Z] 75)) B (.slice (some ⟨w.heap.size, 0, none⟩) 1 1) [(P.data.toList, Q.data.toList, Z.data.toList)] :=
  ⟨cellsQ_len _, rfl, .inr ⟨w.heap.size, 1, #[.string P, .string Q, .string Z], rfl, hB, heap_alloc_new w _, Nat.le_refl _, by decide, rfl, by simp⟩⟩
end Go.Proofs.YtkcamfcjkjiijaaGreatDoor
namespace Go.Proofs.YtkcamfcjkjiijaaGreatDoor
open Go.RowKit
def fitsB (x : Rl) (n v : Bs) : Bool := decide (x.1 = n) && holdsV v x.2.1 x.2.2
set_option maxHeartbeats 8000000 in
theorem fits_any (p q z n v : ByteArray) (hz : z.size ≤ 4000) (hv : v.size ≤ 4000) (w : World) (hL : LaidV w) : Calls Tryz.prog 76 #[.agg #[.string p, .string q, .string z], .string n, .string v] w fun e w' => e = .returned (.bool (fitsB (p.data.toList, q.data.toList, z.data.toList) n.data.toList v.data.toList)) ∧ Below w.heap.size w w' := by
  have HO := fun W h => holds_any v q z hv hz W h
  have hq := eqT p n
  have HBA : Hid (∀ o, Below w.heap.size w (w.alloc o)) := Lib.hid (fun o => (Below.refl _ _).alloc (Nat.le_refl _) o)
  have HLA := Lib.hid (fun o => hL.on (HBA.out o))
  by_cases he : p.data.toList = n.data.toList
  · have hf : fitsB (p.data.toList, q.data.toList, z.data.toList) n.data.toList v.data.toList = holdsV v.data.toList q.data.toList z.data.toList := by unfold fitsB; rw [decide_eq_true he, Bool.true_and]
    rw [hf]
    rw [decide_eq_true he] at hq
    generalize holdsV v.data.toList q.data.toList z.data.toList = r at *
    clear he hL hf
    go_enter Tryz.func76, Tryz.ntmps76
    go_wp2_with (go_at_call 96; (with_reducible refine (HO _ (HLA.out _)).mono ?_); rintro e w1 ⟨rfl, hb⟩; have HB := Lib.hid ((HBA.out _).trans (hb.mono (HBA.out _).size)); clear hb)
    go_ret
    exact ⟨rfl, HB.out⟩
  · have hf : fitsB (p.data.toList, q.data.toList, z.data.toList) n.data.toList v.data.toList = false := by unfold fitsB; rw [decide_eq_false he, Bool.false_and]
    rw [hf]
    rw [decide_eq_false he] at hq
    clear he hL hf HO
    go_enter Tryz.func76, Tryz.ntmps76
    go_wp2
    go_ret
    exact ⟨rfl, HBA.out _⟩
set_option maxHeartbeats 8000000 in
theorem fits_ref (p q z n v : ByteArray) (hz : z.size ≤ 4000) (hv : v.size ≤ 4000) (w : World) : Calls Tryz.prog 72 #[.agg #[.string p, .string q, .string z], .string n, .string v] w fun e w' => e = .returned (.bool (fitsB (p.data.toList, q.data.toList, z.data.toList) n.data.toList v.data.toList)) ∧ Below w.heap.size w w' := by
  have HO := fun W => holds_ref v q z hv hz W
  have hq := eqT p n
  have HBA : Hid (∀ o, Below w.heap.size w (w.alloc o)) := Lib.hid (fun o => (Below.refl _ _).alloc (Nat.le_refl _) o)
  by_cases he : p.data.toList = n.data.toList
  · have hf : fitsB (p.data.toList, q.data.toList, z.data.toList) n.data.toList v.data.toList = holdsV v.data.toList q.data.toList z.data.toList := by unfold fitsB; rw [decide_eq_true he, Bool.true_and]
    rw [hf]
    rw [decide_eq_true he] at hq
    generalize holdsV v.data.toList q.data.toList z.data.toList = r at *
    clear he hf
    go_enter Tryz.func72, Tryz.ntmps72
    go_wp2_with (go_at_call 95; (with_reducible refine (HO _).mono ?_); rintro e w1 ⟨rfl, hb⟩; have HB := Lib.hid ((HBA.out _).trans (hb.mono (HBA.out _).size)); clear hb)
    go_ret
    exact ⟨rfl, HB.out⟩
  · have hf : fitsB (p.data.toList, q.data.toList, z.data.toList) n.data.toList v.data.toList = false := by unfold fitsB; rw [decide_eq_false he, Bool.false_and]
    rw [hf]
    rw [decide_eq_false he] at hq
    clear he hf HO
    go_enter Tryz.func72, Tryz.ntmps72
    go_wp2
    go_ret
    exact ⟨rfl, HBA.out _⟩
def Small1 (x : Rl) : Prop := x.1.length ≤ 4000 ∧ x.2.1.length ≤ 4000 ∧ x.2.2.length ≤ 4000
set_option maxHeartbeats 8000000 in
theorem met1_any (x y : Rl) (hx : Small1 x) (hy : Small1 y) (g : Nat) (w : World) (hL : LaidV w) (h0 : w.cell? ⟨g, 0, none⟩ = some (.string (bsT x.1))) (h1 : w.cell? ⟨g, 1, none⟩ = some (.string (bsT x.2.1))) (h2 : w.cell? ⟨g, 2, none⟩ = some (.string (bsT x.2.2))) :
    Calls Tryz.prog 94 #[aggQ y, .pointer (some ⟨g, 0, none⟩)] w fun e w' => e = .returned (.bool (fitsB x y.1 y.2.2)) ∧ Below w.heap.size w w' := by
  have F := fun W h => fits_any (bsT x.1) (bsT x.2.1) (bsT x.2.2) (bsT y.1) (bsT y.2.2) (by rw [sizeOf, bytesOf]; exact hx.2.2) (by rw [sizeOf, bytesOf]; exact hy.2.2) W h
  rw [bytesOf, bytesOf, bytesOf, bytesOf, bytesOf] at F
  obtain ⟨p, q, z⟩ := x
  obtain ⟨n, o, v⟩ := y
  dsimp only at F h0 h1 h2 ⊢
  unfold aggQ
  dsimp only
  generalize fitsB (p, q, z) n v = r at *
  have hg := World.block_lt_of_cell? w _ h0
  have HBA : Hid (∀ o, Below w.heap.size w (w.alloc o)) := Lib.hid (fun o => (Below.refl _ _).alloc (Nat.le_refl _) o)
  have HLA := Lib.hid (fun o => hL.on (HBA.out o))
  have k0 := fun o => (HBA.out o).cell (p := ⟨g, 0, none⟩) hg
  have k1 := fun o => (HBA.out o).cell (p := ⟨g, 1, none⟩) hg
  have k2 := fun o => (HBA.out o).cell (p := ⟨g, 2, none⟩) hg
  rw [h0] at k0
  rw [h1] at k1
  rw [h2] at k2
  generalize bsT p = P at *
  generalize bsT q = Q at *
  generalize bsT z = Z at *
  generalize bsT n = N at *
  generalize bsT o = O at *
  generalize bsT v = V at *
  clear hL h0 h1 h2 hx hy hg
  go_enter Tryz.func94, Tryz.ntmps94
  go_wp2_with (go_at_call 76; (with_reducible refine (F _ (HLA.out _)).mono ?_); rintro e w1 ⟨rfl, hb⟩; have HB := Lib.hid ((HBA.out _).trans (hb.mono (HBA.out _).size)); clear hb)
  go_ret
  exact ⟨rfl, HB.out⟩
def metB (x : Rl) (t : List Rl) : Bool := t.any fun y => fitsB x y.1 y.2.2
set_option maxHeartbeats 8000000 in
theorem met_any (x : Rl) (hx : Small1 x) (v : Value) (t : List Rl) (hl : t.length ≤ 90000) (hs : SmallQ t) (w : World) (h : HoldQ w v t) (hL : LaidV w) : Calls Tryz.prog 71 #[aggQ x, v] w fun e w' => e = .returned (.bool (metB x t)) ∧ Below w.heap.size w w' := by
  have EN : ∀ args w, (callFunc 94 args).run Tryz.prog w = .ok (.enter 94 args) w := enters_of Tryz.func94 (by kernel_rfl) rfl
  have B0 := (Below.refl w.heap.size w).alloc (Nat.le_refl _) (.cells #[.string (bsT x.1), .string (bsT x.2.1), .string (bsT x.2.2)] 75)
  obtain ⟨z0, z1, z2⟩ := boxV3 w (.string (bsT x.1)) (.string (bsT x.2.1)) (.string (bsT x.2.2)) 75
  have hsz : w.heap.size < (w.alloc (.cells #[.string (bsT x.1), .string (bsT x.2.1), .string (bsT x.2.2)] 75)).heap.size := by rw [World.size_alloc]; omega
  have C := contQ_any 94 #[.pointer (some ⟨w.heap.size, 0, none⟩)] EN (fun y => fitsB x y.1 y.2.2) v t hl (w.alloc (.cells #[.string (bsT x.1), .string (bsT x.2.1), .string (bsT x.2.2)] 75)) (HoldV.on h B0) (fun W y hy hb => by
    have := met1_any x y hx (hs y hy) w.heap.size W ((hL.on B0).on hb) ((hb.cell (p := ⟨w.heap.size, 0, none⟩) hsz).trans z0) ((hb.cell (p := ⟨w.heap.size, 1, none⟩) hsz).trans z1) ((hb.cell (p := ⟨w.heap.size, 2, none⟩) hsz).trans z2)
    simpa using this)
  obtain ⟨a, c, b, o, rfl, -⟩ := h.parts
  obtain ⟨r, hr⟩ : ∃ r, metB x t = r := ⟨_, rfl⟩
  have hr' : (t.any fun y => fitsB x y.1 y.2.2) = r := hr
  rw [hr'] at C
  rw [hr]
  have HB0 := Lib.hid B0
  obtain ⟨p, q, z⟩ := x
  unfold aggQ
  dsimp only at C HB0 ⊢
  generalize t.length = n at *
  clear hr hr' z0 z1 z2 hsz B0 h hL hs hl hx EN
  generalize bsT p = P at *
  generalize bsT q = Q at *
  generalize bsT z = Z at *
  go_enter Tryz.func71, Tryz.ntmps71
  go_wp2_with (go_at_call 69; (with_reducible refine C.mono ?_); rintro e w1 ⟨rfl, hb⟩; have HB := Lib.hid (HB0.out.trans (hb.mono HB0.out.size)); clear hb)
  go_ret
  exact ⟨rfl, HB.out⟩
end Go.Proofs.YtkcamfcjkjiijaaGreatDoor
