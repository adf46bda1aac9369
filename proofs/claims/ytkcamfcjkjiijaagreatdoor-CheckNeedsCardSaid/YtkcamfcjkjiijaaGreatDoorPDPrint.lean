/-
  The program's Print of a list of paths, and the reference's: what each returns; nothing old turns. Condition of the program's: LaidP.
-/
import Derived.Test.YtkcamfcjkjiijaaGreatDoorPDTrue
import Derived.Test.YtkcamfcjkjiijaaGreatDoorPZHold
import Derived.IntWalk
import Derived.Test.YtkcamfcjkjiijaaGreatDoorPQGroup2
import Derived.Shelf.Strings.BuilderK
import Derived.Test.YtkcamfcjkjiijaaGreatDoorPShelf
import Derived.Test.YtkcamfcjkjiijaaGreatDoorPQAll
import Derived.Test.YtkcamfcjkjiijaaGreatDoorPPSorted2
import Derived.Laws.StructEq
import Derived.Deep.RegionHeld3
import Derived.Shelf.Strings.MapGrows
namespace Go.Proofs.YtkcamfcjkjiijaaGreatDoor
open Go.RowKit
def StepsD (l : List Dv) : Prop := ∀ (i : Nat) x, l[i]? = some x → stepD l i x
end Go.Proofs.YtkcamfcjkjiijaaGreatDoor
namespace Go.Proofs.YtkcamfcjkjiijaaGreatDoor
open Go.RowKit
theorem rises {l : List Dv} (h : StepsD l) : ∀ (d i : Nat) x y, l[i]? = some x → l[i + d + 1]? = some y → x.1 < y.1
  | 0, i, x, y, hx, hy => (h (i + 1) y hy).2 x (by omega) hx
  | d + 1, i, x, y, hx, hy => by
    have hlen := (List.getElem?_eq_some_iff.1 hy).1
    obtain ⟨z, hz⟩ : ∃ z, l[i + d + 1]? = some z := ⟨_, List.getElem?_eq_getElem (by omega)⟩
    exact List.lt_trans (rises h d i x z hx hz) ((h (i + d + 1 + 1) y hy).2 z (by omega) hz)
end Go.Proofs.YtkcamfcjkjiijaaGreatDoor
namespace Go.Proofs.YtkcamfcjkjiijaaGreatDoor
open Go.RowKit Go.Shelf
end Go.Proofs.YtkcamfcjkjiijaaGreatDoor
namespace Go.Proofs.YtkcamfcjkjiijaaGreatDoor
open Go.RowKit Go.Shelf
end Go.Proofs.YtkcamfcjkjiijaaGreatDoor
namespace Go.Proofs.YtkcamfcjkjiijaaGreatDoor
open Go.RowKit
abbrev cellsI (x : It) : Rw := [.string (bsT x.1), .string (bsT x.2.1), .bool x.2.2]
abbrev HoldI (w : World) (v : Value) (l : List It) : Prop := HoldV 3 w v (l.map cellsI)
theorem HoldI.parts {w : World} {v : Value} {l : List It} (h : HoldI w v l) : ∃ (a : Option Addr) (c b o : Nat), v = .slice a l.length c ∧ l.length ≤ c ∧ (0 < l.length → a = some ⟨b, o, none⟩ ∧ b < w.heap.size) ∧
    ∀ (j : Nat) x, l[j]? = some x → w.cell? ⟨b, o + j * 3, none⟩ = some (.string (bsT x.1)) ∧ w.cell? ⟨b, o + j * 3 + 1, none⟩ = some (.string (bsT x.2.1)) ∧ w.cell? ⟨b, o + j * 3 + 2, none⟩ = some (.bool x.2.2) := by
  obtain ⟨a, c, b, o, e, hc, ha, hcell⟩ := h
  rw [List.length_map] at e hc ha
  refine ⟨a, c, b, o, e, hc, ha, fun j x hx => ?_⟩
  have := hcell j (cellsI x) (by rw [List.getElem?_map, hx]; rfl)
  exact ⟨this 0 _ (by omega) rfl, this 1 _ (by omega) rfl, this 2 _ (by omega) rfl⟩
abbrev OwnI (w : World) (base : Nat) (v : Value) (l : List It) : Prop := OwnV 106 3 w base v (l.map cellsI)
theorem cellsI_len (l : List It) : ∀ r ∈ l.map cellsI, r.length = 3 := fun r hr => by obtain ⟨x, _, rfl⟩ := List.mem_map.1 hr; rfl
theorem OwnI.app {w' : World} {base : Nat} {v' : Value} {l : List It} {x : It} {a b : ByteArray} (ha : a.data.toList = x.1) (hb : b.data.toList = x.2.1) (h : w'.ownsRow base 106 3 v' (l.length + 1) ((l.map cellsI).flatten ++ [.string a, .string b, .bool x.2.2])) : OwnI w' base v' (l ++ [x]) := by
  have := OwnV.app (T := 106) (k := 3) (rows := l.map cellsI) (r := cellsI x) (cellsI_len l) rfl (by rw [List.length_map]; rw [strOf ha, strOf hb] at h; exact h)
  unfold OwnI; rw [List.map_append]; exact this
-- Fired triggers
/-- A fired trigger, and the slice value of who waits. -/
abbrev Fp := Fr × Value
abbrev cellsF (p : Fp) : Rw := [.string (bsT p.1.1), p.2]
def InF (w : World) (L : List Fp) : Prop := ∀ p ∈ L, HoldT w p.2 p.1.2
theorem InF.on {w w' : World} {L : List Fp} (h : InF w L) (hb : Below w.heap.size w w') : InF w' L := fun p hp => (h p hp).on hb
theorem HoldT.form {w : World} {v : Value} {l : List Bs} (h : HoldT w v l) : ∃ a c, v = .slice a l.length c := by
  obtain ⟨a, c, b, o, rfl, _⟩ := h; exact ⟨a, c, rfl⟩
def HoldF (w : World) (v : Value) (L : List Fp) : Prop := InF w L ∧ HoldV 2 w v (L.map cellsF)
theorem HoldF.on {w w' : World} {v : Value} {L : List Fp} (h : HoldF w v L) (hb : Below w.heap.size w w') : HoldF w' v L := ⟨h.1.on hb, h.2.on hb⟩
theorem HoldF.parts {w : World} {v : Value} {L : List Fp} (h : HoldF w v L) : ∃ (a : Option Addr) (c b o : Nat), v = .slice a L.length c ∧ L.length ≤ c ∧ (0 < L.length → a = some ⟨b, o, none⟩ ∧ b < w.heap.size) ∧
    ∀ (j : Nat) p, L[j]? = some p → w.cell? ⟨b, o + j * 2, none⟩ = some (.string (bsT p.1.1)) ∧ w.cell? ⟨b, o + j * 2 + 1, none⟩ = some p.2 := by
  obtain ⟨_, a, c, b, o, e, hc, ha, hcell⟩ := h
  rw [List.length_map] at e hc ha
  refine ⟨a, c, b, o, e, hc, ha, fun j x hx => ?_⟩
  have := hcell j (cellsF x) (by rw [List.getElem?_map, hx]; rfl)
  exact ⟨this 0 _ (by omega) rfl, this 1 _ (by omega) rfl⟩
abbrev OwnF (w : World) (base : Nat) (v : Value) (L : List Fp) : Prop := OwnV 267 2 w base v (L.map cellsF)
theorem cellsF_len (l : List Fp) : ∀ r ∈ l.map cellsF, r.length = 2 := fun r hr => by obtain ⟨x, _, rfl⟩ := List.mem_map.1 hr; rfl
theorem OwnF.app {w' : World} {base : Nat} {v' : Value} {L : List Fp} {p : Fp} {a : ByteArray} (ha : a.data.toList = p.1.1) (h : w'.ownsRow base 267 2 v' (L.length + 1) ((L.map cellsF).flatten ++ [.string a, p.2])) : OwnF w' base v' (L ++ [p]) := by
  have := OwnV.app (T := 267) (k := 2) (rows := L.map cellsF) (r := cellsF p) (cellsF_len L) rfl (by rw [List.length_map]; rw [strOf ha] at h; exact h)
  unfold OwnF; rw [List.map_append]; exact this
end Go.Proofs.YtkcamfcjkjiijaaGreatDoor
namespace Go.Proofs.YtkcamfcjkjiijaaGreatDoor
open Go.RowKit
end Go.Proofs.YtkcamfcjkjiijaaGreatDoor
namespace Go.Proofs.YtkcamfcjkjiijaaGreatDoor
open Go.RowKit
end Go.Proofs.YtkcamfcjkjiijaaGreatDoor
namespace Go.Proofs.YtkcamfcjkjiijaaGreatDoor
open Go.RowKit
end Go.Proofs.YtkcamfcjkjiijaaGreatDoor
namespace Go.Proofs.YtkcamfcjkjiijaaGreatDoor
open Go.RowKit
end Go.Proofs.YtkcamfcjkjiijaaGreatDoor
namespace Go.Proofs.YtkcamfcjkjiijaaGreatDoor
open Go.RowKit Go.Shelf
end Go.Proofs.YtkcamfcjkjiijaaGreatDoor
namespace Go.Proofs.YtkcamfcjkjiijaaGreatDoor
open Go.RowKit Go.Shelf
end Go.Proofs.YtkcamfcjkjiijaaGreatDoor
namespace Go.Proofs.YtkcamfcjkjiijaaGreatDoor
open Go.RowKit
abbrev Ls := Bs × List Bs
end Go.Proofs.YtkcamfcjkjiijaaGreatDoor
namespace Go.Proofs.YtkcamfcjkjiijaaGreatDoor
open Go.RowKit
/-- A list, and the slice value of its paths. -/
abbrev Lp := Ls × Value
abbrev aggT (p : Lp) : Value := .agg #[.string (bsT p.1.1), p.2]
def InT (w : World) (L : List Lp) : Prop := ∀ p ∈ L, HoldT w p.2 p.1.2
theorem InT.on {w w' : World} {L : List Lp} (h : InT w L) (hb : Below w.heap.size w w') : InT w' L := fun p hp => (h p hp).on hb
/-- The slice value v holds the lists L, wherever they lie. -/
def HoldL (w : World) (v : Value) (L : List Lp) : Prop :=
  InT w L ∧ ∃ (a : Option Addr) (c b o : Nat), v = .slice a L.length c ∧ L.length ≤ c ∧ (0 < L.length → a = some ⟨b, o, none⟩ ∧ b < w.heap.size) ∧
    ∀ (j : Nat) p, L[j]? = some p → w.cell? ⟨b, o + j * 2, none⟩ = some (.string (bsT p.1.1)) ∧ w.cell? ⟨b, o + j * 2 + 1, none⟩ = some p.2
theorem HoldL.on {w w' : World} {v : Value} {L : List Lp} (h : HoldL w v L) (hb : Below w.heap.size w w') : HoldL w' v L := by
  obtain ⟨hi, a, c, b, o, rfl, hc, ha, hcell⟩ := h
  refine ⟨hi.on hb, a, c, b, o, rfl, hc, fun h0 => ⟨(ha h0).1, Nat.lt_of_lt_of_le (ha h0).2 hb.size⟩, fun j p hj => ?_⟩
  have h0 : 0 < L.length := by have := (List.getElem?_eq_some_iff.1 hj).1; omega
  rw [hb.cell (p := ⟨b, o + j * 2, none⟩) (ha h0).2, hb.cell (p := ⟨b, o + j * 2 + 1, none⟩) (ha h0).2]
  exact hcell j p hj
theorem infoL : (Tryz.prog.info? 63).map (fun i => (i.zero, i.size, i.bytes)) = some (some (.agg #[.string ⟨#[]⟩, .slice none 0 0]), 2, 40) := by kernel_rfl
abbrev lcells (L : List Lp) : List Value := L.flatMap fun p => [.string (bsT p.1.1), p.2]
theorem lcells_at : ∀ (L : List Lp) (t : Nat) (p : Lp), L[t]? = some p → (lcells L)[t * 2]? = some (.string (bsT p.1.1)) ∧ (lcells L)[t * 2 + 1]? = some p.2
  | [], t, x, h => by simp at h
  | g :: l, 0, x, h => by simp at h; subst h; simp [lcells]
  | g :: l, t + 1, x, h => by
    have := lcells_at l t x (by simpa using h)
    have e : (t + 1) * 2 = t * 2 + 1 + 1 := by omega
    have e1 : (t + 1) * 2 + 1 = t * 2 + 1 + 1 + 1 := by omega
    simp only [lcells, List.flatMap_cons, List.cons_append, List.nil_append]
    rw [e1, e]
    simp only [List.getElem?_cons_succ]
    exact this
/-- The slice value v owns the lists L, in a block from base on (their paths lie anywhere). -/
def OwnL (w : World) (base : Nat) (v : Value) (L : List Lp) : Prop := InT w L ∧ w.ownsRow base 63 2 v L.length (lcells L)
theorem OwnL.nil (w : World) (base : Nat) : OwnL w base (.slice none 0 0) [] := ⟨fun p hp => by simp at hp, World.ownsRow_nil _ _ _ _⟩
theorem OwnL.holds {w : World} {base : Nat} {v : Value} {l : List Lp} (h : OwnL w base v l) : HoldL w v l := by
  refine ⟨h.1, ?_⟩
  rcases h.2.2 with ⟨rfl, h0⟩ | ⟨g, cap, cur, rfl, hb, hg, hn, hm, hs, ht⟩
  · have : l = [] := List.eq_nil_of_length_eq_zero h0
    subst this
    exact ⟨none, 0, 0, 0, rfl, Nat.le_refl _, fun h => absurd h (by simp), fun j l hj => by simp at hj⟩
  · refine ⟨some ⟨g, 0, none⟩, cap, g, 0, rfl, hn, fun _ => ⟨rfl, (Array.getElem?_eq_some_iff.1 hg).1⟩, fun j p hj => ?_⟩
    have hj' := (List.getElem?_eq_some_iff.1 hj).1
    obtain ⟨e0, e1⟩ := lcells_at l j p hj
    have hc : ∀ q, q < l.length * 2 → w.cell? ⟨g, q, none⟩ = (lcells l)[q]? := fun q hq => by
      rw [cellRow w g q cur 63 (0, 0) hg, ← ht, List.getElem?_take, if_pos hq, Array.getElem?_toList]
    rw [show 0 + j * 2 = j * 2 by omega, hc _ (by omega), hc _ (by omega)]
    exact ⟨e0, e1⟩
theorem OwnL.mono {w : World} {base B : Nat} {v : Value} {l : List Lp} (h : OwnL w base v l) (hB : B ≤ base) : OwnL w B v l := by
  refine ⟨h.1, h.2.1, ?_⟩
  rcases h.2.2 with hn | ⟨g, cap, cur, hv, hb', rest⟩
  · exact .inl hn
  · exact .inr ⟨g, cap, cur, hv, by omega, rest⟩
theorem grown_ofB {w w' : World} (h : Below w.heap.size w w') : w.grownBy w' none := ⟨h.os, h.tape, h.output, h.size, fun k hk _ => h.block k hk⟩
theorem OwnL.on {w w' : World} {base : Nat} {v : Value} {l : List Lp} (h : OwnL w base v l) (hb : Below w.heap.size w w') : OwnL w' base v l := ⟨h.1.on hb, World.ownsRow.kept h.2 (grown_ofB hb) (by cases v.ownBlock <;> simp)⟩
/-- What holds paths below a row that is turned stays. -/
theorem InT.grown {w w' : World} {B base : Nat} {v : Value} {L M : List Lp} (h : InT w M) (hlow : ∀ p ∈ M, ∀ a n c, p.2 = .slice (some a) n c → a.block < B) (hown : OwnL w base v L) (hB : B ≤ base) (hg : w.grownBy w' v.ownBlock) : InT w' M := fun p hp => by
  obtain ⟨a, c, b, o, e, hc, ha, hcell⟩ := h p hp
  refine ⟨a, c, b, o, e, hc, fun h0 => ⟨(ha h0).1, Nat.lt_of_lt_of_le (ha h0).2 hg.size⟩, fun j l hj => ?_⟩
  have h0 : 0 < p.1.2.length := by have := (List.getElem?_eq_some_iff.1 hj).1; omega
  obtain ⟨e2, hbw⟩ := ha h0
  have hb := hlow p hp _ _ _ (by rw [e, e2])
  refine hg.cell (hcell j l hj) (fun e3 => ?_)
  have := (World.ownsRow.lt hown.2 _ e3.symm).1
  simp only at this hb
  omega
end Go.Proofs.YtkcamfcjkjiijaaGreatDoor
namespace Go.Proofs.YtkcamfcjkjiijaaGreatDoor
open Go.RowKit
end Go.Proofs.YtkcamfcjkjiijaaGreatDoor
namespace Go.Proofs.YtkcamfcjkjiijaaGreatDoor
open Go.RowKit
end Go.Proofs.YtkcamfcjkjiijaaGreatDoor
namespace Go.Proofs.YtkcamfcjkjiijaaGreatDoor
open Go.RowKit
theorem box2 (W : World) (x y : Value) (t : TypeId) : (W.alloc (.cells #[x, y] t)).cell? ⟨W.heap.size, 0, none⟩ = some x ∧ (W.alloc (.cells #[x, y] t)).cell? ⟨W.heap.size, 1, none⟩ = some y := by
  have h := heap_alloc_new W (.cells #[x, y] t)
  exact ⟨by rw [cellRow _ W.heap.size 0 _ t (0, 0) h]; rfl, by rw [cellRow _ W.heap.size 1 _ t (0, 0) h]; rfl⟩
end Go.Proofs.YtkcamfcjkjiijaaGreatDoor
namespace Go.Proofs.YtkcamfcjkjiijaaGreatDoor
open Go.RowKit
theorem nameOf_any (N : ByteArray) (u : Value) (w : World) : Calls Tryz.prog 60 #[.agg #[.string N, u]] w fun e w' => e = .returned (.string N) ∧ Below w.heap.size w w' := by
  obtain ⟨x0, x1⟩ := box2 w (.string N) u 63
  have B0 := Lib.hid ((Below.refl w.heap.size w).alloc (Nat.le_refl _) (.cells #[.string N, u] 63))
  go_enter Tryz.func60, Tryz.ntmps60
  go_wp2
  go_ret
  exact ⟨rfl, B0.out⟩
abbrev nmFxT : Value := .func (.func 60) #[] #[]
end Go.Proofs.YtkcamfcjkjiijaaGreatDoor
namespace Go.Proofs.YtkcamfcjkjiijaaGreatDoor
open Go.RowKit
end Go.Proofs.YtkcamfcjkjiijaaGreatDoor
namespace Go.Proofs.YtkcamfcjkjiijaaGreatDoor
open Go.RowKit
end Go.Proofs.YtkcamfcjkjiijaaGreatDoor
namespace Go.Proofs.YtkcamfcjkjiijaaGreatDoor
open Go.RowKit Go.Shelf
end Go.Proofs.YtkcamfcjkjiijaaGreatDoor
