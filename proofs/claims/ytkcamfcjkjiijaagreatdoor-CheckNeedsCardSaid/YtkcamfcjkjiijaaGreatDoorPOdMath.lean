/-
  Who is configured, one behind the other, on lists of records; nothing of the program.
-/
import Derived.Test.YtkcamfcjkjiijaaGreatDoorPQAll
import Derived.Laws.BitsLemmas
import Derived.Laws.BitsAllLaws
import Derived.Lib.Itoa
import Derived.Lib.ItoaWalk
import Derived.Sort.Row
import Derived.Lib.Hide
import Derived.ShutString
import Derived.Test.YtkcamfcjkjiijaaGreatDoorPPSortMath
import Derived.Test.YtkcamfcjkjiijaaGreatDoorPPSorted2
import Derived.Test.YtkcamfcjkjiijaaGreatDoorPZHold
import Derived.IntWalk
import Derived.Deep.RegionHeld3
import Derived.RangeFuncBox
import Derived.Test.YtkcamfcjkjiijaaGreatDoorPShelf
import Derived.Test.YtkcamfcjkjiijaaGreatDoorPVPParse
import Derived.Test.YtkcamfcjkjiijaaGreatDoorPQOnes
namespace Go.Proofs.YtkcamfcjkjiijaaGreatDoor
open Go.RowKit
def BigQ (l : List Rl) : Prop := ∀ x ∈ l, x.1.length ≤ maxLen ∧ x.2.1.length ≤ maxLen ∧ x.2.2.length ≤ maxLen
theorem smallR_right {x : Rl} (h : rightR x = true) : x.1.length ≤ 4000 ∧ x.2.1.length ≤ 4000 ∧ x.2.2.length ≤ 4000 := by
  unfold rightR at h
  rw [Bool.and_eq_true] at h
  have h1 : x.1.length ≤ 60 := by
    have := h.1
    unfold nameB at this
    simp only [Bool.and_eq_true, decide_eq_true_eq] at this
    omega
  by_cases h2 : x.2.1 = []
  · rw [if_pos h2, decide_eq_true_eq] at h
    rw [h2, h.2]
    exact ⟨by omega, by simp, by simp⟩
  · rw [if_neg h2, Bool.and_eq_true, decide_eq_true_eq] at h
    have h3 : x.2.1.length ≤ 2 := by
      have := h.2.1
      unfold opB at this
      simp only [Bool.or_eq_true, decide_eq_true_eq] at this
      rcases this with ((((e | e) | e) | e) | e) <;> rw [e] <;> simp
    have h4 : x.2.2.length ≤ 80 := by
      by_cases h80 : 80 < x.2.2.length
      · have := h.2.2
        unfold parseE at this
        rw [if_pos h80] at this
        simp at this
      · omega
    exact ⟨by omega, by omega, by omega⟩
theorem smallQ_right {l : List Rl} (h : l.all rightR = true) : SmallQ l := fun x hx => smallR_right (List.all_eq_true.1 h x hx)
end Go.Proofs.YtkcamfcjkjiijaaGreatDoor
namespace Go.Proofs.YtkcamfcjkjiijaaGreatDoor
open Go.RowKit
def BigG (l : List Gv) : Prop := ∀ x ∈ l, BigQ x.1 ∧ x.1.length ≤ 500
theorem goodG_right {g : List Rl} (h : ¬ badG g = true) : g.all rightR = true := by
  unfold badG at h
  rw [Bool.or_eq_true, not_or] at h
  simpa using h.2
end Go.Proofs.YtkcamfcjkjiijaaGreatDoor
namespace Go.Proofs.YtkcamfcjkjiijaaGreatDoor

end Go.Proofs.YtkcamfcjkjiijaaGreatDoor
namespace Go.Proofs.YtkcamfcjkjiijaaGreatDoor
open Go.Sort Go.RowKit

/-- The letter of a digit below 16. -/
def dgc (d : Nat) : UInt8 := if d < 10 then UInt8.ofNat (48 + d) else UInt8.ofNat (87 + d)
/-- WHAT THE BUFFER OF 65 BYTES HOLDS: from place i on the digits, v what is left of u. -/
structure FInv (b u i v : Nat) (dk : Array UInt8) : Prop where
  size : dk.size = 65
  le : i ≤ 65
  rest : v = u / b ^ (65 - i)
  done : ∀ t, i ≤ t → t < 65 → dk[t]! = dgc (u / b ^ (64 - t) % b)
  pos : i = 65 ∨ 1 ≤ v
theorem FInv.start (b u : Nat) (dk : Array UInt8) (h : dk.size = 65) : FInv b u 65 u dk :=
  ⟨h, Nat.le_refl _, by simp, fun t h1 h2 => by omega, Or.inl rfl⟩
theorem getElem!_set_same' (d : Array UInt8) (i : Nat) (x : UInt8) (h : i < d.size) : (d.setIfInBounds i x)[i]! = x := by
  rw [getElem!_pos _ i (by simpa using h)]; simp
theorem getElem!_set_other' (d : Array UInt8) (i j : Nat) (x : UInt8) (h : j ≠ i) : (d.setIfInBounds i x)[j]! = d[j]! := by
  simp only [getElem!_def, Array.getElem?_setIfInBounds]
  rw [if_neg (fun e => h e.symm)]
end Go.Proofs.YtkcamfcjkjiijaaGreatDoor
namespace Go.Proofs.YtkcamfcjkjiijaaGreatDoor
open Go.RowKit
-- Lists by keys
section
variable {α : Type} (rt : α → Bool) (key : α → Bs)
end
section
variable {α : Type} {rt : α → Bool} {key : α → Bs}
end
end Go.Proofs.YtkcamfcjkjiijaaGreatDoor
namespace Go.Proofs.YtkcamfcjkjiijaaGreatDoor
open Go.RowKit
abbrev agZU (x : Uv) : Value := .agg #[.string (⟨(x.nm).toArray⟩ : ByteArray), .string (⟨(x.vr).toArray⟩ : ByteArray), .int .i64 (x.st), x.dv, x.cv, x.rv, x.fv, x.pv, x.av]
theorem formU3 {w : World} {x : Uv} (h : InU w x) : ∃ a n c, x.dv = .slice a n c := by obtain ⟨⟨a, c, b, o, e, _⟩, _⟩ := h.dp; exact ⟨_, _, _, e⟩
theorem formU4 {w : World} {x : Uv} (h : InU w x) : ∃ a n c, x.cv = .slice a n c := by obtain ⟨a, c, b, o, e, _⟩ := h.cn; exact ⟨_, _, _, e⟩
theorem formU5 {w : World} {x : Uv} (h : InU w x) : ∃ a n c, x.rv = .slice a n c := by obtain ⟨a, c, b, o, e, _⟩ := h.rp; exact ⟨_, _, _, e⟩
theorem formU6 {w : World} {x : Uv} (h : InU w x) : ∃ a n c, x.fv = .slice a n c := by obtain ⟨a, c, b, o, e, _⟩ := h.cf; exact ⟨_, _, _, e⟩
theorem formU7 {w : World} {x : Uv} (h : InU w x) : ∃ a n c, x.pv = .slice a n c := by obtain ⟨a, c, b, o, e, _⟩ := h.pd; exact ⟨_, _, _, e⟩
theorem formU8 {w : World} {x : Uv} (h : InU w x) : ∃ a n c, x.av = .slice a n c := by obtain ⟨a, c, b, o, e, _⟩ := h.aw; exact ⟨_, _, _, e⟩
end Go.Proofs.YtkcamfcjkjiijaaGreatDoor
namespace Go.Proofs.YtkcamfcjkjiijaaGreatDoor
def lo (c : UInt8) : Nat := c.toNat ||| 32
def dv (c : UInt8) : Option Nat := if 48 ≤ c.toNat ∧ c.toNat ≤ 57 then some (c.toNat - 48) else if 97 ≤ lo c ∧ lo c ≤ 122 then some (lo c - 87) else none
def dvb (b : Nat) (c : UInt8) : Option Nat := match dv c with
  | some d => if d < b then some d else none
  | none => none
def pv (b : Nat) : Nat → List UInt8 → Option Nat
  | acc, [] => some acc
  | acc, c :: l => match dvb b c with
    | some d => pv b (acc * b + d) l
    | none => none
end Go.Proofs.YtkcamfcjkjiijaaGreatDoor
namespace Go.Proofs.YtkcamfcjkjiijaaGreatDoor
open Go.RowKit
end Go.Proofs.YtkcamfcjkjiijaaGreatDoor
namespace Go.Proofs.YtkcamfcjkjiijaaGreatDoor
open Go.RowKit
end Go.Proofs.YtkcamfcjkjiijaaGreatDoor
namespace Go.Proofs.YtkcamfcjkjiijaaGreatDoor
open Go.RowKit
end Go.Proofs.YtkcamfcjkjiijaaGreatDoor
namespace Go.Proofs.YtkcamfcjkjiijaaGreatDoor
open Go.RowKit Go.Shelf
end Go.Proofs.YtkcamfcjkjiijaaGreatDoor
namespace Go.Proofs.YtkcamfcjkjiijaaGreatDoor
open Go.RowKit Go.Shelf
end Go.Proofs.YtkcamfcjkjiijaaGreatDoor
namespace Go.Proofs.YtkcamfcjkjiijaaGreatDoor
open Go.RowKit Go.Shelf
end Go.Proofs.YtkcamfcjkjiijaaGreatDoor
namespace Go.Proofs.YtkcamfcjkjiijaaGreatDoor
open Go.RowKit Go.Shelf
/-- A record of some size. -/
structure SmallU (x : Uv) : Prop where
  nm : x.nm.length ≤ 4000
  vr : x.vr.length ≤ 4000
  dn : x.dp.length ≤ 70
  dp : BigG x.dp
  cl : x.cn.length ≤ 70
  cq : BigQ x.cn
  rl : x.rp.length ≤ 4000
  rp : ∀ s ∈ x.rp, s.length ≤ 4000
  fl : x.cf.length ≤ 4000
  cf : ∀ c ∈ x.cf, c.1.length ≤ 4000 ∧ c.2.length ≤ 4000
  pl : x.pd.length ≤ 4000
  pd : ∀ s ∈ x.pd, s.length ≤ 4000
  al : x.aw.length ≤ 4000
  aw : ∀ s ∈ x.aw, s.length ≤ 4000
end Go.Proofs.YtkcamfcjkjiijaaGreatDoor
namespace Go.Proofs.YtkcamfcjkjiijaaGreatDoor
open Go.RowKit
set_option maxHeartbeats 8000000 in
theorem lacks1_any (x : Rl) (hx : Small1 x) (v : Value) (t : List Rl) (hl : t.length ≤ 90000) (hs : SmallQ t) (g : Nat) (w : World) (h : HoldQ w v t) (hL : LaidV w) (h0 : w.cell? ⟨g, 0, none⟩ = some v) : Calls Tryz.prog 70 #[aggQ x, .pointer (some ⟨g, 0, none⟩)] w fun e w' => e = .returned (.bool (metB x t)) ∧ Below w.heap.size w w' := by
  have B0 := (Below.refl w.heap.size w).alloc (Nat.le_refl _) (.cells #[.string (bsT x.1), .string (bsT x.2.1), .string (bsT x.2.2)] 75)
  have M := met_any x hx v t hl hs _ (HoldV.on h B0) (hL.on B0)
  have k0 := (B0.cell (p := ⟨g, 0, none⟩) (World.block_lt_of_cell? w _ h0)).trans h0
  obtain ⟨a, c, b, o, rfl, -⟩ := h.parts
  have HB0 := Lib.hid B0
  obtain ⟨p, q, z⟩ := x
  unfold aggQ at M ⊢
  dsimp only at M HB0 k0 ⊢
  generalize metB (p, q, z) t = r at *
  generalize t.length = n at *
  generalize bsT p = P at *
  generalize bsT q = Q at *
  generalize bsT z = Z at *
  clear B0 h hL hs hl hx h0
  go_enter Tryz.func70, Tryz.ntmps70
  go_wp2_with (go_at_call 71; (with_reducible refine M.mono ?_); rintro e w1 ⟨rfl, hb⟩; have HB := Lib.hid (HB0.out.trans (hb.mono HB0.out.size)); clear hb)
  go_ret
  exact ⟨rfl, HB.out⟩
theorem infoIn : (Tryz.prog.info? 3).map (fun i => (i.zero, i.size, i.bytes)) = some (some (.int .i64 0), 1, 8) := by kernel_rfl
/-- The places below k of groups of which nothing is there. -/
def lackL (t : List Rl) : Nat → List (List Rl) → List Nat
  | _, [] => []
  | k, g :: l => if g.any (fun x => metB x t) then lackL t (k + 1) l else k :: lackL t (k + 1) l
abbrev OwnIn (w : World) (B : Nat) (v : Value) (l : List Nat) : Prop := OwnV 3 1 w B v (l.map fun (k : Nat) => [Value.int .i64 (k : Int)])
theorem lackL_len (t : List Rl) : ∀ (l : List (List Rl)) (k : Nat), (lackL t k l).length ≤ l.length
  | [], k => by simp [lackL]
  | g :: l, k => by
    have := lackL_len t l (k + 1)
    rw [lackL]
    split <;> simp <;> omega
set_option maxRecDepth 100000 in
set_option maxHeartbeats 16000000 in
theorem lacks_any (v u : Value) (l : List Gv) (hl : l.length ≤ 500) (hs : SmallG l) (t : List Rl) (ht : t.length ≤ 90000) (hst : SmallQ t) (w : World) (h : HoldGs w v l) (h2 : HoldQ w u t) (hL : LaidV w) :
    Calls Tryz.prog 37 #[v, u] w fun e w' => ∃ r, e = .returned r ∧ OwnIn w' w.heap.size r (lackL t 0 (fsts l)) ∧ Below w.heap.size w w' := by
  have EN : ∀ args w, (callFunc 70 args).run Tryz.prog w = .ok (.enter 70 args) w := enters_of Tryz.func70 (by kernel_rfl) rfl
  obtain ⟨i0, hi, hz0, hz1, hz2'⟩ := info_parts infoIn
  have B0 := (Below.refl w.heap.size w).alloc (Nat.le_refl _) (.cells #[u] 32)
  have z0 := boxV1 w u 32
  have hsz0 : w.heap.size < (w.alloc (.cells #[u] 32)).heap.size := by rw [World.size_alloc]; omega
  have CF : Hid (∀ (x : Gv), x ∈ l → ∀ W, Below (w.alloc (.cells #[u] 32)).heap.size (w.alloc (.cells #[u] 32)) W → Calls Tryz.prog 69 #[x.2, .func (.func 70) #[] #[.pointer (some ⟨w.heap.size, 0, none⟩)]] W fun e w' => e = .returned (.bool (x.1.any fun y => metB y t)) ∧ Below W.heap.size W w') := Lib.hid (fun x hx W hW =>
    contQ_any 70 #[.pointer (some ⟨w.heap.size, 0, none⟩)] EN (fun y => metB y t) x.2 x.1 (by have := (hs x hx).2; omega) W (HoldV.on (HoldV.on (h.2 x hx) B0) hW) (fun W' y hy hb => by
      have hbW := hW.trans (hb.mono hW.size)
      have := lacks1_any y ((hs x hx).1 y hy) u t ht hst w.heap.size W' (HoldV.on (HoldV.on h2 B0) hbW) ((hL.on B0).on hbW) ((hbW.cell (p := ⟨w.heap.size, 0, none⟩) hsz0).trans z0)
      simpa using this))
  have HG := Lib.hid (h.on B0)
  obtain ⟨a, c, b, o, rfl, hc, ha, hcell⟩ := (h.on B0).parts
  obtain ⟨ua, uc, -, -, rfl, -⟩ := h2.parts
  have HC := Lib.hid hcell
  have HB0 := Lib.hid B0
  obtain ⟨n, hN⟩ : ∃ n, l.length = n := ⟨_, rfl⟩
  rw [hN] at hc ha hl ⊢
  have HN := Lib.hid hN
  generalize t.length = tn at *
  have hfl : (fsts l).length = n := by rw [List.length_map]; exact hN
  have HFL := Lib.hid hfl
  have hlk := lackL_len t (fsts l) 0
  have hlk2 : (lackL t 0 (fsts l)).length ≤ 500 := by omega
  have HLK := Lib.hid hlk2
  clear hcell hN h h2 hs hst hL B0 z0 hsz0 EN hfl hlk hlk2
  go_enter Tryz.func37, Tryz.ntmps37
  go_wp2
  obtain ⟨w0, hw0⟩ : ∃ w0, w.alloc (.cells #[.slice ua tn uc] 32) = w0 := ⟨_, rfl⟩
  rw [hw0] at HG HC HB0 CF ha ⊢
  clear hw0
  have hsz0 := HB0.out.size
  go_loopw [5, 10] (fun u i wr => ∃ (k : Nat) (xs : List Nat), k ≤ n ∧ i = .int .i64 k ∧ Hid (xs ++ lackL t k ((fsts l).drop k) = lackL t 0 (fsts l)) ∧ xs.length ≤ k ∧ Hid (OwnIn wr w0.heap.size u xs) ∧ Hid (Below w0.heap.size w0 wr)) (fun _ i _ => n - (intOf i).toNat)
  case atStart => exact ⟨0, [], by omega, rfl, Lib.hid rfl, by simp, Lib.hid (OwnV.nil _ _ _ _), Lib.hid (Below.refl _ _)⟩
  case round =>
    obtain ⟨k, xs, hk, rfl, HX, hxk, HO, HB⟩ := hrel
    have hsz := HB.out.size
    by_cases hlt : k < n
    · obtain ⟨rfl, hbw⟩ := ha (by omega)
      obtain ⟨⟨g0, sv⟩, hx⟩ : ∃ x, l[k]? = some x := ⟨_, List.getElem?_eq_getElem (by rw [HN.out]; exact hlt)⟩
      have c0 := HC.out k _ hx
      dsimp only at c0
      rw [← HB.out.cell (p := ⟨b, o + k, none⟩) hbw] at c0
      have C := CF.out _ (List.mem_of_getElem? hx) wr HB.out
      dsimp only at C
      obtain ⟨sa, sc, -, -, hsv, -⟩ := (HG.out.2 _ (List.mem_of_getElem? hx)).parts
      dsimp only at hsv
      subst hsv
      have hfx : (fsts l)[k]? = some g0 := by rw [List.getElem?_map, hx]; rfl
      have hdr := drop_atQ hfx
      obtain ⟨r, hr⟩ : ∃ r, (g0.any fun y => metB y t) = r := ⟨_, rfl⟩
      rw [hr] at C
      generalize g0.length = gn at *
      cases r
      · have HX2 : Hid ((xs ++ [k]) ++ lackL t (k + 1) ((fsts l).drop (k + 1)) = lackL t 0 (fsts l)) := Lib.hid (by
          rw [← HX.out, hdr, lackL, hr]; simp)
        clear hx hfx hdr hr HX
        go_wp2_with (first
          | (go_at_call 69; (with_reducible refine C.mono ?_); rintro e w2 ⟨rfl, hb⟩; have HB2 := Lib.hid (HB.out.trans (hb.mono hsz)); have HO2 := Lib.hid (OwnV.on HO.out hb); have hz2 := HB2.out.size; clear hb C HO)
          | (at_builtin; refine wpList_append_own _ rfl _ _ 45 rfl w0.heap.size 3 i0 _ 1 8 Tryz.underlying45 hi hz0 hz1 hz2' rfl (by decide) _ _ _ rfl (World.ownsRow.alloc HO2.out.2 _) ⟨w2.heap.size, 0, none⟩ 1 1 [.int .i64 k] rfl rfl ?c1 ?c2 ?c3 ?c4 ?c5 ?_))
        case c1 =>
          intro j u hj
          match j, hj with
          | 0, hj => simp at hj; subst hj; simp [Addr.add]
        case c2 => intro u hu; simp at hu; subst hu; rfl
        case c3 => rw [List.length_map]; unfold maxLen; omega
        case c4 => rw [List.length_map]; omega
        case c5 => simp; omega
        intro v' w3 hown' hgrow _
        have HO3 : Hid (OwnIn w3 w0.heap.size v' (xs ++ [k])) := Lib.hid (by
          unfold OwnIn
          rw [List.map_append]
          exact OwnV.app HO2.out.1 rfl (by simpa using hown'))
        have HB3 : Hid (Below w0.heap.size w0 w3) := Lib.hid (OwnV.below HB2.out HO2.out hgrow (Nat.le_refl _) hz2)
        clear hown' hgrow
        go_wp2
        go_roundw
        case rel => exact ⟨k + 1, _, by omega, by go_num, HX2, by rw [List.length_append]; show xs.length + 1 ≤ _; omega, HO3, HB3⟩
        case measure => simp [intOf]; omega
      · have HX2 : Hid (xs ++ lackL t (k + 1) ((fsts l).drop (k + 1)) = lackL t 0 (fsts l)) := Lib.hid (by
          rw [← HX.out, hdr, lackL, hr]; simp)
        clear hx hfx hdr hr HX
        go_wp2_with (go_at_call 69; (with_reducible refine C.mono ?_); rintro e w2 ⟨rfl, hb⟩; have HB2 := Lib.hid (HB.out.trans (hb.mono hsz)); have HO2 := Lib.hid (OwnV.on HO.out hb); clear hb C HO)
        go_roundw
        case rel => exact ⟨k + 1, _, by omega, by go_num, HX2, by omega, HO2, HB2⟩
        case measure => simp [intOf]; omega
    · obtain rfl : k = n := by omega
      have HE : Hid (xs = lackL t 0 (fsts l)) := Lib.hid (by rw [← HX.out, List.drop_of_length_le (by rw [HFL.out]; omega), lackL, List.append_nil])
      clear hlt HX
      go_wp2
      go_ret
      exact ⟨_, rfl, by rw [← HE.out]; exact OwnV.mono HO.out hsz0, HB0.out.trans (HB.out.mono hsz0)⟩
end Go.Proofs.YtkcamfcjkjiijaaGreatDoor
namespace Go.Proofs.YtkcamfcjkjiijaaGreatDoor
open Go.RowKit Go.Shelf
def openZ (z : Int) : Bool := decide (z = 3) || decide (z = 4)
def isThere (z : Int) : Bool := decide (z = 7) || decide (z = 6)
abbrev relU (x : Uv) : Rl := (x.nm, [], x.vr)
def thereU (l : List Uv) : List Rl := (l.filter fun x => isThere x.st).map relU
def lackN (t : List Rl) (x : Uv) : Nat := (lackL t 0 (fsts x.dp)).length
def enoughB (t : List Rl) (x : Uv) : Bool := lackN t x == 0
def mayB (s : List Bs) (t : List Rl) (x : Uv) : Bool := !decide (x.nm ∈ s) && openZ x.st && enoughB t x
/-- The next one. -/
def nextU (l : List Uv) (s : List Bs) (t : List Rl) : Option Uv := l.find? (mayB s t)
abbrev nmsU (xs : List Uv) : List Bs := xs.map (·.nm)
abbrev behindU (l xs : List Uv) : List Rl := thereU l ++ xs.map relU
/-- What is planned so far. -/
def PlanTo (l xs : List Uv) : Prop := ∀ (i : Nat) x, xs[i]? = some x → nextU l (nmsU (xs.take i)) (behindU l (xs.take i)) = some x
structure PlanOf (l xs : List Uv) : Prop where
  plan : PlanTo l xs
  done : nextU l (nmsU xs) (behindU l xs) = none
theorem PlanTo.nil (l : List Uv) : PlanTo l [] := fun i x h => by simp at h
theorem next_some {l : List Uv} {s : List Bs} {t : List Rl} {x : Uv} (h : nextU l s t = some x) : x ∈ l ∧ mayB s t x = true := ⟨List.mem_of_find?_eq_some h, List.find?_some h⟩
theorem mayB_parts {s : List Bs} {t : List Rl} {x : Uv} (h : mayB s t x = true) : x.nm ∉ s ∧ openZ x.st = true ∧ enoughB t x = true := by
  unfold mayB at h
  simp only [Bool.and_eq_true, Bool.not_eq_true', decide_eq_false_iff_not] at h
  exact ⟨h.1.1, h.1.2, h.2⟩
theorem nd_len : ∀ (a b : List Bs), a.Nodup → (∀ x ∈ a, x ∈ b) → a.length ≤ b.length
  | [], b, _, _ => Nat.zero_le _
  | x :: a, b, hn, hs => by
    have hx := hs x (by simp)
    have h1 := List.nodup_cons.1 hn
    have ih := nd_len a (b.erase x) h1.2 (fun y hy => (List.mem_erase_of_ne (fun e => h1.1 (by rw [← e]; exact hy))).2 (hs y (List.mem_cons_of_mem _ hy)))
    have h2 := List.length_erase_of_mem hx
    have h3 := List.length_pos_of_mem hx
    simp only [List.length_cons]
    omega
theorem PlanTo.nodup {l xs : List Uv} (h : PlanTo l xs) : (nmsU xs).Nodup := by
  rw [List.nodup_iff_pairwise_ne, List.pairwise_iff_getElem]
  intro i j hi hj hij e
  simp only [List.length_map] at hi hj
  have := (mayB_parts (next_some (h j _ (List.getElem?_eq_getElem hj))).2).1
  refine this ?_
  simp only [List.getElem_map] at e
  rw [← e]
  refine List.mem_map_of_mem ?_
  rw [List.mem_take_iff_getElem]
  exact ⟨i, by omega, rfl⟩
theorem PlanTo.len {l xs : List Uv} (h : PlanTo l xs) : xs.length ≤ l.length := by
  have := nd_len (nmsU xs) (nmsU l) h.nodup (fun n hn => by
    obtain ⟨x, hx, rfl⟩ := List.mem_map.1 hn
    obtain ⟨i, hi, rfl⟩ := List.mem_iff_getElem.1 hx
    exact List.mem_map_of_mem (next_some (h i _ (List.getElem?_eq_getElem hi))).1)
  simpa using this
end Go.Proofs.YtkcamfcjkjiijaaGreatDoor
