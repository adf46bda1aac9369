/-
  The program's Print of a list of paths, and the reference's: what each returns; nothing old turns. Condition of the program's: LaidP.
-/
import Derived.Test.YtkcamfcjkjiijaaGreatDoorGEpHold
import Derived.Test.YtkcamfcjkjiijaaGreatDoorGBoxV
import Derived.IntWalk
import Derived.Laws.StructEq
import Derived.Test.YtkcamfcjkjiijaaGreatDoorGLList
import Derived.Test.YtkcamfcjkjiijaaGreatDoorGSPLines
import Derived.Shelf.Strings.BuilderK
import Derived.Test.YtkcamfcjkjiijaaGreatDoorGShelf
import Derived.Test.YtkcamfcjkjiijaaGreatDoorGTHold
import Derived.Shelf.Strings.MapGrows
import Derived.Test.YtkcamfcjkjiijaaGreatDoorGTMath
import Derived.Test.YtkcamfcjkjiijaaGreatDoorGPClean
import Derived.Test.YtkcamfcjkjiijaaGreatDoorGQHold
namespace Go.Proofs.YtkcamfcjkjiijaaGreatDoor
open Go.RowKit
def StepsD (l : List Dv) : Prop := ∀ (i : Nat) x, l[i]? = some x → stepD l i x
def SmallD (l : List Dv) : Prop := ∀ x ∈ l, x.1.length ≤ 4000 ∧ x.2.1.length ≤ 4000 ∧ x.2.2.length ≤ 4000
end Go.Proofs.YtkcamfcjkjiijaaGreatDoor
namespace Go.Proofs.YtkcamfcjkjiijaaGreatDoor
open Go.RowKit
end Go.Proofs.YtkcamfcjkjiijaaGreatDoor
namespace Go.Proofs.YtkcamfcjkjiijaaGreatDoor
open Go.RowKit
def ToPost (l : List Dv) (p q : Bs) (w : World) (e : Ending) (w' : World) : Prop := e = .returned (.string (bsA (toD l p q))) ∧ Below w.heap.size w w'
theorem toD_miss {l : List Dv} {p q : Bs} (h : l.find? (pathIs p) = none) : toD l p q = p := by
  unfold toD
  have : (fun x : Dv => decide (x.1 = p)) = pathIs p := rfl
  rw [this, h]
theorem toD_hit {l : List Dv} {p q : Bs} {x : Dv} (h : l.find? (pathIs p) = some x) : toD l p q = if q ≠ [] ∧ x.2.2 = q then p else x.2.1 := by
  unfold toD
  have : (fun x : Dv => decide (x.1 = p)) = pathIs p := rfl
  rw [this, h]
set_option maxRecDepth 100000 in
set_option maxHeartbeats 8000000 in
theorem true_any (v : Value) (l : List Dv) (hl : l.length ≤ 90000) (p q : ByteArray) (w : World) (h : HoldD w v l) : Calls Tryz.prog 30 #[v, .string p, .string q] w (ToPost l p.data.toList q.data.toList w) := by
  have FA := find9_any v l hl p w h
  have HP : Hid (∀ (s : ByteArray) w', s = bsA (toD l p.data.toList q.data.toList) → Below w.heap.size w w' → ToPost l p.data.toList q.data.toList w (.returned (.string s)) w') := Lib.hid (fun s w' e hb => ⟨by rw [e], hb⟩)
  obtain ⟨a, c, b, o, rfl, hc, ha, hcell⟩ := h.parts
  have he := byEmpty q
  rcases idxD_cases l (pathIs p.data.toList) with ⟨e1, e2⟩ | ⟨k, x, e1, hx, hp, hf⟩
  · rw [e1] at FA
    have HF : Hid (p = bsA (toD l p.data.toList q.data.toList)) := Lib.hid (by rw [toD_miss (List.find?_eq_none.2 (fun y hy => by rw [e2 y hy]; simp))])
    clear e1 e2 hcell h
    go_enter Tryz.func30, Tryz.ntmps30
    go_wp2_with (go_at_call 66; refine FA.mono ?_; rintro e w1 ⟨rfl, hb⟩; have HB := Lib.hid hb; clear hb)
    go_ret
    exact HP.out _ _ HF.out HB.out
  · rw [e1] at FA
    have hk : k < l.length := (List.getElem?_eq_some_iff.1 hx).1
    obtain ⟨rfl, hbw⟩ := ha (by omega)
    obtain ⟨c0, c1, c2⟩ := hcell k x hx
    have HC := Lib.hid (And.intro c1 c2)
    have hq := eqT (bsA x.2.2) q
    rw [bytesOf] at hq
    have HT := Lib.hid (toD_hit (q := q.data.toList) hf)
    have HX2 : Hid (bsA x.2.1 = bsA x.2.1) := Lib.hid rfl
    obtain ⟨n, hN⟩ : ∃ n, l.length = n := ⟨_, rfl⟩
    rw [hN] at hc hl hk FA ⊢
    clear hcell ha hx hp hf e1 hN h c0 c1 c2
    by_cases h3 : x.2.2 = q.data.toList
    · rw [decide_eq_true h3] at hq
      by_cases h4 : q.data.toList = []
      · rw [decide_eq_true h4] at he
        have HF : Hid (bsA x.2.1 = bsA (toD l p.data.toList q.data.toList)) := Lib.hid (by rw [HT.out, if_neg (fun g => g.1 h4)])
        clear h3 h4 HT
        generalize bsA x.2.1 = Y at *
        generalize bsA x.2.2 = Z at *
        go_enter Tryz.func30, Tryz.ntmps30
        go_wp2_with (go_at_call 66; refine FA.mono ?_; rintro e w1 ⟨rfl, hb⟩; have HB := Lib.hid hb; have d1 := (hb.cell (p := ⟨b, o + k * 3 + 1, none⟩) hbw).trans HC.out.1; have d2 := (hb.cell (p := ⟨b, o + k * 3 + 2, none⟩) hbw).trans HC.out.2; clear hb)
        go_ret
        exact HP.out _ _ HF.out HB.out
      · rw [decide_eq_false h4] at he
        have HF : Hid (p = bsA (toD l p.data.toList q.data.toList)) := Lib.hid (by rw [HT.out, if_pos ⟨h4, h3⟩])
        clear h3 h4 HT
        generalize bsA x.2.1 = Y at *
        generalize bsA x.2.2 = Z at *
        go_enter Tryz.func30, Tryz.ntmps30
        go_wp2_with (go_at_call 66; refine FA.mono ?_; rintro e w1 ⟨rfl, hb⟩; have HB := Lib.hid hb; have d1 := (hb.cell (p := ⟨b, o + k * 3 + 1, none⟩) hbw).trans HC.out.1; have d2 := (hb.cell (p := ⟨b, o + k * 3 + 2, none⟩) hbw).trans HC.out.2; clear hb)
        go_ret
        exact HP.out _ _ HF.out HB.out
    · rw [decide_eq_false h3] at hq
      have HF : Hid (bsA x.2.1 = bsA (toD l p.data.toList q.data.toList)) := Lib.hid (by rw [HT.out, if_neg (fun g => h3 g.2)])
      clear h3 HT he
      generalize bsA x.2.1 = Y at *
      generalize bsA x.2.2 = Z at *
      go_enter Tryz.func30, Tryz.ntmps30
      go_wp2_with (go_at_call 66; refine FA.mono ?_; rintro e w1 ⟨rfl, hb⟩; have HB := Lib.hid hb; have d1 := (hb.cell (p := ⟨b, o + k * 3 + 1, none⟩) hbw).trans HC.out.1; have d2 := (hb.cell (p := ⟨b, o + k * 3 + 2, none⟩) hbw).trans HC.out.2; clear hb)
      go_ret
      exact HP.out _ _ HF.out HB.out
end Go.Proofs.YtkcamfcjkjiijaaGreatDoor
namespace Go.Proofs.YtkcamfcjkjiijaaGreatDoor
open Go.RowKit
theorem rises {l : List Dv} (h : StepsD l) : ∀ (d i : Nat) x y, l[i]? = some x → l[i + d + 1]? = some y → x.1 < y.1
  | 0, i, x, y, hx, hy => (h (i + 1) y hy).2 x (by omega) hx
  | d + 1, i, x, y, hx, hy => by
    have hlen := (List.getElem?_eq_some_iff.1 hy).1
    obtain ⟨z, hz⟩ : ∃ z, l[i + d + 1]? = some z := ⟨_, List.getElem?_eq_getElem (by omega)⟩
    exact List.lt_trans (rises h d i x z hx hz) ((h (i + d + 1 + 1) y hy).2 z (by omega) hz)
end Go.Proofs.YtkcamfcjkjiijaaGreatDoor
namespace Go.Proofs.YtkcamfcjkjiijaaGreatDoor
open Go.RowKit Go.Shelf
end Go.Proofs.YtkcamfcjkjiijaaGreatDoor
namespace Go.Proofs.YtkcamfcjkjiijaaGreatDoor
open Go.RowKit Go.Shelf
end Go.Proofs.YtkcamfcjkjiijaaGreatDoor
namespace Go.Proofs.YtkcamfcjkjiijaaGreatDoor
open Go.RowKit
end Go.Proofs.YtkcamfcjkjiijaaGreatDoor
namespace Go.Proofs.YtkcamfcjkjiijaaGreatDoor
open Go.RowKit Go.Shelf
end Go.Proofs.YtkcamfcjkjiijaaGreatDoor
namespace Go.Proofs.YtkcamfcjkjiijaaGreatDoor
open Go.RowKit Go.Shelf
end Go.Proofs.YtkcamfcjkjiijaaGreatDoor
namespace Go.Proofs.YtkcamfcjkjiijaaGreatDoor
open Go.RowKit
def SmallP (l : List Bs) : Prop := ∀ x ∈ l, x.length ≤ 4000
theorem itself_anyxT (s : ByteArray) (w : World) : Calls Tryz.prog 85 #[.string s] w fun e w' => e = .returned (.string s) ∧ w = w' := by
  go_enter Tryz.func85, Tryz.ntmps85
  go_wp2
  go_ret
  exact ⟨rfl, rfl⟩
abbrev prF : Value := .func (.func 86) #[] #[]
set_option maxRecDepth 100000 in
set_option maxHeartbeats 8000000 in
theorem kcheckP_any (v : Value) (l : List Bs) (hl : l.length ≤ 90000) (hs : SmallP l) (w : World) (hL : LaidP w) (h : HoldT w v l) :
    Calls Tryz.prog 84 #[v, itF, prF] w fun e w' => e = .returned (.int .i64 (chkP l)) ∧ Below w.heap.size w w' := by
  obtain ⟨a, c, b, o, rfl, hc, ha, hcell⟩ := h
  unfold itF prF
  have HC := Lib.hid hcell
  have HL := Lib.hid hL
  have HS := Lib.hid hs
  have IT := fun s W => itself_anyxT s W
  obtain ⟨Z, HZ⟩ : ∃ Z, Hid (chkP l = Z) := ⟨_, rfl⟩
  rw [HZ.out]
  obtain ⟨n, hN⟩ : ∃ n, l.length = n := ⟨_, rfl⟩
  rw [hN] at hc ha hl ⊢
  have HN := Lib.hid hN
  clear hcell hL hs hN
  by_cases h64 : 64 < n
  · have HF : Hid ((22 : Int) = Z) := Lib.hid (by rw [← HZ.out, chkP_long (by rw [HN.out]; exact h64)])
    go_enter Tryz.func84, Tryz.ntmps84
    go_wp2
    go_ret
    exact ⟨reti HF.out, Below.refl _ _⟩
  have HBAD : Hid (∀ (i : Nat) x, l[i]? = some x → ¬ stepP l i x → (1 : Int) = Z) := Lib.hid (fun i x hx g => by rw [← HZ.out, chkP_no (by rw [HN.out]; exact h64) (fun q => g (q i x hx))])
  have HOK : Hid (StepsP l → (0 : Int) = Z) := Lib.hid (fun g => by rw [← HZ.out, chkP_ok (by rw [HN.out]; exact h64) g])
  clear HZ
  go_enter Tryz.func84, Tryz.ntmps84
  go_wp2
  go_loopw [14] (fun i wr => ∃ k : Nat, k ≤ n ∧ i = .int .i64 k ∧ Hid (∀ (j : Nat) y, j < k → l[j]? = some y → stepP l j y) ∧ Hid (Below w.heap.size w wr)) (fun i _ => n - (intOf i).toNat)
  case atStart => exact ⟨0, by omega, rfl, Lib.hid (fun j y hj => by omega), Lib.hid (Below.refl _ _)⟩
  case round =>
    obtain ⟨k, hk, rfl, H, HB⟩ := hrel
    have hsz := HB.out.size
    by_cases hlt : k < n
    · obtain ⟨rfl, hbw⟩ := ha (by omega)
      obtain ⟨x, hx⟩ : ∃ x, l[k]? = some x := ⟨_, List.getElem?_eq_getElem (by rw [HN.out]; exact hlt)⟩
      have c0 := HC.out k x hx
      rw [← HB.out.cell (p := ⟨b, o + k, none⟩) hbw] at c0
      have RA := right_any ⟨x.toArray⟩ (by rw [sizeOf, bytesOf]; exact HS.out x (List.mem_of_getElem? hx)) wr (HL.out.on HB.out)
      have HX := Lib.hid hx
      rw [bytesOf] at RA
      cases hq : right x
      · have HF := Lib.hid (HBAD.out k x HX.out (fun g => by rw [g.1] at hq; cases hq))
        rw [hq] at RA
        clear hq H HBAD HOK HC HS HX hx
        generalize (⟨x.toArray⟩ : ByteArray) = X at *
        go_wp2_with (go_at_call 86; refine RA.mono ?_; rintro e w3 ⟨rfl, hb⟩; have HB3 := Lib.hid (HB.out.trans (hb.mono hsz)); clear hb)
        go_ret
        exact ⟨reti HF.out, HB3.out⟩
      · rw [hq] at RA
        by_cases hk0 : 0 < k
        · obtain ⟨y, hy⟩ : ∃ y, l[k - 1]? = some y := ⟨_, List.getElem?_eq_getElem (by rw [HN.out]; omega)⟩
          have hls := lessT ⟨y.toArray⟩ ⟨x.toArray⟩
          rw [bytesOf, bytesOf] at hls
          have e0 := HC.out (k - 1) y hy
          have hBAD : Hid (¬ y < x → (1 : Int) = Z) := Lib.hid (fun g => HBAD.out k x HX.out (fun q => g (q.2 y hk0 hy)))
          have HNX : Hid (y < x → ∀ (j : Nat) u, j < k + 1 → l[j]? = some u → stepP l j u) := Lib.hid (fun g j u hj hu => by
            by_cases ej : j = k
            · subst ej
              rw [HX.out] at hu; cases hu
              exact ⟨hq, fun u h1 h2 => by rw [hy] at h2; cases h2; exact g⟩
            · exact H.out j u (by omega) hu)
          have HE0 := Lib.hid (fun W (hb : Below w.heap.size w W) => (hb.cell (p := ⟨b, o + (k - 1), none⟩) hbw).trans e0)
          have i0 : (0 : Int) ≤ (k : Int) - 1 := by omega
          have i1 : (k : Int) - 1 < (n : Int) := by omega
          have i2 : ((k : Int) - 1).toNat = k - 1 := by omega
          have i3 : IntKind.i64.wrap ((k : Int) - 1) = (k : Int) - 1 := IntWalk.i64_in _ (by omega)
          have i4 : (0 : Int) < (k : Int) := by omega
          by_cases hlx : y < x
          · rw [decide_eq_true hlx] at hls
            have HK := Lib.hid (HNX.out hlx)
            clear hq H HBAD HC HS HX hx hy e0 hBAD HNX hlx
            generalize (⟨x.toArray⟩ : ByteArray) = X at *
            generalize (⟨y.toArray⟩ : ByteArray) = Y at *
            go_wp2_with (first
              | (go_at_call 86; refine RA.mono ?_; rintro e w3 ⟨rfl, hb⟩; have HB3 := Lib.hid (HB.out.trans (hb.mono hsz)); have e1 := HE0.out _ HB3.out; clear hb)
              | (go_at_call 85; refine (IT _ _).mono ?_; rintro e w4 ⟨rfl, rfl⟩))
            go_roundw
            case rel => exact ⟨k + 1, by omega, by go_num, HK, HB3⟩
            case measure => simp [intOf]; omega
          · rw [decide_eq_false hlx] at hls
            have HF := Lib.hid (hBAD.out hlx)
            clear hq H HBAD HC HS HX hx hy e0 hBAD HNX hlx
            generalize (⟨x.toArray⟩ : ByteArray) = X at *
            generalize (⟨y.toArray⟩ : ByteArray) = Y at *
            go_wp2_with (first
              | (go_at_call 86; refine RA.mono ?_; rintro e w3 ⟨rfl, hb⟩; have HB3 := Lib.hid (HB.out.trans (hb.mono hsz)); have e1 := HE0.out _ HB3.out; clear hb)
              | (go_at_call 85; refine (IT _ _).mono ?_; rintro e w4 ⟨rfl, rfl⟩))
            go_ret
            exact ⟨reti HF.out, HB3.out⟩
        · have i4 : ¬ (0 : Int) < (k : Int) := by omega
          have HK : Hid (∀ (j : Nat) u, j < k + 1 → l[j]? = some u → stepP l j u) := Lib.hid (fun j u hj hu => by
            obtain rfl : j = k := by omega
            rw [HX.out] at hu; cases hu
            exact ⟨hq, fun u h1 h2 => by omega⟩)
          clear hq H HBAD HC HS HX hx hk0
          generalize (⟨x.toArray⟩ : ByteArray) = X at *
          go_wp2_with (go_at_call 86; refine RA.mono ?_; rintro e w3 ⟨rfl, hb⟩; have HB3 := Lib.hid (HB.out.trans (hb.mono hsz)); clear hb)
          go_roundw
          case rel => exact ⟨k + 1, by omega, by go_num, HK, HB3⟩
          case measure => simp [intOf]; omega
    · obtain rfl : k = n := by omega
      have HF := Lib.hid (HOK.out (fun i x hx => H.out i x (by have := (List.getElem?_eq_some_iff.1 hx).1; rw [HN.out] at this; exact this) hx))
      clear hlt H HBAD HOK
      go_wp2
      go_ret
      exact ⟨reti HF.out, HB.out⟩
end Go.Proofs.YtkcamfcjkjiijaaGreatDoor
namespace Go.Proofs.YtkcamfcjkjiijaaGreatDoor
open Go.RowKit
end Go.Proofs.YtkcamfcjkjiijaaGreatDoor
namespace Go.Proofs.YtkcamfcjkjiijaaGreatDoor
open Go.RowKit
theorem box2 (W : World) (x y : Value) (t : TypeId) : (W.alloc (.cells #[x, y] t)).cell? ⟨W.heap.size, 0, none⟩ = some x ∧ (W.alloc (.cells #[x, y] t)).cell? ⟨W.heap.size, 1, none⟩ = some y := by
  have h := heap_alloc_new W (.cells #[x, y] t)
  exact ⟨by rw [cellRow _ W.heap.size 0 _ t (0, 0) h]; rfl, by rw [cellRow _ W.heap.size 1 _ t (0, 0) h]; rfl⟩
set_option maxRecDepth 100000 in
set_option maxHeartbeats 4000000 in
theorem right13_any (N : ByteArray) (hN : N.size ≤ 4000) (u : Value) (ps : List Bs) (hl : ps.length ≤ 90000) (hs : SmallP ps) (w : World) (hL : LaidP w) (h : HoldT w u ps) :
    Calls Tryz.prog 61 #[.agg #[.string N, u]] w fun e w' => e = .returned (.bool (right13 (N.data.toList, ps))) ∧ Below w.heap.size w w' := by
  have B0 := (Below.refl w.heap.size w).alloc (Nat.le_refl _) (.cells #[.string N, u] 63)
  have HB0 := Lib.hid B0
  have HX := Lib.hid (box2 w (.string N) u 63)
  have NM := fun W => name_any N hN W
  have KC := kcheckP_any u ps hl hs _ (hL.on B0) (h.on B0)
  unfold itF prF at KC
  obtain ⟨R, HR⟩ : ∃ R, Hid (right13 (N.data.toList, ps) = R) := ⟨_, rfl⟩
  rw [HR.out]
  unfold right13 at HR
  dsimp only at HR
  clear B0 h hL hs
  cases hn : nameB N.data.toList
  · have HF : Hid (false = R) := Lib.hid (by rw [← HR.out, hn, Bool.false_and])
    simp only [hn] at NM
    clear hn HR KC
    obtain ⟨x0, x1⟩ := HX.out
    go_enter Tryz.func61, Tryz.ntmps61
    go_wp2_with (go_at_call 83; refine (NM _).mono ?_; rintro e w1 ⟨rfl, rfl⟩)
    go_ret
    exact ⟨retb HF.out, HB0.out⟩
  · have HF : Hid (decide (chkP ps = 0) = R) := Lib.hid (by rw [← HR.out, hn, Bool.true_and])
    simp only [hn] at NM
    have hz := chkP_ways ps
    clear hn HR
    obtain ⟨x0, x1⟩ := HX.out
    generalize chkP ps = z at *
    rcases hz with rfl | rfl | rfl
    all_goals
      go_enter Tryz.func61, Tryz.ntmps61
      go_wp2_with (first
        | (go_at_call 83; refine (NM _).mono ?_; rintro e w1 ⟨rfl, rfl⟩)
        | (go_at_call 84; refine KC.mono ?_; rintro e w2 ⟨rfl, hb⟩; have HB2 := Lib.hid (HB0.out.trans (hb.mono HB0.out.size)); clear hb))
      go_ret
      exact ⟨retb HF.out, HB2.out⟩
end Go.Proofs.YtkcamfcjkjiijaaGreatDoor
namespace Go.Proofs.YtkcamfcjkjiijaaGreatDoor
open Go.RowKit Go.Shelf
end Go.Proofs.YtkcamfcjkjiijaaGreatDoor
