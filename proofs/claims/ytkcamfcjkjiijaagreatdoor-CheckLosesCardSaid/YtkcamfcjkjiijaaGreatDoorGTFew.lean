/-
  cellarerlaw13's Few: what it returns; nothing turns.
-/
import Derived.Test.YtkcamfcjkjiijaaGreatDoorGGParseF
import Derived.Test.YtkcamfcjkjiijaaGreatDoorGBoxV
import Derived.Test.YtkcamfcjkjiijaaGreatDoorGDPrint
import Derived.Test.YtkcamfcjkjiijaaGreatDoorGSPLines
import Derived.Deep.RegionHeld3
namespace Go.Proofs.YtkcamfcjkjiijaaGreatDoor
open Go.RowKit
def FewI (l : List It) : Prop := l.length ≤ 70 ∧ ∀ x ∈ l, x.1.length ≤ 300 ∧ x.2.1.length ≤ 300
theorem FewI.small {l : List It} (h : FewI l) : SmallI l := fun x hx => by have := h.2 x hx; omega
open Classical in
noncomputable def fewI (l : List It) : Bool := decide (FewI l)
open Classical in
theorem fewI_yes {l : List It} (h : FewI l) : fewI l = true := by unfold fewI; exact decide_eq_true h
open Classical in
theorem fewI_no {l : List It} (h : ¬ FewI l) : fewI l = false := by unfold fewI; exact decide_eq_false h
def FewPostI (l : List It) (w : World) (e : Ending) (w' : World) : Prop := e = .returned (.bool (fewI l)) ∧ w = w'
set_option maxRecDepth 100000 in
set_option maxHeartbeats 8000000 in
theorem fewI_any (v : Value) (l : List It) (w : World) (hb : l.length ≤ maxLen) (hsz : ∀ x ∈ l, x.1.length ≤ maxLen ∧ x.2.1.length ≤ maxLen) (h : HoldI w v l) : Calls Tryz.prog 35 #[v] w (FewPostI l w) := by
  obtain ⟨a, c, b, o, rfl, hc, ha, hcell⟩ := h.parts
  have HC := Lib.hid hcell
  have HSZ := Lib.hid hsz
  have HF : Hid (¬ FewI l → FewPostI l w (.returned (.bool false)) w) := Lib.hid (fun g => ⟨by rw [fewI_no g], rfl⟩)
  have HT : Hid (FewI l → FewPostI l w (.returned (.bool true)) w) := Lib.hid (fun g => ⟨by rw [fewI_yes g], rfl⟩)
  obtain ⟨n, hN⟩ : ∃ n, l.length = n := ⟨_, rfl⟩
  rw [hN] at hc ha hb ⊢
  have HN := Lib.hid hN
  unfold maxLen at hb
  clear hcell hN h hsz
  by_cases h70 : 70 < n
  · have HF2 := Lib.hid (HF.out (fun g => by have := g.1; rw [HN.out] at this; omega))
    go_enter Tryz.func35, Tryz.ntmps35
    go_wp2
    go_ret
    exact HF2.out
  go_enter Tryz.func35, Tryz.ntmps35
  go_wp2
  go_loop [3] (fun i => ∃ k : Nat, k ≤ n ∧ i = .int .i64 k ∧ Hid (∀ (j : Nat) y, j < k → l[j]? = some y → y.1.length ≤ 300 ∧ y.2.1.length ≤ 300)) (fun i => n - (intOf i).toNat)
  case atStart => exact ⟨0, by omega, rfl, Lib.hid (fun j y hj => by omega)⟩
  case round =>
    obtain ⟨k, hk, rfl, H⟩ := hrel
    by_cases hlt : k < n
    · obtain ⟨rfl, hbw⟩ := ha (by omega)
      obtain ⟨x, hx⟩ : ∃ x, l[k]? = some x := ⟨_, List.getElem?_eq_getElem (by rw [HN.out]; exact hlt)⟩
      obtain ⟨c0, c1, c2⟩ := HC.out k x hx
      have hz := HSZ.out x (List.mem_of_getElem? hx)
      unfold maxLen at hz
      obtain ⟨X, hX⟩ : ∃ X, bsT x.1 = X := ⟨_, rfl⟩
      obtain ⟨Y, hY⟩ : ∃ Y, bsT x.2.1 = Y := ⟨_, rfl⟩
      have sX : X.size = x.1.length := by rw [← hX, sizeOf, bytesOf]
      have sY : Y.size = x.2.1.length := by rw [← hY, sizeOf, bytesOf]
      rw [hX] at c0
      rw [hY] at c1
      have HK : Hid (X.size ≤ 300 → Y.size ≤ 300 → ∀ (j : Nat) y, j < k + 1 → l[j]? = some y → y.1.length ≤ 300 ∧ y.2.1.length ≤ 300) := Lib.hid (fun g1 g2 j y hj hy => by
        by_cases e : j = k
        · subst e; rw [hx] at hy; cases hy; omega
        · exact H.out j y (by omega) hy)
      have HNO : Hid (¬ (X.size ≤ 300 ∧ Y.size ≤ 300) → FewPostI l w (.returned (.bool false)) w) := Lib.hid (fun g => HF.out (fun q => g (by have := q.2 x (List.mem_of_getElem? hx); omega)))
      have zX : X.size ≤ 9223372036854775807 := by omega
      have zY : Y.size ≤ 9223372036854775807 := by omega
      clear hX hY sX sY hz hx H
      by_cases g1 : 300 < X.size
      · have HN2 := Lib.hid (HNO.out (by omega))
        clear HNO HK
        go_wp2
        go_ret
        exact HN2.out
      by_cases g2 : 300 < Y.size
      · have HN2 := Lib.hid (HNO.out (by omega))
        clear HNO HK
        go_wp2
        go_ret
        exact HN2.out
      have HK2 := Lib.hid (HK.out (by omega) (by omega))
      clear HK HNO
      go_wp2
      go_round
      case rel => exact ⟨k + 1, by omega, by go_num, HK2⟩
      case measure => simp [intOf]; omega
    · obtain rfl : k = n := by omega
      have HR := Lib.hid (HT.out ⟨by rw [HN.out]; omega, fun y hy => by
        obtain ⟨j, hj⟩ := List.mem_iff_getElem?.1 hy
        exact H.out j y (by have := (List.getElem?_eq_some_iff.1 hj).1; rw [HN.out] at this; exact this) hj⟩)
      clear hlt H HT
      go_wp2
      go_ret
      exact HR.out
def tp (ps : List Bs) : Nat := (ps.map fun s => 1 + min s.length 3000).sum
def tot (L : List Fp) : Nat := (L.map fun p => tp p.1.2).sum
theorem tp_take {ps : List Bs} {t : Nat} {x : Bs} (h : ps[t]? = some x) : tp (ps.take (t + 1)) = tp (ps.take t) + (1 + min x.length 3000) := by
  unfold tp
  rw [List.take_add_one, h, List.map_append, List.sum_append]; simp
theorem tot_take {L : List Fp} {t : Nat} {x : Fp} (h : L[t]? = some x) : tot (L.take (t + 1)) = tot (L.take t) + tp x.1.2 := by
  unfold tot
  rw [List.take_add_one, h, List.map_append, List.sum_append]; simp
theorem sum_take_le : ∀ (l : List Nat) (t : Nat), (l.take t).sum ≤ l.sum
  | [], t => by simp
  | a :: l, 0 => by simp
  | a :: l, t + 1 => by have := sum_take_le l t; simp; omega
theorem tp_le (ps : List Bs) (t : Nat) : tp (ps.take t) ≤ tp ps := by unfold tp; rw [List.map_take]; exact sum_take_le _ _
theorem tot_le (L : List Fp) (t : Nat) : tot (L.take t) ≤ tot L := by unfold tot; rw [List.map_take]; exact sum_take_le _ _
def FewFr (L : List Fp) : Prop := L.length ≤ 70 ∧ (∀ p ∈ L, p.1.1.length ≤ 300 ∧ p.1.2.length ≤ 70) ∧ tot L ≤ 3000
theorem tp_mem {ps : List Bs} {x : Bs} (h : x ∈ ps) : min x.length 3000 < tp ps := by
  obtain ⟨t, ht⟩ := List.mem_iff_getElem?.1 h
  have h1 := tp_take ht
  have h2 := tp_le ps (t + 1)
  omega
theorem tot_mem {L : List Fp} {p : Fp} (h : p ∈ L) : tp p.1.2 ≤ tot L := by
  obtain ⟨t, ht⟩ := List.mem_iff_getElem?.1 h
  have h1 := tot_take ht
  have h2 := tot_le L (t + 1)
  omega
theorem FewFr.small {L : List Fp} (h : FewFr L) {p : Fp} (hp : p ∈ L) : SmallT p.1.2 := fun x hx => by
  have h1 := tp_mem hx
  have h2 := tot_mem hp
  have h3 := h.2.2
  omega
set_option maxRecDepth 100000 in
set_option maxHeartbeats 4000000 in
theorem same2_ref (u v : Value) (l : List Bs) (hl : l.length ≤ 90000) (w : World) (h1 : HoldT w u l) (h2 : HoldT w v l) : Calls Tryz.prog 16 #[u, v] w fun e w' => e = .returned (.bool true) ∧ ∃ q, w' = w.drewN q := by
  obtain ⟨a1, c1, b1, o1, rfl, hc1, ha1, hl1⟩ := h1
  obtain ⟨a2, c2, b2, o2, rfl, hc2, ha2, hl2⟩ := h2
  have H1 := Lib.hid hl1
  have H2 := Lib.hid hl2
  obtain ⟨n, hN⟩ : ∃ n, l.length = n := ⟨_, rfl⟩
  rw [hN] at hc1 ha1 hc2 ha2 hl ⊢
  have HN := Lib.hid hN
  clear hl1 hl2 hN
  go_enter Tryz.func16, Tryz.ntmps16
  go_wp2
  go_loopw [5] (fun i wr => ∃ k : Nat, k ≤ n ∧ i = .int .i64 k ∧ Hid (∃ q, wr = w.drewN q)) (fun i _ => n - (intOf i).toNat)
  case atStart => exact ⟨0, by omega, rfl, Lib.hid ⟨0, rfl⟩⟩
  case round =>
    obtain ⟨k, hk, rfl, HQ⟩ := hrel
    by_cases hlt : k < n
    · obtain ⟨rfl, hbw1⟩ := ha1 (by omega)
      obtain ⟨rfl, hbw2⟩ := ha2 (by omega)
      obtain ⟨x, hx⟩ : ∃ x, l[k]? = some x := ⟨_, List.getElem?_eq_getElem (by rw [HN.out]; exact hlt)⟩
      obtain ⟨q, hw⟩ := HQ.out
      have d0 := H1.out k x hx
      have f0 := H2.out k x hx
      rw [← World.cell?_drewN w q] at d0 f0
      rw [← hw] at d0 f0
      have HMM : Hid (∀ m', ∃ q, wr.drewN m' = w.drewN q) := Lib.hid (fun m' => ⟨q + m', by rw [hw, World.drewN_drewN]⟩)
      generalize (⟨x.toArray⟩ : ByteArray) = X at *
      have q0 := eqT X X
      rw [decide_eq_true rfl] at q0
      clear hx hw HQ
      go_wp2
      go_quiet (fail)
      go_wp2
      go_roundw
      case rel => exact ⟨k + 1, by omega, by go_num, Lib.hid (HMM.out _)⟩
      case measure => simp [intOf]; omega
    · obtain rfl : k = n := by omega
      clear hlt
      go_wp2
      go_ret
      exact ⟨rfl, HQ.out⟩
theorem same2_below (u v : Value) (l : List Bs) (hl : l.length ≤ 90000) (w : World) (h1 : HoldT w u l) (h2 : HoldT w v l) : Calls Tryz.prog 16 #[u, v] w fun e w' => e = .returned (.bool true) ∧ Below w.heap.size w w' := (same2_ref u v l hl w h1 h2).mono (fun e w' ⟨he, q, hq⟩ => ⟨he, by rw [hq]; exact belowQ (Below.refl _ _) q⟩)
end Go.Proofs.YtkcamfcjkjiijaaGreatDoor
namespace Go.Proofs.YtkcamfcjkjiijaaGreatDoor
open Go.RowKit
end Go.Proofs.YtkcamfcjkjiijaaGreatDoor
namespace Go.Proofs.YtkcamfcjkjiijaaGreatDoor
open Go.RowKit
end Go.Proofs.YtkcamfcjkjiijaaGreatDoor
namespace Go.Proofs.YtkcamfcjkjiijaaGreatDoor
open Go.RowKit
theorem HoldT.formxT {w : World} {v : Value} {l : List Bs} (h : HoldT w v l) : ∃ a n c, v = .slice a n c := by
  obtain ⟨a, c, b, o, rfl, _⟩ := h
  exact ⟨_, _, _, rfl⟩
end Go.Proofs.YtkcamfcjkjiijaaGreatDoor
namespace Go.Proofs.YtkcamfcjkjiijaaGreatDoor
open Go.RowKit
def tpxT (ps : List Bs) : Nat := (ps.map fun s => 1 + min s.length 4000).sum
def totxT (L : List Lp) : Nat := (L.map fun p => tpxT p.1.2).sum
theorem tp_takexT {ps : List Bs} {t : Nat} {x : Bs} (h : ps[t]? = some x) : tpxT (ps.take (t + 1)) = tpxT (ps.take t) + (1 + min x.length 4000) := by
  unfold tpxT
  rw [List.take_add_one, h, List.map_append, List.sum_append]; simp
theorem tot_takexT {L : List Lp} {t : Nat} {x : Lp} (h : L[t]? = some x) : totxT (L.take (t + 1)) = totxT (L.take t) + tpxT x.1.2 := by
  unfold totxT
  rw [List.take_add_one, h, List.map_append, List.sum_append]; simp
theorem tp_lexT (ps : List Bs) (t : Nat) : tpxT (ps.take t) ≤ tpxT ps := by unfold tpxT; rw [List.map_take]; exact sum_take_le _ _
theorem tot_lexT (L : List Lp) (t : Nat) : totxT (L.take t) ≤ totxT L := by unfold totxT; rw [List.map_take]; exact sum_take_le _ _
def FewL (L : List Lp) : Prop := L.length ≤ 70 ∧ (∀ p ∈ L, p.1.1.length ≤ 300 ∧ p.1.2.length ≤ 70) ∧ totxT L ≤ 4000
theorem tp_memxT {ps : List Bs} {x : Bs} (h : x ∈ ps) : min x.length 4000 < tpxT ps := by
  obtain ⟨t, ht⟩ := List.mem_iff_getElem?.1 h
  have h1 := tp_takexT ht
  have h2 := tp_lexT ps (t + 1)
  omega
theorem tot_memxT {L : List Lp} {p : Lp} (h : p ∈ L) : tpxT p.1.2 ≤ totxT L := by
  obtain ⟨t, ht⟩ := List.mem_iff_getElem?.1 h
  have h1 := tot_takexT ht
  have h2 := tot_lexT L (t + 1)
  omega
theorem FewL.small {L : List Lp} (h : FewL L) {p : Lp} (hp : p ∈ L) : SmallP p.1.2 := fun x hx => by
  have h1 := tp_memxT hx
  have h2 := tot_memxT hp
  have h3 := h.2.2
  omega
open Classical in
noncomputable def fewL (L : List Lp) : Bool := decide (FewL L)
open Classical in
theorem fewL_yes {L : List Lp} (h : FewL L) : fewL L = true := by unfold fewL; exact decide_eq_true h
open Classical in
theorem fewL_no {L : List Lp} (h : ¬ FewL L) : fewL L = false := by unfold fewL; exact decide_eq_false h
def FewPostL (L : List Lp) (w : World) (e : Ending) (w' : World) : Prop := e = .returned (.bool (fewL L)) ∧ w = w'
set_option maxRecDepth 100000 in
set_option maxHeartbeats 8000000 in
theorem few13_any (v : Value) (L : List Lp) (w : World) (hb : L.length ≤ maxLen) (hsz : ∀ p ∈ L, p.1.1.length ≤ maxLen ∧ p.1.2.length ≤ maxLen ∧ ∀ q ∈ p.1.2, q.length ≤ maxLen) (h : HoldL w v L) : Calls Tryz.prog 33 #[v] w (FewPostL L w) := by
  obtain ⟨hin, a, c, b, o, rfl, hc, ha, hcell⟩ := h
  have HC := Lib.hid hcell
  have HI := Lib.hid hin
  have HSZ := Lib.hid hsz
  have HF : Hid (¬ FewL L → FewPostL L w (.returned (.bool false)) w) := Lib.hid (fun g => ⟨by rw [fewL_no g], rfl⟩)
  have HT : Hid (FewL L → FewPostL L w (.returned (.bool true)) w) := Lib.hid (fun g => ⟨by rw [fewL_yes g], rfl⟩)
  obtain ⟨n, hN⟩ : ∃ n, L.length = n := ⟨_, rfl⟩
  rw [hN] at hc ha hb ⊢
  have HN := Lib.hid hN
  unfold maxLen at hb
  clear hcell hN hsz hin
  by_cases h70 : 70 < n
  · have HF2 := Lib.hid (HF.out (fun g => by have := g.1; rw [HN.out] at this; omega))
    go_enter Tryz.func33, Tryz.ntmps33
    go_wp2
    go_ret
    exact HF2.out
  go_enter Tryz.func33, Tryz.ntmps33
  go_wp2
  go_loop [3, 4] (fun z i => ∃ k s : Nat, k ≤ n ∧ i = .int .i64 k ∧ z = .int .i64 s ∧ s ≤ 4000 ∧ Hid (totxT (L.take k) = s ∧ ∀ (j : Nat) p, j < k → L[j]? = some p → p.1.1.length ≤ 300 ∧ p.1.2.length ≤ 70)) (fun _ i => n - (intOf i).toNat)
  case atStart => exact ⟨0, 0, by omega, rfl, rfl, by omega, Lib.hid ⟨rfl, fun j st hj => by omega⟩⟩
  case round =>
    obtain ⟨k, s, hk, rfl, rfl, hs, HV⟩ := hrel
    by_cases hlt : k < n
    · obtain ⟨rfl, hbw⟩ := ha (by omega)
      obtain ⟨p, hp⟩ : ∃ p, L[k]? = some p := ⟨_, List.getElem?_eq_getElem (by rw [HN.out]; exact hlt)⟩
      obtain ⟨c0, c1⟩ := HC.out k p hp
      have hz := HSZ.out p (List.mem_of_getElem? hp)
      unfold maxLen at hz
      obtain ⟨ai, ci, bi, oi, hpe, hci, hai, hcelli⟩ := HI.out p (List.mem_of_getElem? hp)
      rw [hpe] at c1
      obtain ⟨X, hX⟩ : ∃ X, bsT p.1.1 = X := ⟨_, rfl⟩
      have sX : X.size = p.1.1.length := by rw [← hX, sizeOf, bytesOf]
      have hxb : X.size ≤ 9223372036854775807 := by omega
      rw [hX] at c0
      obtain ⟨m, hM⟩ : ∃ m, p.1.2.length = m := ⟨_, rfl⟩
      rw [hM] at c1 hci hai
      have hmb : m ≤ 9223372036854775807 := by omega
      have HM := Lib.hid hM
      have HSX := Lib.hid sX
      have HP := Lib.hid hp
      have HCI := Lib.hid hcelli
      have HZ := Lib.hid hz.2.2
      have HNO : Hid (¬ (X.size ≤ 300 ∧ m ≤ 70) → FewPostL L w (.returned (.bool false)) w) := Lib.hid (fun g => HF.out (fun q => g (by have := q.2.1 p (List.mem_of_getElem? hp); omega)))
      clear hp hz sX hX hM hcelli hpe
      by_cases hx3 : 300 < X.size
      · have HF2 := Lib.hid (HNO.out (by omega))
        clear HNO
        go_wp2
        go_ret
        exact HF2.out
      by_cases hm70 : 70 < m
      · have HF2 := Lib.hid (HNO.out (by omega))
        clear HNO
        go_wp2
        go_ret
        exact HF2.out
      clear HNO
      go_wp2
      go_loop [3, 5] (fun z i' => ∃ t s' : Nat, t ≤ m ∧ i' = .int .i64 t ∧ z = .int .i64 s' ∧ s' ≤ 4000 ∧ Hid (totxT (L.take k) + tpxT (p.1.2.take t) = s')) (fun _ i' => m - (intOf i').toNat)
      case atStart => exact ⟨0, s, by omega, rfl, rfl, hs, Lib.hid (by rw [HV.out.1]; rfl)⟩
      case round =>
        obtain ⟨t, s', ht, rfl, rfl, hs', HV3⟩ := hrel
        by_cases htm : t < m
        · obtain ⟨rfl, hbi⟩ := hai (by omega)
          obtain ⟨f, hf⟩ : ∃ f, p.1.2[t]? = some f := ⟨_, List.getElem?_eq_getElem (by rw [HM.out]; exact htm)⟩
          have g1 := HCI.out t f hf
          have hfz := HZ.out f (List.mem_of_getElem? hf)
          unfold maxLen at hfz
          obtain ⟨x, hx⟩ : ∃ x : ByteArray, ⟨f.toArray⟩ = x := ⟨_, rfl⟩
          have hxs : x.size = f.length := by rw [← hx, sizeOf, bytesOf]
          rw [hx] at g1
          have HV4 : Hid (totxT (L.take k) + tpxT (p.1.2.take (t + 1)) = s' + (1 + min x.size 4000)) := Lib.hid (by
            rw [tp_takexT hf, ← Nat.add_assoc, HV3.out, hxs])
          have hxb2 : x.size ≤ 9223372036854775807 := by omega
          clear hf hx hxs hfz HV3
          by_cases hr : s' + (1 + min x.size 4000) ≤ 4000
          · have hr2 : ¬ (4000 : Int) < ↑s' + (1 + min (↑x.size) 4000) := by omega
            go_wp2
            go_round
            case rel => exact ⟨t + 1, s' + (1 + min x.size 4000), by omega, by go_num, by congr 1; omega, hr, HV4⟩
            case measure => simp [intOf]; omega
          · have hr2 : (4000 : Int) < ↑s' + (1 + min (↑x.size) 4000) := by omega
            have HF2 := Lib.hid (HF.out (fun q => by
              have h1 := tot_lexT L (k + 1)
              rw [tot_takexT HP.out] at h1
              have h2 := tp_lexT p.1.2 (t + 1)
              have h3 := HV4.out
              have h4 := q.2.2
              omega))
            clear HV4
            go_wp2
            go_ret
            exact HF2.out
        · obtain rfl : t = m := by omega
          have HVN : Hid (totxT (L.take (k + 1)) = s' ∧ ∀ (j : Nat) p, j < k + 1 → L[j]? = some p → p.1.1.length ≤ 300 ∧ p.1.2.length ≤ 70) := Lib.hid (by
            refine ⟨by rw [tot_takexT HP.out, ← HV3.out, List.take_of_length_le (l := p.1.2) (by rw [HM.out]; omega)], fun j q hj hq => ?_⟩
            by_cases e : j = k
            · subst e; rw [HP.out] at hq; cases hq; rw [HM.out, ← HSX.out]; omega
            · exact HV.out.2 j q (by omega) hq)
          clear htm HV3
          go_wp2
          go_round
          case rel => exact ⟨k + 1, s', by omega, by go_num, rfl, hs', HVN⟩
          case measure => simp [intOf]; omega
    · obtain rfl : k = n := by omega
      have HF2 := Lib.hid (HT.out ⟨by rw [HN.out]; omega, fun p hp => by
        obtain ⟨j, hj⟩ := List.mem_iff_getElem?.1 hp
        exact HV.out.2 j p (by have := (List.getElem?_eq_some_iff.1 hj).1; rw [HN.out] at this; exact this) hj, by
        have := HV.out.1; rw [List.take_of_length_le (by rw [HN.out]; omega)] at this; omega⟩)
      clear hlt ha HV
      go_wp2
      go_ret
      exact HF2.out
end Go.Proofs.YtkcamfcjkjiijaaGreatDoor
