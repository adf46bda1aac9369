/-
  cellarerlaw13's Few: what it returns; nothing turns.
-/
import Derived.Test.YtogkickaebmeoaaDoorTRefParse
namespace Go.Proofs.YtogkickaebmeoaaDoor
open Go.RowKit
def tp (ps : List Bs) : Nat := (ps.map fun s => 1 + min s.length 4000).sum
def tot (L : List Lp) : Nat := (L.map fun p => tp p.1.2).sum
theorem tp_take {ps : List Bs} {t : Nat} {x : Bs} (h : ps[t]? = some x) : tp (ps.take (t + 1)) = tp (ps.take t) + (1 + min x.length 4000) := by
  unfold tp
  rw [List.take_add_one, h, List.map_append, List.sum_append]; simp
theorem tot_take {L : List Lp} {t : Nat} {x : Lp} (h : L[t]? = some x) : tot (L.take (t + 1)) = tot (L.take t) + tp x.1.2 := by
  unfold tot
  rw [List.take_add_one, h, List.map_append, List.sum_append]; simp
theorem sum_take_le : ∀ (l : List Nat) (t : Nat), (l.take t).sum ≤ l.sum
  | [], t => by simp
  | a :: l, 0 => by simp
  | a :: l, t + 1 => by have := sum_take_le l t; simp; omega
theorem tp_le (ps : List Bs) (t : Nat) : tp (ps.take t) ≤ tp ps := by unfold tp; rw [List.map_take]; exact sum_take_le _ _
theorem tot_le (L : List Lp) (t : Nat) : tot (L.take t) ≤ tot L := by unfold tot; rw [List.map_take]; exact sum_take_le _ _
def FewL (L : List Lp) : Prop := L.length ≤ 70 ∧ (∀ p ∈ L, p.1.1.length ≤ 300 ∧ p.1.2.length ≤ 70) ∧ tot L ≤ 4000
theorem tp_mem {ps : List Bs} {x : Bs} (h : x ∈ ps) : min x.length 4000 < tp ps := by
  obtain ⟨t, ht⟩ := List.mem_iff_getElem?.1 h
  have h1 := tp_take ht
  have h2 := tp_le ps (t + 1)
  omega
theorem tot_mem {L : List Lp} {p : Lp} (h : p ∈ L) : tp p.1.2 ≤ tot L := by
  obtain ⟨t, ht⟩ := List.mem_iff_getElem?.1 h
  have h1 := tot_take ht
  have h2 := tot_le L (t + 1)
  omega
theorem FewL.small {L : List Lp} (h : FewL L) {p : Lp} (hp : p ∈ L) : SmallP p.1.2 := fun x hx => by
  have h1 := tp_mem hx
  have h2 := tot_mem hp
  have h3 := h.2.2
  omega
open Classical in
noncomputable def fewL (L : List Lp) : Bool := decide (FewL L)
open Classical in
theorem fewL_yes {L : List Lp} (h : FewL L) : fewL L = true := by unfold fewL; exact decide_eq_true h
open Classical in
theorem fewL_no {L : List Lp} (h : ¬ FewL L) : fewL L = false := by unfold fewL; exact decide_eq_false h
def FewPostL (L : List Lp) (w : World) (e : Ending) (w' : World) : Prop := e = .returned (.bool (fewL L)) ∧ w = w'
set_option maxRecDepth 100000 in
set_option maxHeartbeats 8000000 in
theorem few13_any (v : Value) (L : List Lp) (w : World) (hb : L.length ≤ maxLen) (hsz : ∀ p ∈ L, p.1.1.length ≤ maxLen ∧ p.1.2.length ≤ maxLen ∧ ∀ q ∈ p.1.2, q.length ≤ maxLen) (h : HoldL w v L) : Calls Tryd.prog 8 #[v] w (FewPostL L w) := by
  obtain ⟨hin, a, c, b, o, rfl, hc, ha, hcell⟩ := h
  have HC := Lib.hid hcell
  have HI := Lib.hid hin
  have HSZ := Lib.hid hsz
  have HF : Hid (¬ FewL L → FewPostL L w (.returned (.bool false)) w) := Lib.hid (fun g => ⟨by rw [fewL_no g], rfl⟩)
  have HT : Hid (FewL L → FewPostL L w (.returned (.bool true)) w) := Lib.hid (fun g => ⟨by rw [fewL_yes g], rfl⟩)
  obtain ⟨n, hN⟩ : ∃ n, L.length = n := ⟨_, rfl⟩
  rw [hN] at hc ha hb ⊢
  have HN := Lib.hid hN
  unfold maxLen at hb
  clear hcell hN hsz hin
  by_cases h70 : 70 < n
  · have HF2 := Lib.hid (HF.out (fun g => by have := g.1; rw [HN.out] at this; omega))
    go_enter Tryd.func8, Tryd.ntmps8
    go_wp2
    go_ret
    exact HF2.out
  go_enter Tryd.func8, Tryd.ntmps8
  go_wp2
  go_loop [3, 4] (fun z i => ∃ k s : Nat, k ≤ n ∧ i = .int .i64 k ∧ z = .int .i64 s ∧ s ≤ 4000 ∧ Hid (tot (L.take k) = s ∧ ∀ (j : Nat) p, j < k → L[j]? = some p → p.1.1.length ≤ 300 ∧ p.1.2.length ≤ 70)) (fun _ i => n - (intOf i).toNat)
  case atStart => exact ⟨0, 0, by omega, rfl, rfl, by omega, Lib.hid ⟨rfl, fun j st hj => by omega⟩⟩
  case round =>
    obtain ⟨k, s, hk, rfl, rfl, hs, HV⟩ := hrel
    by_cases hlt : k < n
    · obtain ⟨rfl, hbw⟩ := ha (by omega)
      obtain ⟨p, hp⟩ : ∃ p, L[k]? = some p := ⟨_, List.getElem?_eq_getElem (by rw [HN.out]; exact hlt)⟩
      obtain ⟨c0, c1⟩ := HC.out k p hp
      have hz := HSZ.out p (List.mem_of_getElem? hp)
      unfold maxLen at hz
      obtain ⟨ai, ci, bi, oi, hpe, hci, hai, hcelli⟩ := HI.out p (List.mem_of_getElem? hp)
      rw [hpe] at c1
      obtain ⟨X, hX⟩ : ∃ X, bsT p.1.1 = X := ⟨_, rfl⟩
      have sX : X.size = p.1.1.length := by rw [← hX, sizeOf, bytesOf]
      have hxb : X.size ≤ 9223372036854775807 := by omega
      rw [hX] at c0
      obtain ⟨m, hM⟩ : ∃ m, p.1.2.length = m := ⟨_, rfl⟩
      rw [hM] at c1 hci hai
      have hmb : m ≤ 9223372036854775807 := by omega
      have HM := Lib.hid hM
      have HSX := Lib.hid sX
      have HP := Lib.hid hp
      have HCI := Lib.hid hcelli
      have HZ := Lib.hid hz.2.2
      have HNO : Hid (¬ (X.size ≤ 300 ∧ m ≤ 70) → FewPostL L w (.returned (.bool false)) w) := Lib.hid (fun g => HF.out (fun q => g (by have := q.2.1 p (List.mem_of_getElem? hp); omega)))
      clear hp hz sX hX hM hcelli hpe
      by_cases hx3 : 300 < X.size
      · have HF2 := Lib.hid (HNO.out (by omega))
        clear HNO
        go_wp2
        go_ret
        exact HF2.out
      by_cases hm70 : 70 < m
      · have HF2 := Lib.hid (HNO.out (by omega))
        clear HNO
        go_wp2
        go_ret
        exact HF2.out
      clear HNO
      go_wp2
      go_loop [3, 5] (fun z i' => ∃ t s' : Nat, t ≤ m ∧ i' = .int .i64 t ∧ z = .int .i64 s' ∧ s' ≤ 4000 ∧ Hid (tot (L.take k) + tp (p.1.2.take t) = s')) (fun _ i' => m - (intOf i').toNat)
      case atStart => exact ⟨0, s, by omega, rfl, rfl, hs, Lib.hid (by rw [HV.out.1]; rfl)⟩
      case round =>
        obtain ⟨t, s', ht, rfl, rfl, hs', HV3⟩ := hrel
        by_cases htm : t < m
        · obtain ⟨rfl, hbi⟩ := hai (by omega)
          obtain ⟨f, hf⟩ : ∃ f, p.1.2[t]? = some f := ⟨_, List.getElem?_eq_getElem (by rw [HM.out]; exact htm)⟩
          have g1 := HCI.out t f hf
          have hfz := HZ.out f (List.mem_of_getElem? hf)
          unfold maxLen at hfz
          obtain ⟨x, hx⟩ : ∃ x : ByteArray, ⟨f.toArray⟩ = x := ⟨_, rfl⟩
          have hxs : x.size = f.length := by rw [← hx, sizeOf, bytesOf]
          rw [hx] at g1
          have HV4 : Hid (tot (L.take k) + tp (p.1.2.take (t + 1)) = s' + (1 + min x.size 4000)) := Lib.hid (by
            rw [tp_take hf, ← Nat.add_assoc, HV3.out, hxs])
          have hxb2 : x.size ≤ 9223372036854775807 := by omega
          clear hf hx hxs hfz HV3
          by_cases hr : s' + (1 + min x.size 4000) ≤ 4000
          · have hr2 : ¬ (4000 : Int) < ↑s' + (1 + min (↑x.size) 4000) := by omega
            go_wp2
            go_round
            case rel => exact ⟨t + 1, s' + (1 + min x.size 4000), by omega, by go_num, by congr 1; omega, hr, HV4⟩
            case measure => simp [intOf]; omega
          · have hr2 : (4000 : Int) < ↑s' + (1 + min (↑x.size) 4000) := by omega
            have HF2 := Lib.hid (HF.out (fun q => by
              have h1 := tot_le L (k + 1)
              rw [tot_take HP.out] at h1
              have h2 := tp_le p.1.2 (t + 1)
              have h3 := HV4.out
              have h4 := q.2.2
              omega))
            clear HV4
            go_wp2
            go_ret
            exact HF2.out
        · obtain rfl : t = m := by omega
          have HVN : Hid (tot (L.take (k + 1)) = s' ∧ ∀ (j : Nat) p, j < k + 1 → L[j]? = some p → p.1.1.length ≤ 300 ∧ p.1.2.length ≤ 70) := Lib.hid (by
            refine ⟨by rw [tot_take HP.out, ← HV3.out, List.take_of_length_le (l := p.1.2) (by rw [HM.out]; omega)], fun j q hj hq => ?_⟩
            by_cases e : j = k
            · subst e; rw [HP.out] at hq; cases hq; rw [HM.out, ← HSX.out]; omega
            · exact HV.out.2 j q (by omega) hq)
          clear htm HV3
          go_wp2
          go_round
          case rel => exact ⟨k + 1, s', by omega, by go_num, rfl, hs', HVN⟩
          case measure => simp [intOf]; omega
    · obtain rfl : k = n := by omega
      have HF2 := Lib.hid (HT.out ⟨by rw [HN.out]; omega, fun p hp => by
        obtain ⟨j, hj⟩ := List.mem_iff_getElem?.1 hp
        exact HV.out.2 j p (by have := (List.getElem?_eq_some_iff.1 hj).1; rw [HN.out] at this; exact this) hj, by
        have := HV.out.1; rw [List.take_of_length_le (by rw [HN.out]; omega)] at this; omega⟩)
      clear hlt ha HV
      go_wp2
      go_ret
      exact HF2.out
end Go.Proofs.YtogkickaebmeoaaDoor
