/-
  Where a path is: the program's True, the reference's; the reference's Same; the law's Few: what each returns; nothing old turns.
-/
import Derived.Test.YtogkickaebmeoaaDoorDLook
import Derived.Laws.StructEq
namespace Go.Proofs.YtogkickaebmeoaaDoor
open Go.RowKit
def ToPost (l : List Dv) (p q : Bs) (w : World) (e : Ending) (w' : World) : Prop := e = .returned (.string (bsA (toD l p q))) ∧ Below w.heap.size w w'
theorem toD_miss {l : List Dv} {p q : Bs} (h : l.find? (pathIs p) = none) : toD l p q = p := by
  unfold toD
  have : (fun x : Dv => decide (x.1 = p)) = pathIs p := rfl
  rw [this, h]
theorem toD_hit {l : List Dv} {p q : Bs} {x : Dv} (h : l.find? (pathIs p) = some x) : toD l p q = if q ≠ [] ∧ x.2.2 = q then p else x.2.1 := by
  unfold toD
  have : (fun x : Dv => decide (x.1 = p)) = pathIs p := rfl
  rw [this, h]
set_option maxRecDepth 100000 in
set_option maxHeartbeats 8000000 in
theorem true_any (v : Value) (l : List Dv) (hl : l.length ≤ 90000) (p q : ByteArray) (w : World) (h : HoldD w v l) : Calls Tryd.prog 67 #[v, .string p, .string q] w (ToPost l p.data.toList q.data.toList w) := by
  have FA := find9_any v l hl p w h
  have HP : Hid (∀ (s : ByteArray) w', s = bsA (toD l p.data.toList q.data.toList) → Below w.heap.size w w' → ToPost l p.data.toList q.data.toList w (.returned (.string s)) w') := Lib.hid (fun s w' e hb => ⟨by rw [e], hb⟩)
  obtain ⟨a, c, b, o, rfl, hc, ha, hcell⟩ := h.parts
  have he := byEmpty q
  rcases idxD_cases l (pathIs p.data.toList) with ⟨e1, e2⟩ | ⟨k, x, e1, hx, hp, hf⟩
  · rw [e1] at FA
    have HF : Hid (p = bsA (toD l p.data.toList q.data.toList)) := Lib.hid (by rw [toD_miss (List.find?_eq_none.2 (fun y hy => by rw [e2 y hy]; simp))])
    clear e1 e2 hcell h
    go_enter Tryd.func67, Tryd.ntmps67
    go_wp2_with (go_at_call 38; refine FA.mono ?_; rintro e w1 ⟨rfl, hb⟩; have HB := Lib.hid hb; clear hb)
    go_ret
    exact HP.out _ _ HF.out HB.out
  · rw [e1] at FA
    have hk : k < l.length := (List.getElem?_eq_some_iff.1 hx).1
    obtain ⟨rfl, hbw⟩ := ha (by omega)
    obtain ⟨c0, c1, c2⟩ := hcell k x hx
    have HC := Lib.hid (And.intro c1 c2)
    have hq := eqT (bsA x.2.2) q
    rw [bytesOf] at hq
    have HT := Lib.hid (toD_hit (q := q.data.toList) hf)
    have HX2 : Hid (bsA x.2.1 = bsA x.2.1) := Lib.hid rfl
    obtain ⟨n, hN⟩ : ∃ n, l.length = n := ⟨_, rfl⟩
    rw [hN] at hc hl hk FA ⊢
    clear hcell ha hx hp hf e1 hN h c0 c1 c2
    by_cases h3 : x.2.2 = q.data.toList
    · rw [decide_eq_true h3] at hq
      by_cases h4 : q.data.toList = []
      · rw [decide_eq_true h4] at he
        have HF : Hid (bsA x.2.1 = bsA (toD l p.data.toList q.data.toList)) := Lib.hid (by rw [HT.out, if_neg (fun g => g.1 h4)])
        clear h3 h4 HT
        generalize bsA x.2.1 = Y at *
        generalize bsA x.2.2 = Z at *
        go_enter Tryd.func67, Tryd.ntmps67
        go_wp2_with (go_at_call 38; refine FA.mono ?_; rintro e w1 ⟨rfl, hb⟩; have HB := Lib.hid hb; have d1 := (hb.cell (p := ⟨b, o + k * 3 + 1, none⟩) hbw).trans HC.out.1; have d2 := (hb.cell (p := ⟨b, o + k * 3 + 2, none⟩) hbw).trans HC.out.2; clear hb)
        go_ret
        exact HP.out _ _ HF.out HB.out
      · rw [decide_eq_false h4] at he
        have HF : Hid (p = bsA (toD l p.data.toList q.data.toList)) := Lib.hid (by rw [HT.out, if_pos ⟨h4, h3⟩])
        clear h3 h4 HT
        generalize bsA x.2.1 = Y at *
        generalize bsA x.2.2 = Z at *
        go_enter Tryd.func67, Tryd.ntmps67
        go_wp2_with (go_at_call 38; refine FA.mono ?_; rintro e w1 ⟨rfl, hb⟩; have HB := Lib.hid hb; have d1 := (hb.cell (p := ⟨b, o + k * 3 + 1, none⟩) hbw).trans HC.out.1; have d2 := (hb.cell (p := ⟨b, o + k * 3 + 2, none⟩) hbw).trans HC.out.2; clear hb)
        go_ret
        exact HP.out _ _ HF.out HB.out
    · rw [decide_eq_false h3] at hq
      have HF : Hid (bsA x.2.1 = bsA (toD l p.data.toList q.data.toList)) := Lib.hid (by rw [HT.out, if_neg (fun g => h3 g.2)])
      clear h3 HT he
      generalize bsA x.2.1 = Y at *
      generalize bsA x.2.2 = Z at *
      go_enter Tryd.func67, Tryd.ntmps67
      go_wp2_with (go_at_call 38; refine FA.mono ?_; rintro e w1 ⟨rfl, hb⟩; have HB := Lib.hid hb; have d1 := (hb.cell (p := ⟨b, o + k * 3 + 1, none⟩) hbw).trans HC.out.1; have d2 := (hb.cell (p := ⟨b, o + k * 3 + 2, none⟩) hbw).trans HC.out.2; clear hb)
      go_ret
      exact HP.out _ _ HF.out HB.out
set_option maxRecDepth 100000 in
set_option maxHeartbeats 8000000 in
theorem same_ref9 (u v : Value) (l : List Dv) (hl : l.length ≤ 90000) (w : World) (h1 : HoldD w u l) (h2 : HoldD w v l) : Calls Tryd.prog 35 #[u, v] w fun e w' => e = .returned (.bool true) ∧ ∃ q, w' = w.drewN q := by
  obtain ⟨a1, c1, b1, o1, rfl, hc1, ha1, hl1⟩ := h1.parts
  obtain ⟨a2, c2, b2, o2, rfl, hc2, ha2, hl2⟩ := h2.parts
  have H1 := Lib.hid hl1
  have H2 := Lib.hid hl2
  obtain ⟨n, hN⟩ : ∃ n, l.length = n := ⟨_, rfl⟩
  rw [hN] at hc1 ha1 hc2 ha2 hl ⊢
  have HN := Lib.hid hN
  clear hl1 hl2 hN h1 h2
  go_enter Tryd.func35, Tryd.ntmps35
  go_wp2
  go_loopw [5] (fun i wr => ∃ k : Nat, k ≤ n ∧ i = .int .i64 k ∧ Hid (∃ q, wr = w.drewN q)) (fun i _ => n - (intOf i).toNat)
  case atStart => exact ⟨0, by omega, rfl, Lib.hid ⟨0, rfl⟩⟩
  case round =>
    obtain ⟨k, hk, rfl, HQ⟩ := hrel
    by_cases hlt : k < n
    · obtain ⟨rfl, hbw1⟩ := ha1 (by omega)
      obtain ⟨rfl, hbw2⟩ := ha2 (by omega)
      obtain ⟨x, hx⟩ : ∃ x, l[k]? = some x := ⟨_, List.getElem?_eq_getElem (by rw [HN.out]; exact hlt)⟩
      obtain ⟨q, hw⟩ := HQ.out
      obtain ⟨d0, d1, d2⟩ := H1.out k x hx
      obtain ⟨f0, f1, f2⟩ := H2.out k x hx
      rw [← World.cell?_drewN w q] at d0 d1 d2 f0 f1 f2
      rw [← hw] at d0 d1 d2 f0 f1 f2
      have HMM : Hid (∀ m', ∃ q, wr.drewN m' = w.drewN q) := Lib.hid (fun m' => ⟨q + m', by rw [hw, World.drewN_drewN]⟩)
      generalize bsA x.1 = X at *
      generalize bsA x.2.1 = Y at *
      generalize bsA x.2.2 = Z at *
      have q0 := eqT X X
      have q1 := eqT Y Y
      have q2 := eqT Z Z
      rw [decide_eq_true rfl] at q0 q1 q2
      clear hx hw HQ
      go_wp2
      go_quiet (fail)
      go_wp2
      go_roundw
      case rel => exact ⟨k + 1, by omega, by go_num, Lib.hid (HMM.out _)⟩
      case measure => simp [intOf]; omega
    · obtain rfl : k = n := by omega
      clear hlt
      go_wp2
      go_ret
      exact ⟨rfl, HQ.out⟩
end Go.Proofs.YtogkickaebmeoaaDoor
