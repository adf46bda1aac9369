/-
  Overrides without a path: the reference's and the program's Drop; nothing old turns.
-/
import Derived.Test.YtmjfbpiodamamaaGreatDoorOFindR
import Derived.IntWalk
import Derived.BigRegion
namespace Go.Proofs.YtmjfbpiodamamaaGreatDoor
open Go.RowKit
theorem box4_on {w W : World} {a b c d : Value} {t : TypeId} (hb : Below (w.alloc (.cells #[a, b, c, d] t)).heap.size (w.alloc (.cells #[a, b, c, d] t)) W) :
    W.cell? ⟨w.heap.size, 0, none⟩ = some a ∧ W.cell? ⟨w.heap.size, 1, none⟩ = some b ∧ W.cell? ⟨w.heap.size, 2, none⟩ = some c ∧ W.cell? ⟨w.heap.size, 3, none⟩ = some d := by
  obtain ⟨x0, x1, x2, x3⟩ := boxV4 w a b c d t
  have h := fun i => hb.cell (p := ⟨w.heap.size, i, none⟩) (by rw [World.size_alloc]; exact Nat.lt_succ_self _)
  exact ⟨(h 0).trans x0, (h 1).trans x1, (h 2).trans x2, (h 3).trans x3⟩
def offO (p : Bs) (x : Ov) : Bool := !decide (x.1 = p)
def dropO (l : List Ov) (p : Bs) : List Ov := l.filter (offO p)
theorem dropO_keep {l : List Ov} {k : Nat} {x : Ov} {p : Bs} (hx : l[k]? = some x) (h : ¬ x.1 = p) : dropO (l.take (k + 1)) p = dropO (l.take k) p ++ [x] := by
  unfold dropO
  rw [List.take_add_one, hx, List.filter_append]
  simp [offO, h]
theorem dropO_skip {l : List Ov} {k : Nat} {x : Ov} {p : Bs} (hx : l[k]? = some x) (h : x.1 = p) : dropO (l.take (k + 1)) p = dropO (l.take k) p := by
  unfold dropO
  rw [List.take_add_one, hx, List.filter_append]
  simp [offO, h]
theorem dropO_len (l : List Ov) (p : Bs) : (dropO l p).length ≤ l.length := List.length_filter_le _ _
def DropPostO (l : List Ov) (p : Bs) (w : World) (e : Ending) (w' : World) : Prop := ∃ v, e = .returned v ∧ OwnO w' w.heap.size v (dropO l p) ∧ Below w.heap.size w w'
set_option maxRecDepth 100000 in
set_option maxHeartbeats 4000000 in
theorem dropO_ref (v : Value) (l : List Ov) (hl : l.length ≤ 90000) (p : ByteArray) (w : World) (h : HoldO w v l) : Calls Tryz.prog 19 #[v, .string p] w (DropPostO l p.data.toList w) := by
  obtain ⟨a, c, b, o, rfl, hc, ha, hcell⟩ := h.parts
  have HC := Lib.hid hcell
  obtain ⟨i0, hi, hz0, hz1, hz2'⟩ := info_parts infoO
  obtain ⟨n, hN⟩ : ∃ n, l.length = n := ⟨_, rfl⟩
  rw [hN] at hc ha hl ⊢
  have HN := Lib.hid hN
  clear hcell hN h
  go_enter Tryz.func19, Tryz.ntmps19
  go_wp2
  go_loopw [5, 6] (fun u i wr => ∃ k : Nat, k ≤ n ∧ i = .int .i64 k ∧ Hid (OwnO wr w.heap.size u (dropO (l.take k) p.data.toList)) ∧ Hid (Below w.heap.size w wr)) (fun _ i _ => n - (intOf i).toNat)
  case atStart => exact ⟨0, by omega, rfl, Lib.hid (OwnV.nil _ _ _ _), Lib.hid (Below.refl _ _)⟩
  case round =>
    obtain ⟨k, hk, rfl, HO, HB⟩ := hrel
    have hsz := HB.out.size
    by_cases hlt : k < n
    · obtain ⟨rfl, hbw⟩ := ha (by omega)
      obtain ⟨⟨q0, q1, q2, q3⟩, hx⟩ : ∃ x, l[k]? = some x := ⟨_, List.getElem?_eq_getElem (by rw [HN.out]; exact hlt)⟩
      obtain ⟨c0, c1, c2, c3⟩ := HC.out k _ hx
      dsimp only at c0 c1 c2 c3
      rw [← HB.out.cell (p := ⟨b, o + k * 4, none⟩) hbw] at c0
      rw [← HB.out.cell (p := ⟨b, o + k * 4 + 1, none⟩) hbw] at c1
      rw [← HB.out.cell (p := ⟨b, o + k * 4 + 2, none⟩) hbw] at c2
      rw [← HB.out.cell (p := ⟨b, o + k * 4 + 3, none⟩) hbw] at c3
      have hlen : (dropO (l.take k) p.data.toList).length ≤ 90000 := Nat.le_trans (dropO_len _ _) (by rw [List.length_take]; omega)
      have hq := eqT (bsT q0) p
      rw [bytesOf] at hq
      by_cases he : q0 = p.data.toList
      · rw [decide_eq_true he] at hq
        have HK : Hid (dropO (l.take (k + 1)) p.data.toList = dropO (l.take k) p.data.toList) := Lib.hid (dropO_skip hx he)
        generalize bsT q0 = X at *
        clear he hx
        go_wp2
        go_roundw
        case rel => exact ⟨k + 1, by omega, by go_num, Lib.hid (by rw [HK.out]; exact HO.out), HB⟩
        case measure => simp [intOf]; omega
      · rw [decide_eq_false he] at hq
        have HK : Hid (dropO (l.take (k + 1)) p.data.toList = dropO (l.take k) p.data.toList ++ [(q0, q1, q2, q3)]) := Lib.hid (dropO_keep hx he)
        have HX : Hid ((bsT q0).data.toList = q0) := Lib.hid (bytesOf _)
        generalize bsT q0 = X at *
        clear he hx
        go_wp2_with (first
          | (at_builtin; refine wpList_append_own _ rfl _ _ 22 rfl w.heap.size 41 i0 _ 4 40 Tryz.underlying22 hi hz0 hz1 hz2' rfl (by decide) _ _ _ rfl (World.ownsRow.alloc HO.out.2 _) ⟨wr.heap.size, 0, none⟩ 1 1 [.string X, .int .i64 q1, .int .i64 q2, .int .i64 q3] rfl rfl (by intro j u hj; match j, hj with | 0, hj => simp at hj; subst hj; simp [Addr.add] | 1, hj => simp at hj; subst hj; simp [Addr.add] | 2, hj => simp at hj; subst hj; simp [Addr.add] | 3, hj => simp at hj; subst hj; simp [Addr.add]) (by intro u hu; simp at hu; rcases hu with rfl | rfl | rfl | rfl <;> rfl) (by rw [List.length_map]; unfold maxLen; omega) (by rw [List.length_map]; omega) (by simp; omega) ?_))
        intro v' w3 hown' hgrow _
        have HO3 : Hid (OwnO w3 w.heap.size v' (dropO (l.take (k + 1)) p.data.toList)) := Lib.hid (by rw [HK.out]; exact OwnO.app (x := (q0, q1, q2, q3)) HX.out (by first | exact hown' | (rw [List.length_map] at hown'; exact hown')))
        have HB3 : Hid (Below w.heap.size w w3) := Lib.hid (OwnV.below HB.out HO.out hgrow (Nat.le_refl _) (by omega))
        clear hown' hgrow
        go_wp2
        go_roundw
        case rel => exact ⟨k + 1, by omega, by go_num, HO3, HB3⟩
        case measure => simp [intOf]; omega
    · obtain rfl : k = n := by omega
      have HF : Hid (l.take k = l) := Lib.hid (by rw [← HN.out, List.take_length])
      rw [HF.out] at HO
      clear hlt
      go_wp2
      go_ret
      exact ⟨_, rfl, HO.out, HB.out⟩
set_option maxRecDepth 100000 in
set_option maxHeartbeats 4000000 in
theorem kdropO_any (v : Value) (l : List Ov) (hl : l.length ≤ 90000) (p : ByteArray) (w : World) (h : HoldO w v l) : Calls Tryz.prog 43 #[v, kyO, .string p] w (DropPostO l p.data.toList w) := by
  obtain ⟨a, c, b, o, rfl, hc, ha, hcell⟩ := h.parts
  have HC := Lib.hid hcell
  obtain ⟨i0, hi, hz0, hz1, hz2'⟩ := info_parts infoO
  have PA := fun X m u g w => pathOf_any X m u g w
  obtain ⟨n, hN⟩ : ∃ n, l.length = n := ⟨_, rfl⟩
  rw [hN] at hc ha hl ⊢
  have HN := Lib.hid hN
  clear hcell hN h
  unfold kyO
  go_enter Tryz.func43, Tryz.ntmps43
  go_wp2
  go_loopw [7, 12] (fun u i wr => ∃ k : Nat, k ≤ n ∧ i = .int .i64 k ∧ Hid (OwnO wr w.heap.size u (dropO (l.take k) p.data.toList)) ∧ Hid (Below w.heap.size w wr)) (fun _ i _ => n - (intOf i).toNat)
  case atStart => exact ⟨0, by omega, rfl, Lib.hid (OwnV.nil _ _ _ _), Lib.hid (Below.refl _ _)⟩
  case round =>
    obtain ⟨k, hk, rfl, HO, HB⟩ := hrel
    have hsz := HB.out.size
    by_cases hlt : k < n
    · obtain ⟨rfl, hbw⟩ := ha (by omega)
      obtain ⟨⟨q0, q1, q2, q3⟩, hx⟩ : ∃ x, l[k]? = some x := ⟨_, List.getElem?_eq_getElem (by rw [HN.out]; exact hlt)⟩
      obtain ⟨c0, c1, c2, c3⟩ := HC.out k _ hx
      dsimp only at c0 c1 c2 c3
      rw [← HB.out.cell (p := ⟨b, o + k * 4, none⟩) hbw] at c0
      rw [← HB.out.cell (p := ⟨b, o + k * 4 + 1, none⟩) hbw] at c1
      rw [← HB.out.cell (p := ⟨b, o + k * 4 + 2, none⟩) hbw] at c2
      rw [← HB.out.cell (p := ⟨b, o + k * 4 + 3, none⟩) hbw] at c3
      have hlen : (dropO (l.take k) p.data.toList).length ≤ 90000 := Nat.le_trans (dropO_len _ _) (by rw [List.length_take]; omega)
      have hq := eqT (bsT q0) p
      rw [bytesOf] at hq
      have HK := Lib.hid (And.intro (fun h => dropO_skip (p := p.data.toList) hx h) (fun h => dropO_keep (p := p.data.toList) hx h))
      have HX : Hid ((bsT q0).data.toList = q0) := Lib.hid (bytesOf _)
      generalize bsT q0 = X at *
      have HXB := Lib.hid (fun W (hb : Below (wr.alloc (.cells #[.string X, .int .i64 q1, .int .i64 q2, .int .i64 q3] 41)).heap.size (wr.alloc (.cells #[.string X, .int .i64 q1, .int .i64 q2, .int .i64 q3] 41)) W) => box4_on hb)
      have HB1 := Lib.hid ((Below.refl wr.heap.size wr).alloc (Nat.le_refl _) (.cells #[.string X, .int .i64 q1, .int .i64 q2, .int .i64 q3] 41))
      clear hx
      by_cases he : q0 = p.data.toList
      · rw [decide_eq_true he] at hq
        have HKK := Lib.hid (HK.out.1 he)
        clear he HK
        go_wp2_with (go_at_call 34; refine (PA _ _ _ _ _).mono ?_; rintro e w3 ⟨rfl, hb⟩; obtain ⟨d0, d1, d2, d3⟩ := HXB.out _ hb; have HG := Lib.hid (HB1.out.trans (hb.mono HB1.out.size)); clear hb)
        go_roundw
        case rel => exact ⟨k + 1, by omega, by go_num, Lib.hid (by rw [HKK.out]; exact OwnV.on HO.out HG.out), Lib.hid (HB.out.trans (HG.out.mono hsz))⟩
        case measure => simp [intOf]; omega
      · rw [decide_eq_false he] at hq
        have HKK := Lib.hid (HK.out.2 he)
        clear he HK
        go_wp2_with (first
          | (go_at_call 34; refine (PA _ _ _ _ _).mono ?_; rintro e w3 ⟨rfl, hb⟩; obtain ⟨d0, d1, d2, d3⟩ := HXB.out _ hb; have HG := Lib.hid (HB1.out.trans (hb.mono HB1.out.size)); have HO2 : Hid (OwnO w3 w.heap.size _ (dropO (l.take k) p.data.toList)) := Lib.hid (OwnV.on HO.out HG.out); have HB2 := Lib.hid (HB.out.trans (HG.out.mono hsz)); have hsz3 := HB2.out.size; clear hb)
          | (at_builtin; refine wpList_append_own _ rfl _ _ 22 rfl w.heap.size 41 i0 _ 4 40 Tryz.underlying22 hi hz0 hz1 hz2' rfl (by decide) _ _ _ rfl (World.ownsRow.alloc HO2.out.2 _) ⟨w3.heap.size, 0, none⟩ 1 1 [.string X, .int .i64 q1, .int .i64 q2, .int .i64 q3] rfl rfl (by intro j u hj; match j, hj with | 0, hj => simp at hj; subst hj; simp [Addr.add] | 1, hj => simp at hj; subst hj; simp [Addr.add] | 2, hj => simp at hj; subst hj; simp [Addr.add] | 3, hj => simp at hj; subst hj; simp [Addr.add]) (by intro u hu; simp at hu; rcases hu with rfl | rfl | rfl | rfl <;> rfl) (by rw [List.length_map]; unfold maxLen; omega) (by rw [List.length_map]; omega) (by simp; omega) ?_))
        intro v' w4 hown' hgrow _
        have HO3 : Hid (OwnO w4 w.heap.size v' (dropO (l.take (k + 1)) p.data.toList)) := Lib.hid (by rw [HKK.out]; exact OwnO.app (x := (q0, q1, q2, q3)) HX.out (by first | exact hown' | (rw [List.length_map] at hown'; exact hown')))
        have HB3 : Hid (Below w.heap.size w w4) := Lib.hid (OwnV.below HB2.out HO2.out hgrow (Nat.le_refl _) (by omega))
        clear hown' hgrow
        go_wp2
        go_roundw
        case rel => exact ⟨k + 1, by omega, by go_num, HO3, HB3⟩
        case measure => simp [intOf]; omega
    · obtain rfl : k = n := by omega
      have HF : Hid (l.take k = l) := Lib.hid (by rw [← HN.out, List.take_length])
      rw [HF.out] at HO
      clear hlt
      go_wp2
      go_ret
      exact ⟨_, rfl, HO.out, HB.out⟩
set_option maxRecDepth 100000 in
set_option maxHeartbeats 4000000 in
theorem dropO_any (v : Value) (l : List Ov) (hl : l.length ≤ 90000) (p : ByteArray) (w : World) (h : HoldO w v l) : Calls Tryz.prog 17 #[v, .string p] w (DropPostO l p.data.toList w) := by
  have I := kdropO_any v l hl p w h
  have HP : Hid (∀ v w', OwnO w' w.heap.size v (dropO l p.data.toList) → Below w.heap.size w w' → DropPostO l p.data.toList w (.returned v) w') := Lib.hid (fun v w' h1 h2 => ⟨v, rfl, h1, h2⟩)
  obtain ⟨a, c, b, o, rfl, -, -, -⟩ := h.parts
  unfold kyO at I
  clear h hl
  generalize l.length = n at *
  go_enter Tryz.func17, Tryz.ntmps17
  go_wp2_with (go_at_call 43; refine I.mono ?_; rintro e w1 ⟨v1, rfl, h1, hb⟩; have HO := Lib.hid h1; have HB := Lib.hid hb; clear hb h1)
  go_ret
  exact HP.out _ _ HO.out HB.out
end Go.Proofs.YtmjfbpiodamamaaGreatDoor
