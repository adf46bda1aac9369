/-
  Diversions without a path: the reference's and the program's Drop; nothing old turns.
-/
import Derived.Test.YtogkickaebmeoaaDoorDOwn
import Derived.Test.YtogkickaebmeoaaDoorDParse
import Derived.Test.YtogkickaebmeoaaDoorDLook
import Derived.IntWalk
import Derived.BigRegion
namespace Go.Proofs.YtogkickaebmeoaaDoor
open Go.RowKit
def offB (p : Bs) (x : Dv) : Bool := !decide (x.1 = p)
def dropD (l : List Dv) (p : Bs) : List Dv := l.filter (offB p)
theorem drop_keep {l : List Dv} {k : Nat} {x : Dv} {p : Bs} (hx : l[k]? = some x) (h : ¬ x.1 = p) : dropD (l.take (k + 1)) p = dropD (l.take k) p ++ [x] := by
  unfold dropD
  rw [List.take_add_one, hx, List.filter_append]
  simp [offB, h]
theorem drop_skip {l : List Dv} {k : Nat} {x : Dv} {p : Bs} (hx : l[k]? = some x) (h : x.1 = p) : dropD (l.take (k + 1)) p = dropD (l.take k) p := by
  unfold dropD
  rw [List.take_add_one, hx, List.filter_append]
  simp [offB, h]
theorem drop_len (l : List Dv) (p : Bs) : (dropD l p).length ≤ l.length := List.length_filter_le _ _
def DropPost (l : List Dv) (p : Bs) (w : World) (e : Ending) (w' : World) : Prop := ∃ v, e = .returned v ∧ OwnD w' w.heap.size v (dropD l p) ∧ Below w.heap.size w w'
set_option maxRecDepth 100000 in
set_option maxHeartbeats 4000000 in
theorem drop_ref (v : Value) (l : List Dv) (hl : l.length ≤ 90000) (p : ByteArray) (w : World) (h : HoldD w v l) : Calls Tryd.prog 37 #[v, .string p] w (DropPost l p.data.toList w) := by
  obtain ⟨a, c, b, o, rfl, hc, ha, hcell⟩ := h.parts
  have HC := Lib.hid hcell
  obtain ⟨i0, hi, hz0, hz1, hz2'⟩ := info_parts infoD
  obtain ⟨n, hN⟩ : ∃ n, l.length = n := ⟨_, rfl⟩
  rw [hN] at hc ha hl ⊢
  have HN := Lib.hid hN
  clear hcell hN h
  go_enter Tryd.func37, Tryd.ntmps37
  go_wp2
  go_loopw [5, 6] (fun u i wr => ∃ k : Nat, k ≤ n ∧ i = .int .i64 k ∧ Hid (OwnD wr w.heap.size u (dropD (l.take k) p.data.toList)) ∧ Hid (Below w.heap.size w wr)) (fun _ i _ => n - (intOf i).toNat)
  case atStart => exact ⟨0, by omega, rfl, Lib.hid (OwnD.nil _ _), Lib.hid (Below.refl _ _)⟩
  case round =>
    obtain ⟨k, hk, rfl, HO, HB⟩ := hrel
    have hsz := HB.out.size
    by_cases hlt : k < n
    · obtain ⟨rfl, hbw⟩ := ha (by omega)
      obtain ⟨x, hx⟩ : ∃ x, l[k]? = some x := ⟨_, List.getElem?_eq_getElem (by rw [HN.out]; exact hlt)⟩
      obtain ⟨c0, c1, c2⟩ := HC.out k x hx
      rw [← HB.out.cell (p := ⟨b, o + k * 3, none⟩) hbw] at c0
      rw [← HB.out.cell (p := ⟨b, o + k * 3 + 1, none⟩) hbw] at c1
      rw [← HB.out.cell (p := ⟨b, o + k * 3 + 2, none⟩) hbw] at c2
      have hlen : (dropD (l.take k) p.data.toList).length ≤ 90000 := Nat.le_trans (drop_len _ _) (by rw [List.length_take]; omega)
      have hq := eqT (bsA x.1) p
      rw [bytesOf] at hq
      by_cases he : x.1 = p.data.toList
      · rw [decide_eq_true he] at hq
        have HK : Hid (dropD (l.take (k + 1)) p.data.toList = dropD (l.take k) p.data.toList) := Lib.hid (drop_skip hx he)
        generalize bsA x.1 = X at *
        generalize bsA x.2.1 = Y at *
        generalize bsA x.2.2 = Z at *
        clear he hx
        go_wp2
        go_roundw
        case rel => exact ⟨k + 1, by omega, by go_num, Lib.hid (by rw [HK.out]; exact HO.out), HB⟩
        case measure => simp [intOf]; omega
      · rw [decide_eq_false he] at hq
        have HK : Hid (dropD (l.take (k + 1)) p.data.toList = dropD (l.take k) p.data.toList ++ [x]) := Lib.hid (drop_keep hx he)
        have HX : Hid ((bsA x.1).data.toList = x.1 ∧ (bsA x.2.1).data.toList = x.2.1 ∧ (bsA x.2.2).data.toList = x.2.2) := Lib.hid ⟨bytesOf _, bytesOf _, bytesOf _⟩
        generalize bsA x.1 = X at *
        generalize bsA x.2.1 = Y at *
        generalize bsA x.2.2 = Z at *
        clear he hx
        go_wp2_with (first
          | (at_builtin; refine wpList_append_own _ rfl _ _ 52 rfl w.heap.size 54 i0 _ 3 48 Tryd.underlying52 hi hz0 hz1 hz2' rfl (by decide) _ _ _ rfl (World.ownsRow.alloc HO.out _) ⟨wr.heap.size, 0, none⟩ 1 1 [.string X, .string Y, .string Z] rfl rfl (by intro j u hj; match j, hj with | 0, hj => simp at hj; subst hj; simp [Addr.add] | 1, hj => simp at hj; subst hj; simp [Addr.add] | 2, hj => simp at hj; subst hj; simp [Addr.add]) (by intro u hu; simp at hu; rcases hu with rfl | rfl | rfl <;> rfl) (by unfold maxLen; omega) (by omega) (by simp; omega) ?_))
        intro v' w3 hown' hgrow _
        have HO3 : Hid (OwnD w3 w.heap.size v' (dropD (l.take (k + 1)) p.data.toList)) := Lib.hid (by rw [HK.out]; exact OwnD.app HX.out.1 HX.out.2.1 HX.out.2.2 hown')
        have HB3 : Hid (Below w.heap.size w w3) := Lib.hid (OwnD.below HB.out HO.out hgrow (Nat.le_refl _) (by omega))
        clear hown' hgrow
        go_wp2
        go_roundw
        case rel => exact ⟨k + 1, by omega, by go_num, HO3, HB3⟩
        case measure => simp [intOf]; omega
    · obtain rfl : k = n := by omega
      have HF : Hid (l.take k = l) := Lib.hid (by rw [← HN.out, List.take_length])
      rw [HF.out] at HO
      clear hlt
      go_wp2
      go_ret
      exact ⟨_, rfl, HO.out, HB.out⟩
set_option maxRecDepth 100000 in
set_option maxHeartbeats 4000000 in
theorem kdrop_any (v : Value) (l : List Dv) (hl : l.length ≤ 90000) (p : ByteArray) (w : World) (h : HoldD w v l) : Calls Tryd.prog 70 #[v, pathF, .string p] w (DropPost l p.data.toList w) := by
  obtain ⟨a, c, b, o, rfl, hc, ha, hcell⟩ := h.parts
  have HC := Lib.hid hcell
  obtain ⟨i0, hi, hz0, hz1, hz2'⟩ := info_parts infoD
  have PA := fun X Y Z w => pathOf_any X Y Z w
  obtain ⟨n, hN⟩ : ∃ n, l.length = n := ⟨_, rfl⟩
  rw [hN] at hc ha hl ⊢
  have HN := Lib.hid hN
  clear hcell hN h
  unfold pathF
  unfold aggD at PA
  go_enter Tryd.func70, Tryd.ntmps70
  go_wp2
  go_loopw [7, 12] (fun u i wr => ∃ k : Nat, k ≤ n ∧ i = .int .i64 k ∧ Hid (OwnD wr w.heap.size u (dropD (l.take k) p.data.toList)) ∧ Hid (Below w.heap.size w wr)) (fun _ i _ => n - (intOf i).toNat)
  case atStart => exact ⟨0, by omega, rfl, Lib.hid (OwnD.nil _ _), Lib.hid (Below.refl _ _)⟩
  case round =>
    obtain ⟨k, hk, rfl, HO, HB⟩ := hrel
    have hsz := HB.out.size
    by_cases hlt : k < n
    · obtain ⟨rfl, hbw⟩ := ha (by omega)
      obtain ⟨x, hx⟩ : ∃ x, l[k]? = some x := ⟨_, List.getElem?_eq_getElem (by rw [HN.out]; exact hlt)⟩
      obtain ⟨c0, c1, c2⟩ := HC.out k x hx
      rw [← HB.out.cell (p := ⟨b, o + k * 3, none⟩) hbw] at c0
      rw [← HB.out.cell (p := ⟨b, o + k * 3 + 1, none⟩) hbw] at c1
      rw [← HB.out.cell (p := ⟨b, o + k * 3 + 2, none⟩) hbw] at c2
      have hlen : (dropD (l.take k) p.data.toList).length ≤ 90000 := Nat.le_trans (drop_len _ _) (by rw [List.length_take]; omega)
      have hq := eqT (bsA x.1) p
      rw [bytesOf] at hq
      have HK := Lib.hid (And.intro (fun h => drop_skip (p := p.data.toList) hx h) (fun h => drop_keep (p := p.data.toList) hx h))
      have HX : Hid ((bsA x.1).data.toList = x.1 ∧ (bsA x.2.1).data.toList = x.2.1 ∧ (bsA x.2.2).data.toList = x.2.2) := Lib.hid ⟨bytesOf _, bytesOf _, bytesOf _⟩
      generalize bsA x.1 = X at *
      generalize bsA x.2.1 = Y at *
      generalize bsA x.2.2 = Z at *
      have HXB := Lib.hid (box3 wr X Y Z 54)
      have HB1 := Lib.hid ((Below.refl wr.heap.size wr).alloc (Nat.le_refl _) (.cells #[.string X, .string Y, .string Z] 54))
      clear hx
      by_cases he : x.1 = p.data.toList
      · rw [decide_eq_true he] at hq
        have HKK := Lib.hid (HK.out.1 he)
        clear he HK
        go_wp2_with (go_at_call 69; refine (PA _ _ _ _).mono ?_; rintro e w3 ⟨rfl, hb⟩; obtain ⟨d0, d1, d2⟩ := At3.on HXB.out hb; have HG := Lib.hid (HB1.out.trans (hb.mono HB1.out.size)); clear hb)
        go_roundw
        case rel => exact ⟨k + 1, by omega, by go_num, Lib.hid (by rw [HKK.out]; exact World.ownsRow.kept HO.out (grown_of HG.out) (nn_of _)), Lib.hid (HB.out.trans (HG.out.mono hsz))⟩
        case measure => simp [intOf]; omega
      · rw [decide_eq_false he] at hq
        have HKK := Lib.hid (HK.out.2 he)
        clear he HK
        go_wp2_with (first
          | (go_at_call 69; refine (PA _ _ _ _).mono ?_; rintro e w3 ⟨rfl, hb⟩; obtain ⟨d0, d1, d2⟩ := At3.on HXB.out hb; have HG := Lib.hid (HB1.out.trans (hb.mono HB1.out.size)); have HO2 : Hid (OwnD w3 w.heap.size _ (dropD (l.take k) p.data.toList)) := Lib.hid (World.ownsRow.kept HO.out (grown_of HG.out) (nn_of _)); have HB2 := Lib.hid (HB.out.trans (HG.out.mono hsz)); have hsz3 := HB2.out.size; clear hb)
          | (at_builtin; refine wpList_append_own _ rfl _ _ 52 rfl w.heap.size 54 i0 _ 3 48 Tryd.underlying52 hi hz0 hz1 hz2' rfl (by decide) _ _ _ rfl (World.ownsRow.alloc HO2.out _) ⟨w3.heap.size, 0, none⟩ 1 1 [.string X, .string Y, .string Z] rfl rfl (by intro j u hj; match j, hj with | 0, hj => simp at hj; subst hj; simp [Addr.add] | 1, hj => simp at hj; subst hj; simp [Addr.add] | 2, hj => simp at hj; subst hj; simp [Addr.add]) (by intro u hu; simp at hu; rcases hu with rfl | rfl | rfl <;> rfl) (by unfold maxLen; omega) (by omega) (by simp; omega) ?_))
        intro v' w4 hown' hgrow _
        have HO3 : Hid (OwnD w4 w.heap.size v' (dropD (l.take (k + 1)) p.data.toList)) := Lib.hid (by rw [HKK.out]; exact OwnD.app HX.out.1 HX.out.2.1 HX.out.2.2 hown')
        have HB3 : Hid (Below w.heap.size w w4) := Lib.hid (OwnD.below HB2.out HO2.out hgrow (Nat.le_refl _) (by omega))
        clear hown' hgrow
        go_wp2
        go_roundw
        case rel => exact ⟨k + 1, by omega, by go_num, HO3, HB3⟩
        case measure => simp [intOf]; omega
    · obtain rfl : k = n := by omega
      have HF : Hid (l.take k = l) := Lib.hid (by rw [← HN.out, List.take_length])
      rw [HF.out] at HO
      clear hlt
      go_wp2
      go_ret
      exact ⟨_, rfl, HO.out, HB.out⟩
set_option maxRecDepth 100000 in
set_option maxHeartbeats 4000000 in
theorem drop_any (v : Value) (l : List Dv) (hl : l.length ≤ 90000) (p : ByteArray) (w : World) (h : HoldD w v l) : Calls Tryd.prog 34 #[v, .string p] w (DropPost l p.data.toList w) := by
  have I := kdrop_any v l hl p w h
  have HP : Hid (∀ v w', OwnD w' w.heap.size v (dropD l p.data.toList) → Below w.heap.size w w' → DropPost l p.data.toList w (.returned v) w') := Lib.hid (fun v w' h1 h2 => ⟨v, rfl, h1, h2⟩)
  obtain ⟨a, c, b, o, rfl, -, -, -⟩ := h.parts
  unfold pathF at I
  clear h hl
  generalize l.length = n at *
  go_enter Tryd.func34, Tryd.ntmps34
  go_wp2_with (go_at_call 70; refine I.mono ?_; rintro e w1 ⟨v1, rfl, h1, hb⟩; have HO := Lib.hid h1; have HB := Lib.hid hb; clear hb h1)
  go_ret
  exact HP.out _ _ HO.out HB.out
end Go.Proofs.YtogkickaebmeoaaDoor
