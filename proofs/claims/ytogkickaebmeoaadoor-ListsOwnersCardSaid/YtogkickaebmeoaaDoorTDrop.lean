/-
  Lists without a name: the reference's and the program's Drop; nothing old turns.
-/
import Derived.Test.YtogkickaebmeoaaDoorTFind
import Derived.Laws.OwnMore
import Derived.IntWalk
import Derived.BigRegion
namespace Go.Proofs.YtogkickaebmeoaaDoor
open Go.RowKit
theorem nn_ofB (o : Option Nat) : o = none ∨ o ≠ none := by cases o <;> simp
/-- The slice value v owns the cells of the lists L, in a block from base on. -/
def OwnC (w : World) (base : Nat) (v : Value) (L : List Lp) : Prop := w.ownsRow base 24 2 v L.length (lcells L)
theorem OwnC.nil (w : World) (base : Nat) : OwnC w base (.slice none 0 0) [] := World.ownsRow_nil _ _ _ _
theorem OwnC.holds {w : World} {base : Nat} {v : Value} {l : List Lp} (h : OwnC w base v l) (hi : InT w l) : HoldL w v l := OwnL.holds ⟨hi, h⟩
theorem OwnC.mono {w : World} {base B : Nat} {v : Value} {l : List Lp} (h : OwnC w base v l) (hB : B ≤ base) : OwnC w B v l := by
  refine ⟨h.1, ?_⟩
  rcases h.2 with hn | ⟨g, cap, cur, hv, hb', rest⟩
  · exact .inl hn
  · exact .inr ⟨g, cap, cur, hv, by omega, rest⟩
theorem OwnC.app {w' : World} {base : Nat} {v' : Value} {l : List Lp} {x : Lp} {a : ByteArray} {u : Value} (ha : bsT x.1.1 = a) (hu : x.2 = u) (h : w'.ownsRow base 24 2 v' (l.length + 1) (lcells l ++ [.string a, u])) : OwnC w' base v' (l ++ [x]) := by
  have e : lcells (l ++ [x]) = lcells l ++ [.string a, u] := by simp [lcells, ha, hu]
  unfold OwnC
  rw [e, List.length_append]
  exact h
theorem OwnC.below {B : Nat} {w0 w w' : World} {o : Obj} {base : Nat} {v : Value} {l : List Lp} (h : Below B w0 w) (hown : OwnC w base v l) (hg : (w.alloc o).grownBy w' v.ownBlock) (hB : B ≤ base) (hBw : B ≤ w.heap.size) : Below B w0 w' :=
  (h.alloc hBw o).grown hg (by simp; omega) (fun k hk => by have := (World.ownsRow.lt hown k hk).1; omega)
def offT (p : Bs) (x : Lp) : Bool := !decide (x.1.1 = p)
def dropL (l : List Lp) (p : Bs) : List Lp := l.filter (offT p)
theorem dropL_keep {l : List Lp} {k : Nat} {x : Lp} {p : Bs} (hx : l[k]? = some x) (h : ¬ x.1.1 = p) : dropL (l.take (k + 1)) p = dropL (l.take k) p ++ [x] := by
  unfold dropL
  rw [List.take_add_one, hx, List.filter_append]
  simp [offT, h]
theorem dropL_skip {l : List Lp} {k : Nat} {x : Lp} {p : Bs} (hx : l[k]? = some x) (h : x.1.1 = p) : dropL (l.take (k + 1)) p = dropL (l.take k) p := by
  unfold dropL
  rw [List.take_add_one, hx, List.filter_append]
  simp [offT, h]
theorem dropL_len (l : List Lp) (p : Bs) : (dropL l p).length ≤ l.length := List.length_filter_le _ _
def DropPostL (l : List Lp) (p : Bs) (w : World) (e : Ending) (w' : World) : Prop := ∃ v, e = .returned v ∧ OwnC w' w.heap.size v (dropL l p) ∧ Below w.heap.size w w'
set_option maxRecDepth 100000 in
set_option maxHeartbeats 4000000 in
theorem drop13_ref (v : Value) (l : List Lp) (hl : l.length ≤ 90000) (p : ByteArray) (w : World) (h : HoldL w v l) : Calls Tryd.prog 22 #[v, .string p] w (DropPostL l p.data.toList w) := by
  obtain ⟨hin, a, c, b, o, rfl, hc, ha, hcell⟩ := h
  have HI := Lib.hid hin
  have HC := Lib.hid hcell
  obtain ⟨i0, hi, hz0, hz1, hz2'⟩ := info_parts infoL
  obtain ⟨n, hN⟩ : ∃ n, l.length = n := ⟨_, rfl⟩
  rw [hN] at hc ha hl ⊢
  have HN := Lib.hid hN
  clear hcell hN hin
  go_enter Tryd.func22, Tryd.ntmps22
  go_wp2
  go_loopw [5, 6] (fun u i wr => ∃ k : Nat, k ≤ n ∧ i = .int .i64 k ∧ Hid (OwnC wr w.heap.size u (dropL (l.take k) p.data.toList)) ∧ Hid (Below w.heap.size w wr)) (fun _ i _ => n - (intOf i).toNat)
  case atStart => exact ⟨0, by omega, rfl, Lib.hid (OwnC.nil _ _), Lib.hid (Below.refl _ _)⟩
  case round =>
    obtain ⟨k, hk, rfl, HO, HB⟩ := hrel
    have hsz := HB.out.size
    by_cases hlt : k < n
    · obtain ⟨rfl, hbw⟩ := ha (by omega)
      obtain ⟨x, hx⟩ : ∃ x, l[k]? = some x := ⟨_, List.getElem?_eq_getElem (by rw [HN.out]; exact hlt)⟩
      obtain ⟨c0, c1⟩ := HC.out k x hx
      obtain ⟨ua, un, uc, hu⟩ := HoldT.form (HI.out x (List.mem_of_getElem? hx))
      rw [hu] at c1
      rw [← HB.out.cell (p := ⟨b, o + k * 2, none⟩) hbw] at c0
      rw [← HB.out.cell (p := ⟨b, o + k * 2 + 1, none⟩) hbw] at c1
      have hlen : (dropL (l.take k) p.data.toList).length ≤ 90000 := Nat.le_trans (dropL_len _ _) (by rw [List.length_take]; omega)
      have hq := eqT (bsT x.1.1) p
      rw [bytesOf] at hq
      by_cases he : x.1.1 = p.data.toList
      · rw [decide_eq_true he] at hq
        have HK : Hid (dropL (l.take (k + 1)) p.data.toList = dropL (l.take k) p.data.toList) := Lib.hid (dropL_skip hx he)
        generalize hX : bsT x.1.1 = X at *
        have HX := Lib.hid (And.intro hX hu)
        clear he hx hu hX
        go_wp2
        go_roundw
        case rel => exact ⟨k + 1, by omega, by go_num, Lib.hid (by rw [HK.out]; exact HO.out), HB⟩
        case measure => simp [intOf]; omega
      · rw [decide_eq_false he] at hq
        have HK : Hid (dropL (l.take (k + 1)) p.data.toList = dropL (l.take k) p.data.toList ++ [x]) := Lib.hid (dropL_keep hx he)
        generalize hX : bsT x.1.1 = X at *
        have HX := Lib.hid (And.intro hX hu)
        clear he hx hu hX
        go_wp2_with (first
          | (at_builtin; refine wpList_append_own _ rfl _ _ 25 rfl w.heap.size 24 i0 _ 2 40 Tryd.underlying25 hi hz0 hz1 hz2' rfl (by decide) _ _ _ rfl (World.ownsRow.alloc HO.out _) ⟨wr.heap.size, 0, none⟩ 1 1 [.string X, .slice ua un uc] rfl rfl (by intro j u hj; match j, hj with | 0, hj => simp at hj; subst hj; simp [Addr.add] | 1, hj => simp at hj; subst hj; simp [Addr.add]) (by intro u hx; simp at hx; rcases hx with rfl | rfl <;> rfl) (by unfold maxLen; omega) (by omega) (by simp; omega) ?_))
        intro v' w3 hown' hgrow _
        have HO3 : Hid (OwnC w3 w.heap.size v' (dropL (l.take (k + 1)) p.data.toList)) := Lib.hid (by rw [HK.out]; exact OwnC.app HX.out.1 HX.out.2 hown')
        have HB3 : Hid (Below w.heap.size w w3) := Lib.hid (OwnC.below HB.out HO.out hgrow (Nat.le_refl _) (by omega))
        clear hown' hgrow
        go_wp2
        go_roundw
        case rel => exact ⟨k + 1, by omega, by go_num, HO3, HB3⟩
        case measure => simp [intOf]; omega
    · obtain rfl : k = n := by omega
      have HF : Hid (l.take k = l) := Lib.hid (by rw [← HN.out, List.take_length])
      rw [HF.out] at HO
      clear hlt
      go_wp2
      go_ret
      exact ⟨_, rfl, HO.out, HB.out⟩
set_option maxRecDepth 100000 in
set_option maxHeartbeats 4000000 in
theorem kdropL_any (v : Value) (l : List Lp) (hl : l.length ≤ 90000) (p : ByteArray) (w : World) (h : HoldL w v l) : Calls Tryd.prog 56 #[v, nmF, .string p] w (DropPostL l p.data.toList w) := by
  obtain ⟨hin, a, c, b, o, rfl, hc, ha, hcell⟩ := h
  have HI := Lib.hid hin
  have HC := Lib.hid hcell
  obtain ⟨i0, hi, hz0, hz1, hz2'⟩ := info_parts infoL
  have PA := fun X Y w => nameOf_any X Y w
  obtain ⟨n, hN⟩ : ∃ n, l.length = n := ⟨_, rfl⟩
  rw [hN] at hc ha hl ⊢
  have HN := Lib.hid hN
  clear hcell hN hin
  unfold nmF
  go_enter Tryd.func56, Tryd.ntmps56
  go_wp2
  go_loopw [7, 12] (fun u i wr => ∃ k : Nat, k ≤ n ∧ i = .int .i64 k ∧ Hid (OwnC wr w.heap.size u (dropL (l.take k) p.data.toList)) ∧ Hid (Below w.heap.size w wr)) (fun _ i _ => n - (intOf i).toNat)
  case atStart => exact ⟨0, by omega, rfl, Lib.hid (OwnC.nil _ _), Lib.hid (Below.refl _ _)⟩
  case round =>
    obtain ⟨k, hk, rfl, HO, HB⟩ := hrel
    have hsz := HB.out.size
    by_cases hlt : k < n
    · obtain ⟨rfl, hbw⟩ := ha (by omega)
      obtain ⟨x, hx⟩ : ∃ x, l[k]? = some x := ⟨_, List.getElem?_eq_getElem (by rw [HN.out]; exact hlt)⟩
      obtain ⟨c0, c1⟩ := HC.out k x hx
      obtain ⟨ua, un, uc, hu⟩ := HoldT.form (HI.out x (List.mem_of_getElem? hx))
      rw [hu] at c1
      rw [← HB.out.cell (p := ⟨b, o + k * 2, none⟩) hbw] at c0
      rw [← HB.out.cell (p := ⟨b, o + k * 2 + 1, none⟩) hbw] at c1
      have hlen : (dropL (l.take k) p.data.toList).length ≤ 90000 := Nat.le_trans (dropL_len _ _) (by rw [List.length_take]; omega)
      have hq := eqT (bsT x.1.1) p
      rw [bytesOf] at hq
      have HK := Lib.hid (And.intro (fun h => dropL_skip (p := p.data.toList) hx h) (fun h => dropL_keep (p := p.data.toList) hx h))
      generalize hX : bsT x.1.1 = X at *
      have HX := Lib.hid (And.intro hX hu)
      clear hX
      have HXB := Lib.hid (box2 wr (.string X) (.slice ua un uc) 24)
      have HB1 := Lib.hid ((Below.refl wr.heap.size wr).alloc (Nat.le_refl _) (.cells #[.string X, .slice ua un uc] 24))
      clear hx hu
      by_cases he : x.1.1 = p.data.toList
      · rw [decide_eq_true he] at hq
        have HKK := Lib.hid (HK.out.1 he)
        clear he HK
        go_wp2_with (go_at_call 52; refine (PA _ _ _).mono ?_; rintro e w3 ⟨rfl, hb⟩; have d0 := (hb.cell (World.block_lt_of_cell? _ _ HXB.out.1)).trans HXB.out.1; have d1 := (hb.cell (World.block_lt_of_cell? _ _ HXB.out.2)).trans HXB.out.2; have HG := Lib.hid (HB1.out.trans (hb.mono HB1.out.size)); clear hb)
        go_roundw
        case rel => exact ⟨k + 1, by omega, by go_num, Lib.hid (by rw [HKK.out]; exact World.ownsRow.kept HO.out (grown_ofB HG.out) (nn_ofB _)), Lib.hid (HB.out.trans (HG.out.mono hsz))⟩
        case measure => simp [intOf]; omega
      · rw [decide_eq_false he] at hq
        have HKK := Lib.hid (HK.out.2 he)
        clear he HK
        go_wp2_with (first
          | (go_at_call 52; refine (PA _ _ _).mono ?_; rintro e w3 ⟨rfl, hb⟩; have d0 := (hb.cell (World.block_lt_of_cell? _ _ HXB.out.1)).trans HXB.out.1; have d1 := (hb.cell (World.block_lt_of_cell? _ _ HXB.out.2)).trans HXB.out.2; have HG := Lib.hid (HB1.out.trans (hb.mono HB1.out.size)); have HO2 : Hid (OwnC w3 w.heap.size _ (dropL (l.take k) p.data.toList)) := Lib.hid (World.ownsRow.kept HO.out (grown_ofB HG.out) (nn_ofB _)); have HB2 := Lib.hid (HB.out.trans (HG.out.mono hsz)); have hsz3 := HB2.out.size; clear hb)
          | (at_builtin; refine wpList_append_own _ rfl _ _ 25 rfl w.heap.size 24 i0 _ 2 40 Tryd.underlying25 hi hz0 hz1 hz2' rfl (by decide) _ _ _ rfl (World.ownsRow.alloc HO2.out _) ⟨w3.heap.size, 0, none⟩ 1 1 [.string X, .slice ua un uc] rfl rfl (by intro j u hj; match j, hj with | 0, hj => simp at hj; subst hj; simp [Addr.add] | 1, hj => simp at hj; subst hj; simp [Addr.add]) (by intro u hx; simp at hx; rcases hx with rfl | rfl <;> rfl) (by unfold maxLen; omega) (by omega) (by simp; omega) ?_))
        intro v' w4 hown' hgrow _
        have HO3 : Hid (OwnC w4 w.heap.size v' (dropL (l.take (k + 1)) p.data.toList)) := Lib.hid (by rw [HKK.out]; exact OwnC.app HX.out.1 HX.out.2 hown')
        have HB3 : Hid (Below w.heap.size w w4) := Lib.hid (OwnC.below HB2.out HO2.out hgrow (Nat.le_refl _) (by omega))
        clear hown' hgrow
        go_wp2
        go_roundw
        case rel => exact ⟨k + 1, by omega, by go_num, HO3, HB3⟩
        case measure => simp [intOf]; omega
    · obtain rfl : k = n := by omega
      have HF : Hid (l.take k = l) := Lib.hid (by rw [← HN.out, List.take_length])
      rw [HF.out] at HO
      clear hlt
      go_wp2
      go_ret
      exact ⟨_, rfl, HO.out, HB.out⟩
set_option maxRecDepth 100000 in
set_option maxHeartbeats 4000000 in
theorem drop13_any (v : Value) (l : List Lp) (hl : l.length ≤ 90000) (p : ByteArray) (w : World) (h : HoldL w v l) : Calls Tryd.prog 20 #[v, .string p] w (DropPostL l p.data.toList w) := by
  have I := kdropL_any v l hl p w h
  have HP : Hid (∀ v w', OwnC w' w.heap.size v (dropL l p.data.toList) → Below w.heap.size w w' → DropPostL l p.data.toList w (.returned v) w') := Lib.hid (fun v w' h1 h2 => ⟨v, rfl, h1, h2⟩)
  obtain ⟨-, a, c, b, o, rfl, -, -, -⟩ := h
  unfold nmF at I
  clear hl
  generalize l.length = n at *
  go_enter Tryd.func20, Tryd.ntmps20
  go_wp2_with (go_at_call 56; refine I.mono ?_; rintro e w1 ⟨v1, rfl, h1, hb⟩; have HO := Lib.hid h1; have HB := Lib.hid hb; clear hb h1)
  go_ret
  exact HP.out _ _ HO.out HB.out
end Go.Proofs.YtogkickaebmeoaaDoor
