/-
  cellarerlaw20's few of a state: where it tells true, records, diversions and lists are small; nothing old turns.
-/
import Derived.Test.YtkcamfcjkjiijaaGreatDoorPGParseF
import Derived.Test.YtkcamfcjkjiijaaGreatDoorPEcNeed
import Derived.Test.YtkcamfcjkjiijaaGreatDoorPDTrue
import Derived.Test.YtkcamfcjkjiijaaGreatDoorPTLose2
import Derived.Test.YtkcamfcjkjiijaaGreatDoorPTFind
import Derived.Test.YtkcamfcjkjiijaaGreatDoorPEpFew
namespace Go.Proofs.YtkcamfcjkjiijaaGreatDoor
open Go.RowKit
def FewD (l : List Dv) : Prop := l.length ≤ 70 ∧ ∀ x ∈ l, x.1.length ≤ 300 ∧ x.2.1.length ≤ 300 ∧ x.2.2.length ≤ 300
open Classical in
noncomputable def fewB (l : List Dv) : Bool := decide (FewD l)
open Classical in
theorem fewB_yes {l : List Dv} (h : FewD l) : fewB l = true := by unfold fewB; exact decide_eq_true h
open Classical in
theorem fewB_no {l : List Dv} (h : ¬ FewD l) : fewB l = false := by unfold fewB; exact decide_eq_false h
def FewPost (l : List Dv) (w : World) (e : Ending) (w' : World) : Prop := e = .returned (.bool (fewB l)) ∧ w = w'
set_option maxRecDepth 100000 in
set_option maxHeartbeats 8000000 in
theorem few_any (v : Value) (l : List Dv) (w : World) (hb : l.length ≤ maxLen) (hsz : ∀ x ∈ l, x.1.length ≤ maxLen ∧ x.2.1.length ≤ maxLen ∧ x.2.2.length ≤ maxLen) (h : HoldD w v l) : Calls Tryz.prog 34 #[v] w (FewPost l w) := by
  obtain ⟨a, c, b, o, rfl, hc, ha, hcell⟩ := h.parts
  have HC := Lib.hid hcell
  have HSZ := Lib.hid hsz
  have HF : Hid (¬ FewD l → FewPost l w (.returned (.bool false)) w) := Lib.hid (fun g => ⟨by rw [fewB_no g], rfl⟩)
  have HT : Hid (FewD l → FewPost l w (.returned (.bool true)) w) := Lib.hid (fun g => ⟨by rw [fewB_yes g], rfl⟩)
  obtain ⟨n, hN⟩ : ∃ n, l.length = n := ⟨_, rfl⟩
  rw [hN] at hc ha hb ⊢
  have HN := Lib.hid hN
  unfold maxLen at hb
  clear hcell hN h hsz
  by_cases h70 : 70 < n
  · have HF2 := Lib.hid (HF.out (fun g => by have := g.1; rw [HN.out] at this; omega))
    go_enter Tryz.func34, Tryz.ntmps34
    go_wp2
    go_ret
    exact HF2.out
  go_enter Tryz.func34, Tryz.ntmps34
  go_wp2
  go_loop [3] (fun i => ∃ k : Nat, k ≤ n ∧ i = .int .i64 k ∧ Hid (∀ (j : Nat) y, j < k → l[j]? = some y → y.1.length ≤ 300 ∧ y.2.1.length ≤ 300 ∧ y.2.2.length ≤ 300)) (fun i => n - (intOf i).toNat)
  case atStart => exact ⟨0, by omega, rfl, Lib.hid (fun j y hj => by omega)⟩
  case round =>
    obtain ⟨k, hk, rfl, H⟩ := hrel
    by_cases hlt : k < n
    · obtain ⟨rfl, hbw⟩ := ha (by omega)
      obtain ⟨x, hx⟩ : ∃ x, l[k]? = some x := ⟨_, List.getElem?_eq_getElem (by rw [HN.out]; exact hlt)⟩
      obtain ⟨c0, c1, c2⟩ := HC.out k x hx
      have hz := HSZ.out x (List.mem_of_getElem? hx)
      unfold maxLen at hz
      obtain ⟨X, hX⟩ : ∃ X, bsA x.1 = X := ⟨_, rfl⟩
      obtain ⟨Y, hY⟩ : ∃ Y, bsA x.2.1 = Y := ⟨_, rfl⟩
      obtain ⟨Z, hZ⟩ : ∃ Z, bsA x.2.2 = Z := ⟨_, rfl⟩
      have sX : X.size = x.1.length := by rw [← hX, sizeOf, bytesOf]
      have sY : Y.size = x.2.1.length := by rw [← hY, sizeOf, bytesOf]
      have sZ : Z.size = x.2.2.length := by rw [← hZ, sizeOf, bytesOf]
      rw [hX] at c0
      rw [hY] at c1
      rw [hZ] at c2
      have HK : Hid (X.size ≤ 300 → Y.size ≤ 300 → Z.size ≤ 300 → ∀ (j : Nat) y, j < k + 1 → l[j]? = some y → y.1.length ≤ 300 ∧ y.2.1.length ≤ 300 ∧ y.2.2.length ≤ 300) := Lib.hid (fun g1 g2 g3 j y hj hy => by
        by_cases e : j = k
        · subst e; rw [hx] at hy; cases hy; omega
        · exact H.out j y (by omega) hy)
      have HNO : Hid (¬ (X.size ≤ 300 ∧ Y.size ≤ 300 ∧ Z.size ≤ 300) → FewPost l w (.returned (.bool false)) w) := Lib.hid (fun g => HF.out (fun q => g (by have := q.2 x (List.mem_of_getElem? hx); omega)))
      have zX : X.size ≤ 9223372036854775807 := by omega
      have zY : Y.size ≤ 9223372036854775807 := by omega
      have zZ : Z.size ≤ 9223372036854775807 := by omega
      clear hX hY hZ sX sY sZ hz hx H
      by_cases g1 : 300 < X.size
      · have HN2 := Lib.hid (HNO.out (by omega))
        clear HNO HK
        go_wp2
        go_ret
        exact HN2.out
      by_cases g2 : 300 < Y.size
      · have HN2 := Lib.hid (HNO.out (by omega))
        clear HNO HK
        go_wp2
        go_ret
        exact HN2.out
      by_cases g3 : 300 < Z.size
      · have HN2 := Lib.hid (HNO.out (by omega))
        clear HNO HK
        go_wp2
        go_ret
        exact HN2.out
      have HK2 := Lib.hid (HK.out (by omega) (by omega) (by omega))
      clear HK HNO
      go_wp2
      go_round
      case rel => exact ⟨k + 1, by omega, by go_num, HK2⟩
      case measure => simp [intOf]; omega
    · obtain rfl : k = n := by omega
      have HR := Lib.hid (HT.out ⟨by rw [HN.out]; omega, fun y hy => by
        obtain ⟨j, hj⟩ := List.mem_iff_getElem?.1 hy
        exact H.out j y (by have := (List.getElem?_eq_some_iff.1 hj).1; rw [HN.out] at this; exact this) hj⟩)
      clear hlt H HT
      go_wp2
      go_ret
      exact HR.out
end Go.Proofs.YtkcamfcjkjiijaaGreatDoor
namespace Go.Proofs.YtkcamfcjkjiijaaGreatDoor
open Go.RowKit Go.Shelf
theorem dropU_own (v : Value) (l : List Uv) (hl : l.length ≤ 90000) (p : ByteArray) (w : World) (h : HoldU w v l) : Calls Tryz.prog 39 #[v, .string p] w fun e w' => ∃ v', e = .returned v' ∧ OwnV 71 9 w' w.heap.size v' ((dropU l p.data.toList).map cellsU) ∧ Below w.heap.size w w' := by
  refine (dropO_anyUa v (l.map shU) (by rw [List.length_map]; exact hl) p w (hold_shU h)).mono fun e w' ⟨v', he, ho, hb⟩ => ⟨v', he, ?_, hb⟩
  rw [drop_shU] at ho
  unfold OwnOUa at ho
  rw [map_shU (w := w) (fun x hx => h.2 x (dropU_mem hx))] at ho
  exact ho
theorem ownV_set {T : TypeId} {k : Nat} {w : World} {base : Nat} {v : Value} {rows : List Rw} (h : OwnV T k w base v rows) {b : Nat} (hb : b < base) (i : Nat) (u : Value) : OwnV T k (w.setCell ⟨b, i, none⟩ u) base v rows :=
  ⟨h.1, World.ownsRow.kept h.2 (row := some b) ⟨rfl, rfl, rfl, (KeepsWalks.setCell w ⟨b, i, none⟩ u).size, fun k _ hk => Below.heap_setCell _ _ _ k (fun e => hk (by rw [e]))⟩ (.inr (fun e => by have := (World.ownsRow.lt h.2 b e).1; omega))⟩
theorem boxV7 (W : World) (c0 c1 c2 c3 c4 c5 c6 : Value) (t : TypeId) (i : Nat) (v : Value) (h : (#[c0, c1, c2, c3, c4, c5, c6] : Array Value)[i]? = some v) : (W.alloc (.cells #[c0, c1, c2, c3, c4, c5, c6] t)).cell? ⟨W.heap.size, i, none⟩ = some v := by
  rw [World.cell?_alloc_new]; exact h
def neededU (rs : List Uv) (p : Bs) : List Bs := namesU (dropU rs p) (needB rs (dropU rs p))
set_option maxRecDepth 100000 in
set_option maxHeartbeats 16000000 in
theorem needed_any (x : Stv) (hn : x.rs.length ≤ 90000) (hs : ∀ l, (∀ r ∈ l, r ∈ x.rs) → SmallQ (thereU l)) (hg : ∀ r ∈ x.rs, r.dp.length ≤ 500 ∧ SmallG r.dp) (p : ByteArray) (w : World) (hx : InS7 w x) (hL : LaidV w) :
    Calls Tryz.prog 17 #[agS x, .string p] w fun e w' => ∃ r, e = .returned r ∧ OwnT w' w.heap.size r (neededU x.rs p.data.toList) ∧ Below w.heap.size w w' := by
  have b1 := (Below.refl w.heap.size w).alloc (Nat.le_refl _) (.cells #[x.rv, x.dv, x.ov, x.av, x.iv, x.fv, x.lv] 30)
  have b2 := b1.alloc b1.size (.cells #[x.rv, x.dv, x.ov, x.av, x.iv, x.fv, x.lv] 30)
  obtain ⟨w2, hw2⟩ : ∃ w2, (w.alloc (.cells #[x.rv, x.dv, x.ov, x.av, x.iv, x.fv, x.lv] 30)).alloc (.cells #[x.rv, x.dv, x.ov, x.av, x.iv, x.fv, x.lv] 30) = w2 := ⟨_, rfl⟩
  have hz2 : w2.heap.size = w.heap.size + 2 := by rw [← hw2]; simp
  have hB : Cell7 w.heap.size w2 x := by
    have k := fun i v h => boxV7 w x.rv x.dv x.ov x.av x.iv x.fv x.lv 30 i v h
    have hc : Cell7 w.heap.size (w.alloc (.cells #[x.rv, x.dv, x.ov, x.av, x.iv, x.fv, x.lv] 30)) x := ⟨k 0 _ rfl, k 1 _ rfl, k 2 _ rfl, k 3 _ rfl, k 4 _ rfl, k 5 _ rfl, k 6 _ rfl⟩
    rw [← hw2]
    exact hc.on ((Below.refl _ _).alloc (Nat.le_refl _) _)
  have hA : Cell7 (w.heap.size + 1) w2 x := by
    have k := fun i v h => boxV7 (w.alloc (.cells #[x.rv, x.dv, x.ov, x.av, x.iv, x.fv, x.lv] 30)) x.rv x.dv x.ov x.av x.iv x.fv x.lv 30 i v h
    simp only [World.size_alloc] at k
    rw [← hw2]
    exact ⟨k 0 _ rfl, k 1 _ rfl, k 2 _ rfl, k 3 _ rfl, k 4 _ rfl, k 5 _ rfl, k 6 _ rfl⟩
  have hfr : w2.frozen? ⟨w.heap.size + 1, 0, none⟩ = false := by
    rw [← hw2]
    have := frozen_of_row ((w.alloc (.cells #[x.rv, x.dv, x.ov, x.av, x.iv, x.fv, x.lv] 30)).alloc (.cells #[x.rv, x.dv, x.ov, x.av, x.iv, x.fv, x.lv] 30)) (w.heap.size + 1) 0 _ _ (by have := heap_alloc_new (w.alloc (.cells #[x.rv, x.dv, x.ov, x.av, x.iv, x.fv, x.lv] 30)) (.cells #[x.rv, x.dv, x.ov, x.av, x.iv, x.fv, x.lv] 30); simpa using this)
    exact this
  rw [hw2] at b2
  have DR := dropU_own x.rv x.rs hn p w2 (hx.rs.on b2)
  have hmem : ∀ r ∈ dropU x.rs p.data.toList, r ∈ x.rs := fun r hr => dropU_mem hr
  have hlen := dropU_len x.rs p.data.toList
  -- the call of namesOf, at any world behind
  have NM : Hid (∀ v' w3, Below w2.heap.size w2 w3 → OwnV 71 9 w3 w2.heap.size v' ((dropU x.rs p.data.toList).map cellsU) → Calls Tryz.prog 40 #[v', .func (.func 41) #[] #[.pointer (some ⟨w.heap.size + 1, 0, none⟩), .pointer (some ⟨w.heap.size, 0, none⟩)]] (w3.setCell ⟨w.heap.size + 1, 0, none⟩ v') fun e w' => ∃ r, e = .returned r ∧ OwnT w' w.heap.size r (neededU x.rs p.data.toList) ∧ Below w.heap.size w w') := Lib.hid (fun v' w3 hb ho => by
    have hb3 : Below w.heap.size w w3 := b2.trans (hb.mono b2.size)
    have hb4 : Below w.heap.size w (w3.setCell ⟨w.heap.size + 1, 0, none⟩ v') := hb3.setCell (by simp) v'
    have hB3 := hB.on hb
    have hA3 := hA.on hb
    have ho4 := ownV_set ho (b := w.heap.size + 1) (by omega) 0 v'
    have hB4 : Cell7 w.heap.size (w3.setCell ⟨w.heap.size + 1, 0, none⟩ v') x := by
      obtain ⟨h0, h1, h2, h3, h4, h5, h6⟩ := hB3
      have k := fun j v (h : w3.cell? ⟨w.heap.size, j, none⟩ = some v) => (setB w3 w.heap.size (w.heap.size + 1) 0 j v' (by omega)).trans h
      exact ⟨k 0 _ h0, k 1 _ h1, k 2 _ h2, k 3 _ h3, k 4 _ h4, k 5 _ h5, k 6 _ h6⟩
    have hA4 : Cell7 (w.heap.size + 1) (w3.setCell ⟨w.heap.size + 1, 0, none⟩ v') { x with rs := dropU x.rs p.data.toList, rv := v' } := by
      obtain ⟨h0, h1, h2, h3, h4, h5, h6⟩ := hA3
      have k := fun j v (hj : 0 ≠ j) (h : w3.cell? ⟨w.heap.size + 1, j, none⟩ = some v) => (setO w3 (w.heap.size + 1) 0 j v' hj).trans h
      exact ⟨World.cell?_setCell_same _ _ _ h0, k 1 _ (by omega) h1, k 2 _ (by omega) h2, k 3 _ (by omega) h3, k 4 _ (by omega) h4, k 5 _ (by omega) h5, k 6 _ (by omega) h6⟩
    have hu4 : HoldU (w3.setCell ⟨w.heap.size + 1, 0, none⟩ v') v' (dropU x.rs p.data.toList) := ⟨ho4.holds, fun r hr => (hx.rs.2 r (hmem r hr)).on hb4⟩
    have hx4 := hx.on hb4
    refine (namesOf_any 41 #[.pointer (some ⟨w.heap.size + 1, 0, none⟩), .pointer (some ⟨w.heap.size, 0, none⟩)] (enters_of Tryz.func41 (by kernel_rfl) rfl) (needB x.rs (dropU x.rs p.data.toList)) v' (dropU x.rs p.data.toList) (Nat.le_trans hlen hn) _ hu4 (fun W r hr hW => ?_)).mono (fun e w' h => ?_)
    · exact need1_any x { x with rs := dropU x.rs p.data.toList, rv := v' } hn (hs _ (fun r h => h)) (Nat.le_trans hlen hn) (hs _ hmem) _ _ r (hg r (hmem r hr)).1 (hg r (hmem r hr)).2 W (hA4.on hW) (hB4.on hW) (hx4.on hW) ⟨hu4.on hW, hx.ov, hx.av, hx.iv, hx.fv, hx.dv, hx.lv⟩ ((hu4.2 r hr).on hW) ((hL.on hb4).on hW)
    · obtain ⟨r, g1, g2, g3⟩ := h
      exact ⟨r, g1, g2.mono hb4.size, hb4.trans (g3.mono hb4.size)⟩)
  have HFR : Hid (∀ w3, Below w2.heap.size w2 w3 → w3.frozen? ⟨w.heap.size + 1, 0, none⟩ = false) := Lib.hid (fun w3 hb => by rw [hb.frozen (p := ⟨w.heap.size + 1, 0, none⟩) (show w.heap.size + 1 < w2.heap.size by omega)]; exact hfr)
  have HAC : Hid (∀ w3, Below w2.heap.size w2 w3 → w3.cell? ⟨w.heap.size + 1, 0, none⟩ = some x.rv) := Lib.hid (fun w3 hb => (hA.on hb).1)
  have HSA : Hid (∀ w3 v', Below w2.heap.size w2 w3 → (w3.setCell ⟨w.heap.size + 1, 0, none⟩ v').cell? ⟨w.heap.size + 1, 0, none⟩ = some v') := Lib.hid (fun w3 v' hb => World.cell?_setCell_same _ _ _ (hA.on hb).1)
  have HFO : Hid (∀ w3 v', OwnV 71 9 w3 w2.heap.size v' ((dropU x.rs p.data.toList).map cellsU) → ∃ a n c, v' = .slice a n c) := Lib.hid (fun w3 v' ho => by obtain ⟨a, c, e⟩ := ho.form; exact ⟨a, _, c, e⟩)
  obtain ⟨h0, h1, h2, h3, h4, h5, h6⟩ := hB
  obtain ⟨k0, k1, k2, k3, k4, k5, k6⟩ := hA
  obtain ⟨⟨⟨ra, rc, -, -, hrv, -⟩, -⟩, ⟨oa, on, oc, hov⟩, ⟨aa, an, ac, hav⟩, ⟨ia, im, ic, hiv⟩, ⟨fa, fn, fc, hfv⟩, ⟨da, dn, dc, hdv⟩, ⟨la, ln, lc, hlv⟩⟩ := hx
  obtain ⟨RES, hRES⟩ : ∃ q, neededU x.rs p.data.toList = q := ⟨_, rfl⟩
  obtain ⟨RWS, hRWS⟩ : ∃ q, (dropU x.rs p.data.toList).map cellsU = q := ⟨_, rfl⟩
  rw [hRES] at NM ⊢
  rw [hRWS] at NM DR HFO
  clear hRES hRWS hmem hlen hg hs hn hL b1
  obtain ⟨rs, ds, ls, rv, dv, ov, av, iv, fv, lv⟩ := x
  unfold agS
  dsimp only at *
  subst hrv hov hav hiv hfv hdv hlv
  simp only [List.length_map] at *
  generalize rs.length = rn at *
  go_enter Tryz.func17, Tryz.ntmps17
  go_wp2_with (first
    | (go_at_call 39; (with_reducible refine DR.mono ?_); rintro e w3 ⟨v', rfl, ho, hb⟩; obtain ⟨va, vn, vc, rfl⟩ := HFO.out _ _ ho; have NC := NM.out _ _ hb ho; have hfz := HFR.out _ hb; have hac := HAC.out _ hb; have hsa := HSA.out _ (.slice va vn vc) hb; clear ho hb DR)
    | (go_at_call 40; (with_reducible refine NC.mono ?_); rintro e w5 ⟨r, rfl, h1, h2⟩; have HO2 := Lib.hid h1; have HB2 := Lib.hid h2; clear h1 h2 NC))
  first | (go_ret; exact ⟨_, rfl, HO2.out, HB2.out⟩) | exact ⟨_, rfl, HO2.out, HB2.out⟩
end Go.Proofs.YtkcamfcjkjiijaaGreatDoor
namespace Go.Proofs.YtkcamfcjkjiijaaGreatDoor
open Go.RowKit Go.Shelf
theorem inS7_of {w : World} {x : Stv} (h : InSt w x) : InS7 w x := ⟨h.rs, h.ov, h.av, h.iv, h.fv, by obtain ⟨a, c, b, o, e, -⟩ := h.ds; exact ⟨_, _, _, e⟩, by obtain ⟨-, a, c, b, o, e, -⟩ := h.ls; exact ⟨_, _, _, e⟩⟩
theorem holdD_on {w w' : World} {v : Value} {l : List Dv} (h : HoldD w v l) (hb : Below w.heap.size w w') : HoldD w' v l := HoldR.on h hb
theorem holdL_on {w w' : World} {v : Value} {l : List Lp} (h : HoldL w v l) (hb : Below w.heap.size w w') : HoldL w' v l := h.on hb
theorem InSt.on {w w' : World} {x : Stv} (h : InSt w x) (hb : Below w.heap.size w w') : InSt w' x := ⟨h.rs.on hb, holdD_on h.ds hb, holdL_on h.ls hb, h.ov, h.av, h.iv, h.fv⟩
end Go.Proofs.YtkcamfcjkjiijaaGreatDoor
namespace Go.Proofs.YtkcamfcjkjiijaaGreatDoor
open Go.RowKit
def tpxT (ps : List Bs) : Nat := (ps.map fun s => 1 + min s.length 4000).sum
def totxT (L : List Lp) : Nat := (L.map fun p => tpxT p.1.2).sum
theorem tp_takexT {ps : List Bs} {t : Nat} {x : Bs} (h : ps[t]? = some x) : tpxT (ps.take (t + 1)) = tpxT (ps.take t) + (1 + min x.length 4000) := by
  unfold tpxT
  rw [List.take_add_one, h, List.map_append, List.sum_append]; simp
theorem tot_takexT {L : List Lp} {t : Nat} {x : Lp} (h : L[t]? = some x) : totxT (L.take (t + 1)) = totxT (L.take t) + tpxT x.1.2 := by
  unfold totxT
  rw [List.take_add_one, h, List.map_append, List.sum_append]; simp
theorem tp_lexT (ps : List Bs) (t : Nat) : tpxT (ps.take t) ≤ tpxT ps := by unfold tpxT; rw [List.map_take]; exact sum_take_le _ _
theorem tot_lexT (L : List Lp) (t : Nat) : totxT (L.take t) ≤ totxT L := by unfold totxT; rw [List.map_take]; exact sum_take_le _ _
def FewL (L : List Lp) : Prop := L.length ≤ 70 ∧ (∀ p ∈ L, p.1.1.length ≤ 300 ∧ p.1.2.length ≤ 70) ∧ totxT L ≤ 4000
open Classical in
noncomputable def fewL (L : List Lp) : Bool := decide (FewL L)
open Classical in
theorem fewL_yes {L : List Lp} (h : FewL L) : fewL L = true := by unfold fewL; exact decide_eq_true h
open Classical in
theorem fewL_no {L : List Lp} (h : ¬ FewL L) : fewL L = false := by unfold fewL; exact decide_eq_false h
def FewPostL (L : List Lp) (w : World) (e : Ending) (w' : World) : Prop := e = .returned (.bool (fewL L)) ∧ w = w'
set_option maxRecDepth 100000 in
set_option maxHeartbeats 8000000 in
theorem few13_any (v : Value) (L : List Lp) (w : World) (hb : L.length ≤ maxLen) (hsz : ∀ p ∈ L, p.1.1.length ≤ maxLen ∧ p.1.2.length ≤ maxLen ∧ ∀ q ∈ p.1.2, q.length ≤ maxLen) (h : HoldL w v L) : Calls Tryz.prog 33 #[v] w (FewPostL L w) := by
  obtain ⟨hin, a, c, b, o, rfl, hc, ha, hcell⟩ := h
  have HC := Lib.hid hcell
  have HI := Lib.hid hin
  have HSZ := Lib.hid hsz
  have HF : Hid (¬ FewL L → FewPostL L w (.returned (.bool false)) w) := Lib.hid (fun g => ⟨by rw [fewL_no g], rfl⟩)
  have HT : Hid (FewL L → FewPostL L w (.returned (.bool true)) w) := Lib.hid (fun g => ⟨by rw [fewL_yes g], rfl⟩)
  obtain ⟨n, hN⟩ : ∃ n, L.length = n := ⟨_, rfl⟩
  rw [hN] at hc ha hb ⊢
  have HN := Lib.hid hN
  unfold maxLen at hb
  clear hcell hN hsz hin
  by_cases h70 : 70 < n
  · have HF2 := Lib.hid (HF.out (fun g => by have := g.1; rw [HN.out] at this; omega))
    go_enter Tryz.func33, Tryz.ntmps33
    go_wp2
    go_ret
    exact HF2.out
  go_enter Tryz.func33, Tryz.ntmps33
  go_wp2
  go_loop [3, 4] (fun z i => ∃ k s : Nat, k ≤ n ∧ i = .int .i64 k ∧ z = .int .i64 s ∧ s ≤ 4000 ∧ Hid (totxT (L.take k) = s ∧ ∀ (j : Nat) p, j < k → L[j]? = some p → p.1.1.length ≤ 300 ∧ p.1.2.length ≤ 70)) (fun _ i => n - (intOf i).toNat)
  case atStart => exact ⟨0, 0, by omega, rfl, rfl, by omega, Lib.hid ⟨rfl, fun j st hj => by omega⟩⟩
  case round =>
    obtain ⟨k, s, hk, rfl, rfl, hs, HV⟩ := hrel
    by_cases hlt : k < n
    · obtain ⟨rfl, hbw⟩ := ha (by omega)
      obtain ⟨p, hp⟩ : ∃ p, L[k]? = some p := ⟨_, List.getElem?_eq_getElem (by rw [HN.out]; exact hlt)⟩
      obtain ⟨c0, c1⟩ := HC.out k p hp
      have hz := HSZ.out p (List.mem_of_getElem? hp)
      unfold maxLen at hz
      obtain ⟨ai, ci, bi, oi, hpe, hci, hai, hcelli⟩ := HI.out p (List.mem_of_getElem? hp)
      rw [hpe] at c1
      obtain ⟨X, hX⟩ : ∃ X, bsT p.1.1 = X := ⟨_, rfl⟩
      have sX : X.size = p.1.1.length := by rw [← hX, sizeOf, bytesOf]
      have hxb : X.size ≤ 9223372036854775807 := by omega
      rw [hX] at c0
      obtain ⟨m, hM⟩ : ∃ m, p.1.2.length = m := ⟨_, rfl⟩
      rw [hM] at c1 hci hai
      have hmb : m ≤ 9223372036854775807 := by omega
      have HM := Lib.hid hM
      have HSX := Lib.hid sX
      have HP := Lib.hid hp
      have HCI := Lib.hid hcelli
      have HZ := Lib.hid hz.2.2
      have HNO : Hid (¬ (X.size ≤ 300 ∧ m ≤ 70) → FewPostL L w (.returned (.bool false)) w) := Lib.hid (fun g => HF.out (fun q => g (by have := q.2.1 p (List.mem_of_getElem? hp); omega)))
      clear hp hz sX hX hM hcelli hpe
      by_cases hx3 : 300 < X.size
      · have HF2 := Lib.hid (HNO.out (by omega))
        clear HNO
        go_wp2
        go_ret
        exact HF2.out
      by_cases hm70 : 70 < m
      · have HF2 := Lib.hid (HNO.out (by omega))
        clear HNO
        go_wp2
        go_ret
        exact HF2.out
      clear HNO
      go_wp2
      go_loop [3, 5] (fun z i' => ∃ t s' : Nat, t ≤ m ∧ i' = .int .i64 t ∧ z = .int .i64 s' ∧ s' ≤ 4000 ∧ Hid (totxT (L.take k) + tpxT (p.1.2.take t) = s')) (fun _ i' => m - (intOf i').toNat)
      case atStart => exact ⟨0, s, by omega, rfl, rfl, hs, Lib.hid (by rw [HV.out.1]; rfl)⟩
      case round =>
        obtain ⟨t, s', ht, rfl, rfl, hs', HV3⟩ := hrel
        by_cases htm : t < m
        · obtain ⟨rfl, hbi⟩ := hai (by omega)
          obtain ⟨f, hf⟩ : ∃ f, p.1.2[t]? = some f := ⟨_, List.getElem?_eq_getElem (by rw [HM.out]; exact htm)⟩
          have g1 := HCI.out t f hf
          have hfz := HZ.out f (List.mem_of_getElem? hf)
          unfold maxLen at hfz
          obtain ⟨x, hx⟩ : ∃ x : ByteArray, ⟨f.toArray⟩ = x := ⟨_, rfl⟩
          have hxs : x.size = f.length := by rw [← hx, sizeOf, bytesOf]
          rw [hx] at g1
          have HV4 : Hid (totxT (L.take k) + tpxT (p.1.2.take (t + 1)) = s' + (1 + min x.size 4000)) := Lib.hid (by
            rw [tp_takexT hf, ← Nat.add_assoc, HV3.out, hxs])
          have hxb2 : x.size ≤ 9223372036854775807 := by omega
          clear hf hx hxs hfz HV3
          by_cases hr : s' + (1 + min x.size 4000) ≤ 4000
          · have hr2 : ¬ (4000 : Int) < ↑s' + (1 + min (↑x.size) 4000) := by omega
            go_wp2
            go_round
            case rel => exact ⟨t + 1, s' + (1 + min x.size 4000), by omega, by go_num, by congr 1; omega, hr, HV4⟩
            case measure => simp [intOf]; omega
          · have hr2 : (4000 : Int) < ↑s' + (1 + min (↑x.size) 4000) := by omega
            have HF2 := Lib.hid (HF.out (fun q => by
              have h1 := tot_lexT L (k + 1)
              rw [tot_takexT HP.out] at h1
              have h2 := tp_lexT p.1.2 (t + 1)
              have h3 := HV4.out
              have h4 := q.2.2
              omega))
            clear HV4
            go_wp2
            go_ret
            exact HF2.out
        · obtain rfl : t = m := by omega
          have HVN : Hid (totxT (L.take (k + 1)) = s' ∧ ∀ (j : Nat) p, j < k + 1 → L[j]? = some p → p.1.1.length ≤ 300 ∧ p.1.2.length ≤ 70) := Lib.hid (by
            refine ⟨by rw [tot_takexT HP.out, ← HV3.out, List.take_of_length_le (l := p.1.2) (by rw [HM.out]; omega)], fun j q hj hq => ?_⟩
            by_cases e : j = k
            · subst e; rw [HP.out] at hq; cases hq; rw [HM.out, ← HSX.out]; omega
            · exact HV.out.2 j q (by omega) hq)
          clear htm HV3
          go_wp2
          go_round
          case rel => exact ⟨k + 1, s', by omega, by go_num, rfl, hs', HVN⟩
          case measure => simp [intOf]; omega
    · obtain rfl : k = n := by omega
      have HF2 := Lib.hid (HT.out ⟨by rw [HN.out]; omega, fun p hp => by
        obtain ⟨j, hj⟩ := List.mem_iff_getElem?.1 hp
        exact HV.out.2 j p (by have := (List.getElem?_eq_some_iff.1 hj).1; rw [HN.out] at this; exact this) hj, by
        have := HV.out.1; rw [List.take_of_length_le (by rw [HN.out]; omega)] at this; omega⟩)
      clear hlt ha HV
      go_wp2
      go_ret
      exact HF2.out
end Go.Proofs.YtkcamfcjkjiijaaGreatDoor
namespace Go.Proofs.YtkcamfcjkjiijaaGreatDoor
open Go.RowKit Go.Shelf
structure FewSt (x : Stv) : Prop where
  rs : FewU x.rs
  ls : FewL x.ls
  ds : FewD x.ds
set_option maxRecDepth 100000 in
set_option maxHeartbeats 8000000 in
theorem fewS_any (x : Stv) (hf : FitSt x) (w : World) (h : InSt w x) : Calls Tryz.prog 7 #[agS x] w fun e w' => (∃ fb : Bool, e = .returned (.bool fb) ∧ (fb = true → FewSt x)) ∧ Below w.heap.size w w' := by
  have b1 := (Below.refl w.heap.size w).alloc (Nat.le_refl _) (.cells #[x.rv, x.dv, x.ov, x.av, x.iv, x.fv, x.lv] 30)
  have hB : Cell7 w.heap.size (w.alloc (.cells #[x.rv, x.dv, x.ov, x.av, x.iv, x.fv, x.lv] 30)) x := by
    have k := fun i v h => boxV7 w x.rv x.dv x.ov x.av x.iv x.fv x.lv 30 i v h
    exact ⟨k 0 _ rfl, k 1 _ rfl, k 2 _ rfl, k 3 _ rfl, k 4 _ rfl, k 5 _ rfl, k 6 _ rfl⟩
  have FU : Calls Tryz.prog 32 #[x.rv] (w.alloc (.cells #[x.rv, x.dv, x.ov, x.av, x.iv, x.fv, x.lv] 30)) (fun e w' => (∃ fb : Bool, e = .returned (.bool fb) ∧ (fb = true → FewU x.rs)) ∧ Below w.heap.size w w' ∧ Cell7 w.heap.size w' x) := (fewU_any x.rv x.rs hf.rn hf.rs _ (h.rs.on b1)).mono (fun e w' g => by
    obtain ⟨fb, g1, g2, g3⟩ := g
    exact ⟨⟨fb, g1, g2⟩, b1.trans (g3.mono b1.size), hB.on g3⟩)
  have FL : Hid (∀ W, Below w.heap.size w W → Calls Tryz.prog 33 #[x.lv] W fun e w' => (∃ fb : Bool, e = .returned (.bool fb) ∧ (fb = true → FewL x.ls)) ∧ W = w') := Lib.hid (fun W hb => (few13_any x.lv x.ls W hf.ln hf.ls (h.on hb).ls).mono (fun e w' g => ⟨⟨_, g.1, fun e => by
    by_cases q : FewL x.ls
    · exact q
    · rw [fewL_no q] at e; cases e⟩, g.2⟩))
  have FD : Hid (∀ W, Below w.heap.size w W → Calls Tryz.prog 34 #[x.dv] W fun e w' => (∃ fb : Bool, e = .returned (.bool fb) ∧ (fb = true → FewD x.ds)) ∧ W = w') := Lib.hid (fun W hb => (few_any x.dv x.ds W hf.dn hf.ds (h.on hb).ds).mono (fun e w' g => ⟨⟨_, g.1, fun e => by
    by_cases q : FewD x.ds
    · exact q
    · rw [fewB_no q] at e; cases e⟩, g.2⟩))
  have HG : Hid (FewU x.rs → FewL x.ls → FewD x.ds → FewSt x) := Lib.hid (fun a b c => ⟨a, b, c⟩)
  obtain ⟨⟨⟨ra, rc, -, -, hrv, -⟩, -⟩, ⟨oa, on, oc, hov⟩, ⟨aa, an, ac, hav⟩, ⟨ia, im, ic, hiv⟩, ⟨fa, fn, fc, hfv⟩, ⟨da, dn, dc, hdv⟩, ⟨la, ln, lc, hlv⟩⟩ := inS7_of h
  clear hf h hB
  obtain ⟨PR, hPR⟩ : ∃ q, FewU x.rs = q := ⟨_, rfl⟩
  obtain ⟨PL, hPL⟩ : ∃ q, FewL x.ls = q := ⟨_, rfl⟩
  obtain ⟨PD, hPD⟩ : ∃ q, FewD x.ds = q := ⟨_, rfl⟩
  obtain ⟨PS, hPS⟩ : ∃ q, FewSt x = q := ⟨_, rfl⟩
  simp only [hPR, hPL, hPD, hPS] at *
  clear hPR hPL hPD hPS
  obtain ⟨rs, ds, ls, rv, dv, ov, av, iv, fv, lv⟩ := x
  unfold agS
  unfold Cell7 at FU
  dsimp only at *
  subst hrv hov hav hiv hfv hdv hlv
  simp only [List.length_map] at *
  go_enter Tryz.func7, Tryz.ntmps7
  go_wp2_with (first
    | (go_at_call 32; (with_reducible refine FU.mono ?_); rintro e w2 ⟨⟨fb, rfl, h1⟩, h2, k0, k1, k2, k3, k4, k5, k6⟩; have H1 := Lib.hid h1; have HB2 := Lib.hid h2; clear h1 h2 FU b1; cases fb)
    | (go_at_call 33; (with_reducible refine (FL.out _ HB2.out).mono ?_); rintro e w3 ⟨⟨fb, rfl, h1⟩, rfl⟩; have H2 := Lib.hid h1; clear h1; cases fb)
    | (go_at_call 34; (with_reducible refine (FD.out _ HB2.out).mono ?_); rintro e w3 ⟨⟨fb, rfl, h1⟩, rfl⟩; have H3 := Lib.hid h1; clear h1; cases fb))
  all_goals first | (go_ret; exact ⟨⟨false, rfl, fun e => by cases e⟩, HB2.out⟩) | (go_ret; exact ⟨⟨true, rfl, fun _ => HG.out (H1.out (by trivial)) (H2.out (by trivial)) (H3.out (by trivial))⟩, HB2.out⟩)
end Go.Proofs.YtkcamfcjkjiijaaGreatDoor
