/-
  The reference's shared: the paths of a list that lie at some places; nothing old turns.
-/
import Derived.Test.YtkcamfcjkjiijaaGreatDoorPEcOwnM
import Derived.Test.YtkcamfcjkjiijaaGreatDoorPTLose2
import Derived.Test.YtkcamfcjkjiijaaGreatDoorPZHold
namespace Go.Proofs.YtkcamfcjkjiijaaGreatDoor
open Go.RowKit Go.Shelf
set_option maxRecDepth 100000 in
set_option maxHeartbeats 8000000 in
theorem shared_ref (x : Stv) (hd : x.ds.length ≤ 90000) (nm : ByteArray) (pv : Value) (ps : List Bs) (hp : ps.length ≤ 90000) (u : Value) (ats : List Bs) (hat : ats.length ≤ 90000) (w : World) (hx : InSt w x) (h1 : HoldT w pv ps) (h2 : HoldT w u ats) :
    Calls Tryz.prog 50 #[agS x, .agg #[.string nm, pv], u] w fun e w' => ∃ r, e = .returned r ∧ OwnT w' w.heap.size r (locL x.ds nm.data.toList ps ats) ∧ Below w.heap.size w w' := by
  obtain ⟨i0, hi, hz0, hz1, hz2'⟩ := info_parts infoT
  have b1 := (Below.refl w.heap.size w).alloc (Nat.le_refl _) (.cells #[x.rv, x.dv, x.ov, x.av, x.iv, x.fv, x.lv] 30)
  have b2 := b1.alloc b1.size (.cells #[.string nm, pv] 63)
  have hB : (w.alloc (.cells #[x.rv, x.dv, x.ov, x.av, x.iv, x.fv, x.lv] 30)).cell? ⟨w.heap.size, 1, none⟩ = some x.dv := boxV7 w x.rv x.dv x.ov x.av x.iv x.fv x.lv 30 1 _ rfl
  obtain ⟨n0, n1⟩ := boxV2U (w.alloc (.cells #[x.rv, x.dv, x.ov, x.av, x.iv, x.fv, x.lv] 30)) (.string nm) pv 63
  have hB2 := (((Below.refl _ (w.alloc (.cells #[x.rv, x.dv, x.ov, x.av, x.iv, x.fv, x.lv] 30))).alloc (Nat.le_refl _) (.cells #[.string nm, pv] 63)).cell (p := ⟨w.heap.size, 1, none⟩) (by simp)).trans hB
  obtain ⟨w2, hw2⟩ : ∃ w2, (w.alloc (.cells #[x.rv, x.dv, x.ov, x.av, x.iv, x.fv, x.lv] 30)).alloc (.cells #[.string nm, pv] 63) = w2 := ⟨_, rfl⟩
  have hz2 : w2.heap.size = w.heap.size + 2 := by rw [← hw2]; simp
  rw [hw2] at b2 n0 n1 hB2
  simp only [World.size_alloc] at n0 n1
  have HCEL : Hid (∀ W, Below w2.heap.size w2 W → W.cell? ⟨w.heap.size, 1, none⟩ = some x.dv ∧ W.cell? ⟨w.heap.size + 1, 0, none⟩ = some (.string nm) ∧ W.cell? ⟨w.heap.size + 1, 1, none⟩ = some pv) := Lib.hid (fun W hb => ⟨(hb.cell (p := ⟨w.heap.size, 1, none⟩) (show w.heap.size < w2.heap.size by omega)).trans hB2, (hb.cell (p := ⟨w.heap.size + 1, 0, none⟩) (show w.heap.size + 1 < w2.heap.size by omega)).trans n0, (hb.cell (p := ⟨w.heap.size + 1, 1, none⟩) (show w.heap.size + 1 < w2.heap.size by omega)).trans n1⟩)
  have TR : Hid (∀ W (q : ByteArray), Below w2.heap.size w2 W → Calls Tryz.prog 78 #[x.dv, .string q, .string nm] W (ToPost x.ds q.data.toList nm.data.toList W)) := Lib.hid (fun W q hb => true_ref x.dv x.ds hd q nm W (hx.on (b2.trans (hb.mono b2.size))).ds)
  have CT : Hid (∀ W (q : ByteArray), Below w2.heap.size w2 W → Calls Tryz.prog 31 #[u, .string q] W fun e w' => e = .returned (.bool (decide (q.data.toList ∈ ats))) ∧ W = w') := Lib.hid (fun W q hb => has13_any u ats hat q W (h2.on (b2.trans (hb.mono b2.size))))
  have h1' := h1.on b2
  obtain ⟨a, c, b, o, rfl, hc, ha, hcell⟩ := h1'
  have HC := Lib.hid hcell
  obtain ⟨⟨⟨ra, rc, -, -, hrv, -⟩, -⟩, ⟨oa, on, oc, hov⟩, ⟨aa, an, ac, hav⟩, ⟨ia, im, ic, hiv⟩, ⟨fa, fn, fc, hfv⟩, ⟨da, dn, dc, hdv⟩, ⟨la, ln, lc, hlv⟩⟩ := inS7_of hx
  obtain ⟨ua, uc, -, -, rfl, -⟩ := h2
  obtain ⟨n, hN⟩ : ∃ n, ps.length = n := ⟨_, rfl⟩
  have HB2 := Lib.hid b2
  have HW2 := Lib.hid hw2
  rw [hN] at hc ha hp HW2 HCEL ⊢
  have HN := Lib.hid hN
  obtain ⟨F, hF⟩ : ∃ F : List Bs → List Bs, (fun l => locL x.ds nm.data.toList l ats) = F := ⟨_, rfl⟩
  have HTK : Hid (∀ k p, ps[k]? = some p → F (ps.take (k + 1)) = F (ps.take k) ++ (if decide (toD x.ds p nm.data.toList ∈ ats) = true then [p] else []) ∧ (F (ps.take k)).length ≤ k) := Lib.hid (fun k p h => by
    rw [← hF]
    exact ⟨loc_take h, Nat.le_trans (loc_len _ _ _ _) (by rw [List.length_take]; omega)⟩)
  have HF0 : Hid (F (ps.take 0) = []) := Lib.hid (by rw [← hF]; rfl)
  have HFE : Hid (F (ps.take n) = locL x.ds nm.data.toList ps ats) := Lib.hid (by rw [← hF, List.take_of_length_le (by omega)])
  obtain ⟨RES, hRES⟩ : ∃ q, locL x.ds nm.data.toList ps ats = q := ⟨_, rfl⟩
  rw [hRES] at HFE ⊢
  obtain ⟨D, hD⟩ : ∃ D : Bs → Bs, (fun p => toD x.ds p nm.data.toList) = D := ⟨_, rfl⟩
  have TR2 : Hid (∀ W (q : ByteArray), Below w2.heap.size w2 W → Calls Tryz.prog 78 #[x.dv, .string q, .string nm] W fun e w' => e = .returned (.string (bsA (D q.data.toList))) ∧ Below W.heap.size W w') := Lib.hid (fun W q hb => by rw [← hD]; exact TR.out W q hb)
  have HTK2 : Hid (∀ k p, ps[k]? = some p → F (ps.take (k + 1)) = F (ps.take k) ++ (if decide (D p ∈ ats) = true then [p] else []) ∧ (F (ps.take k)).length ≤ k) := Lib.hid (fun k p h => by rw [← hD]; exact HTK.out k p h)
  clear TR HTK hF hD hRES hcell hN hx h1 b1 b2 hB hB2 n0 n1 hw2 hd hat
  obtain ⟨rs, ds, ls, rv, dv, ov, av, iv, fv, lv⟩ := x
  unfold agS
  dsimp only at *
  subst hrv hov hav hiv hfv hdv hlv
  simp only [List.length_map] at *
  generalize rs.length = rn at *
  generalize ats.length = un at *
  have HZ2 := Lib.hid hz2
  clear hz2
  go_enter Tryz.func50, Tryz.ntmps50
  have hw2 := HW2.out
  obtain ⟨e1, e2, e3⟩ := HCEL.out w2 (Below.refl _ _)
  go_wp2
  clear hw2 e1 e2 e3
  go_loopw [7, 8] (fun u i wr => ∃ (k : Nat), k ≤ n ∧ i = .int .i64 k ∧ Hid (OwnT wr w2.heap.size u (F (ps.take k))) ∧ Hid (Below w2.heap.size w2 wr)) (fun _ i _ => n - (intOf i).toNat)
  case atStart => exact ⟨0, by omega, rfl, Lib.hid (by rw [HF0.out]; exact OwnT.nil _ _), Lib.hid (Below.refl _ _)⟩
  case round =>
    obtain ⟨k, hk, rfl, HO, HB⟩ := hrel
    have hsz := HB.out.size
    by_cases hlt : k < n
    · obtain ⟨rfl, hbw⟩ := ha (by omega)
      obtain ⟨p, hpx⟩ : ∃ p, ps[k]? = some p := ⟨_, List.getElem?_eq_getElem (by rw [HN.out]; exact hlt)⟩
      have c0 := HC.out k p hpx
      rw [← HB.out.cell (p := ⟨b, o + k, none⟩) hbw] at c0
      obtain ⟨e1, e2, e3⟩ := HCEL.out _ HB.out
      obtain ⟨htk, hlen⟩ := HTK2.out k p hpx
      obtain ⟨X, hX⟩ : ∃ X : ByteArray, (⟨p.toArray⟩ : ByteArray) = X := ⟨_, rfl⟩
      have hXL : X.data.toList = p := by rw [← hX]
      rw [hX] at c0
      have T1 : Hid (∀ V, Below wr.heap.size wr V → Calls Tryz.prog 78 #[.slice da dn dc, .string X, .string nm] V fun e w' => e = .returned (.string (bsA (D p))) ∧ Below V.heap.size V w') := Lib.hid (fun V hb => by
        have := TR2.out V X (HB.out.trans (hb.mono HB.out.size))
        rw [hXL] at this; exact this)
      obtain ⟨q, hq⟩ : ∃ q, decide (D p ∈ ats) = q := ⟨_, rfl⟩
      have C1 : Hid (∀ V, Below wr.heap.size wr V → Calls Tryz.prog 31 #[.slice ua un uc, .string (bsA (D p))] V fun e w' => e = .returned (.bool q) ∧ Below V.heap.size V w') := Lib.hid (fun V hb => by
        have := CT.out V (bsA (D p)) (HB.out.trans (hb.mono HB.out.size))
        rw [show (bsA (D p)).data.toList = D p from by simp] at this
        rw [← hq]; exact this.mono (fun e w' ⟨g1, g2⟩ => ⟨g1, by rw [g2]; exact Below.refl _ _⟩))
      rw [hq] at htk
      have HTK3 := Lib.hid htk
      have HXL := Lib.hid hXL
      have HCE2 : Hid (∀ V, Below wr.heap.size wr V → V.cell? ⟨w.heap.size + 1, 1, none⟩ = some (.slice (some ⟨b, o, none⟩) n c) ∧ V.cell? ⟨b, o + k, none⟩ = some (.string X)) := Lib.hid (fun V hb => ⟨(HCEL.out V (HB.out.trans (hb.mono HB.out.size))).2.2, (hb.cell (p := ⟨b, o + k, none⟩) (Nat.lt_of_lt_of_le hbw HB.out.size)).trans c0⟩)
      generalize bsA (D p) = Y at *
      have i0' : (0 : Int) ≤ (k : Int) := by omega
      have i1' : (k : Int) < (n : Int) := by omega
      have hs := And.intro e1 (And.intro e2 (And.intro e3 (And.intro c0 (Below.refl wr.heap.size wr))))
      clear htk hXL hX hpx hq
      go_wp2
      have BE := fun (V : World) (h : V.cell? ⟨w.heap.size, 1, none⟩ = some (.slice da dn dc) ∧ V.cell? ⟨w.heap.size + 1, 0, none⟩ = some (.string nm) ∧ V.cell? ⟨w.heap.size + 1, 1, none⟩ = some (.slice (some ⟨b, o, none⟩) n c) ∧ V.cell? ⟨b, o + k, none⟩ = some (.string X) ∧ Below wr.heap.size wr V) => AtF.be (w := wr) (l := [(⟨w.heap.size, 1, none⟩, .slice da dn dc), (⟨w.heap.size + 1, 0, none⟩, .string nm), (⟨w.heap.size + 1, 1, none⟩, .slice (some ⟨b, o, none⟩) n c), (⟨b, o + k, none⟩, .string X)]) h
      refine wp_region_held_drew (S := (fun V => V.cell? ⟨w.heap.size, 1, none⟩ = some (.slice da dn dc) ∧ V.cell? ⟨w.heap.size + 1, 0, none⟩ = some (.string nm) ∧ V.cell? ⟨w.heap.size + 1, 1, none⟩ = some (.slice (some ⟨b, o, none⟩) n c) ∧ V.cell? ⟨b, o + k, none⟩ = some (.string X) ∧ Below wr.heap.size wr V)) (by kernel_rfl) ?_ (fun hHeld => ?_)
      · (try dsimp only); (first | assumption | exact hs | exact AtF.dr (w := wr) (l := [(⟨w.heap.size, 1, none⟩, .slice da dn dc), (⟨w.heap.size + 1, 0, none⟩, .string nm), (⟨w.heap.size + 1, 1, none⟩, .slice (some ⟨b, o, none⟩) n c), (⟨b, o + k, none⟩, .string X)]) hs | exact AtF.dr (w := wr) (l := [(⟨w.heap.size, 1, none⟩, .slice da dn dc), (⟨w.heap.size + 1, 0, none⟩, .string nm), (⟨w.heap.size + 1, 1, none⟩, .slice (some ⟨b, o, none⟩) n c), (⟨b, o + k, none⟩, .string X)]) (by assumption) | exact AtF.on (w := wr) (l := [(⟨w.heap.size, 1, none⟩, .slice da dn dc), (⟨w.heap.size + 1, 0, none⟩, .string nm), (⟨w.heap.size + 1, 1, none⟩, .slice (some ⟨b, o, none⟩) n c), (⟨b, o + k, none⟩, .string X)]) (by assumption) (by assumption) | exact AtF.al (w := wr) (l := [(⟨w.heap.size, 1, none⟩, .slice da dn dc), (⟨w.heap.size + 1, 0, none⟩, .string nm), (⟨w.heap.size + 1, 1, none⟩, .slice (some ⟨b, o, none⟩) n c), (⟨b, o + k, none⟩, .string X)]) (by assumption) _ | exact AtF.ald (w := wr) (l := [(⟨w.heap.size, 1, none⟩, .slice da dn dc), (⟨w.heap.size + 1, 0, none⟩, .string nm), (⟨w.heap.size + 1, 1, none⟩, .slice (some ⟨b, o, none⟩) n c), (⟨b, o + k, none⟩, .string X)]) (by assumption) _ | exact AtF.al (w := wr) (l := [(⟨w.heap.size, 1, none⟩, .slice da dn dc), (⟨w.heap.size + 1, 0, none⟩, .string nm), (⟨w.heap.size + 1, 1, none⟩, .slice (some ⟨b, o, none⟩) n c), (⟨b, o + k, none⟩, .string X)]) hs _ | exact AtF.ald (w := wr) (l := [(⟨w.heap.size, 1, none⟩, .slice da dn dc), (⟨w.heap.size + 1, 0, none⟩, .string nm), (⟨w.heap.size + 1, 1, none⟩, .slice (some ⟨b, o, none⟩) n c), (⟨b, o + k, none⟩, .string X)]) hs _)
      refine heldY 0 16 ?_ _ rfl rfl (by kernel_rfl) (by kernel_rfl) (by kernel_rfl) (fun _ _ _ h => h) rfl (by assumption) ?_ ?_
      rotate_left
      · (intro w hSw; (try dsimp only at hSw); go_simp; (try with_reducible rfl))
      try simp only [List.setIfInBounds_toArray, List.set_cons_zero, List.set_cons_succ]
      refine heldY 1 17 ?_ _ rfl rfl (by kernel_rfl) (by kernel_rfl) (by kernel_rfl) (fun _ _ _ h => h) rfl (by assumption) ?_ ?_
      rotate_left
      · (intro w hSw; (try dsimp only at hSw); go_simp; (try with_reducible rfl))
      try simp only [List.setIfInBounds_toArray, List.set_cons_zero, List.set_cons_succ]
      refine heldY 2 18 ?_ _ rfl rfl (by kernel_rfl) (by kernel_rfl) (by kernel_rfl) (fun _ _ _ h => h) rfl (by assumption) ?_ ?_
      rotate_left
      · (intro w hSw; (try dsimp only at hSw); go_simp; (try with_reducible rfl))
      try simp only [List.setIfInBounds_toArray, List.set_cons_zero, List.set_cons_succ]
      refine heldY 3 19 ?_ _ rfl rfl (by kernel_rfl) (by kernel_rfl) (by kernel_rfl) (fun _ _ _ h => h) rfl (by assumption) ?_ ?_
      rotate_left
      · (intro w hSw; (try dsimp only at hSw); go_simp; (try with_reducible rfl))
      try simp only [List.setIfInBounds_toArray, List.set_cons_zero, List.set_cons_succ]
      refine heldY 4 20 ?_ _ rfl rfl (by kernel_rfl) (by kernel_rfl) (by kernel_rfl) (fun _ _ _ h => h) rfl (by assumption) ?_ ?_
      rotate_left
      · (intro w hSw; (try dsimp only at hSw); go_simp; (try with_reducible rfl))
      try simp only [List.setIfInBounds_toArray, List.set_cons_zero, List.set_cons_succ]
      refine heldY 5 21 ?_ _ rfl rfl (by kernel_rfl) (by kernel_rfl) (by kernel_rfl) (fun _ _ _ h => h) rfl (by assumption) ?_ ?_
      rotate_left
      · (intro w hSw; (try dsimp only at hSw); go_simp; (try with_reducible rfl))
      try simp only [List.setIfInBounds_toArray, List.set_cons_zero, List.set_cons_succ]
      refine heldY 6 22 ?_ _ rfl rfl (by kernel_rfl) (by kernel_rfl) (by kernel_rfl) (fun _ _ _ h => h) rfl (by assumption) ?_ ?_
      rotate_left
      · (intro w hSw; (try dsimp only at hSw); go_simp; (try with_reducible rfl))
      try simp only [List.setIfInBounds_toArray, List.set_cons_zero, List.set_cons_succ]
      refine heldY 7 23 ?_ _ rfl rfl (by kernel_rfl) (by kernel_rfl) (by kernel_rfl) (fun _ _ _ h => h) rfl (by assumption) ?_ ?_
      rotate_left
      · (intro w hSw; (try dsimp only at hSw); go_simp; (try with_reducible rfl))
      try simp only [List.setIfInBounds_toArray, List.set_cons_zero, List.set_cons_succ]
      refine heldY 8 24 ?_ _ rfl rfl (by kernel_rfl) (by kernel_rfl) (by kernel_rfl) (fun _ _ _ h => h) rfl (by assumption) ?_ ?_
      rotate_left
      · (intro w hSw; (try dsimp only at hSw); go_simp; (try with_reducible rfl))
      try simp only [List.setIfInBounds_toArray, List.set_cons_zero, List.set_cons_succ]
      refine heldY 9 25 ?_ _ rfl rfl (by kernel_rfl) (by kernel_rfl) (by kernel_rfl) (fun _ _ _ h => h) rfl (by assumption) ?_ ?_
      rotate_left
      · (intro w hSw; (try dsimp only at hSw); go_simp; (try with_reducible rfl))
      try simp only [List.setIfInBounds_toArray, List.set_cons_zero, List.set_cons_succ]
      refine wpAnyH_ready (rs := [10]) (by kernel_rfl) (by simp) ?_
      refine AllReadyH.cons rfl (fun K hK => ?_) AllReadyH.nil
      go_simp
      first | (go_at_call 78; (with_reducible refine (T1.out _ (BE _ (by assumption))).mono ?_); rintro e w3 ⟨rfl, hb⟩) | (go_at_call 31; (with_reducible refine (C1.out _ (BE _ (by assumption))).mono ?_); rintro e w3 ⟨rfl, hb⟩)
      refine hK.out _ _ ?_ (fun hHeld => ?_)
      · (try dsimp only); (first | assumption | exact hs | exact AtF.dr (w := wr) (l := [(⟨w.heap.size, 1, none⟩, .slice da dn dc), (⟨w.heap.size + 1, 0, none⟩, .string nm), (⟨w.heap.size + 1, 1, none⟩, .slice (some ⟨b, o, none⟩) n c), (⟨b, o + k, none⟩, .string X)]) hs | exact AtF.dr (w := wr) (l := [(⟨w.heap.size, 1, none⟩, .slice da dn dc), (⟨w.heap.size + 1, 0, none⟩, .string nm), (⟨w.heap.size + 1, 1, none⟩, .slice (some ⟨b, o, none⟩) n c), (⟨b, o + k, none⟩, .string X)]) (by assumption) | exact AtF.on (w := wr) (l := [(⟨w.heap.size, 1, none⟩, .slice da dn dc), (⟨w.heap.size + 1, 0, none⟩, .string nm), (⟨w.heap.size + 1, 1, none⟩, .slice (some ⟨b, o, none⟩) n c), (⟨b, o + k, none⟩, .string X)]) (by assumption) (by assumption) | exact AtF.al (w := wr) (l := [(⟨w.heap.size, 1, none⟩, .slice da dn dc), (⟨w.heap.size + 1, 0, none⟩, .string nm), (⟨w.heap.size + 1, 1, none⟩, .slice (some ⟨b, o, none⟩) n c), (⟨b, o + k, none⟩, .string X)]) (by assumption) _ | exact AtF.ald (w := wr) (l := [(⟨w.heap.size, 1, none⟩, .slice da dn dc), (⟨w.heap.size + 1, 0, none⟩, .string nm), (⟨w.heap.size + 1, 1, none⟩, .slice (some ⟨b, o, none⟩) n c), (⟨b, o + k, none⟩, .string X)]) (by assumption) _ | exact AtF.al (w := wr) (l := [(⟨w.heap.size, 1, none⟩, .slice da dn dc), (⟨w.heap.size + 1, 0, none⟩, .string nm), (⟨w.heap.size + 1, 1, none⟩, .slice (some ⟨b, o, none⟩) n c), (⟨b, o + k, none⟩, .string X)]) hs _ | exact AtF.ald (w := wr) (l := [(⟨w.heap.size, 1, none⟩, .slice da dn dc), (⟨w.heap.size + 1, 0, none⟩, .string nm), (⟨w.heap.size + 1, 1, none⟩, .slice (some ⟨b, o, none⟩) n c), (⟨b, o + k, none⟩, .string X)]) hs _)
      clear hK K
      try simp only [Act.put, List.setIfInBounds_toArray, List.set_cons_zero, List.set_cons_succ]
      refine wpAnyH_ready (rs := [11]) (by kernel_rfl) (by simp) ?_
      refine AllReadyH.cons rfl (fun K hK => ?_) AllReadyH.nil
      go_simp
      first | (go_at_call 78; (with_reducible refine (T1.out _ (BE _ (by assumption))).mono ?_); rintro e w3 ⟨rfl, hb⟩) | (go_at_call 31; (with_reducible refine (C1.out _ (BE _ (by assumption))).mono ?_); rintro e w3 ⟨rfl, hb⟩)
      refine hK.out _ _ ?_ (fun hHeld => ?_)
      · (try dsimp only); (first | assumption | exact hs | exact AtF.dr (w := wr) (l := [(⟨w.heap.size, 1, none⟩, .slice da dn dc), (⟨w.heap.size + 1, 0, none⟩, .string nm), (⟨w.heap.size + 1, 1, none⟩, .slice (some ⟨b, o, none⟩) n c), (⟨b, o + k, none⟩, .string X)]) hs | exact AtF.dr (w := wr) (l := [(⟨w.heap.size, 1, none⟩, .slice da dn dc), (⟨w.heap.size + 1, 0, none⟩, .string nm), (⟨w.heap.size + 1, 1, none⟩, .slice (some ⟨b, o, none⟩) n c), (⟨b, o + k, none⟩, .string X)]) (by assumption) | exact AtF.on (w := wr) (l := [(⟨w.heap.size, 1, none⟩, .slice da dn dc), (⟨w.heap.size + 1, 0, none⟩, .string nm), (⟨w.heap.size + 1, 1, none⟩, .slice (some ⟨b, o, none⟩) n c), (⟨b, o + k, none⟩, .string X)]) (by assumption) (by assumption) | exact AtF.al (w := wr) (l := [(⟨w.heap.size, 1, none⟩, .slice da dn dc), (⟨w.heap.size + 1, 0, none⟩, .string nm), (⟨w.heap.size + 1, 1, none⟩, .slice (some ⟨b, o, none⟩) n c), (⟨b, o + k, none⟩, .string X)]) (by assumption) _ | exact AtF.ald (w := wr) (l := [(⟨w.heap.size, 1, none⟩, .slice da dn dc), (⟨w.heap.size + 1, 0, none⟩, .string nm), (⟨w.heap.size + 1, 1, none⟩, .slice (some ⟨b, o, none⟩) n c), (⟨b, o + k, none⟩, .string X)]) (by assumption) _ | exact AtF.al (w := wr) (l := [(⟨w.heap.size, 1, none⟩, .slice da dn dc), (⟨w.heap.size + 1, 0, none⟩, .string nm), (⟨w.heap.size + 1, 1, none⟩, .slice (some ⟨b, o, none⟩) n c), (⟨b, o + k, none⟩, .string X)]) hs _ | exact AtF.ald (w := wr) (l := [(⟨w.heap.size, 1, none⟩, .slice da dn dc), (⟨w.heap.size + 1, 0, none⟩, .string nm), (⟨w.heap.size + 1, 1, none⟩, .slice (some ⟨b, o, none⟩) n c), (⟨b, o + k, none⟩, .string X)]) hs _)
      clear hK K
      try simp only [Act.put, List.setIfInBounds_toArray, List.set_cons_zero, List.set_cons_succ]
      refine wpAnyH_done (by kernel_rfl) ?_ _
      have HB4 : Hid (Below wr.heap.size wr w3) := Lib.hid (BE _ hHeld)
      have HO4 := Lib.hid (HO.out.on HB4.out)
      have HBB := Lib.hid (HB.out.trans (HB4.out.mono HB.out.size))
      have hsz4 := HBB.out.size
      obtain ⟨g1, g2⟩ := HCE2.out _ HB4.out
      clear hHeld hs e1 e2 e3 c0 T1 C1
      cases q
      · have HT2 : Hid (F (ps.take (k + 1)) = F (ps.take k)) := Lib.hid (by rw [HTK3.out]; simp)
        go_wp2
        go_roundw
        case rel => exact ⟨k + 1, by omega, by go_num, by rw [HT2.out]; exact HO4, HBB⟩
        case measure => simp [intOf]; omega
      · have HT2 : Hid (F (ps.take (k + 1)) = F (ps.take k) ++ [p]) := Lib.hid (by rw [HTK3.out]; simp)
        go_wp2_with (at_builtin; refine wpList_append_own _ rfl _ _ 33 rfl w2.heap.size 9 i0 _ 1 16 Tryz.underlying33 hi hz0 hz1 hz2' rfl (by decide) _ _ _ rfl (World.ownsRow.alloc HO4.out _) ⟨w3.heap.size, 0, none⟩ 1 1 [.string X] rfl rfl ?c1 ?c2 ?c3 ?c4 ?c5 ?_)
        case c2 => rfl
        case c3 => unfold maxLen; omega
        case c4 => omega
        case c5 => omega
        intro v' w6 hown' hgrow _
        have HO6 : Hid (OwnT w6 w2.heap.size v' (F (ps.take (k + 1)))) := Lib.hid (by rw [HT2.out]; exact OwnT.app HXL.out (by simpa using hown'))
        have HB6 : Hid (Below w2.heap.size w2 w6) := Lib.hid (OwnT.belowA HBB.out HO4.out hgrow (Nat.le_refl _) hsz4)
        clear hown' hgrow
        go_wp2
        go_roundw
        case rel => exact ⟨k + 1, by omega, by go_num, HO6, HB6⟩
        case measure => simp [intOf]; omega
    · have hkn : k = n := by omega
      subst hkn
      have HR : Hid (∃ r, OwnT wr w.heap.size r RES → True) := Lib.hid ⟨.bool true, fun _ => trivial⟩
      clear hlt
      obtain ⟨e1, e2, e3⟩ := HCEL.out _ HB.out
      have HFIN := Lib.hid (show OwnT wr w.heap.size _ RES from by have := HO.out.mono (base' := w.heap.size) (by have := HZ2.out; omega); rw [HFE.out] at this; exact this)
      have HFB := Lib.hid (HB2.out.trans (HB.out.mono HB2.out.size))
      go_wp2
      first | (go_ret; exact ⟨_, rfl, HFIN.out, HFB.out⟩) | exact ⟨_, rfl, HFIN.out, HFB.out⟩
end Go.Proofs.YtkcamfcjkjiijaaGreatDoor
