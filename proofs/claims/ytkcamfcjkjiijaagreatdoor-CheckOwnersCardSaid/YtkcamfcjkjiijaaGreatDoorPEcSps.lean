/-
  The reference's spots: where the files of a package are to be; nothing old turns.
-/
import Derived.Test.YtkcamfcjkjiijaaGreatDoorPEcLosM
import Derived.Deep.RegionLaw
import Derived.Deep.AppendLies
namespace Go.Proofs.YtkcamfcjkjiijaaGreatDoor
open Go.RowKit Go.Shelf
theorem newsE (w : World) (Z : ByteArray) (t : TypeId) : ∀ j u, [Value.string Z][j]? = some u → (w.alloc (.cells #[.string Z] t)).cell? ((⟨w.heap.size, 0, none⟩ : Addr).add j) = some u := by
  intro j u hj
  match j, hj with
  | 0, hj => simp at hj; subst hj; rw [Addr.add_lit, Nat.zero_add, World.cell?_alloc_new]; rfl
  | j + 1, hj => simp at hj
set_option maxRecDepth 100000 in
set_option maxHeartbeats 8000000 in
theorem spots_ref (x : Stv) (hd : x.ds.length ≤ 90000) (y : Pv) (hn : y.fl.length ≤ 90000) (w : World) (hx : InSt w x) (hy : InP w y) :
    Calls Tryz.prog 55 #[agS x, agP y] w fun e w' => ∃ r, e = .returned r ∧ OwnT w' w.heap.size r (placesL x.ds y.nm y.fl) ∧ Below w.heap.size w w' := by
  obtain ⟨i0, hi, hz0, hz1, hz2'⟩ := info_parts infoT
  have b1 := (Below.refl w.heap.size w).alloc (Nat.le_refl _) (.cells #[x.rv, x.dv, x.ov, x.av, x.iv, x.fv, x.lv] 30)
  have b2 := b1.alloc b1.size (.cells #[.string (⟨y.nm.toArray⟩ : ByteArray), .string (⟨y.vr.toArray⟩ : ByteArray), y.dv, y.cv, y.rv, y.fv, y.iv, y.v0, y.v1, y.v2, y.v3] 38)
  have hB : (w.alloc (.cells #[x.rv, x.dv, x.ov, x.av, x.iv, x.fv, x.lv] 30)).cell? ⟨w.heap.size, 1, none⟩ = some x.dv := boxV7 w x.rv x.dv x.ov x.av x.iv x.fv x.lv 30 1 _ rfl
  have bx := fun i v h => boxV11 (w.alloc (.cells #[x.rv, x.dv, x.ov, x.av, x.iv, x.fv, x.lv] 30)) (.string (⟨y.nm.toArray⟩ : ByteArray)) (.string (⟨y.vr.toArray⟩ : ByteArray)) y.dv y.cv y.rv y.fv y.iv y.v0 y.v1 y.v2 y.v3 38 i v h
  have n0 := bx 0 _ rfl
  have n1 := bx 5 _ rfl
  clear bx
  have hB2 := (((Below.refl _ (w.alloc (.cells #[x.rv, x.dv, x.ov, x.av, x.iv, x.fv, x.lv] 30))).alloc (Nat.le_refl _) (.cells #[.string (⟨y.nm.toArray⟩ : ByteArray), .string (⟨y.vr.toArray⟩ : ByteArray), y.dv, y.cv, y.rv, y.fv, y.iv, y.v0, y.v1, y.v2, y.v3] 38)).cell (p := ⟨w.heap.size, 1, none⟩) (by simp)).trans hB
  obtain ⟨w2, hw2⟩ : ∃ w2, (w.alloc (.cells #[x.rv, x.dv, x.ov, x.av, x.iv, x.fv, x.lv] 30)).alloc (.cells #[.string (⟨y.nm.toArray⟩ : ByteArray), .string (⟨y.vr.toArray⟩ : ByteArray), y.dv, y.cv, y.rv, y.fv, y.iv, y.v0, y.v1, y.v2, y.v3] 38) = w2 := ⟨_, rfl⟩
  have hz2 : w2.heap.size = w.heap.size + 2 := by rw [← hw2]; simp
  rw [hw2] at b2 n0 n1 hB2
  simp only [World.size_alloc] at n0 n1
  have HCEL : Hid (∀ W, Below w2.heap.size w2 W → W.cell? ⟨w.heap.size, 1, none⟩ = some x.dv ∧ W.cell? ⟨w.heap.size + 1, 0, none⟩ = some (.string (⟨y.nm.toArray⟩ : ByteArray)) ∧ W.cell? ⟨w.heap.size + 1, 5, none⟩ = some y.fv) := Lib.hid (fun W hb => ⟨(hb.cell (p := ⟨w.heap.size, 1, none⟩) (show w.heap.size < w2.heap.size by omega)).trans hB2, (hb.cell (p := ⟨w.heap.size + 1, 0, none⟩) (show w.heap.size + 1 < w2.heap.size by omega)).trans n0, (hb.cell (p := ⟨w.heap.size + 1, 5, none⟩) (show w.heap.size + 1 < w2.heap.size by omega)).trans n1⟩)
  have TR : Hid (∀ W (q : ByteArray), Below w2.heap.size w2 W → Calls Tryz.prog 78 #[x.dv, .string q, .string (⟨y.nm.toArray⟩ : ByteArray)] W fun e w' => e = .returned (.string (bsA (toD x.ds q.data.toList y.nm))) ∧ Below W.heap.size W w') := Lib.hid (fun W q hb => by
    have := true_ref x.dv x.ds hd q (⟨y.nm.toArray⟩ : ByteArray) W (hx.on (b2.trans (hb.mono b2.size))).ds
    rw [show (⟨y.nm.toArray⟩ : ByteArray).data.toList = y.nm from by simp] at this
    exact this)
  obtain ⟨a, c, b, o, hfv', hc, ha, hcell⟩ := (hy.on b2).fl.parts
  have HC := Lib.hid hcell
  obtain ⟨⟨⟨ra, rc, -, -, hrv, -⟩, -⟩, ⟨oa, on, oc, hov⟩, ⟨aa, an, ac, hav⟩, ⟨ia, im, ic, hiv⟩, ⟨fa, fn, fc, hfv⟩, ⟨da, dn, dc, hdv⟩, ⟨la, ln, lc, hlv⟩⟩ := inS7_of hx
  obtain ⟨⟨pda, pdc, _, _, pdv, -⟩, -⟩ := hy.dp
  obtain ⟨pca, pcc, _, _, pcv, -⟩ := hy.cn
  obtain ⟨pra, prc, _, _, prv, -⟩ := hy.rp
  obtain ⟨pia, pic, _, _, piv, -⟩ := hy.it
  obtain ⟨⟨pa0, pc0, _, _, pv0, -⟩, -⟩ := hy.s0
  obtain ⟨⟨pa1, pc1, _, _, pv1, -⟩, -⟩ := hy.s1
  obtain ⟨⟨pa2, pc2, _, _, pv2, -⟩, -⟩ := hy.s2
  obtain ⟨⟨pa3, pc3, _, _, pv3, -⟩, -⟩ := hy.s3
  have HB2 := Lib.hid b2
  obtain ⟨n, hN⟩ : ∃ n, y.fl.length = n := ⟨_, rfl⟩
  rw [hN] at hfv' hc ha hn
  have HN := Lib.hid hN
  obtain ⟨F, hF⟩ : ∃ F : List Fv → List Bs, (fun l => placesL x.ds y.nm l) = F := ⟨_, rfl⟩
  obtain ⟨D, hD⟩ : ∃ D : Bs → Bs, (fun p => toD x.ds p y.nm) = D := ⟨_, rfl⟩
  have HTK : Hid (∀ k f, y.fl[k]? = some f → F (y.fl.take (k + 1)) = F (y.fl.take k) ++ (if notDir f = true then [D f.pt] else []) ∧ (F (y.fl.take k)).length ≤ k) := Lib.hid (fun k f h => by
    rw [← hF, ← hD]
    exact ⟨places_take h, Nat.le_trans (places_len _ _ _) (by rw [List.length_take]; omega)⟩)
  have HF0 : Hid (F (y.fl.take 0) = []) := Lib.hid (by rw [← hF]; rfl)
  have HFE : Hid (F (y.fl.take n) = placesL x.ds y.nm y.fl) := Lib.hid (by rw [← hF, List.take_of_length_le (by omega)])
  obtain ⟨RES, hRES⟩ : ∃ q, placesL x.ds y.nm y.fl = q := ⟨_, rfl⟩
  rw [hRES] at HFE ⊢
  have TR2 : Hid (∀ W (q : ByteArray), Below w2.heap.size w2 W → Calls Tryz.prog 78 #[x.dv, .string q, .string (⟨y.nm.toArray⟩ : ByteArray)] W fun e w' => e = .returned (.string (bsA (D q.data.toList))) ∧ Below W.heap.size W w') := Lib.hid (fun W q hb => by rw [← hD]; exact TR.out W q hb)
  have HW2 := Lib.hid hw2
  have HZ2 := Lib.hid hz2
  clear TR hF hD hRES hcell hN hx hy b1 b2 hB hB2 n0 n1 hw2 hd hz2
  obtain ⟨rs, ds, ls, rv, dv, ov, av, iv, fv, lv⟩ := x
  obtain ⟨nm, vr, dp, cn, rp, fl, it, s0, s1, s2, s3, qdv, qcv, qrv, qfv, qiv, v0, v1, v2, v3⟩ := y
  unfold agS agP
  dsimp only at *
  subst hrv hov hav hiv hfv hdv hlv hfv' pdv pcv prv piv pv0 pv1 pv2 pv3
  simp only [List.length_map] at *
  generalize rs.length = rn at *
  generalize dp.length = dpn at *
  generalize cn.length = cnn at *
  generalize rp.length = rpn at *
  generalize it.length = itn at *
  generalize s0.length = sn0 at *
  generalize s1.length = sn1 at *
  generalize s2.length = sn2 at *
  generalize s3.length = sn3 at *
  generalize (⟨nm.toArray⟩ : ByteArray) = NM at *
  generalize (⟨vr.toArray⟩ : ByteArray) = VR at *
  go_enter Tryz.func55, Tryz.ntmps55
  have hw2 := HW2.out
  obtain ⟨e1, e2, e3⟩ := HCEL.out w2 (Below.refl _ _)
  go_wp2
  clear hw2 e1 e2 e3
  go_loopw [5, 6] (fun u i wr => ∃ (k : Nat), k ≤ n ∧ i = .int .i64 k ∧ Hid (OwnT wr w2.heap.size u (F (fl.take k))) ∧ Hid (Below w2.heap.size w2 wr)) (fun _ i _ => n - (intOf i).toNat)
  case atStart => exact ⟨0, by omega, rfl, Lib.hid (by rw [HF0.out]; exact OwnT.nil _ _), Lib.hid (Below.refl _ _)⟩
  case round =>
    obtain ⟨k, hk, rfl, HO, HB⟩ := hrel
    have hsz := HB.out.size
    obtain ⟨e1, e2, e3⟩ := HCEL.out _ HB.out
    by_cases hlt : k < n
    · obtain ⟨rfl, hbw⟩ := ha (by omega)
      obtain ⟨f, hpx⟩ : ∃ f, fl[k]? = some f := ⟨_, List.getElem?_eq_getElem (by rw [HN.out]; exact hlt)⟩
      obtain ⟨c0, c1, c2, c3, c4, c5, c6⟩ := HC.out k f hpx
      rw [← HB.out.cell (p := ⟨b, o + k * 7, none⟩) hbw] at c0
      rw [← HB.out.cell (p := ⟨b, o + k * 7 + 1, none⟩) hbw] at c1
      rw [← HB.out.cell (p := ⟨b, o + k * 7 + 2, none⟩) hbw] at c2
      rw [← HB.out.cell (p := ⟨b, o + k * 7 + 3, none⟩) hbw] at c3
      rw [← HB.out.cell (p := ⟨b, o + k * 7 + 4, none⟩) hbw] at c4
      rw [← HB.out.cell (p := ⟨b, o + k * 7 + 5, none⟩) hbw] at c5
      rw [← HB.out.cell (p := ⟨b, o + k * 7 + 6, none⟩) hbw] at c6
      obtain ⟨htk, hlen⟩ := HTK.out k f hpx
      obtain ⟨pt, kd, mm, uu, gg, tx, cf⟩ := f
      dsimp only at c0 c1 c2 c3 c4 c5 c6 htk
      clear c2 c3 c4 c5 c6
      obtain ⟨X, hX⟩ : ∃ X : ByteArray, (⟨pt.toArray⟩ : ByteArray) = X := ⟨_, rfl⟩
      have hXL : X.data.toList = pt := by rw [← hX]
      rw [hX] at c0
      have hbd := (Below.refl wr.heap.size wr).drew
      have T1 := TR2.out _ X (HB.out.trans (hbd.mono HB.out.size))
      rw [hXL] at T1
      have HDX : Hid ((bsA (D pt)).data.toList = D pt) := Lib.hid (by simp)
      have HTK3 := Lib.hid htk
      have i0' : (0 : Int) ≤ (k : Int) := by omega
      have i1' : (k : Int) < (n : Int) := by omega
      generalize bsA (D pt) = Z at *
      by_cases hkd : kd = 1
      · subst hkd
        have HT2 : Hid (F (fl.take (k + 1)) = F (fl.take k)) := Lib.hid (by rw [HTK3.out]; simp [notDir])
        clear htk hXL hX hpx hbd T1
        go_wp2
        go_roundw
        case rel => exact ⟨k + 1, by omega, by go_num, by rw [HT2.out]; exact HO, HB⟩
        case measure => simp [intOf]; omega
      · have hkb : (kd == 1) = false := by simpa using hkd
        have HT2 : Hid (F (fl.take (k + 1)) = F (fl.take k) ++ [D pt]) := Lib.hid (by rw [HTK3.out]; simp [notDir, hkd])
        have e1d : wr.drew.cell? ⟨w.heap.size, 1, none⟩ = _ := e1
        have e2d : wr.drew.cell? ⟨w.heap.size + 1, 0, none⟩ = _ := e2
        have e3d : wr.drew.cell? ⟨w.heap.size + 1, 5, none⟩ = _ := e3
        have c0d : wr.drew.cell? ⟨b, o + k * 7, none⟩ = _ := c0
        have hle : (F (fl.take k)).length ≤ 90000 := by omega
        obtain ⟨R, hR⟩ : ∃ R, F (fl.take k) = R := ⟨_, rfl⟩
        rw [hR] at HT2 hle HO
        obtain ⟨ra9, rn9, rc9, hrf⟩ := HO.out.form
        subst hrf
        clear htk hXL hX hpx hR hlen
        go_wp2
        go_region_law (first
          | (refine step_append_lies _ rfl _ _ 33 rfl w2.heap.size 9 i0 (.string ⟨#[]⟩) 1 16 Tryz.underlying33 hi hz0 hz1 hz2' rfl (by decide) _ _ _ rfl (World.ownsRow.alloc HO4.out _) ⟨w4.heap.size, 0, none⟩ 1 1 [.string Z] rfl rfl (newsE w4 Z 9) (by simp [Value.oneCell']) (by decide) (by unfold maxLen; omega) (by omega) (by simp; omega) _ rfl ?_; intro g cap w6 hown' hgrow _ _; have HO6 : Hid (OwnT w6 w2.heap.size _ (F (fl.take (k + 1)))) := Lib.hid (by rw [HT2.out]; exact OwnT.app HDX.out (by simpa using hown')); have HB6 : Hid (Below w2.heap.size w2 w6) := Lib.hid (OwnT.belowA HB4.out HO4.out hgrow (Nat.le_refl _) hsz4); clear hown' hgrow)
          | (go_simp; go_at_call 78; (with_reducible refine T1.mono ?_); rintro e w4 ⟨rfl, hb⟩; have hbb := hbd.trans (hb.mono hbd.size); have HB4 := Lib.hid (HB.out.trans (hbb.mono HB.out.size)); have HO4 := Lib.hid (HO.out.on hbb); have hsz4 := HB4.out.size; clear hb hbb T1))
        all_goals
          go_wp2
          go_roundw
          case rel => exact ⟨k + 1, by omega, by go_num, HO6, HB6⟩
          case measure => simp [intOf]; omega
    · have hkn : k = n := by omega
      subst hkn
      have HFIN := Lib.hid (show OwnT wr w.heap.size _ RES from by have := HO.out.mono (base' := w.heap.size) (by have := HZ2.out; omega); rw [HFE.out] at this; exact this)
      have HFB := Lib.hid (HB2.out.trans (HB.out.mono HB2.out.size))
      clear hlt
      go_wp2
      first | (go_ret; exact ⟨_, rfl, HFIN.out, HFB.out⟩) | exact ⟨_, rfl, HFIN.out, HFB.out⟩
end Go.Proofs.YtkcamfcjkjiijaaGreatDoor
