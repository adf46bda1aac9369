/-
  The reference's Owned: who has files where a package's are to be; nothing old turns.
-/
import Derived.Test.YtkcamfcjkjiijaaGreatDoorPEcLost
import Derived.Test.YtkcamfcjkjiijaaGreatDoorPEcSps
import Derived.Test.YtkcamfcjkjiijaaGreatDoorPEcShr
import Derived.Test.YtkcamfcjkjiijaaGreatDoorPEcOwnM
import Derived.Test.YtkcamfcjkjiijaaGreatDoorPPHas
namespace Go.Proofs.YtkcamfcjkjiijaaGreatDoor
open Go.RowKit Go.Shelf
set_option maxRecDepth 100000 in
set_option maxHeartbeats 16000000 in
theorem owned_ref (x : Stv) (y : Pv) (hd : x.ds.length ≤ 90000) (hl : x.ls.length ≤ 90000) (hp : ∀ p ∈ x.ls, p.1.2.length ≤ 90000) (hn : y.fl.length ≤ 90000) (hl5 : x.ls.length ≤ 5000) (hr : y.rp.length ≤ 90000) (w : World) (hx : InSt w x) (hy : InP w y) :
    Calls Tryz.prog 24 #[agS x, agP y] w fun e w' => ∃ r, e = .returned r ∧ OwnS w' w.heap.size r (srt (refOwn x.ds y.nm y.rp (placesL x.ds y.nm y.fl) x.ls)) ∧ Below w.heap.size w w' := by
  obtain ⟨i0, hi, hz0, hz1, hz2'⟩ := info_parts infoT
  obtain ⟨w2, hw2, hz2, b2, c7, c11⟩ := two_boxes x y w
  have PL : Hid (∀ W, Below w2.heap.size w2 W → Calls Tryz.prog 55 #[agS x, agP y] W fun e w' => ∃ r, e = .returned r ∧ OwnT w' W.heap.size r (placesL x.ds y.nm y.fl) ∧ Below W.heap.size W w') := Lib.hid (fun W hb => spots_ref x hd y hn W (hx.on (b2.trans (hb.mono b2.size))) (hy.on (b2.trans (hb.mono b2.size))))
  have hal : (placesL x.ds y.nm y.fl).length ≤ 90000 := Nat.le_trans (places_len _ _ _) hn
  obtain ⟨ats, hats⟩ : ∃ ats, placesL x.ds y.nm y.fl = ats := ⟨_, rfl⟩
  rw [hats] at PL hal ⊢
  have CT : Hid (∀ W (q : ByteArray), Below w2.heap.size w2 W → Calls Tryz.prog 31 #[y.rv, .string q] W fun e w' => e = .returned (.bool (decide (q.data.toList ∈ y.rp))) ∧ W = w') := Lib.hid (fun W q hb => has13_any y.rv y.rp hr q W ((hy.on (b2.trans (hb.mono b2.size))).rp))
  have LO : Hid (∀ W (nm : ByteArray) (pv u : Value) (ps : List Bs), Below w2.heap.size w2 W → ps.length ≤ 90000 → HoldT W pv ps → HoldT W u ats → Calls Tryz.prog 50 #[agS x, .agg #[.string nm, pv], u] W fun e w' => ∃ r, e = .returned r ∧ OwnT w' W.heap.size r (locL x.ds nm.data.toList ps ats) ∧ Below W.heap.size W w') := Lib.hid (fun W nm pv u ps hb h1 h2 h3 => shared_ref x hd nm pv ps h1 u ats hal W (hx.on (b2.trans (hb.mono b2.size))) h2 h3)
  have C7 : Hid (∀ W, Below w2.heap.size w2 W → Cell7 w.heap.size W x) := Lib.hid (fun W hb => c7.on hb)
  have C11 : Hid (∀ W, Below w2.heap.size w2 W → Cell11 (w.heap.size + 1) W y) := Lib.hid (fun W hb => c11.on hb)
  obtain ⟨hin, a, c, b, o, hlv', hc, ha, hcell⟩ := (hx.on b2).ls
  have HI := Lib.hid hin
  have HC := Lib.hid hcell
  have HP := Lib.hid hp
  obtain ⟨⟨⟨ra, rc, -, -, hrv, -⟩, -⟩, ⟨oa, on, oc, hov⟩, ⟨aa, an, ac, hav⟩, ⟨ia, im, ic, hiv⟩, ⟨fa, fn, fc, hfv⟩, ⟨da, dn, dc, hdv⟩, -⟩ := inS7_of hx
  obtain ⟨⟨pda, pdc, _, _, pdv, -⟩, -⟩ := hy.dp
  obtain ⟨pca, pcc, _, _, pcv, -⟩ := hy.cn
  obtain ⟨pra, prc, _, _, prv, -⟩ := hy.rp
  obtain ⟨pfa, pfc, _, _, pfv, -⟩ := hy.fl
  obtain ⟨pia, pic, _, _, piv, -⟩ := hy.it
  obtain ⟨⟨pa0, pc0, _, _, pv0, -⟩, -⟩ := hy.s0
  obtain ⟨⟨pa1, pc1, _, _, pv1, -⟩, -⟩ := hy.s1
  obtain ⟨⟨pa2, pc2, _, _, pv2, -⟩, -⟩ := hy.s2
  obtain ⟨⟨pa3, pc3, _, _, pv3, -⟩, -⟩ := hy.s3
  have HB2 := Lib.hid b2
  have HW2 := Lib.hid hw2
  have HZ2 := Lib.hid hz2
  obtain ⟨n, hN⟩ : ∃ n, x.ls.length = n := ⟨_, rfl⟩
  rw [hN] at hlv' hc ha hl
  have HN := Lib.hid hN
  obtain ⟨F, hF⟩ : ∃ F : List Lp → List Bs, (fun l => refOwn x.ds y.nm y.rp ats l) = F := ⟨_, rfl⟩
  have HF0 : Hid (F (x.ls.take 0) = []) := Lib.hid (by rw [← hF]; rfl)
  have HTK : Hid (∀ k p, x.ls[k]? = some p → F (x.ls.take (k + 1)) = F (x.ls.take k) ++ (if (other y.nm y.rp p.1.1 && decide (0 < (locL x.ds p.1.1 p.1.2 ats).length)) = true then [p.1.1] else []) ∧ (F (x.ls.take k)).length ≤ k) := Lib.hid (fun k p h => by
    rw [← hF]
    exact ⟨refOwn_take h, Nat.le_trans (refOwn_len _ _ _ _ _) (by rw [List.length_take]; omega)⟩)
  have HFE : Hid (F (x.ls.take n) = refOwn x.ds y.nm y.rp ats x.ls) := Lib.hid (by rw [← hF, List.take_of_length_le (by omega)])
  have HFL : Hid ((refOwn x.ds y.nm y.rp ats x.ls).length ≤ 5000) := Lib.hid (Nat.le_trans (refOwn_len _ _ _ _ _) hl5)
  obtain ⟨RES, hRES⟩ : ∃ q, refOwn x.ds y.nm y.rp ats x.ls = q := ⟨_, rfl⟩
  rw [hRES] at HFE HFL ⊢
  clear hF hRES hl5 hcell hin hN hx hy b2 hw2 hz2 hd c7 c11 hats hp hal
  obtain ⟨rs, ds, ls, rv, dv, ov, av, iv, fv, lv⟩ := x
  obtain ⟨nm, vr, dp, cn, rp, fl, it, s0, s1, s2, s3, qdv, qcv, qrv, qfv, qiv, v0, v1, v2, v3⟩ := y
  unfold agS agP
  unfold agS agP at PL
  unfold agS at LO
  unfold Cell7 at C7
  unfold Cell11 at C11
  dsimp only at *
  subst hrv hov hav hiv hfv hdv hlv' pdv pcv prv pfv piv pv0 pv1 pv2 pv3
  simp only [List.length_map] at *
  generalize rs.length = rn at *
  generalize dp.length = dpn at *
  generalize cn.length = cnn at *
  generalize it.length = itn at *
  generalize fl.length = fln at *
  generalize s0.length = sn0 at *
  generalize s1.length = sn1 at *
  generalize s2.length = sn2 at *
  generalize s3.length = sn3 at *
  generalize rp.length = rpn at *
  have hNMt : (⟨nm.toArray⟩ : ByteArray).data.toList = nm := by simp
  generalize (⟨nm.toArray⟩ : ByteArray) = NM at *
  have HNM := Lib.hid hNMt
  clear hNMt
  generalize (⟨vr.toArray⟩ : ByteArray) = VR at *
  go_enter Tryz.func24, Tryz.ntmps24
  have hw2 := HW2.out
  obtain ⟨d0, d1, d2, d3, d4, d5, d6⟩ := C7.out w2 (Below.refl _ _)
  go_wp2
  clear hw2 d0 d1 d2 d3 d4 d5 d6
  go_loopw [5, 6] (fun u i wr => ∃ (k : Nat), k ≤ n ∧ i = .int .i64 k ∧ Hid (OwnT wr w2.heap.size u (F (ls.take k))) ∧ Hid (Below w2.heap.size w2 wr)) (fun _ i _ => n - (intOf i).toNat)
  case atStart => exact ⟨0, by omega, rfl, Lib.hid (by rw [HF0.out]; exact OwnT.nil _ _), Lib.hid (Below.refl _ _)⟩
  case round =>
    obtain ⟨k, hk, rfl, HO, HB⟩ := hrel
    have hsz := HB.out.size
    obtain ⟨d0, d1, d2, d3, d4, d5, d6⟩ := C7.out wr HB.out
    obtain ⟨p0, p1, p2, p3, p4, p5, p6, p7, p8, p9, p10⟩ := C11.out wr HB.out
    by_cases hlt : k < n
    · obtain ⟨rfl, hbw⟩ := ha (by omega)
      obtain ⟨p, hpx⟩ : ∃ p, ls[k]? = some p := ⟨_, List.getElem?_eq_getElem (by rw [HN.out]; exact hlt)⟩
      obtain ⟨c0, c1⟩ := HC.out k p hpx
      have hpm := List.mem_of_getElem? hpx
      have HPI := HI.out p hpm
      have hpn := HP.out p hpm
      rw [← HB.out.cell (p := ⟨b, o + k * 2, none⟩) hbw] at c0
      rw [← HB.out.cell (p := ⟨b, o + k * 2 + 1, none⟩) hbw] at c1
      obtain ⟨pa, pn, pc, hu⟩ := HoldT.form2 HPI
      rw [hu] at c1
      obtain ⟨X, hX⟩ : ∃ X : ByteArray, bsT p.1.1 = X := ⟨_, rfl⟩
      have hXL : X.data.toList = p.1.1 := by rw [← hX]
      rw [hX] at c0
      have SPx : Hid (∀ V, Below wr.heap.size wr V → Calls Tryz.prog 55 #[.agg #[.slice ra rn rc, .slice da dn dc, .slice oa on oc, .slice aa an ac, .slice ia im ic, .slice fa fn fc, .slice (some ⟨b, o, none⟩) n c], .agg #[.string NM, .string VR, .slice pda dpn pdc, .slice pca cnn pcc, .slice pra rpn prc, .slice pfa fln pfc, .slice pia itn pic, .slice pa0 sn0 pc0, .slice pa1 sn1 pc1, .slice pa2 sn2 pc2, .slice pa3 sn3 pc3]] V fun e w' => (∃ a c, e = .returned (.slice a ats.length c) ∧ HoldT w' (.slice a ats.length c) ats) ∧ Below V.heap.size V w') := Lib.hid (fun V hb => by
        refine (PL.out V (HB.out.trans (hb.mono HB.out.size))).mono (fun e w' h => ?_)
        obtain ⟨r, h1, h2, h3⟩ := h
        obtain ⟨a, n9, c9, hr, hrl⟩ := ownT_len h2
        subst hr hrl
        exact ⟨⟨a, c9, h1, h2.holds⟩, h3⟩)
      obtain ⟨LL, hLL⟩ : ∃ q, locL ds p.1.1 p.1.2 ats = q := ⟨_, rfl⟩
      have hll : LL.length ≤ 90000 := by rw [← hLL]; exact Nat.le_trans (loc_len _ _ _ _) hpn
      have LOx : Hid (∀ V a8 c8, Below wr.heap.size wr V → HoldT V (.slice a8 ats.length c8) ats → Calls Tryz.prog 50 #[.agg #[.slice ra rn rc, .slice da dn dc, .slice oa on oc, .slice aa an ac, .slice ia im ic, .slice fa fn fc, .slice (some ⟨b, o, none⟩) n c], .agg #[.string X, .slice pa pn pc], .slice a8 ats.length c8] V fun e w' => (∃ a2 c2, e = .returned (.slice a2 LL.length c2) ∧ OwnT w' wr.heap.size (.slice a2 LL.length c2) LL) ∧ Below V.heap.size V w') := Lib.hid (fun V a8 c8 hb h => by
        have := LO.out V X (.slice pa pn pc) (.slice a8 ats.length c8) p.1.2 (HB.out.trans (hb.mono HB.out.size)) hpn (by rw [← hu]; exact HPI.on (HB.out.trans (hb.mono HB.out.size))) h
        rw [hXL, hLL] at this
        refine this.mono (fun e w' h => ?_)
        obtain ⟨r, h1, h2, h3⟩ := h
        obtain ⟨a9, n9, c9, hr, hrl⟩ := ownT_len h2
        subst hr hrl
        exact ⟨⟨a9, c9, h1, h2.mono hb.size⟩, h3⟩)
      obtain ⟨htk, hlen⟩ := HTK.out k p hpx
      rw [hLL] at htk
      have he := eqT X NM
      rw [hXL, HNM.out] at he
      have HAx : Hid (∀ V, Below wr.heap.size wr V → Calls Tryz.prog 31 #[.slice pra rpn prc, .string X] V fun e w' => e = .returned (.bool (decide (p.1.1 ∈ rp))) ∧ Below V.heap.size V w') := Lib.hid (fun V hb => by
        have := CT.out V X (HB.out.trans (hb.mono HB.out.size))
        rw [hXL] at this; exact this.mono (fun e w' ⟨g1, g2⟩ => ⟨g1, by rw [g2]; exact Below.refl _ _⟩))
      unfold other at htk
      obtain ⟨q2, hq2⟩ : ∃ q, decide (p.1.1 = nm) = q := ⟨_, rfl⟩
      obtain ⟨q3, hq3⟩ : ∃ q, decide (p.1.1 ∈ rp) = q := ⟨_, rfl⟩
      rw [hq2, hq3] at htk
      rw [hq2] at he
      rw [hq3] at HAx
      have HTK1 := Lib.hid htk
      have HXP := Lib.hid hXL
      have hNO : Hid (q2 = true ∨ q3 = true ∨ ¬ 0 < LL.length → F (ls.take (k + 1)) = F (ls.take k)) := Lib.hid (fun h => by rw [HTK1.out]; rcases h with rfl | rfl | h <;> simp [*])
      have hYES : Hid (q2 = false → q3 = false → 0 < LL.length → F (ls.take (k + 1)) = F (ls.take k) ++ [p.1.1]) := Lib.hid (fun h2 h3 h4 => by rw [HTK1.out]; simp [h2, h3, h4])
      obtain ⟨PN, hPN⟩ : ∃ q, p.1.1 = q := ⟨_, rfl⟩
      rw [hPN] at hYES HXP
      obtain ⟨RR, hRR⟩ : ∃ q, F (ls.take k) = q := ⟨_, rfl⟩
      rw [hRR] at hNO hYES hlen HO
      have i0' : (0 : Int) ≤ (k : Int) := by omega
      have i1' : (k : Int) < (n : Int) := by omega
      have hs := And.intro d0 (And.intro d1 (And.intro d2 (And.intro d3 (And.intro d4 (And.intro d5 (And.intro d6 (And.intro p0 (And.intro p1 (And.intro p2 (And.intro p3 (And.intro p4 (And.intro p5 (And.intro p6 (And.intro p7 (And.intro p8 (And.intro p9 (And.intro p10 (And.intro c0 (And.intro c1 (Below.refl wr.heap.size wr))))))))))))))))))))
      clear htk hq2 hq3 hu hX hXL hpx hpm hLL hPN hpn HPI hRR
      go_wp2
      cases q2
      rotate_left
      · have HF1 := Lib.hid (hNO.out (by simp))
        have BE := fun (V : World) (h : V.cell? ⟨w.heap.size, 0, none⟩ = some (.slice ra rn rc) ∧ V.cell? ⟨w.heap.size, 1, none⟩ = some (.slice da dn dc) ∧ V.cell? ⟨w.heap.size, 2, none⟩ = some (.slice oa on oc) ∧ V.cell? ⟨w.heap.size, 3, none⟩ = some (.slice aa an ac) ∧ V.cell? ⟨w.heap.size, 4, none⟩ = some (.slice ia im ic) ∧ V.cell? ⟨w.heap.size, 5, none⟩ = some (.slice fa fn fc) ∧ V.cell? ⟨w.heap.size, 6, none⟩ = some (.slice (some ⟨b, o, none⟩) n c) ∧ V.cell? ⟨w.heap.size + 1, 0, none⟩ = some (.string NM) ∧ V.cell? ⟨w.heap.size + 1, 1, none⟩ = some (.string VR) ∧ V.cell? ⟨w.heap.size + 1, 2, none⟩ = some (.slice pda dpn pdc) ∧ V.cell? ⟨w.heap.size + 1, 3, none⟩ = some (.slice pca cnn pcc) ∧ V.cell? ⟨w.heap.size + 1, 4, none⟩ = some (.slice pra rpn prc) ∧ V.cell? ⟨w.heap.size + 1, 5, none⟩ = some (.slice pfa fln pfc) ∧ V.cell? ⟨w.heap.size + 1, 6, none⟩ = some (.slice pia itn pic) ∧ V.cell? ⟨w.heap.size + 1, 7, none⟩ = some (.slice pa0 sn0 pc0) ∧ V.cell? ⟨w.heap.size + 1, 8, none⟩ = some (.slice pa1 sn1 pc1) ∧ V.cell? ⟨w.heap.size + 1, 9, none⟩ = some (.slice pa2 sn2 pc2) ∧ V.cell? ⟨w.heap.size + 1, 10, none⟩ = some (.slice pa3 sn3 pc3) ∧ V.cell? ⟨b, o + k * 2, none⟩ = some (.string X) ∧ V.cell? ⟨b, o + k * 2 + 1, none⟩ = some (.slice pa pn pc) ∧ Below wr.heap.size wr V) => AtF.be (w := wr) (l := [(⟨w.heap.size, 0, none⟩, .slice ra rn rc), (⟨w.heap.size, 1, none⟩, .slice da dn dc), (⟨w.heap.size, 2, none⟩, .slice oa on oc), (⟨w.heap.size, 3, none⟩, .slice aa an ac), (⟨w.heap.size, 4, none⟩, .slice ia im ic), (⟨w.heap.size, 5, none⟩, .slice fa fn fc), (⟨w.heap.size, 6, none⟩, .slice (some ⟨b, o, none⟩) n c), (⟨w.heap.size + 1, 0, none⟩, .string NM), (⟨w.heap.size + 1, 1, none⟩, .string VR), (⟨w.heap.size + 1, 2, none⟩, .slice pda dpn pdc), (⟨w.heap.size + 1, 3, none⟩, .slice pca cnn pcc), (⟨w.heap.size + 1, 4, none⟩, .slice pra rpn prc), (⟨w.heap.size + 1, 5, none⟩, .slice pfa fln pfc), (⟨w.heap.size + 1, 6, none⟩, .slice pia itn pic), (⟨w.heap.size + 1, 7, none⟩, .slice pa0 sn0 pc0), (⟨w.heap.size + 1, 8, none⟩, .slice pa1 sn1 pc1), (⟨w.heap.size + 1, 9, none⟩, .slice pa2 sn2 pc2), (⟨w.heap.size + 1, 10, none⟩, .slice pa3 sn3 pc3), (⟨b, o + k * 2, none⟩, .string X), (⟨b, o + k * 2 + 1, none⟩, .slice pa pn pc)]) h
        refine wp_region_held_drew (S := (fun V => V.cell? ⟨w.heap.size, 0, none⟩ = some (.slice ra rn rc) ∧ V.cell? ⟨w.heap.size, 1, none⟩ = some (.slice da dn dc) ∧ V.cell? ⟨w.heap.size, 2, none⟩ = some (.slice oa on oc) ∧ V.cell? ⟨w.heap.size, 3, none⟩ = some (.slice aa an ac) ∧ V.cell? ⟨w.heap.size, 4, none⟩ = some (.slice ia im ic) ∧ V.cell? ⟨w.heap.size, 5, none⟩ = some (.slice fa fn fc) ∧ V.cell? ⟨w.heap.size, 6, none⟩ = some (.slice (some ⟨b, o, none⟩) n c) ∧ V.cell? ⟨w.heap.size + 1, 0, none⟩ = some (.string NM) ∧ V.cell? ⟨w.heap.size + 1, 1, none⟩ = some (.string VR) ∧ V.cell? ⟨w.heap.size + 1, 2, none⟩ = some (.slice pda dpn pdc) ∧ V.cell? ⟨w.heap.size + 1, 3, none⟩ = some (.slice pca cnn pcc) ∧ V.cell? ⟨w.heap.size + 1, 4, none⟩ = some (.slice pra rpn prc) ∧ V.cell? ⟨w.heap.size + 1, 5, none⟩ = some (.slice pfa fln pfc) ∧ V.cell? ⟨w.heap.size + 1, 6, none⟩ = some (.slice pia itn pic) ∧ V.cell? ⟨w.heap.size + 1, 7, none⟩ = some (.slice pa0 sn0 pc0) ∧ V.cell? ⟨w.heap.size + 1, 8, none⟩ = some (.slice pa1 sn1 pc1) ∧ V.cell? ⟨w.heap.size + 1, 9, none⟩ = some (.slice pa2 sn2 pc2) ∧ V.cell? ⟨w.heap.size + 1, 10, none⟩ = some (.slice pa3 sn3 pc3) ∧ V.cell? ⟨b, o + k * 2, none⟩ = some (.string X) ∧ V.cell? ⟨b, o + k * 2 + 1, none⟩ = some (.slice pa pn pc) ∧ Below wr.heap.size wr V)) (by kernel_rfl) ?_ (fun hHeld => ?_)
        · (try dsimp only); (first | assumption | exact hs | exact AtF.dr (w := wr) (l := [(⟨w.heap.size, 0, none⟩, .slice ra rn rc), (⟨w.heap.size, 1, none⟩, .slice da dn dc), (⟨w.heap.size, 2, none⟩, .slice oa on oc), (⟨w.heap.size, 3, none⟩, .slice aa an ac), (⟨w.heap.size, 4, none⟩, .slice ia im ic), (⟨w.heap.size, 5, none⟩, .slice fa fn fc), (⟨w.heap.size, 6, none⟩, .slice (some ⟨b, o, none⟩) n c), (⟨w.heap.size + 1, 0, none⟩, .string NM), (⟨w.heap.size + 1, 1, none⟩, .string VR), (⟨w.heap.size + 1, 2, none⟩, .slice pda dpn pdc), (⟨w.heap.size + 1, 3, none⟩, .slice pca cnn pcc), (⟨w.heap.size + 1, 4, none⟩, .slice pra rpn prc), (⟨w.heap.size + 1, 5, none⟩, .slice pfa fln pfc), (⟨w.heap.size + 1, 6, none⟩, .slice pia itn pic), (⟨w.heap.size + 1, 7, none⟩, .slice pa0 sn0 pc0), (⟨w.heap.size + 1, 8, none⟩, .slice pa1 sn1 pc1), (⟨w.heap.size + 1, 9, none⟩, .slice pa2 sn2 pc2), (⟨w.heap.size + 1, 10, none⟩, .slice pa3 sn3 pc3), (⟨b, o + k * 2, none⟩, .string X), (⟨b, o + k * 2 + 1, none⟩, .slice pa pn pc)]) hs | exact AtF.dr (w := wr) (l := [(⟨w.heap.size, 0, none⟩, .slice ra rn rc), (⟨w.heap.size, 1, none⟩, .slice da dn dc), (⟨w.heap.size, 2, none⟩, .slice oa on oc), (⟨w.heap.size, 3, none⟩, .slice aa an ac), (⟨w.heap.size, 4, none⟩, .slice ia im ic), (⟨w.heap.size, 5, none⟩, .slice fa fn fc), (⟨w.heap.size, 6, none⟩, .slice (some ⟨b, o, none⟩) n c), (⟨w.heap.size + 1, 0, none⟩, .string NM), (⟨w.heap.size + 1, 1, none⟩, .string VR), (⟨w.heap.size + 1, 2, none⟩, .slice pda dpn pdc), (⟨w.heap.size + 1, 3, none⟩, .slice pca cnn pcc), (⟨w.heap.size + 1, 4, none⟩, .slice pra rpn prc), (⟨w.heap.size + 1, 5, none⟩, .slice pfa fln pfc), (⟨w.heap.size + 1, 6, none⟩, .slice pia itn pic), (⟨w.heap.size + 1, 7, none⟩, .slice pa0 sn0 pc0), (⟨w.heap.size + 1, 8, none⟩, .slice pa1 sn1 pc1), (⟨w.heap.size + 1, 9, none⟩, .slice pa2 sn2 pc2), (⟨w.heap.size + 1, 10, none⟩, .slice pa3 sn3 pc3), (⟨b, o + k * 2, none⟩, .string X), (⟨b, o + k * 2 + 1, none⟩, .slice pa pn pc)]) (by assumption) | exact AtF.on (w := wr) (l := [(⟨w.heap.size, 0, none⟩, .slice ra rn rc), (⟨w.heap.size, 1, none⟩, .slice da dn dc), (⟨w.heap.size, 2, none⟩, .slice oa on oc), (⟨w.heap.size, 3, none⟩, .slice aa an ac), (⟨w.heap.size, 4, none⟩, .slice ia im ic), (⟨w.heap.size, 5, none⟩, .slice fa fn fc), (⟨w.heap.size, 6, none⟩, .slice (some ⟨b, o, none⟩) n c), (⟨w.heap.size + 1, 0, none⟩, .string NM), (⟨w.heap.size + 1, 1, none⟩, .string VR), (⟨w.heap.size + 1, 2, none⟩, .slice pda dpn pdc), (⟨w.heap.size + 1, 3, none⟩, .slice pca cnn pcc), (⟨w.heap.size + 1, 4, none⟩, .slice pra rpn prc), (⟨w.heap.size + 1, 5, none⟩, .slice pfa fln pfc), (⟨w.heap.size + 1, 6, none⟩, .slice pia itn pic), (⟨w.heap.size + 1, 7, none⟩, .slice pa0 sn0 pc0), (⟨w.heap.size + 1, 8, none⟩, .slice pa1 sn1 pc1), (⟨w.heap.size + 1, 9, none⟩, .slice pa2 sn2 pc2), (⟨w.heap.size + 1, 10, none⟩, .slice pa3 sn3 pc3), (⟨b, o + k * 2, none⟩, .string X), (⟨b, o + k * 2 + 1, none⟩, .slice pa pn pc)]) (by assumption) (by assumption) | exact AtF.al (w := wr) (l := [(⟨w.heap.size, 0, none⟩, .slice ra rn rc), (⟨w.heap.size, 1, none⟩, .slice da dn dc), (⟨w.heap.size, 2, none⟩, .slice oa on oc), (⟨w.heap.size, 3, none⟩, .slice aa an ac), (⟨w.heap.size, 4, none⟩, .slice ia im ic), (⟨w.heap.size, 5, none⟩, .slice fa fn fc), (⟨w.heap.size, 6, none⟩, .slice (some ⟨b, o, none⟩) n c), (⟨w.heap.size + 1, 0, none⟩, .string NM), (⟨w.heap.size + 1, 1, none⟩, .string VR), (⟨w.heap.size + 1, 2, none⟩, .slice pda dpn pdc), (⟨w.heap.size + 1, 3, none⟩, .slice pca cnn pcc), (⟨w.heap.size + 1, 4, none⟩, .slice pra rpn prc), (⟨w.heap.size + 1, 5, none⟩, .slice pfa fln pfc), (⟨w.heap.size + 1, 6, none⟩, .slice pia itn pic), (⟨w.heap.size + 1, 7, none⟩, .slice pa0 sn0 pc0), (⟨w.heap.size + 1, 8, none⟩, .slice pa1 sn1 pc1), (⟨w.heap.size + 1, 9, none⟩, .slice pa2 sn2 pc2), (⟨w.heap.size + 1, 10, none⟩, .slice pa3 sn3 pc3), (⟨b, o + k * 2, none⟩, .string X), (⟨b, o + k * 2 + 1, none⟩, .slice pa pn pc)]) (by assumption) _ | exact AtF.ald (w := wr) (l := [(⟨w.heap.size, 0, none⟩, .slice ra rn rc), (⟨w.heap.size, 1, none⟩, .slice da dn dc), (⟨w.heap.size, 2, none⟩, .slice oa on oc), (⟨w.heap.size, 3, none⟩, .slice aa an ac), (⟨w.heap.size, 4, none⟩, .slice ia im ic), (⟨w.heap.size, 5, none⟩, .slice fa fn fc), (⟨w.heap.size, 6, none⟩, .slice (some ⟨b, o, none⟩) n c), (⟨w.heap.size + 1, 0, none⟩, .string NM), (⟨w.heap.size + 1, 1, none⟩, .string VR), (⟨w.heap.size + 1, 2, none⟩, .slice pda dpn pdc), (⟨w.heap.size + 1, 3, none⟩, .slice pca cnn pcc), (⟨w.heap.size + 1, 4, none⟩, .slice pra rpn prc), (⟨w.heap.size + 1, 5, none⟩, .slice pfa fln pfc), (⟨w.heap.size + 1, 6, none⟩, .slice pia itn pic), (⟨w.heap.size + 1, 7, none⟩, .slice pa0 sn0 pc0), (⟨w.heap.size + 1, 8, none⟩, .slice pa1 sn1 pc1), (⟨w.heap.size + 1, 9, none⟩, .slice pa2 sn2 pc2), (⟨w.heap.size + 1, 10, none⟩, .slice pa3 sn3 pc3), (⟨b, o + k * 2, none⟩, .string X), (⟨b, o + k * 2 + 1, none⟩, .slice pa pn pc)]) (by assumption) _ | exact AtF.al (w := wr) (l := [(⟨w.heap.size, 0, none⟩, .slice ra rn rc), (⟨w.heap.size, 1, none⟩, .slice da dn dc), (⟨w.heap.size, 2, none⟩, .slice oa on oc), (⟨w.heap.size, 3, none⟩, .slice aa an ac), (⟨w.heap.size, 4, none⟩, .slice ia im ic), (⟨w.heap.size, 5, none⟩, .slice fa fn fc), (⟨w.heap.size, 6, none⟩, .slice (some ⟨b, o, none⟩) n c), (⟨w.heap.size + 1, 0, none⟩, .string NM), (⟨w.heap.size + 1, 1, none⟩, .string VR), (⟨w.heap.size + 1, 2, none⟩, .slice pda dpn pdc), (⟨w.heap.size + 1, 3, none⟩, .slice pca cnn pcc), (⟨w.heap.size + 1, 4, none⟩, .slice pra rpn prc), (⟨w.heap.size + 1, 5, none⟩, .slice pfa fln pfc), (⟨w.heap.size + 1, 6, none⟩, .slice pia itn pic), (⟨w.heap.size + 1, 7, none⟩, .slice pa0 sn0 pc0), (⟨w.heap.size + 1, 8, none⟩, .slice pa1 sn1 pc1), (⟨w.heap.size + 1, 9, none⟩, .slice pa2 sn2 pc2), (⟨w.heap.size + 1, 10, none⟩, .slice pa3 sn3 pc3), (⟨b, o + k * 2, none⟩, .string X), (⟨b, o + k * 2 + 1, none⟩, .slice pa pn pc)]) hs _ | exact AtF.ald (w := wr) (l := [(⟨w.heap.size, 0, none⟩, .slice ra rn rc), (⟨w.heap.size, 1, none⟩, .slice da dn dc), (⟨w.heap.size, 2, none⟩, .slice oa on oc), (⟨w.heap.size, 3, none⟩, .slice aa an ac), (⟨w.heap.size, 4, none⟩, .slice ia im ic), (⟨w.heap.size, 5, none⟩, .slice fa fn fc), (⟨w.heap.size, 6, none⟩, .slice (some ⟨b, o, none⟩) n c), (⟨w.heap.size + 1, 0, none⟩, .string NM), (⟨w.heap.size + 1, 1, none⟩, .string VR), (⟨w.heap.size + 1, 2, none⟩, .slice pda dpn pdc), (⟨w.heap.size + 1, 3, none⟩, .slice pca cnn pcc), (⟨w.heap.size + 1, 4, none⟩, .slice pra rpn prc), (⟨w.heap.size + 1, 5, none⟩, .slice pfa fln pfc), (⟨w.heap.size + 1, 6, none⟩, .slice pia itn pic), (⟨w.heap.size + 1, 7, none⟩, .slice pa0 sn0 pc0), (⟨w.heap.size + 1, 8, none⟩, .slice pa1 sn1 pc1), (⟨w.heap.size + 1, 9, none⟩, .slice pa2 sn2 pc2), (⟨w.heap.size + 1, 10, none⟩, .slice pa3 sn3 pc3), (⟨b, o + k * 2, none⟩, .string X), (⟨b, o + k * 2 + 1, none⟩, .slice pa pn pc)]) hs _)
        refine heldY 0 21 ?_ _ rfl rfl (by kernel_rfl) (by kernel_rfl) (by kernel_rfl) (fun _ _ _ h => h) rfl (by assumption) ?_ ?_
        rotate_left
        · (intro w hSw; (try dsimp only at hSw); go_simp; (try with_reducible rfl))
        try simp only [List.setIfInBounds_toArray, List.set_cons_zero, List.set_cons_succ]
        refine heldY 1 22 ?_ _ rfl rfl (by kernel_rfl) (by kernel_rfl) (by kernel_rfl) (fun _ _ _ h => h) rfl (by assumption) ?_ ?_
        rotate_left
        · (intro w hSw; (try dsimp only at hSw); go_simp; (try with_reducible rfl))
        try simp only [List.setIfInBounds_toArray, List.set_cons_zero, List.set_cons_succ]
        refine heldY 2 23 ?_ _ rfl rfl (by kernel_rfl) (by kernel_rfl) (by kernel_rfl) (fun _ _ _ h => h) rfl (by assumption) ?_ ?_
        rotate_left
        · (intro w hSw; (try dsimp only at hSw); go_simp; (try with_reducible rfl))
        try simp only [List.setIfInBounds_toArray, List.set_cons_zero, List.set_cons_succ]
        refine heldY 3 24 ?_ _ rfl rfl (by kernel_rfl) (by kernel_rfl) (by kernel_rfl) (fun _ _ _ h => h) rfl (by assumption) ?_ ?_
        rotate_left
        · (intro w hSw; (try dsimp only at hSw); go_simp; (try with_reducible rfl))
        try simp only [List.setIfInBounds_toArray, List.set_cons_zero, List.set_cons_succ]
        refine heldY 4 25 ?_ _ rfl rfl (by kernel_rfl) (by kernel_rfl) (by kernel_rfl) (fun _ _ _ h => h) rfl (by assumption) ?_ ?_
        rotate_left
        · (intro w hSw; (try dsimp only at hSw); go_simp; (try with_reducible rfl))
        try simp only [List.setIfInBounds_toArray, List.set_cons_zero, List.set_cons_succ]
        refine heldNo 5 26 rfl (by kernel_rfl) (by kernel_rfl) (by kernel_rfl) (fun _ _ _ h => h) rfl (by assumption) ?_
        try simp only [List.setIfInBounds_toArray, List.set_cons_zero, List.set_cons_succ]
        refine heldNo 6 27 rfl (by kernel_rfl) (by kernel_rfl) (by kernel_rfl) (fun _ _ _ h => h) rfl (by assumption) ?_
        try simp only [List.setIfInBounds_toArray, List.set_cons_zero, List.set_cons_succ]
        refine heldNo 7 28 rfl (by kernel_rfl) (by kernel_rfl) (by kernel_rfl) (fun _ _ _ h => h) rfl (by assumption) ?_
        try simp only [List.setIfInBounds_toArray, List.set_cons_zero, List.set_cons_succ]
        refine heldNo 8 29 rfl (by kernel_rfl) (by kernel_rfl) (by kernel_rfl) (fun _ _ _ h => h) rfl (by assumption) ?_
        try simp only [List.setIfInBounds_toArray, List.set_cons_zero, List.set_cons_succ]
        refine heldNo 9 30 rfl (by kernel_rfl) (by kernel_rfl) (by kernel_rfl) (fun _ _ _ h => h) rfl (by assumption) ?_
        try simp only [List.setIfInBounds_toArray, List.set_cons_zero, List.set_cons_succ]
        refine heldY 10 31 ?_ _ rfl rfl (by kernel_rfl) (by kernel_rfl) (by kernel_rfl) (fun _ _ _ h => h) rfl (by assumption) ?_ ?_
        rotate_left
        · (intro w hSw; (try dsimp only at hSw); go_simp; (try with_reducible rfl))
        try simp only [List.setIfInBounds_toArray, List.set_cons_zero, List.set_cons_succ]
        refine heldY 11 32 ?_ _ rfl rfl (by kernel_rfl) (by kernel_rfl) (by kernel_rfl) (fun _ _ _ h => h) rfl (by assumption) ?_ ?_
        rotate_left
        · (intro w hSw; (try dsimp only at hSw); go_simp; (try with_reducible rfl))
        try simp only [List.setIfInBounds_toArray, List.set_cons_zero, List.set_cons_succ]
        refine heldNo 12 33 rfl (by kernel_rfl) (by kernel_rfl) (by kernel_rfl) (fun _ _ _ h => h) rfl (by assumption) ?_
        try simp only [List.setIfInBounds_toArray, List.set_cons_zero, List.set_cons_succ]
        refine heldNo 13 34 rfl (by kernel_rfl) (by kernel_rfl) (by kernel_rfl) (fun _ _ _ h => h) rfl (by assumption) ?_
        try simp only [List.setIfInBounds_toArray, List.set_cons_zero, List.set_cons_succ]
        refine heldNo 14 35 rfl (by kernel_rfl) (by kernel_rfl) (by kernel_rfl) (fun _ _ _ h => h) rfl (by assumption) ?_
        try simp only [List.setIfInBounds_toArray, List.set_cons_zero, List.set_cons_succ]
        refine heldNo 15 36 rfl (by kernel_rfl) (by kernel_rfl) (by kernel_rfl) (fun _ _ _ h => h) rfl (by assumption) ?_
        try simp only [List.setIfInBounds_toArray, List.set_cons_zero, List.set_cons_succ]
        refine heldNo 16 37 rfl (by kernel_rfl) (by kernel_rfl) (by kernel_rfl) (fun _ _ _ h => h) rfl (by assumption) ?_
        try simp only [List.setIfInBounds_toArray, List.set_cons_zero, List.set_cons_succ]
        refine heldNo 17 38 rfl (by kernel_rfl) (by kernel_rfl) (by kernel_rfl) (fun _ _ _ h => h) rfl (by assumption) ?_
        try simp only [List.setIfInBounds_toArray, List.set_cons_zero, List.set_cons_succ]
        refine heldNo 18 39 rfl (by kernel_rfl) (by kernel_rfl) (by kernel_rfl) (fun _ _ _ h => h) rfl (by assumption) ?_
        try simp only [List.setIfInBounds_toArray, List.set_cons_zero, List.set_cons_succ]
        refine heldNo 19 40 rfl (by kernel_rfl) (by kernel_rfl) (by kernel_rfl) (fun _ _ _ h => h) rfl (by assumption) ?_
        try simp only [List.setIfInBounds_toArray, List.set_cons_zero, List.set_cons_succ]
        refine heldNo 20 41 rfl (by kernel_rfl) (by kernel_rfl) (by kernel_rfl) (fun _ _ _ h => h) rfl (by assumption) ?_
        try simp only [List.setIfInBounds_toArray, List.set_cons_zero, List.set_cons_succ]
        refine heldNo 21 42 rfl (by kernel_rfl) (by kernel_rfl) (by kernel_rfl) (fun _ _ _ h => h) rfl (by assumption) ?_
        try simp only [List.setIfInBounds_toArray, List.set_cons_zero, List.set_cons_succ]
        refine heldNo 22 43 rfl (by kernel_rfl) (by kernel_rfl) (by kernel_rfl) (fun _ _ _ h => h) rfl (by assumption) ?_
        try simp only [List.setIfInBounds_toArray, List.set_cons_zero, List.set_cons_succ]
        refine heldNo 23 44 rfl (by kernel_rfl) (by kernel_rfl) (by kernel_rfl) (fun _ _ _ h => h) rfl (by assumption) ?_
        try simp only [List.setIfInBounds_toArray, List.set_cons_zero, List.set_cons_succ]
        refine heldY 24 45 ?_ _ rfl rfl (by kernel_rfl) (by kernel_rfl) (by kernel_rfl) (fun _ _ _ h => h) rfl (by assumption) ?_ ?_
        rotate_left
        · (intro w hSw; (try dsimp only at hSw); go_simp; (try with_reducible rfl))
        try simp only [List.setIfInBounds_toArray, List.set_cons_zero, List.set_cons_succ]
        refine wpAnyH_done (by kernel_rfl) ?_ _
        have HB4 : Hid (Below wr.heap.size wr _) := Lib.hid (BE _ hHeld)
        have HO4 := Lib.hid (HO.out.on HB4.out)
        have HBB := Lib.hid (HB.out.trans (HB4.out.mono HB.out.size))
        clear hHeld hs
        go_wp2
        go_roundw
        case rel => exact ⟨k + 1, by omega, by go_num, by rw [HF1.out]; exact HO4, HBB⟩
        case measure => simp [intOf]; omega
      cases q3
      rotate_left
      · have HF1 := Lib.hid (hNO.out (by simp))
        have BE := fun (V : World) (h : V.cell? ⟨w.heap.size, 0, none⟩ = some (.slice ra rn rc) ∧ V.cell? ⟨w.heap.size, 1, none⟩ = some (.slice da dn dc) ∧ V.cell? ⟨w.heap.size, 2, none⟩ = some (.slice oa on oc) ∧ V.cell? ⟨w.heap.size, 3, none⟩ = some (.slice aa an ac) ∧ V.cell? ⟨w.heap.size, 4, none⟩ = some (.slice ia im ic) ∧ V.cell? ⟨w.heap.size, 5, none⟩ = some (.slice fa fn fc) ∧ V.cell? ⟨w.heap.size, 6, none⟩ = some (.slice (some ⟨b, o, none⟩) n c) ∧ V.cell? ⟨w.heap.size + 1, 0, none⟩ = some (.string NM) ∧ V.cell? ⟨w.heap.size + 1, 1, none⟩ = some (.string VR) ∧ V.cell? ⟨w.heap.size + 1, 2, none⟩ = some (.slice pda dpn pdc) ∧ V.cell? ⟨w.heap.size + 1, 3, none⟩ = some (.slice pca cnn pcc) ∧ V.cell? ⟨w.heap.size + 1, 4, none⟩ = some (.slice pra rpn prc) ∧ V.cell? ⟨w.heap.size + 1, 5, none⟩ = some (.slice pfa fln pfc) ∧ V.cell? ⟨w.heap.size + 1, 6, none⟩ = some (.slice pia itn pic) ∧ V.cell? ⟨w.heap.size + 1, 7, none⟩ = some (.slice pa0 sn0 pc0) ∧ V.cell? ⟨w.heap.size + 1, 8, none⟩ = some (.slice pa1 sn1 pc1) ∧ V.cell? ⟨w.heap.size + 1, 9, none⟩ = some (.slice pa2 sn2 pc2) ∧ V.cell? ⟨w.heap.size + 1, 10, none⟩ = some (.slice pa3 sn3 pc3) ∧ V.cell? ⟨b, o + k * 2, none⟩ = some (.string X) ∧ V.cell? ⟨b, o + k * 2 + 1, none⟩ = some (.slice pa pn pc) ∧ Below wr.heap.size wr V) => AtF.be (w := wr) (l := [(⟨w.heap.size, 0, none⟩, .slice ra rn rc), (⟨w.heap.size, 1, none⟩, .slice da dn dc), (⟨w.heap.size, 2, none⟩, .slice oa on oc), (⟨w.heap.size, 3, none⟩, .slice aa an ac), (⟨w.heap.size, 4, none⟩, .slice ia im ic), (⟨w.heap.size, 5, none⟩, .slice fa fn fc), (⟨w.heap.size, 6, none⟩, .slice (some ⟨b, o, none⟩) n c), (⟨w.heap.size + 1, 0, none⟩, .string NM), (⟨w.heap.size + 1, 1, none⟩, .string VR), (⟨w.heap.size + 1, 2, none⟩, .slice pda dpn pdc), (⟨w.heap.size + 1, 3, none⟩, .slice pca cnn pcc), (⟨w.heap.size + 1, 4, none⟩, .slice pra rpn prc), (⟨w.heap.size + 1, 5, none⟩, .slice pfa fln pfc), (⟨w.heap.size + 1, 6, none⟩, .slice pia itn pic), (⟨w.heap.size + 1, 7, none⟩, .slice pa0 sn0 pc0), (⟨w.heap.size + 1, 8, none⟩, .slice pa1 sn1 pc1), (⟨w.heap.size + 1, 9, none⟩, .slice pa2 sn2 pc2), (⟨w.heap.size + 1, 10, none⟩, .slice pa3 sn3 pc3), (⟨b, o + k * 2, none⟩, .string X), (⟨b, o + k * 2 + 1, none⟩, .slice pa pn pc)]) h
        refine wp_region_held_drew (S := (fun V => V.cell? ⟨w.heap.size, 0, none⟩ = some (.slice ra rn rc) ∧ V.cell? ⟨w.heap.size, 1, none⟩ = some (.slice da dn dc) ∧ V.cell? ⟨w.heap.size, 2, none⟩ = some (.slice oa on oc) ∧ V.cell? ⟨w.heap.size, 3, none⟩ = some (.slice aa an ac) ∧ V.cell? ⟨w.heap.size, 4, none⟩ = some (.slice ia im ic) ∧ V.cell? ⟨w.heap.size, 5, none⟩ = some (.slice fa fn fc) ∧ V.cell? ⟨w.heap.size, 6, none⟩ = some (.slice (some ⟨b, o, none⟩) n c) ∧ V.cell? ⟨w.heap.size + 1, 0, none⟩ = some (.string NM) ∧ V.cell? ⟨w.heap.size + 1, 1, none⟩ = some (.string VR) ∧ V.cell? ⟨w.heap.size + 1, 2, none⟩ = some (.slice pda dpn pdc) ∧ V.cell? ⟨w.heap.size + 1, 3, none⟩ = some (.slice pca cnn pcc) ∧ V.cell? ⟨w.heap.size + 1, 4, none⟩ = some (.slice pra rpn prc) ∧ V.cell? ⟨w.heap.size + 1, 5, none⟩ = some (.slice pfa fln pfc) ∧ V.cell? ⟨w.heap.size + 1, 6, none⟩ = some (.slice pia itn pic) ∧ V.cell? ⟨w.heap.size + 1, 7, none⟩ = some (.slice pa0 sn0 pc0) ∧ V.cell? ⟨w.heap.size + 1, 8, none⟩ = some (.slice pa1 sn1 pc1) ∧ V.cell? ⟨w.heap.size + 1, 9, none⟩ = some (.slice pa2 sn2 pc2) ∧ V.cell? ⟨w.heap.size + 1, 10, none⟩ = some (.slice pa3 sn3 pc3) ∧ V.cell? ⟨b, o + k * 2, none⟩ = some (.string X) ∧ V.cell? ⟨b, o + k * 2 + 1, none⟩ = some (.slice pa pn pc) ∧ Below wr.heap.size wr V)) (by kernel_rfl) ?_ (fun hHeld => ?_)
        · (try dsimp only); (first | assumption | exact hs | exact AtF.dr (w := wr) (l := [(⟨w.heap.size, 0, none⟩, .slice ra rn rc), (⟨w.heap.size, 1, none⟩, .slice da dn dc), (⟨w.heap.size, 2, none⟩, .slice oa on oc), (⟨w.heap.size, 3, none⟩, .slice aa an ac), (⟨w.heap.size, 4, none⟩, .slice ia im ic), (⟨w.heap.size, 5, none⟩, .slice fa fn fc), (⟨w.heap.size, 6, none⟩, .slice (some ⟨b, o, none⟩) n c), (⟨w.heap.size + 1, 0, none⟩, .string NM), (⟨w.heap.size + 1, 1, none⟩, .string VR), (⟨w.heap.size + 1, 2, none⟩, .slice pda dpn pdc), (⟨w.heap.size + 1, 3, none⟩, .slice pca cnn pcc), (⟨w.heap.size + 1, 4, none⟩, .slice pra rpn prc), (⟨w.heap.size + 1, 5, none⟩, .slice pfa fln pfc), (⟨w.heap.size + 1, 6, none⟩, .slice pia itn pic), (⟨w.heap.size + 1, 7, none⟩, .slice pa0 sn0 pc0), (⟨w.heap.size + 1, 8, none⟩, .slice pa1 sn1 pc1), (⟨w.heap.size + 1, 9, none⟩, .slice pa2 sn2 pc2), (⟨w.heap.size + 1, 10, none⟩, .slice pa3 sn3 pc3), (⟨b, o + k * 2, none⟩, .string X), (⟨b, o + k * 2 + 1, none⟩, .slice pa pn pc)]) hs | exact AtF.dr (w := wr) (l := [(⟨w.heap.size, 0, none⟩, .slice ra rn rc), (⟨w.heap.size, 1, none⟩, .slice da dn dc), (⟨w.heap.size, 2, none⟩, .slice oa on oc), (⟨w.heap.size, 3, none⟩, .slice aa an ac), (⟨w.heap.size, 4, none⟩, .slice ia im ic), (⟨w.heap.size, 5, none⟩, .slice fa fn fc), (⟨w.heap.size, 6, none⟩, .slice (some ⟨b, o, none⟩) n c), (⟨w.heap.size + 1, 0, none⟩, .string NM), (⟨w.heap.size + 1, 1, none⟩, .string VR), (⟨w.heap.size + 1, 2, none⟩, .slice pda dpn pdc), (⟨w.heap.size + 1, 3, none⟩, .slice pca cnn pcc), (⟨w.heap.size + 1, 4, none⟩, .slice pra rpn prc), (⟨w.heap.size + 1, 5, none⟩, .slice pfa fln pfc), (⟨w.heap.size + 1, 6, none⟩, .slice pia itn pic), (⟨w.heap.size + 1, 7, none⟩, .slice pa0 sn0 pc0), (⟨w.heap.size + 1, 8, none⟩, .slice pa1 sn1 pc1), (⟨w.heap.size + 1, 9, none⟩, .slice pa2 sn2 pc2), (⟨w.heap.size + 1, 10, none⟩, .slice pa3 sn3 pc3), (⟨b, o + k * 2, none⟩, .string X), (⟨b, o + k * 2 + 1, none⟩, .slice pa pn pc)]) (by assumption) | exact AtF.on (w := wr) (l := [(⟨w.heap.size, 0, none⟩, .slice ra rn rc), (⟨w.heap.size, 1, none⟩, .slice da dn dc), (⟨w.heap.size, 2, none⟩, .slice oa on oc), (⟨w.heap.size, 3, none⟩, .slice aa an ac), (⟨w.heap.size, 4, none⟩, .slice ia im ic), (⟨w.heap.size, 5, none⟩, .slice fa fn fc), (⟨w.heap.size, 6, none⟩, .slice (some ⟨b, o, none⟩) n c), (⟨w.heap.size + 1, 0, none⟩, .string NM), (⟨w.heap.size + 1, 1, none⟩, .string VR), (⟨w.heap.size + 1, 2, none⟩, .slice pda dpn pdc), (⟨w.heap.size + 1, 3, none⟩, .slice pca cnn pcc), (⟨w.heap.size + 1, 4, none⟩, .slice pra rpn prc), (⟨w.heap.size + 1, 5, none⟩, .slice pfa fln pfc), (⟨w.heap.size + 1, 6, none⟩, .slice pia itn pic), (⟨w.heap.size + 1, 7, none⟩, .slice pa0 sn0 pc0), (⟨w.heap.size + 1, 8, none⟩, .slice pa1 sn1 pc1), (⟨w.heap.size + 1, 9, none⟩, .slice pa2 sn2 pc2), (⟨w.heap.size + 1, 10, none⟩, .slice pa3 sn3 pc3), (⟨b, o + k * 2, none⟩, .string X), (⟨b, o + k * 2 + 1, none⟩, .slice pa pn pc)]) (by assumption) (by assumption) | exact AtF.al (w := wr) (l := [(⟨w.heap.size, 0, none⟩, .slice ra rn rc), (⟨w.heap.size, 1, none⟩, .slice da dn dc), (⟨w.heap.size, 2, none⟩, .slice oa on oc), (⟨w.heap.size, 3, none⟩, .slice aa an ac), (⟨w.heap.size, 4, none⟩, .slice ia im ic), (⟨w.heap.size, 5, none⟩, .slice fa fn fc), (⟨w.heap.size, 6, none⟩, .slice (some ⟨b, o, none⟩) n c), (⟨w.heap.size + 1, 0, none⟩, .string NM), (⟨w.heap.size + 1, 1, none⟩, .string VR), (⟨w.heap.size + 1, 2, none⟩, .slice pda dpn pdc), (⟨w.heap.size + 1, 3, none⟩, .slice pca cnn pcc), (⟨w.heap.size + 1, 4, none⟩, .slice pra rpn prc), (⟨w.heap.size + 1, 5, none⟩, .slice pfa fln pfc), (⟨w.heap.size + 1, 6, none⟩, .slice pia itn pic), (⟨w.heap.size + 1, 7, none⟩, .slice pa0 sn0 pc0), (⟨w.heap.size + 1, 8, none⟩, .slice pa1 sn1 pc1), (⟨w.heap.size + 1, 9, none⟩, .slice pa2 sn2 pc2), (⟨w.heap.size + 1, 10, none⟩, .slice pa3 sn3 pc3), (⟨b, o + k * 2, none⟩, .string X), (⟨b, o + k * 2 + 1, none⟩, .slice pa pn pc)]) (by assumption) _ | exact AtF.ald (w := wr) (l := [(⟨w.heap.size, 0, none⟩, .slice ra rn rc), (⟨w.heap.size, 1, none⟩, .slice da dn dc), (⟨w.heap.size, 2, none⟩, .slice oa on oc), (⟨w.heap.size, 3, none⟩, .slice aa an ac), (⟨w.heap.size, 4, none⟩, .slice ia im ic), (⟨w.heap.size, 5, none⟩, .slice fa fn fc), (⟨w.heap.size, 6, none⟩, .slice (some ⟨b, o, none⟩) n c), (⟨w.heap.size + 1, 0, none⟩, .string NM), (⟨w.heap.size + 1, 1, none⟩, .string VR), (⟨w.heap.size + 1, 2, none⟩, .slice pda dpn pdc), (⟨w.heap.size + 1, 3, none⟩, .slice pca cnn pcc), (⟨w.heap.size + 1, 4, none⟩, .slice pra rpn prc), (⟨w.heap.size + 1, 5, none⟩, .slice pfa fln pfc), (⟨w.heap.size + 1, 6, none⟩, .slice pia itn pic), (⟨w.heap.size + 1, 7, none⟩, .slice pa0 sn0 pc0), (⟨w.heap.size + 1, 8, none⟩, .slice pa1 sn1 pc1), (⟨w.heap.size + 1, 9, none⟩, .slice pa2 sn2 pc2), (⟨w.heap.size + 1, 10, none⟩, .slice pa3 sn3 pc3), (⟨b, o + k * 2, none⟩, .string X), (⟨b, o + k * 2 + 1, none⟩, .slice pa pn pc)]) (by assumption) _ | exact AtF.al (w := wr) (l := [(⟨w.heap.size, 0, none⟩, .slice ra rn rc), (⟨w.heap.size, 1, none⟩, .slice da dn dc), (⟨w.heap.size, 2, none⟩, .slice oa on oc), (⟨w.heap.size, 3, none⟩, .slice aa an ac), (⟨w.heap.size, 4, none⟩, .slice ia im ic), (⟨w.heap.size, 5, none⟩, .slice fa fn fc), (⟨w.heap.size, 6, none⟩, .slice (some ⟨b, o, none⟩) n c), (⟨w.heap.size + 1, 0, none⟩, .string NM), (⟨w.heap.size + 1, 1, none⟩, .string VR), (⟨w.heap.size + 1, 2, none⟩, .slice pda dpn pdc), (⟨w.heap.size + 1, 3, none⟩, .slice pca cnn pcc), (⟨w.heap.size + 1, 4, none⟩, .slice pra rpn prc), (⟨w.heap.size + 1, 5, none⟩, .slice pfa fln pfc), (⟨w.heap.size + 1, 6, none⟩, .slice pia itn pic), (⟨w.heap.size + 1, 7, none⟩, .slice pa0 sn0 pc0), (⟨w.heap.size + 1, 8, none⟩, .slice pa1 sn1 pc1), (⟨w.heap.size + 1, 9, none⟩, .slice pa2 sn2 pc2), (⟨w.heap.size + 1, 10, none⟩, .slice pa3 sn3 pc3), (⟨b, o + k * 2, none⟩, .string X), (⟨b, o + k * 2 + 1, none⟩, .slice pa pn pc)]) hs _ | exact AtF.ald (w := wr) (l := [(⟨w.heap.size, 0, none⟩, .slice ra rn rc), (⟨w.heap.size, 1, none⟩, .slice da dn dc), (⟨w.heap.size, 2, none⟩, .slice oa on oc), (⟨w.heap.size, 3, none⟩, .slice aa an ac), (⟨w.heap.size, 4, none⟩, .slice ia im ic), (⟨w.heap.size, 5, none⟩, .slice fa fn fc), (⟨w.heap.size, 6, none⟩, .slice (some ⟨b, o, none⟩) n c), (⟨w.heap.size + 1, 0, none⟩, .string NM), (⟨w.heap.size + 1, 1, none⟩, .string VR), (⟨w.heap.size + 1, 2, none⟩, .slice pda dpn pdc), (⟨w.heap.size + 1, 3, none⟩, .slice pca cnn pcc), (⟨w.heap.size + 1, 4, none⟩, .slice pra rpn prc), (⟨w.heap.size + 1, 5, none⟩, .slice pfa fln pfc), (⟨w.heap.size + 1, 6, none⟩, .slice pia itn pic), (⟨w.heap.size + 1, 7, none⟩, .slice pa0 sn0 pc0), (⟨w.heap.size + 1, 8, none⟩, .slice pa1 sn1 pc1), (⟨w.heap.size + 1, 9, none⟩, .slice pa2 sn2 pc2), (⟨w.heap.size + 1, 10, none⟩, .slice pa3 sn3 pc3), (⟨b, o + k * 2, none⟩, .string X), (⟨b, o + k * 2 + 1, none⟩, .slice pa pn pc)]) hs _)
        refine heldY 0 21 ?_ _ rfl rfl (by kernel_rfl) (by kernel_rfl) (by kernel_rfl) (fun _ _ _ h => h) rfl (by assumption) ?_ ?_
        rotate_left
        · (intro w hSw; (try dsimp only at hSw); go_simp; (try with_reducible rfl))
        try simp only [List.setIfInBounds_toArray, List.set_cons_zero, List.set_cons_succ]
        refine heldY 1 22 ?_ _ rfl rfl (by kernel_rfl) (by kernel_rfl) (by kernel_rfl) (fun _ _ _ h => h) rfl (by assumption) ?_ ?_
        rotate_left
        · (intro w hSw; (try dsimp only at hSw); go_simp; (try with_reducible rfl))
        try simp only [List.setIfInBounds_toArray, List.set_cons_zero, List.set_cons_succ]
        refine heldY 2 23 ?_ _ rfl rfl (by kernel_rfl) (by kernel_rfl) (by kernel_rfl) (fun _ _ _ h => h) rfl (by assumption) ?_ ?_
        rotate_left
        · (intro w hSw; (try dsimp only at hSw); go_simp; (try with_reducible rfl))
        try simp only [List.setIfInBounds_toArray, List.set_cons_zero, List.set_cons_succ]
        refine heldY 3 24 ?_ _ rfl rfl (by kernel_rfl) (by kernel_rfl) (by kernel_rfl) (fun _ _ _ h => h) rfl (by assumption) ?_ ?_
        rotate_left
        · (intro w hSw; (try dsimp only at hSw); go_simp; (try with_reducible rfl))
        try simp only [List.setIfInBounds_toArray, List.set_cons_zero, List.set_cons_succ]
        refine heldY 4 25 ?_ _ rfl rfl (by kernel_rfl) (by kernel_rfl) (by kernel_rfl) (fun _ _ _ h => h) rfl (by assumption) ?_ ?_
        rotate_left
        · (intro w hSw; (try dsimp only at hSw); go_simp; (try with_reducible rfl))
        try simp only [List.setIfInBounds_toArray, List.set_cons_zero, List.set_cons_succ]
        refine heldY 5 26 ?_ _ rfl rfl (by kernel_rfl) (by kernel_rfl) (by kernel_rfl) (fun _ _ _ h => h) rfl (by assumption) ?_ ?_
        rotate_left
        · (intro w hSw; (try dsimp only at hSw); go_simp; (try with_reducible rfl))
        try simp only [List.setIfInBounds_toArray, List.set_cons_zero, List.set_cons_succ]
        refine heldY 6 27 ?_ _ rfl rfl (by kernel_rfl) (by kernel_rfl) (by kernel_rfl) (fun _ _ _ h => h) rfl (by assumption) ?_ ?_
        rotate_left
        · (intro w hSw; (try dsimp only at hSw); go_simp; (try with_reducible rfl))
        try simp only [List.setIfInBounds_toArray, List.set_cons_zero, List.set_cons_succ]
        refine heldY 7 28 ?_ _ rfl rfl (by kernel_rfl) (by kernel_rfl) (by kernel_rfl) (fun _ _ _ h => h) rfl (by assumption) ?_ ?_
        rotate_left
        · (intro w hSw; (try dsimp only at hSw); go_simp; (try with_reducible rfl))
        try simp only [List.setIfInBounds_toArray, List.set_cons_zero, List.set_cons_succ]
        refine wpAnyH_ready (rs := [8]) (by kernel_rfl) (by simp) ?_
        refine AllReadyH.cons rfl (fun K hK => ?_) AllReadyH.nil
        go_simp
        first | (go_at_call 31; (with_reducible refine (HAx.out _ (BE _ (by assumption))).mono ?_); rintro e w5 ⟨rfl, hb⟩) | (go_at_call 55; (with_reducible refine (SPx.out _ (BE _ (by assumption))).mono ?_); rintro e w3 ⟨⟨a3, c3, rfl, hh3⟩, hb⟩) | (go_at_call 50; (with_reducible refine (LOx.out _ _ _ (BE _ (by assumption)) hh3).mono ?_); rintro e w4 ⟨⟨a4, c4, rfl, hh4⟩, hb⟩)
        refine hK.out _ _ ?_ (fun hHeld => ?_)
        · (try dsimp only); (first | assumption | exact hs | exact AtF.dr (w := wr) (l := [(⟨w.heap.size, 0, none⟩, .slice ra rn rc), (⟨w.heap.size, 1, none⟩, .slice da dn dc), (⟨w.heap.size, 2, none⟩, .slice oa on oc), (⟨w.heap.size, 3, none⟩, .slice aa an ac), (⟨w.heap.size, 4, none⟩, .slice ia im ic), (⟨w.heap.size, 5, none⟩, .slice fa fn fc), (⟨w.heap.size, 6, none⟩, .slice (some ⟨b, o, none⟩) n c), (⟨w.heap.size + 1, 0, none⟩, .string NM), (⟨w.heap.size + 1, 1, none⟩, .string VR), (⟨w.heap.size + 1, 2, none⟩, .slice pda dpn pdc), (⟨w.heap.size + 1, 3, none⟩, .slice pca cnn pcc), (⟨w.heap.size + 1, 4, none⟩, .slice pra rpn prc), (⟨w.heap.size + 1, 5, none⟩, .slice pfa fln pfc), (⟨w.heap.size + 1, 6, none⟩, .slice pia itn pic), (⟨w.heap.size + 1, 7, none⟩, .slice pa0 sn0 pc0), (⟨w.heap.size + 1, 8, none⟩, .slice pa1 sn1 pc1), (⟨w.heap.size + 1, 9, none⟩, .slice pa2 sn2 pc2), (⟨w.heap.size + 1, 10, none⟩, .slice pa3 sn3 pc3), (⟨b, o + k * 2, none⟩, .string X), (⟨b, o + k * 2 + 1, none⟩, .slice pa pn pc)]) hs | exact AtF.dr (w := wr) (l := [(⟨w.heap.size, 0, none⟩, .slice ra rn rc), (⟨w.heap.size, 1, none⟩, .slice da dn dc), (⟨w.heap.size, 2, none⟩, .slice oa on oc), (⟨w.heap.size, 3, none⟩, .slice aa an ac), (⟨w.heap.size, 4, none⟩, .slice ia im ic), (⟨w.heap.size, 5, none⟩, .slice fa fn fc), (⟨w.heap.size, 6, none⟩, .slice (some ⟨b, o, none⟩) n c), (⟨w.heap.size + 1, 0, none⟩, .string NM), (⟨w.heap.size + 1, 1, none⟩, .string VR), (⟨w.heap.size + 1, 2, none⟩, .slice pda dpn pdc), (⟨w.heap.size + 1, 3, none⟩, .slice pca cnn pcc), (⟨w.heap.size + 1, 4, none⟩, .slice pra rpn prc), (⟨w.heap.size + 1, 5, none⟩, .slice pfa fln pfc), (⟨w.heap.size + 1, 6, none⟩, .slice pia itn pic), (⟨w.heap.size + 1, 7, none⟩, .slice pa0 sn0 pc0), (⟨w.heap.size + 1, 8, none⟩, .slice pa1 sn1 pc1), (⟨w.heap.size + 1, 9, none⟩, .slice pa2 sn2 pc2), (⟨w.heap.size + 1, 10, none⟩, .slice pa3 sn3 pc3), (⟨b, o + k * 2, none⟩, .string X), (⟨b, o + k * 2 + 1, none⟩, .slice pa pn pc)]) (by assumption) | exact AtF.on (w := wr) (l := [(⟨w.heap.size, 0, none⟩, .slice ra rn rc), (⟨w.heap.size, 1, none⟩, .slice da dn dc), (⟨w.heap.size, 2, none⟩, .slice oa on oc), (⟨w.heap.size, 3, none⟩, .slice aa an ac), (⟨w.heap.size, 4, none⟩, .slice ia im ic), (⟨w.heap.size, 5, none⟩, .slice fa fn fc), (⟨w.heap.size, 6, none⟩, .slice (some ⟨b, o, none⟩) n c), (⟨w.heap.size + 1, 0, none⟩, .string NM), (⟨w.heap.size + 1, 1, none⟩, .string VR), (⟨w.heap.size + 1, 2, none⟩, .slice pda dpn pdc), (⟨w.heap.size + 1, 3, none⟩, .slice pca cnn pcc), (⟨w.heap.size + 1, 4, none⟩, .slice pra rpn prc), (⟨w.heap.size + 1, 5, none⟩, .slice pfa fln pfc), (⟨w.heap.size + 1, 6, none⟩, .slice pia itn pic), (⟨w.heap.size + 1, 7, none⟩, .slice pa0 sn0 pc0), (⟨w.heap.size + 1, 8, none⟩, .slice pa1 sn1 pc1), (⟨w.heap.size + 1, 9, none⟩, .slice pa2 sn2 pc2), (⟨w.heap.size + 1, 10, none⟩, .slice pa3 sn3 pc3), (⟨b, o + k * 2, none⟩, .string X), (⟨b, o + k * 2 + 1, none⟩, .slice pa pn pc)]) (by assumption) (by assumption) | exact AtF.al (w := wr) (l := [(⟨w.heap.size, 0, none⟩, .slice ra rn rc), (⟨w.heap.size, 1, none⟩, .slice da dn dc), (⟨w.heap.size, 2, none⟩, .slice oa on oc), (⟨w.heap.size, 3, none⟩, .slice aa an ac), (⟨w.heap.size, 4, none⟩, .slice ia im ic), (⟨w.heap.size, 5, none⟩, .slice fa fn fc), (⟨w.heap.size, 6, none⟩, .slice (some ⟨b, o, none⟩) n c), (⟨w.heap.size + 1, 0, none⟩, .string NM), (⟨w.heap.size + 1, 1, none⟩, .string VR), (⟨w.heap.size + 1, 2, none⟩, .slice pda dpn pdc), (⟨w.heap.size + 1, 3, none⟩, .slice pca cnn pcc), (⟨w.heap.size + 1, 4, none⟩, .slice pra rpn prc), (⟨w.heap.size + 1, 5, none⟩, .slice pfa fln pfc), (⟨w.heap.size + 1, 6, none⟩, .slice pia itn pic), (⟨w.heap.size + 1, 7, none⟩, .slice pa0 sn0 pc0), (⟨w.heap.size + 1, 8, none⟩, .slice pa1 sn1 pc1), (⟨w.heap.size + 1, 9, none⟩, .slice pa2 sn2 pc2), (⟨w.heap.size + 1, 10, none⟩, .slice pa3 sn3 pc3), (⟨b, o + k * 2, none⟩, .string X), (⟨b, o + k * 2 + 1, none⟩, .slice pa pn pc)]) (by assumption) _ | exact AtF.ald (w := wr) (l := [(⟨w.heap.size, 0, none⟩, .slice ra rn rc), (⟨w.heap.size, 1, none⟩, .slice da dn dc), (⟨w.heap.size, 2, none⟩, .slice oa on oc), (⟨w.heap.size, 3, none⟩, .slice aa an ac), (⟨w.heap.size, 4, none⟩, .slice ia im ic), (⟨w.heap.size, 5, none⟩, .slice fa fn fc), (⟨w.heap.size, 6, none⟩, .slice (some ⟨b, o, none⟩) n c), (⟨w.heap.size + 1, 0, none⟩, .string NM), (⟨w.heap.size + 1, 1, none⟩, .string VR), (⟨w.heap.size + 1, 2, none⟩, .slice pda dpn pdc), (⟨w.heap.size + 1, 3, none⟩, .slice pca cnn pcc), (⟨w.heap.size + 1, 4, none⟩, .slice pra rpn prc), (⟨w.heap.size + 1, 5, none⟩, .slice pfa fln pfc), (⟨w.heap.size + 1, 6, none⟩, .slice pia itn pic), (⟨w.heap.size + 1, 7, none⟩, .slice pa0 sn0 pc0), (⟨w.heap.size + 1, 8, none⟩, .slice pa1 sn1 pc1), (⟨w.heap.size + 1, 9, none⟩, .slice pa2 sn2 pc2), (⟨w.heap.size + 1, 10, none⟩, .slice pa3 sn3 pc3), (⟨b, o + k * 2, none⟩, .string X), (⟨b, o + k * 2 + 1, none⟩, .slice pa pn pc)]) (by assumption) _ | exact AtF.al (w := wr) (l := [(⟨w.heap.size, 0, none⟩, .slice ra rn rc), (⟨w.heap.size, 1, none⟩, .slice da dn dc), (⟨w.heap.size, 2, none⟩, .slice oa on oc), (⟨w.heap.size, 3, none⟩, .slice aa an ac), (⟨w.heap.size, 4, none⟩, .slice ia im ic), (⟨w.heap.size, 5, none⟩, .slice fa fn fc), (⟨w.heap.size, 6, none⟩, .slice (some ⟨b, o, none⟩) n c), (⟨w.heap.size + 1, 0, none⟩, .string NM), (⟨w.heap.size + 1, 1, none⟩, .string VR), (⟨w.heap.size + 1, 2, none⟩, .slice pda dpn pdc), (⟨w.heap.size + 1, 3, none⟩, .slice pca cnn pcc), (⟨w.heap.size + 1, 4, none⟩, .slice pra rpn prc), (⟨w.heap.size + 1, 5, none⟩, .slice pfa fln pfc), (⟨w.heap.size + 1, 6, none⟩, .slice pia itn pic), (⟨w.heap.size + 1, 7, none⟩, .slice pa0 sn0 pc0), (⟨w.heap.size + 1, 8, none⟩, .slice pa1 sn1 pc1), (⟨w.heap.size + 1, 9, none⟩, .slice pa2 sn2 pc2), (⟨w.heap.size + 1, 10, none⟩, .slice pa3 sn3 pc3), (⟨b, o + k * 2, none⟩, .string X), (⟨b, o + k * 2 + 1, none⟩, .slice pa pn pc)]) hs _ | exact AtF.ald (w := wr) (l := [(⟨w.heap.size, 0, none⟩, .slice ra rn rc), (⟨w.heap.size, 1, none⟩, .slice da dn dc), (⟨w.heap.size, 2, none⟩, .slice oa on oc), (⟨w.heap.size, 3, none⟩, .slice aa an ac), (⟨w.heap.size, 4, none⟩, .slice ia im ic), (⟨w.heap.size, 5, none⟩, .slice fa fn fc), (⟨w.heap.size, 6, none⟩, .slice (some ⟨b, o, none⟩) n c), (⟨w.heap.size + 1, 0, none⟩, .string NM), (⟨w.heap.size + 1, 1, none⟩, .string VR), (⟨w.heap.size + 1, 2, none⟩, .slice pda dpn pdc), (⟨w.heap.size + 1, 3, none⟩, .slice pca cnn pcc), (⟨w.heap.size + 1, 4, none⟩, .slice pra rpn prc), (⟨w.heap.size + 1, 5, none⟩, .slice pfa fln pfc), (⟨w.heap.size + 1, 6, none⟩, .slice pia itn pic), (⟨w.heap.size + 1, 7, none⟩, .slice pa0 sn0 pc0), (⟨w.heap.size + 1, 8, none⟩, .slice pa1 sn1 pc1), (⟨w.heap.size + 1, 9, none⟩, .slice pa2 sn2 pc2), (⟨w.heap.size + 1, 10, none⟩, .slice pa3 sn3 pc3), (⟨b, o + k * 2, none⟩, .string X), (⟨b, o + k * 2 + 1, none⟩, .slice pa pn pc)]) hs _)
        clear hK K
        try simp only [Act.put, List.setIfInBounds_toArray, List.set_cons_zero, List.set_cons_succ]
        refine heldY 9 30 ?_ _ rfl rfl (by kernel_rfl) (by kernel_rfl) (by kernel_rfl) (fun _ _ _ h => h) rfl (by assumption) ?_ ?_
        rotate_left
        · (intro w hSw; (try dsimp only at hSw); go_simp; (try with_reducible rfl))
        try simp only [List.setIfInBounds_toArray, List.set_cons_zero, List.set_cons_succ]
        refine heldY 10 31 ?_ _ rfl rfl (by kernel_rfl) (by kernel_rfl) (by kernel_rfl) (fun _ _ _ h => h) rfl (by assumption) ?_ ?_
        rotate_left
        · (intro w hSw; (try dsimp only at hSw); go_simp; (try with_reducible rfl))
        try simp only [List.setIfInBounds_toArray, List.set_cons_zero, List.set_cons_succ]
        refine heldY 11 32 ?_ _ rfl rfl (by kernel_rfl) (by kernel_rfl) (by kernel_rfl) (fun _ _ _ h => h) rfl (by assumption) ?_ ?_
        rotate_left
        · (intro w hSw; (try dsimp only at hSw); go_simp; (try with_reducible rfl))
        try simp only [List.setIfInBounds_toArray, List.set_cons_zero, List.set_cons_succ]
        refine heldNo 12 33 rfl (by kernel_rfl) (by kernel_rfl) (by kernel_rfl) (fun _ _ _ h => h) rfl (by assumption) ?_
        try simp only [List.setIfInBounds_toArray, List.set_cons_zero, List.set_cons_succ]
        refine heldNo 13 34 rfl (by kernel_rfl) (by kernel_rfl) (by kernel_rfl) (fun _ _ _ h => h) rfl (by assumption) ?_
        try simp only [List.setIfInBounds_toArray, List.set_cons_zero, List.set_cons_succ]
        refine heldNo 14 35 rfl (by kernel_rfl) (by kernel_rfl) (by kernel_rfl) (fun _ _ _ h => h) rfl (by assumption) ?_
        try simp only [List.setIfInBounds_toArray, List.set_cons_zero, List.set_cons_succ]
        refine heldNo 15 36 rfl (by kernel_rfl) (by kernel_rfl) (by kernel_rfl) (fun _ _ _ h => h) rfl (by assumption) ?_
        try simp only [List.setIfInBounds_toArray, List.set_cons_zero, List.set_cons_succ]
        refine heldNo 16 37 rfl (by kernel_rfl) (by kernel_rfl) (by kernel_rfl) (fun _ _ _ h => h) rfl (by assumption) ?_
        try simp only [List.setIfInBounds_toArray, List.set_cons_zero, List.set_cons_succ]
        refine heldNo 17 38 rfl (by kernel_rfl) (by kernel_rfl) (by kernel_rfl) (fun _ _ _ h => h) rfl (by assumption) ?_
        try simp only [List.setIfInBounds_toArray, List.set_cons_zero, List.set_cons_succ]
        refine heldNo 18 39 rfl (by kernel_rfl) (by kernel_rfl) (by kernel_rfl) (fun _ _ _ h => h) rfl (by assumption) ?_
        try simp only [List.setIfInBounds_toArray, List.set_cons_zero, List.set_cons_succ]
        refine heldNo 19 40 rfl (by kernel_rfl) (by kernel_rfl) (by kernel_rfl) (fun _ _ _ h => h) rfl (by assumption) ?_
        try simp only [List.setIfInBounds_toArray, List.set_cons_zero, List.set_cons_succ]
        refine heldNo 20 41 rfl (by kernel_rfl) (by kernel_rfl) (by kernel_rfl) (fun _ _ _ h => h) rfl (by assumption) ?_
        try simp only [List.setIfInBounds_toArray, List.set_cons_zero, List.set_cons_succ]
        refine heldNo 21 42 rfl (by kernel_rfl) (by kernel_rfl) (by kernel_rfl) (fun _ _ _ h => h) rfl (by assumption) ?_
        try simp only [List.setIfInBounds_toArray, List.set_cons_zero, List.set_cons_succ]
        refine heldNo 22 43 rfl (by kernel_rfl) (by kernel_rfl) (by kernel_rfl) (fun _ _ _ h => h) rfl (by assumption) ?_
        try simp only [List.setIfInBounds_toArray, List.set_cons_zero, List.set_cons_succ]
        refine heldNo 23 44 rfl (by kernel_rfl) (by kernel_rfl) (by kernel_rfl) (fun _ _ _ h => h) rfl (by assumption) ?_
        try simp only [List.setIfInBounds_toArray, List.set_cons_zero, List.set_cons_succ]
        refine heldY 24 45 ?_ _ rfl rfl (by kernel_rfl) (by kernel_rfl) (by kernel_rfl) (fun _ _ _ h => h) rfl (by assumption) ?_ ?_
        rotate_left
        · (intro w hSw; (try dsimp only at hSw); go_simp; (try with_reducible rfl))
        try simp only [List.setIfInBounds_toArray, List.set_cons_zero, List.set_cons_succ]
        refine wpAnyH_done (by kernel_rfl) ?_ _
        have HB4 : Hid (Below wr.heap.size wr _) := Lib.hid (BE _ hHeld)
        have HO4 := Lib.hid (HO.out.on HB4.out)
        have HBB := Lib.hid (HB.out.trans (HB4.out.mono HB.out.size))
        clear hHeld hs
        go_wp2
        go_roundw
        case rel => exact ⟨k + 1, by omega, by go_num, by rw [HF1.out]; exact HO4, HBB⟩
        case measure => simp [intOf]; omega
      have BE := fun (V : World) (h : V.cell? ⟨w.heap.size, 0, none⟩ = some (.slice ra rn rc) ∧ V.cell? ⟨w.heap.size, 1, none⟩ = some (.slice da dn dc) ∧ V.cell? ⟨w.heap.size, 2, none⟩ = some (.slice oa on oc) ∧ V.cell? ⟨w.heap.size, 3, none⟩ = some (.slice aa an ac) ∧ V.cell? ⟨w.heap.size, 4, none⟩ = some (.slice ia im ic) ∧ V.cell? ⟨w.heap.size, 5, none⟩ = some (.slice fa fn fc) ∧ V.cell? ⟨w.heap.size, 6, none⟩ = some (.slice (some ⟨b, o, none⟩) n c) ∧ V.cell? ⟨w.heap.size + 1, 0, none⟩ = some (.string NM) ∧ V.cell? ⟨w.heap.size + 1, 1, none⟩ = some (.string VR) ∧ V.cell? ⟨w.heap.size + 1, 2, none⟩ = some (.slice pda dpn pdc) ∧ V.cell? ⟨w.heap.size + 1, 3, none⟩ = some (.slice pca cnn pcc) ∧ V.cell? ⟨w.heap.size + 1, 4, none⟩ = some (.slice pra rpn prc) ∧ V.cell? ⟨w.heap.size + 1, 5, none⟩ = some (.slice pfa fln pfc) ∧ V.cell? ⟨w.heap.size + 1, 6, none⟩ = some (.slice pia itn pic) ∧ V.cell? ⟨w.heap.size + 1, 7, none⟩ = some (.slice pa0 sn0 pc0) ∧ V.cell? ⟨w.heap.size + 1, 8, none⟩ = some (.slice pa1 sn1 pc1) ∧ V.cell? ⟨w.heap.size + 1, 9, none⟩ = some (.slice pa2 sn2 pc2) ∧ V.cell? ⟨w.heap.size + 1, 10, none⟩ = some (.slice pa3 sn3 pc3) ∧ V.cell? ⟨b, o + k * 2, none⟩ = some (.string X) ∧ V.cell? ⟨b, o + k * 2 + 1, none⟩ = some (.slice pa pn pc) ∧ Below wr.heap.size wr V) => AtF.be (w := wr) (l := [(⟨w.heap.size, 0, none⟩, .slice ra rn rc), (⟨w.heap.size, 1, none⟩, .slice da dn dc), (⟨w.heap.size, 2, none⟩, .slice oa on oc), (⟨w.heap.size, 3, none⟩, .slice aa an ac), (⟨w.heap.size, 4, none⟩, .slice ia im ic), (⟨w.heap.size, 5, none⟩, .slice fa fn fc), (⟨w.heap.size, 6, none⟩, .slice (some ⟨b, o, none⟩) n c), (⟨w.heap.size + 1, 0, none⟩, .string NM), (⟨w.heap.size + 1, 1, none⟩, .string VR), (⟨w.heap.size + 1, 2, none⟩, .slice pda dpn pdc), (⟨w.heap.size + 1, 3, none⟩, .slice pca cnn pcc), (⟨w.heap.size + 1, 4, none⟩, .slice pra rpn prc), (⟨w.heap.size + 1, 5, none⟩, .slice pfa fln pfc), (⟨w.heap.size + 1, 6, none⟩, .slice pia itn pic), (⟨w.heap.size + 1, 7, none⟩, .slice pa0 sn0 pc0), (⟨w.heap.size + 1, 8, none⟩, .slice pa1 sn1 pc1), (⟨w.heap.size + 1, 9, none⟩, .slice pa2 sn2 pc2), (⟨w.heap.size + 1, 10, none⟩, .slice pa3 sn3 pc3), (⟨b, o + k * 2, none⟩, .string X), (⟨b, o + k * 2 + 1, none⟩, .slice pa pn pc)]) h
      refine wp_region_held_drew (S := (fun V => V.cell? ⟨w.heap.size, 0, none⟩ = some (.slice ra rn rc) ∧ V.cell? ⟨w.heap.size, 1, none⟩ = some (.slice da dn dc) ∧ V.cell? ⟨w.heap.size, 2, none⟩ = some (.slice oa on oc) ∧ V.cell? ⟨w.heap.size, 3, none⟩ = some (.slice aa an ac) ∧ V.cell? ⟨w.heap.size, 4, none⟩ = some (.slice ia im ic) ∧ V.cell? ⟨w.heap.size, 5, none⟩ = some (.slice fa fn fc) ∧ V.cell? ⟨w.heap.size, 6, none⟩ = some (.slice (some ⟨b, o, none⟩) n c) ∧ V.cell? ⟨w.heap.size + 1, 0, none⟩ = some (.string NM) ∧ V.cell? ⟨w.heap.size + 1, 1, none⟩ = some (.string VR) ∧ V.cell? ⟨w.heap.size + 1, 2, none⟩ = some (.slice pda dpn pdc) ∧ V.cell? ⟨w.heap.size + 1, 3, none⟩ = some (.slice pca cnn pcc) ∧ V.cell? ⟨w.heap.size + 1, 4, none⟩ = some (.slice pra rpn prc) ∧ V.cell? ⟨w.heap.size + 1, 5, none⟩ = some (.slice pfa fln pfc) ∧ V.cell? ⟨w.heap.size + 1, 6, none⟩ = some (.slice pia itn pic) ∧ V.cell? ⟨w.heap.size + 1, 7, none⟩ = some (.slice pa0 sn0 pc0) ∧ V.cell? ⟨w.heap.size + 1, 8, none⟩ = some (.slice pa1 sn1 pc1) ∧ V.cell? ⟨w.heap.size + 1, 9, none⟩ = some (.slice pa2 sn2 pc2) ∧ V.cell? ⟨w.heap.size + 1, 10, none⟩ = some (.slice pa3 sn3 pc3) ∧ V.cell? ⟨b, o + k * 2, none⟩ = some (.string X) ∧ V.cell? ⟨b, o + k * 2 + 1, none⟩ = some (.slice pa pn pc) ∧ Below wr.heap.size wr V)) (by kernel_rfl) ?_ (fun hHeld => ?_)
      · (try dsimp only); (first | assumption | exact hs | exact AtF.dr (w := wr) (l := [(⟨w.heap.size, 0, none⟩, .slice ra rn rc), (⟨w.heap.size, 1, none⟩, .slice da dn dc), (⟨w.heap.size, 2, none⟩, .slice oa on oc), (⟨w.heap.size, 3, none⟩, .slice aa an ac), (⟨w.heap.size, 4, none⟩, .slice ia im ic), (⟨w.heap.size, 5, none⟩, .slice fa fn fc), (⟨w.heap.size, 6, none⟩, .slice (some ⟨b, o, none⟩) n c), (⟨w.heap.size + 1, 0, none⟩, .string NM), (⟨w.heap.size + 1, 1, none⟩, .string VR), (⟨w.heap.size + 1, 2, none⟩, .slice pda dpn pdc), (⟨w.heap.size + 1, 3, none⟩, .slice pca cnn pcc), (⟨w.heap.size + 1, 4, none⟩, .slice pra rpn prc), (⟨w.heap.size + 1, 5, none⟩, .slice pfa fln pfc), (⟨w.heap.size + 1, 6, none⟩, .slice pia itn pic), (⟨w.heap.size + 1, 7, none⟩, .slice pa0 sn0 pc0), (⟨w.heap.size + 1, 8, none⟩, .slice pa1 sn1 pc1), (⟨w.heap.size + 1, 9, none⟩, .slice pa2 sn2 pc2), (⟨w.heap.size + 1, 10, none⟩, .slice pa3 sn3 pc3), (⟨b, o + k * 2, none⟩, .string X), (⟨b, o + k * 2 + 1, none⟩, .slice pa pn pc)]) hs | exact AtF.dr (w := wr) (l := [(⟨w.heap.size, 0, none⟩, .slice ra rn rc), (⟨w.heap.size, 1, none⟩, .slice da dn dc), (⟨w.heap.size, 2, none⟩, .slice oa on oc), (⟨w.heap.size, 3, none⟩, .slice aa an ac), (⟨w.heap.size, 4, none⟩, .slice ia im ic), (⟨w.heap.size, 5, none⟩, .slice fa fn fc), (⟨w.heap.size, 6, none⟩, .slice (some ⟨b, o, none⟩) n c), (⟨w.heap.size + 1, 0, none⟩, .string NM), (⟨w.heap.size + 1, 1, none⟩, .string VR), (⟨w.heap.size + 1, 2, none⟩, .slice pda dpn pdc), (⟨w.heap.size + 1, 3, none⟩, .slice pca cnn pcc), (⟨w.heap.size + 1, 4, none⟩, .slice pra rpn prc), (⟨w.heap.size + 1, 5, none⟩, .slice pfa fln pfc), (⟨w.heap.size + 1, 6, none⟩, .slice pia itn pic), (⟨w.heap.size + 1, 7, none⟩, .slice pa0 sn0 pc0), (⟨w.heap.size + 1, 8, none⟩, .slice pa1 sn1 pc1), (⟨w.heap.size + 1, 9, none⟩, .slice pa2 sn2 pc2), (⟨w.heap.size + 1, 10, none⟩, .slice pa3 sn3 pc3), (⟨b, o + k * 2, none⟩, .string X), (⟨b, o + k * 2 + 1, none⟩, .slice pa pn pc)]) (by assumption) | exact AtF.on (w := wr) (l := [(⟨w.heap.size, 0, none⟩, .slice ra rn rc), (⟨w.heap.size, 1, none⟩, .slice da dn dc), (⟨w.heap.size, 2, none⟩, .slice oa on oc), (⟨w.heap.size, 3, none⟩, .slice aa an ac), (⟨w.heap.size, 4, none⟩, .slice ia im ic), (⟨w.heap.size, 5, none⟩, .slice fa fn fc), (⟨w.heap.size, 6, none⟩, .slice (some ⟨b, o, none⟩) n c), (⟨w.heap.size + 1, 0, none⟩, .string NM), (⟨w.heap.size + 1, 1, none⟩, .string VR), (⟨w.heap.size + 1, 2, none⟩, .slice pda dpn pdc), (⟨w.heap.size + 1, 3, none⟩, .slice pca cnn pcc), (⟨w.heap.size + 1, 4, none⟩, .slice pra rpn prc), (⟨w.heap.size + 1, 5, none⟩, .slice pfa fln pfc), (⟨w.heap.size + 1, 6, none⟩, .slice pia itn pic), (⟨w.heap.size + 1, 7, none⟩, .slice pa0 sn0 pc0), (⟨w.heap.size + 1, 8, none⟩, .slice pa1 sn1 pc1), (⟨w.heap.size + 1, 9, none⟩, .slice pa2 sn2 pc2), (⟨w.heap.size + 1, 10, none⟩, .slice pa3 sn3 pc3), (⟨b, o + k * 2, none⟩, .string X), (⟨b, o + k * 2 + 1, none⟩, .slice pa pn pc)]) (by assumption) (by assumption) | exact AtF.al (w := wr) (l := [(⟨w.heap.size, 0, none⟩, .slice ra rn rc), (⟨w.heap.size, 1, none⟩, .slice da dn dc), (⟨w.heap.size, 2, none⟩, .slice oa on oc), (⟨w.heap.size, 3, none⟩, .slice aa an ac), (⟨w.heap.size, 4, none⟩, .slice ia im ic), (⟨w.heap.size, 5, none⟩, .slice fa fn fc), (⟨w.heap.size, 6, none⟩, .slice (some ⟨b, o, none⟩) n c), (⟨w.heap.size + 1, 0, none⟩, .string NM), (⟨w.heap.size + 1, 1, none⟩, .string VR), (⟨w.heap.size + 1, 2, none⟩, .slice pda dpn pdc), (⟨w.heap.size + 1, 3, none⟩, .slice pca cnn pcc), (⟨w.heap.size + 1, 4, none⟩, .slice pra rpn prc), (⟨w.heap.size + 1, 5, none⟩, .slice pfa fln pfc), (⟨w.heap.size + 1, 6, none⟩, .slice pia itn pic), (⟨w.heap.size + 1, 7, none⟩, .slice pa0 sn0 pc0), (⟨w.heap.size + 1, 8, none⟩, .slice pa1 sn1 pc1), (⟨w.heap.size + 1, 9, none⟩, .slice pa2 sn2 pc2), (⟨w.heap.size + 1, 10, none⟩, .slice pa3 sn3 pc3), (⟨b, o + k * 2, none⟩, .string X), (⟨b, o + k * 2 + 1, none⟩, .slice pa pn pc)]) (by assumption) _ | exact AtF.ald (w := wr) (l := [(⟨w.heap.size, 0, none⟩, .slice ra rn rc), (⟨w.heap.size, 1, none⟩, .slice da dn dc), (⟨w.heap.size, 2, none⟩, .slice oa on oc), (⟨w.heap.size, 3, none⟩, .slice aa an ac), (⟨w.heap.size, 4, none⟩, .slice ia im ic), (⟨w.heap.size, 5, none⟩, .slice fa fn fc), (⟨w.heap.size, 6, none⟩, .slice (some ⟨b, o, none⟩) n c), (⟨w.heap.size + 1, 0, none⟩, .string NM), (⟨w.heap.size + 1, 1, none⟩, .string VR), (⟨w.heap.size + 1, 2, none⟩, .slice pda dpn pdc), (⟨w.heap.size + 1, 3, none⟩, .slice pca cnn pcc), (⟨w.heap.size + 1, 4, none⟩, .slice pra rpn prc), (⟨w.heap.size + 1, 5, none⟩, .slice pfa fln pfc), (⟨w.heap.size + 1, 6, none⟩, .slice pia itn pic), (⟨w.heap.size + 1, 7, none⟩, .slice pa0 sn0 pc0), (⟨w.heap.size + 1, 8, none⟩, .slice pa1 sn1 pc1), (⟨w.heap.size + 1, 9, none⟩, .slice pa2 sn2 pc2), (⟨w.heap.size + 1, 10, none⟩, .slice pa3 sn3 pc3), (⟨b, o + k * 2, none⟩, .string X), (⟨b, o + k * 2 + 1, none⟩, .slice pa pn pc)]) (by assumption) _ | exact AtF.al (w := wr) (l := [(⟨w.heap.size, 0, none⟩, .slice ra rn rc), (⟨w.heap.size, 1, none⟩, .slice da dn dc), (⟨w.heap.size, 2, none⟩, .slice oa on oc), (⟨w.heap.size, 3, none⟩, .slice aa an ac), (⟨w.heap.size, 4, none⟩, .slice ia im ic), (⟨w.heap.size, 5, none⟩, .slice fa fn fc), (⟨w.heap.size, 6, none⟩, .slice (some ⟨b, o, none⟩) n c), (⟨w.heap.size + 1, 0, none⟩, .string NM), (⟨w.heap.size + 1, 1, none⟩, .string VR), (⟨w.heap.size + 1, 2, none⟩, .slice pda dpn pdc), (⟨w.heap.size + 1, 3, none⟩, .slice pca cnn pcc), (⟨w.heap.size + 1, 4, none⟩, .slice pra rpn prc), (⟨w.heap.size + 1, 5, none⟩, .slice pfa fln pfc), (⟨w.heap.size + 1, 6, none⟩, .slice pia itn pic), (⟨w.heap.size + 1, 7, none⟩, .slice pa0 sn0 pc0), (⟨w.heap.size + 1, 8, none⟩, .slice pa1 sn1 pc1), (⟨w.heap.size + 1, 9, none⟩, .slice pa2 sn2 pc2), (⟨w.heap.size + 1, 10, none⟩, .slice pa3 sn3 pc3), (⟨b, o + k * 2, none⟩, .string X), (⟨b, o + k * 2 + 1, none⟩, .slice pa pn pc)]) hs _ | exact AtF.ald (w := wr) (l := [(⟨w.heap.size, 0, none⟩, .slice ra rn rc), (⟨w.heap.size, 1, none⟩, .slice da dn dc), (⟨w.heap.size, 2, none⟩, .slice oa on oc), (⟨w.heap.size, 3, none⟩, .slice aa an ac), (⟨w.heap.size, 4, none⟩, .slice ia im ic), (⟨w.heap.size, 5, none⟩, .slice fa fn fc), (⟨w.heap.size, 6, none⟩, .slice (some ⟨b, o, none⟩) n c), (⟨w.heap.size + 1, 0, none⟩, .string NM), (⟨w.heap.size + 1, 1, none⟩, .string VR), (⟨w.heap.size + 1, 2, none⟩, .slice pda dpn pdc), (⟨w.heap.size + 1, 3, none⟩, .slice pca cnn pcc), (⟨w.heap.size + 1, 4, none⟩, .slice pra rpn prc), (⟨w.heap.size + 1, 5, none⟩, .slice pfa fln pfc), (⟨w.heap.size + 1, 6, none⟩, .slice pia itn pic), (⟨w.heap.size + 1, 7, none⟩, .slice pa0 sn0 pc0), (⟨w.heap.size + 1, 8, none⟩, .slice pa1 sn1 pc1), (⟨w.heap.size + 1, 9, none⟩, .slice pa2 sn2 pc2), (⟨w.heap.size + 1, 10, none⟩, .slice pa3 sn3 pc3), (⟨b, o + k * 2, none⟩, .string X), (⟨b, o + k * 2 + 1, none⟩, .slice pa pn pc)]) hs _)
      refine heldY 0 21 ?_ _ rfl rfl (by kernel_rfl) (by kernel_rfl) (by kernel_rfl) (fun _ _ _ h => h) rfl (by assumption) ?_ ?_
      rotate_left
      · (intro w hSw; (try dsimp only at hSw); go_simp; (try with_reducible rfl))
      try simp only [List.setIfInBounds_toArray, List.set_cons_zero, List.set_cons_succ]
      refine heldY 1 22 ?_ _ rfl rfl (by kernel_rfl) (by kernel_rfl) (by kernel_rfl) (fun _ _ _ h => h) rfl (by assumption) ?_ ?_
      rotate_left
      · (intro w hSw; (try dsimp only at hSw); go_simp; (try with_reducible rfl))
      try simp only [List.setIfInBounds_toArray, List.set_cons_zero, List.set_cons_succ]
      refine heldY 2 23 ?_ _ rfl rfl (by kernel_rfl) (by kernel_rfl) (by kernel_rfl) (fun _ _ _ h => h) rfl (by assumption) ?_ ?_
      rotate_left
      · (intro w hSw; (try dsimp only at hSw); go_simp; (try with_reducible rfl))
      try simp only [List.setIfInBounds_toArray, List.set_cons_zero, List.set_cons_succ]
      refine heldY 3 24 ?_ _ rfl rfl (by kernel_rfl) (by kernel_rfl) (by kernel_rfl) (fun _ _ _ h => h) rfl (by assumption) ?_ ?_
      rotate_left
      · (intro w hSw; (try dsimp only at hSw); go_simp; (try with_reducible rfl))
      try simp only [List.setIfInBounds_toArray, List.set_cons_zero, List.set_cons_succ]
      refine heldY 4 25 ?_ _ rfl rfl (by kernel_rfl) (by kernel_rfl) (by kernel_rfl) (fun _ _ _ h => h) rfl (by assumption) ?_ ?_
      rotate_left
      · (intro w hSw; (try dsimp only at hSw); go_simp; (try with_reducible rfl))
      try simp only [List.setIfInBounds_toArray, List.set_cons_zero, List.set_cons_succ]
      refine heldY 5 26 ?_ _ rfl rfl (by kernel_rfl) (by kernel_rfl) (by kernel_rfl) (fun _ _ _ h => h) rfl (by assumption) ?_ ?_
      rotate_left
      · (intro w hSw; (try dsimp only at hSw); go_simp; (try with_reducible rfl))
      try simp only [List.setIfInBounds_toArray, List.set_cons_zero, List.set_cons_succ]
      refine heldY 6 27 ?_ _ rfl rfl (by kernel_rfl) (by kernel_rfl) (by kernel_rfl) (fun _ _ _ h => h) rfl (by assumption) ?_ ?_
      rotate_left
      · (intro w hSw; (try dsimp only at hSw); go_simp; (try with_reducible rfl))
      try simp only [List.setIfInBounds_toArray, List.set_cons_zero, List.set_cons_succ]
      refine heldY 7 28 ?_ _ rfl rfl (by kernel_rfl) (by kernel_rfl) (by kernel_rfl) (fun _ _ _ h => h) rfl (by assumption) ?_ ?_
      rotate_left
      · (intro w hSw; (try dsimp only at hSw); go_simp; (try with_reducible rfl))
      try simp only [List.setIfInBounds_toArray, List.set_cons_zero, List.set_cons_succ]
      refine wpAnyH_ready (rs := [8]) (by kernel_rfl) (by simp) ?_
      refine AllReadyH.cons rfl (fun K hK => ?_) AllReadyH.nil
      go_simp
      first | (go_at_call 31; (with_reducible refine (HAx.out _ (BE _ (by assumption))).mono ?_); rintro e w5 ⟨rfl, hb⟩) | (go_at_call 55; (with_reducible refine (SPx.out _ (BE _ (by assumption))).mono ?_); rintro e w3 ⟨⟨a3, c3, rfl, hh3⟩, hb⟩) | (go_at_call 50; (with_reducible refine (LOx.out _ _ _ (BE _ (by assumption)) hh3).mono ?_); rintro e w4 ⟨⟨a4, c4, rfl, hh4⟩, hb⟩)
      refine hK.out _ _ ?_ (fun hHeld => ?_)
      · (try dsimp only); (first | assumption | exact hs | exact AtF.dr (w := wr) (l := [(⟨w.heap.size, 0, none⟩, .slice ra rn rc), (⟨w.heap.size, 1, none⟩, .slice da dn dc), (⟨w.heap.size, 2, none⟩, .slice oa on oc), (⟨w.heap.size, 3, none⟩, .slice aa an ac), (⟨w.heap.size, 4, none⟩, .slice ia im ic), (⟨w.heap.size, 5, none⟩, .slice fa fn fc), (⟨w.heap.size, 6, none⟩, .slice (some ⟨b, o, none⟩) n c), (⟨w.heap.size + 1, 0, none⟩, .string NM), (⟨w.heap.size + 1, 1, none⟩, .string VR), (⟨w.heap.size + 1, 2, none⟩, .slice pda dpn pdc), (⟨w.heap.size + 1, 3, none⟩, .slice pca cnn pcc), (⟨w.heap.size + 1, 4, none⟩, .slice pra rpn prc), (⟨w.heap.size + 1, 5, none⟩, .slice pfa fln pfc), (⟨w.heap.size + 1, 6, none⟩, .slice pia itn pic), (⟨w.heap.size + 1, 7, none⟩, .slice pa0 sn0 pc0), (⟨w.heap.size + 1, 8, none⟩, .slice pa1 sn1 pc1), (⟨w.heap.size + 1, 9, none⟩, .slice pa2 sn2 pc2), (⟨w.heap.size + 1, 10, none⟩, .slice pa3 sn3 pc3), (⟨b, o + k * 2, none⟩, .string X), (⟨b, o + k * 2 + 1, none⟩, .slice pa pn pc)]) hs | exact AtF.dr (w := wr) (l := [(⟨w.heap.size, 0, none⟩, .slice ra rn rc), (⟨w.heap.size, 1, none⟩, .slice da dn dc), (⟨w.heap.size, 2, none⟩, .slice oa on oc), (⟨w.heap.size, 3, none⟩, .slice aa an ac), (⟨w.heap.size, 4, none⟩, .slice ia im ic), (⟨w.heap.size, 5, none⟩, .slice fa fn fc), (⟨w.heap.size, 6, none⟩, .slice (some ⟨b, o, none⟩) n c), (⟨w.heap.size + 1, 0, none⟩, .string NM), (⟨w.heap.size + 1, 1, none⟩, .string VR), (⟨w.heap.size + 1, 2, none⟩, .slice pda dpn pdc), (⟨w.heap.size + 1, 3, none⟩, .slice pca cnn pcc), (⟨w.heap.size + 1, 4, none⟩, .slice pra rpn prc), (⟨w.heap.size + 1, 5, none⟩, .slice pfa fln pfc), (⟨w.heap.size + 1, 6, none⟩, .slice pia itn pic), (⟨w.heap.size + 1, 7, none⟩, .slice pa0 sn0 pc0), (⟨w.heap.size + 1, 8, none⟩, .slice pa1 sn1 pc1), (⟨w.heap.size + 1, 9, none⟩, .slice pa2 sn2 pc2), (⟨w.heap.size + 1, 10, none⟩, .slice pa3 sn3 pc3), (⟨b, o + k * 2, none⟩, .string X), (⟨b, o + k * 2 + 1, none⟩, .slice pa pn pc)]) (by assumption) | exact AtF.on (w := wr) (l := [(⟨w.heap.size, 0, none⟩, .slice ra rn rc), (⟨w.heap.size, 1, none⟩, .slice da dn dc), (⟨w.heap.size, 2, none⟩, .slice oa on oc), (⟨w.heap.size, 3, none⟩, .slice aa an ac), (⟨w.heap.size, 4, none⟩, .slice ia im ic), (⟨w.heap.size, 5, none⟩, .slice fa fn fc), (⟨w.heap.size, 6, none⟩, .slice (some ⟨b, o, none⟩) n c), (⟨w.heap.size + 1, 0, none⟩, .string NM), (⟨w.heap.size + 1, 1, none⟩, .string VR), (⟨w.heap.size + 1, 2, none⟩, .slice pda dpn pdc), (⟨w.heap.size + 1, 3, none⟩, .slice pca cnn pcc), (⟨w.heap.size + 1, 4, none⟩, .slice pra rpn prc), (⟨w.heap.size + 1, 5, none⟩, .slice pfa fln pfc), (⟨w.heap.size + 1, 6, none⟩, .slice pia itn pic), (⟨w.heap.size + 1, 7, none⟩, .slice pa0 sn0 pc0), (⟨w.heap.size + 1, 8, none⟩, .slice pa1 sn1 pc1), (⟨w.heap.size + 1, 9, none⟩, .slice pa2 sn2 pc2), (⟨w.heap.size + 1, 10, none⟩, .slice pa3 sn3 pc3), (⟨b, o + k * 2, none⟩, .string X), (⟨b, o + k * 2 + 1, none⟩, .slice pa pn pc)]) (by assumption) (by assumption) | exact AtF.al (w := wr) (l := [(⟨w.heap.size, 0, none⟩, .slice ra rn rc), (⟨w.heap.size, 1, none⟩, .slice da dn dc), (⟨w.heap.size, 2, none⟩, .slice oa on oc), (⟨w.heap.size, 3, none⟩, .slice aa an ac), (⟨w.heap.size, 4, none⟩, .slice ia im ic), (⟨w.heap.size, 5, none⟩, .slice fa fn fc), (⟨w.heap.size, 6, none⟩, .slice (some ⟨b, o, none⟩) n c), (⟨w.heap.size + 1, 0, none⟩, .string NM), (⟨w.heap.size + 1, 1, none⟩, .string VR), (⟨w.heap.size + 1, 2, none⟩, .slice pda dpn pdc), (⟨w.heap.size + 1, 3, none⟩, .slice pca cnn pcc), (⟨w.heap.size + 1, 4, none⟩, .slice pra rpn prc), (⟨w.heap.size + 1, 5, none⟩, .slice pfa fln pfc), (⟨w.heap.size + 1, 6, none⟩, .slice pia itn pic), (⟨w.heap.size + 1, 7, none⟩, .slice pa0 sn0 pc0), (⟨w.heap.size + 1, 8, none⟩, .slice pa1 sn1 pc1), (⟨w.heap.size + 1, 9, none⟩, .slice pa2 sn2 pc2), (⟨w.heap.size + 1, 10, none⟩, .slice pa3 sn3 pc3), (⟨b, o + k * 2, none⟩, .string X), (⟨b, o + k * 2 + 1, none⟩, .slice pa pn pc)]) (by assumption) _ | exact AtF.ald (w := wr) (l := [(⟨w.heap.size, 0, none⟩, .slice ra rn rc), (⟨w.heap.size, 1, none⟩, .slice da dn dc), (⟨w.heap.size, 2, none⟩, .slice oa on oc), (⟨w.heap.size, 3, none⟩, .slice aa an ac), (⟨w.heap.size, 4, none⟩, .slice ia im ic), (⟨w.heap.size, 5, none⟩, .slice fa fn fc), (⟨w.heap.size, 6, none⟩, .slice (some ⟨b, o, none⟩) n c), (⟨w.heap.size + 1, 0, none⟩, .string NM), (⟨w.heap.size + 1, 1, none⟩, .string VR), (⟨w.heap.size + 1, 2, none⟩, .slice pda dpn pdc), (⟨w.heap.size + 1, 3, none⟩, .slice pca cnn pcc), (⟨w.heap.size + 1, 4, none⟩, .slice pra rpn prc), (⟨w.heap.size + 1, 5, none⟩, .slice pfa fln pfc), (⟨w.heap.size + 1, 6, none⟩, .slice pia itn pic), (⟨w.heap.size + 1, 7, none⟩, .slice pa0 sn0 pc0), (⟨w.heap.size + 1, 8, none⟩, .slice pa1 sn1 pc1), (⟨w.heap.size + 1, 9, none⟩, .slice pa2 sn2 pc2), (⟨w.heap.size + 1, 10, none⟩, .slice pa3 sn3 pc3), (⟨b, o + k * 2, none⟩, .string X), (⟨b, o + k * 2 + 1, none⟩, .slice pa pn pc)]) (by assumption) _ | exact AtF.al (w := wr) (l := [(⟨w.heap.size, 0, none⟩, .slice ra rn rc), (⟨w.heap.size, 1, none⟩, .slice da dn dc), (⟨w.heap.size, 2, none⟩, .slice oa on oc), (⟨w.heap.size, 3, none⟩, .slice aa an ac), (⟨w.heap.size, 4, none⟩, .slice ia im ic), (⟨w.heap.size, 5, none⟩, .slice fa fn fc), (⟨w.heap.size, 6, none⟩, .slice (some ⟨b, o, none⟩) n c), (⟨w.heap.size + 1, 0, none⟩, .string NM), (⟨w.heap.size + 1, 1, none⟩, .string VR), (⟨w.heap.size + 1, 2, none⟩, .slice pda dpn pdc), (⟨w.heap.size + 1, 3, none⟩, .slice pca cnn pcc), (⟨w.heap.size + 1, 4, none⟩, .slice pra rpn prc), (⟨w.heap.size + 1, 5, none⟩, .slice pfa fln pfc), (⟨w.heap.size + 1, 6, none⟩, .slice pia itn pic), (⟨w.heap.size + 1, 7, none⟩, .slice pa0 sn0 pc0), (⟨w.heap.size + 1, 8, none⟩, .slice pa1 sn1 pc1), (⟨w.heap.size + 1, 9, none⟩, .slice pa2 sn2 pc2), (⟨w.heap.size + 1, 10, none⟩, .slice pa3 sn3 pc3), (⟨b, o + k * 2, none⟩, .string X), (⟨b, o + k * 2 + 1, none⟩, .slice pa pn pc)]) hs _ | exact AtF.ald (w := wr) (l := [(⟨w.heap.size, 0, none⟩, .slice ra rn rc), (⟨w.heap.size, 1, none⟩, .slice da dn dc), (⟨w.heap.size, 2, none⟩, .slice oa on oc), (⟨w.heap.size, 3, none⟩, .slice aa an ac), (⟨w.heap.size, 4, none⟩, .slice ia im ic), (⟨w.heap.size, 5, none⟩, .slice fa fn fc), (⟨w.heap.size, 6, none⟩, .slice (some ⟨b, o, none⟩) n c), (⟨w.heap.size + 1, 0, none⟩, .string NM), (⟨w.heap.size + 1, 1, none⟩, .string VR), (⟨w.heap.size + 1, 2, none⟩, .slice pda dpn pdc), (⟨w.heap.size + 1, 3, none⟩, .slice pca cnn pcc), (⟨w.heap.size + 1, 4, none⟩, .slice pra rpn prc), (⟨w.heap.size + 1, 5, none⟩, .slice pfa fln pfc), (⟨w.heap.size + 1, 6, none⟩, .slice pia itn pic), (⟨w.heap.size + 1, 7, none⟩, .slice pa0 sn0 pc0), (⟨w.heap.size + 1, 8, none⟩, .slice pa1 sn1 pc1), (⟨w.heap.size + 1, 9, none⟩, .slice pa2 sn2 pc2), (⟨w.heap.size + 1, 10, none⟩, .slice pa3 sn3 pc3), (⟨b, o + k * 2, none⟩, .string X), (⟨b, o + k * 2 + 1, none⟩, .slice pa pn pc)]) hs _)
      clear hK K
      try simp only [Act.put, List.setIfInBounds_toArray, List.set_cons_zero, List.set_cons_succ]
      refine heldY 9 30 ?_ _ rfl rfl (by kernel_rfl) (by kernel_rfl) (by kernel_rfl) (fun _ _ _ h => h) rfl (by assumption) ?_ ?_
      rotate_left
      · (intro w hSw; (try dsimp only at hSw); go_simp; (try with_reducible rfl))
      try simp only [List.setIfInBounds_toArray, List.set_cons_zero, List.set_cons_succ]
      refine heldY 10 31 ?_ _ rfl rfl (by kernel_rfl) (by kernel_rfl) (by kernel_rfl) (fun _ _ _ h => h) rfl (by assumption) ?_ ?_
      rotate_left
      · (intro w hSw; (try dsimp only at hSw); go_simp; (try with_reducible rfl))
      try simp only [List.setIfInBounds_toArray, List.set_cons_zero, List.set_cons_succ]
      refine heldY 11 32 ?_ _ rfl rfl (by kernel_rfl) (by kernel_rfl) (by kernel_rfl) (fun _ _ _ h => h) rfl (by assumption) ?_ ?_
      rotate_left
      · (intro w hSw; (try dsimp only at hSw); go_simp; (try with_reducible rfl))
      try simp only [List.setIfInBounds_toArray, List.set_cons_zero, List.set_cons_succ]
      refine heldY 12 33 ?_ _ rfl rfl (by kernel_rfl) (by kernel_rfl) (by kernel_rfl) (fun _ _ _ h => h) rfl (by assumption) ?_ ?_
      rotate_left
      · (intro w hSw; (try dsimp only at hSw); go_simp; (try with_reducible rfl))
      try simp only [List.setIfInBounds_toArray, List.set_cons_zero, List.set_cons_succ]
      refine heldY 13 34 ?_ _ rfl rfl (by kernel_rfl) (by kernel_rfl) (by kernel_rfl) (fun _ _ _ h => h) rfl (by assumption) ?_ ?_
      rotate_left
      · (intro w hSw; (try dsimp only at hSw); go_simp; (try with_reducible rfl))
      try simp only [List.setIfInBounds_toArray, List.set_cons_zero, List.set_cons_succ]
      refine heldY 14 35 ?_ _ rfl rfl (by kernel_rfl) (by kernel_rfl) (by kernel_rfl) (fun _ _ _ h => h) rfl (by assumption) ?_ ?_
      rotate_left
      · (intro w hSw; (try dsimp only at hSw); go_simp; (try with_reducible rfl))
      try simp only [List.setIfInBounds_toArray, List.set_cons_zero, List.set_cons_succ]
      refine heldY 15 36 ?_ _ rfl rfl (by kernel_rfl) (by kernel_rfl) (by kernel_rfl) (fun _ _ _ h => h) rfl (by assumption) ?_ ?_
      rotate_left
      · (intro w hSw; (try dsimp only at hSw); go_simp; (try with_reducible rfl))
      try simp only [List.setIfInBounds_toArray, List.set_cons_zero, List.set_cons_succ]
      refine heldY 16 37 ?_ _ rfl rfl (by kernel_rfl) (by kernel_rfl) (by kernel_rfl) (fun _ _ _ h => h) rfl (by assumption) ?_ ?_
      rotate_left
      · (intro w hSw; (try dsimp only at hSw); go_simp; (try with_reducible rfl))
      try simp only [List.setIfInBounds_toArray, List.set_cons_zero, List.set_cons_succ]
      refine heldY 17 38 ?_ _ rfl rfl (by kernel_rfl) (by kernel_rfl) (by kernel_rfl) (fun _ _ _ h => h) rfl (by assumption) ?_ ?_
      rotate_left
      · (intro w hSw; (try dsimp only at hSw); go_simp; (try with_reducible rfl))
      try simp only [List.setIfInBounds_toArray, List.set_cons_zero, List.set_cons_succ]
      refine heldY 18 39 ?_ _ rfl rfl (by kernel_rfl) (by kernel_rfl) (by kernel_rfl) (fun _ _ _ h => h) rfl (by assumption) ?_ ?_
      rotate_left
      · (intro w hSw; (try dsimp only at hSw); go_simp; (try with_reducible rfl))
      try simp only [List.setIfInBounds_toArray, List.set_cons_zero, List.set_cons_succ]
      refine heldY 19 40 ?_ _ rfl rfl (by kernel_rfl) (by kernel_rfl) (by kernel_rfl) (fun _ _ _ h => h) rfl (by assumption) ?_ ?_
      rotate_left
      · (intro w hSw; (try dsimp only at hSw); go_simp; (try with_reducible rfl))
      try simp only [List.setIfInBounds_toArray, List.set_cons_zero, List.set_cons_succ]
      refine wpAnyH_ready (rs := [20]) (by kernel_rfl) (by simp) ?_
      refine AllReadyH.cons rfl (fun K hK => ?_) AllReadyH.nil
      go_simp
      first | (go_at_call 31; (with_reducible refine (HAx.out _ (BE _ (by assumption))).mono ?_); rintro e w5 ⟨rfl, hb⟩) | (go_at_call 55; (with_reducible refine (SPx.out _ (BE _ (by assumption))).mono ?_); rintro e w3 ⟨⟨a3, c3, rfl, hh3⟩, hb⟩) | (go_at_call 50; (with_reducible refine (LOx.out _ _ _ (BE _ (by assumption)) hh3).mono ?_); rintro e w4 ⟨⟨a4, c4, rfl, hh4⟩, hb⟩)
      refine hK.out _ _ ?_ (fun hHeld => ?_)
      · (try dsimp only); (first | assumption | exact hs | exact AtF.dr (w := wr) (l := [(⟨w.heap.size, 0, none⟩, .slice ra rn rc), (⟨w.heap.size, 1, none⟩, .slice da dn dc), (⟨w.heap.size, 2, none⟩, .slice oa on oc), (⟨w.heap.size, 3, none⟩, .slice aa an ac), (⟨w.heap.size, 4, none⟩, .slice ia im ic), (⟨w.heap.size, 5, none⟩, .slice fa fn fc), (⟨w.heap.size, 6, none⟩, .slice (some ⟨b, o, none⟩) n c), (⟨w.heap.size + 1, 0, none⟩, .string NM), (⟨w.heap.size + 1, 1, none⟩, .string VR), (⟨w.heap.size + 1, 2, none⟩, .slice pda dpn pdc), (⟨w.heap.size + 1, 3, none⟩, .slice pca cnn pcc), (⟨w.heap.size + 1, 4, none⟩, .slice pra rpn prc), (⟨w.heap.size + 1, 5, none⟩, .slice pfa fln pfc), (⟨w.heap.size + 1, 6, none⟩, .slice pia itn pic), (⟨w.heap.size + 1, 7, none⟩, .slice pa0 sn0 pc0), (⟨w.heap.size + 1, 8, none⟩, .slice pa1 sn1 pc1), (⟨w.heap.size + 1, 9, none⟩, .slice pa2 sn2 pc2), (⟨w.heap.size + 1, 10, none⟩, .slice pa3 sn3 pc3), (⟨b, o + k * 2, none⟩, .string X), (⟨b, o + k * 2 + 1, none⟩, .slice pa pn pc)]) hs | exact AtF.dr (w := wr) (l := [(⟨w.heap.size, 0, none⟩, .slice ra rn rc), (⟨w.heap.size, 1, none⟩, .slice da dn dc), (⟨w.heap.size, 2, none⟩, .slice oa on oc), (⟨w.heap.size, 3, none⟩, .slice aa an ac), (⟨w.heap.size, 4, none⟩, .slice ia im ic), (⟨w.heap.size, 5, none⟩, .slice fa fn fc), (⟨w.heap.size, 6, none⟩, .slice (some ⟨b, o, none⟩) n c), (⟨w.heap.size + 1, 0, none⟩, .string NM), (⟨w.heap.size + 1, 1, none⟩, .string VR), (⟨w.heap.size + 1, 2, none⟩, .slice pda dpn pdc), (⟨w.heap.size + 1, 3, none⟩, .slice pca cnn pcc), (⟨w.heap.size + 1, 4, none⟩, .slice pra rpn prc), (⟨w.heap.size + 1, 5, none⟩, .slice pfa fln pfc), (⟨w.heap.size + 1, 6, none⟩, .slice pia itn pic), (⟨w.heap.size + 1, 7, none⟩, .slice pa0 sn0 pc0), (⟨w.heap.size + 1, 8, none⟩, .slice pa1 sn1 pc1), (⟨w.heap.size + 1, 9, none⟩, .slice pa2 sn2 pc2), (⟨w.heap.size + 1, 10, none⟩, .slice pa3 sn3 pc3), (⟨b, o + k * 2, none⟩, .string X), (⟨b, o + k * 2 + 1, none⟩, .slice pa pn pc)]) (by assumption) | exact AtF.on (w := wr) (l := [(⟨w.heap.size, 0, none⟩, .slice ra rn rc), (⟨w.heap.size, 1, none⟩, .slice da dn dc), (⟨w.heap.size, 2, none⟩, .slice oa on oc), (⟨w.heap.size, 3, none⟩, .slice aa an ac), (⟨w.heap.size, 4, none⟩, .slice ia im ic), (⟨w.heap.size, 5, none⟩, .slice fa fn fc), (⟨w.heap.size, 6, none⟩, .slice (some ⟨b, o, none⟩) n c), (⟨w.heap.size + 1, 0, none⟩, .string NM), (⟨w.heap.size + 1, 1, none⟩, .string VR), (⟨w.heap.size + 1, 2, none⟩, .slice pda dpn pdc), (⟨w.heap.size + 1, 3, none⟩, .slice pca cnn pcc), (⟨w.heap.size + 1, 4, none⟩, .slice pra rpn prc), (⟨w.heap.size + 1, 5, none⟩, .slice pfa fln pfc), (⟨w.heap.size + 1, 6, none⟩, .slice pia itn pic), (⟨w.heap.size + 1, 7, none⟩, .slice pa0 sn0 pc0), (⟨w.heap.size + 1, 8, none⟩, .slice pa1 sn1 pc1), (⟨w.heap.size + 1, 9, none⟩, .slice pa2 sn2 pc2), (⟨w.heap.size + 1, 10, none⟩, .slice pa3 sn3 pc3), (⟨b, o + k * 2, none⟩, .string X), (⟨b, o + k * 2 + 1, none⟩, .slice pa pn pc)]) (by assumption) (by assumption) | exact AtF.al (w := wr) (l := [(⟨w.heap.size, 0, none⟩, .slice ra rn rc), (⟨w.heap.size, 1, none⟩, .slice da dn dc), (⟨w.heap.size, 2, none⟩, .slice oa on oc), (⟨w.heap.size, 3, none⟩, .slice aa an ac), (⟨w.heap.size, 4, none⟩, .slice ia im ic), (⟨w.heap.size, 5, none⟩, .slice fa fn fc), (⟨w.heap.size, 6, none⟩, .slice (some ⟨b, o, none⟩) n c), (⟨w.heap.size + 1, 0, none⟩, .string NM), (⟨w.heap.size + 1, 1, none⟩, .string VR), (⟨w.heap.size + 1, 2, none⟩, .slice pda dpn pdc), (⟨w.heap.size + 1, 3, none⟩, .slice pca cnn pcc), (⟨w.heap.size + 1, 4, none⟩, .slice pra rpn prc), (⟨w.heap.size + 1, 5, none⟩, .slice pfa fln pfc), (⟨w.heap.size + 1, 6, none⟩, .slice pia itn pic), (⟨w.heap.size + 1, 7, none⟩, .slice pa0 sn0 pc0), (⟨w.heap.size + 1, 8, none⟩, .slice pa1 sn1 pc1), (⟨w.heap.size + 1, 9, none⟩, .slice pa2 sn2 pc2), (⟨w.heap.size + 1, 10, none⟩, .slice pa3 sn3 pc3), (⟨b, o + k * 2, none⟩, .string X), (⟨b, o + k * 2 + 1, none⟩, .slice pa pn pc)]) (by assumption) _ | exact AtF.ald (w := wr) (l := [(⟨w.heap.size, 0, none⟩, .slice ra rn rc), (⟨w.heap.size, 1, none⟩, .slice da dn dc), (⟨w.heap.size, 2, none⟩, .slice oa on oc), (⟨w.heap.size, 3, none⟩, .slice aa an ac), (⟨w.heap.size, 4, none⟩, .slice ia im ic), (⟨w.heap.size, 5, none⟩, .slice fa fn fc), (⟨w.heap.size, 6, none⟩, .slice (some ⟨b, o, none⟩) n c), (⟨w.heap.size + 1, 0, none⟩, .string NM), (⟨w.heap.size + 1, 1, none⟩, .string VR), (⟨w.heap.size + 1, 2, none⟩, .slice pda dpn pdc), (⟨w.heap.size + 1, 3, none⟩, .slice pca cnn pcc), (⟨w.heap.size + 1, 4, none⟩, .slice pra rpn prc), (⟨w.heap.size + 1, 5, none⟩, .slice pfa fln pfc), (⟨w.heap.size + 1, 6, none⟩, .slice pia itn pic), (⟨w.heap.size + 1, 7, none⟩, .slice pa0 sn0 pc0), (⟨w.heap.size + 1, 8, none⟩, .slice pa1 sn1 pc1), (⟨w.heap.size + 1, 9, none⟩, .slice pa2 sn2 pc2), (⟨w.heap.size + 1, 10, none⟩, .slice pa3 sn3 pc3), (⟨b, o + k * 2, none⟩, .string X), (⟨b, o + k * 2 + 1, none⟩, .slice pa pn pc)]) (by assumption) _ | exact AtF.al (w := wr) (l := [(⟨w.heap.size, 0, none⟩, .slice ra rn rc), (⟨w.heap.size, 1, none⟩, .slice da dn dc), (⟨w.heap.size, 2, none⟩, .slice oa on oc), (⟨w.heap.size, 3, none⟩, .slice aa an ac), (⟨w.heap.size, 4, none⟩, .slice ia im ic), (⟨w.heap.size, 5, none⟩, .slice fa fn fc), (⟨w.heap.size, 6, none⟩, .slice (some ⟨b, o, none⟩) n c), (⟨w.heap.size + 1, 0, none⟩, .string NM), (⟨w.heap.size + 1, 1, none⟩, .string VR), (⟨w.heap.size + 1, 2, none⟩, .slice pda dpn pdc), (⟨w.heap.size + 1, 3, none⟩, .slice pca cnn pcc), (⟨w.heap.size + 1, 4, none⟩, .slice pra rpn prc), (⟨w.heap.size + 1, 5, none⟩, .slice pfa fln pfc), (⟨w.heap.size + 1, 6, none⟩, .slice pia itn pic), (⟨w.heap.size + 1, 7, none⟩, .slice pa0 sn0 pc0), (⟨w.heap.size + 1, 8, none⟩, .slice pa1 sn1 pc1), (⟨w.heap.size + 1, 9, none⟩, .slice pa2 sn2 pc2), (⟨w.heap.size + 1, 10, none⟩, .slice pa3 sn3 pc3), (⟨b, o + k * 2, none⟩, .string X), (⟨b, o + k * 2 + 1, none⟩, .slice pa pn pc)]) hs _ | exact AtF.ald (w := wr) (l := [(⟨w.heap.size, 0, none⟩, .slice ra rn rc), (⟨w.heap.size, 1, none⟩, .slice da dn dc), (⟨w.heap.size, 2, none⟩, .slice oa on oc), (⟨w.heap.size, 3, none⟩, .slice aa an ac), (⟨w.heap.size, 4, none⟩, .slice ia im ic), (⟨w.heap.size, 5, none⟩, .slice fa fn fc), (⟨w.heap.size, 6, none⟩, .slice (some ⟨b, o, none⟩) n c), (⟨w.heap.size + 1, 0, none⟩, .string NM), (⟨w.heap.size + 1, 1, none⟩, .string VR), (⟨w.heap.size + 1, 2, none⟩, .slice pda dpn pdc), (⟨w.heap.size + 1, 3, none⟩, .slice pca cnn pcc), (⟨w.heap.size + 1, 4, none⟩, .slice pra rpn prc), (⟨w.heap.size + 1, 5, none⟩, .slice pfa fln pfc), (⟨w.heap.size + 1, 6, none⟩, .slice pia itn pic), (⟨w.heap.size + 1, 7, none⟩, .slice pa0 sn0 pc0), (⟨w.heap.size + 1, 8, none⟩, .slice pa1 sn1 pc1), (⟨w.heap.size + 1, 9, none⟩, .slice pa2 sn2 pc2), (⟨w.heap.size + 1, 10, none⟩, .slice pa3 sn3 pc3), (⟨b, o + k * 2, none⟩, .string X), (⟨b, o + k * 2 + 1, none⟩, .slice pa pn pc)]) hs _)
      clear hK K
      try simp only [Act.put, List.setIfInBounds_toArray, List.set_cons_zero, List.set_cons_succ]
      refine wpAnyH_ready (rs := [21]) (by kernel_rfl) (by simp) ?_
      refine AllReadyH.cons rfl (fun K hK => ?_) AllReadyH.nil
      go_simp
      first | (go_at_call 31; (with_reducible refine (HAx.out _ (BE _ (by assumption))).mono ?_); rintro e w5 ⟨rfl, hb⟩) | (go_at_call 55; (with_reducible refine (SPx.out _ (BE _ (by assumption))).mono ?_); rintro e w3 ⟨⟨a3, c3, rfl, hh3⟩, hb⟩) | (go_at_call 50; (with_reducible refine (LOx.out _ _ _ (BE _ (by assumption)) hh3).mono ?_); rintro e w4 ⟨⟨a4, c4, rfl, hh4⟩, hb⟩)
      refine hK.out _ _ ?_ (fun hHeld => ?_)
      · (try dsimp only); (first | assumption | exact hs | exact AtF.dr (w := wr) (l := [(⟨w.heap.size, 0, none⟩, .slice ra rn rc), (⟨w.heap.size, 1, none⟩, .slice da dn dc), (⟨w.heap.size, 2, none⟩, .slice oa on oc), (⟨w.heap.size, 3, none⟩, .slice aa an ac), (⟨w.heap.size, 4, none⟩, .slice ia im ic), (⟨w.heap.size, 5, none⟩, .slice fa fn fc), (⟨w.heap.size, 6, none⟩, .slice (some ⟨b, o, none⟩) n c), (⟨w.heap.size + 1, 0, none⟩, .string NM), (⟨w.heap.size + 1, 1, none⟩, .string VR), (⟨w.heap.size + 1, 2, none⟩, .slice pda dpn pdc), (⟨w.heap.size + 1, 3, none⟩, .slice pca cnn pcc), (⟨w.heap.size + 1, 4, none⟩, .slice pra rpn prc), (⟨w.heap.size + 1, 5, none⟩, .slice pfa fln pfc), (⟨w.heap.size + 1, 6, none⟩, .slice pia itn pic), (⟨w.heap.size + 1, 7, none⟩, .slice pa0 sn0 pc0), (⟨w.heap.size + 1, 8, none⟩, .slice pa1 sn1 pc1), (⟨w.heap.size + 1, 9, none⟩, .slice pa2 sn2 pc2), (⟨w.heap.size + 1, 10, none⟩, .slice pa3 sn3 pc3), (⟨b, o + k * 2, none⟩, .string X), (⟨b, o + k * 2 + 1, none⟩, .slice pa pn pc)]) hs | exact AtF.dr (w := wr) (l := [(⟨w.heap.size, 0, none⟩, .slice ra rn rc), (⟨w.heap.size, 1, none⟩, .slice da dn dc), (⟨w.heap.size, 2, none⟩, .slice oa on oc), (⟨w.heap.size, 3, none⟩, .slice aa an ac), (⟨w.heap.size, 4, none⟩, .slice ia im ic), (⟨w.heap.size, 5, none⟩, .slice fa fn fc), (⟨w.heap.size, 6, none⟩, .slice (some ⟨b, o, none⟩) n c), (⟨w.heap.size + 1, 0, none⟩, .string NM), (⟨w.heap.size + 1, 1, none⟩, .string VR), (⟨w.heap.size + 1, 2, none⟩, .slice pda dpn pdc), (⟨w.heap.size + 1, 3, none⟩, .slice pca cnn pcc), (⟨w.heap.size + 1, 4, none⟩, .slice pra rpn prc), (⟨w.heap.size + 1, 5, none⟩, .slice pfa fln pfc), (⟨w.heap.size + 1, 6, none⟩, .slice pia itn pic), (⟨w.heap.size + 1, 7, none⟩, .slice pa0 sn0 pc0), (⟨w.heap.size + 1, 8, none⟩, .slice pa1 sn1 pc1), (⟨w.heap.size + 1, 9, none⟩, .slice pa2 sn2 pc2), (⟨w.heap.size + 1, 10, none⟩, .slice pa3 sn3 pc3), (⟨b, o + k * 2, none⟩, .string X), (⟨b, o + k * 2 + 1, none⟩, .slice pa pn pc)]) (by assumption) | exact AtF.on (w := wr) (l := [(⟨w.heap.size, 0, none⟩, .slice ra rn rc), (⟨w.heap.size, 1, none⟩, .slice da dn dc), (⟨w.heap.size, 2, none⟩, .slice oa on oc), (⟨w.heap.size, 3, none⟩, .slice aa an ac), (⟨w.heap.size, 4, none⟩, .slice ia im ic), (⟨w.heap.size, 5, none⟩, .slice fa fn fc), (⟨w.heap.size, 6, none⟩, .slice (some ⟨b, o, none⟩) n c), (⟨w.heap.size + 1, 0, none⟩, .string NM), (⟨w.heap.size + 1, 1, none⟩, .string VR), (⟨w.heap.size + 1, 2, none⟩, .slice pda dpn pdc), (⟨w.heap.size + 1, 3, none⟩, .slice pca cnn pcc), (⟨w.heap.size + 1, 4, none⟩, .slice pra rpn prc), (⟨w.heap.size + 1, 5, none⟩, .slice pfa fln pfc), (⟨w.heap.size + 1, 6, none⟩, .slice pia itn pic), (⟨w.heap.size + 1, 7, none⟩, .slice pa0 sn0 pc0), (⟨w.heap.size + 1, 8, none⟩, .slice pa1 sn1 pc1), (⟨w.heap.size + 1, 9, none⟩, .slice pa2 sn2 pc2), (⟨w.heap.size + 1, 10, none⟩, .slice pa3 sn3 pc3), (⟨b, o + k * 2, none⟩, .string X), (⟨b, o + k * 2 + 1, none⟩, .slice pa pn pc)]) (by assumption) (by assumption) | exact AtF.al (w := wr) (l := [(⟨w.heap.size, 0, none⟩, .slice ra rn rc), (⟨w.heap.size, 1, none⟩, .slice da dn dc), (⟨w.heap.size, 2, none⟩, .slice oa on oc), (⟨w.heap.size, 3, none⟩, .slice aa an ac), (⟨w.heap.size, 4, none⟩, .slice ia im ic), (⟨w.heap.size, 5, none⟩, .slice fa fn fc), (⟨w.heap.size, 6, none⟩, .slice (some ⟨b, o, none⟩) n c), (⟨w.heap.size + 1, 0, none⟩, .string NM), (⟨w.heap.size + 1, 1, none⟩, .string VR), (⟨w.heap.size + 1, 2, none⟩, .slice pda dpn pdc), (⟨w.heap.size + 1, 3, none⟩, .slice pca cnn pcc), (⟨w.heap.size + 1, 4, none⟩, .slice pra rpn prc), (⟨w.heap.size + 1, 5, none⟩, .slice pfa fln pfc), (⟨w.heap.size + 1, 6, none⟩, .slice pia itn pic), (⟨w.heap.size + 1, 7, none⟩, .slice pa0 sn0 pc0), (⟨w.heap.size + 1, 8, none⟩, .slice pa1 sn1 pc1), (⟨w.heap.size + 1, 9, none⟩, .slice pa2 sn2 pc2), (⟨w.heap.size + 1, 10, none⟩, .slice pa3 sn3 pc3), (⟨b, o + k * 2, none⟩, .string X), (⟨b, o + k * 2 + 1, none⟩, .slice pa pn pc)]) (by assumption) _ | exact AtF.ald (w := wr) (l := [(⟨w.heap.size, 0, none⟩, .slice ra rn rc), (⟨w.heap.size, 1, none⟩, .slice da dn dc), (⟨w.heap.size, 2, none⟩, .slice oa on oc), (⟨w.heap.size, 3, none⟩, .slice aa an ac), (⟨w.heap.size, 4, none⟩, .slice ia im ic), (⟨w.heap.size, 5, none⟩, .slice fa fn fc), (⟨w.heap.size, 6, none⟩, .slice (some ⟨b, o, none⟩) n c), (⟨w.heap.size + 1, 0, none⟩, .string NM), (⟨w.heap.size + 1, 1, none⟩, .string VR), (⟨w.heap.size + 1, 2, none⟩, .slice pda dpn pdc), (⟨w.heap.size + 1, 3, none⟩, .slice pca cnn pcc), (⟨w.heap.size + 1, 4, none⟩, .slice pra rpn prc), (⟨w.heap.size + 1, 5, none⟩, .slice pfa fln pfc), (⟨w.heap.size + 1, 6, none⟩, .slice pia itn pic), (⟨w.heap.size + 1, 7, none⟩, .slice pa0 sn0 pc0), (⟨w.heap.size + 1, 8, none⟩, .slice pa1 sn1 pc1), (⟨w.heap.size + 1, 9, none⟩, .slice pa2 sn2 pc2), (⟨w.heap.size + 1, 10, none⟩, .slice pa3 sn3 pc3), (⟨b, o + k * 2, none⟩, .string X), (⟨b, o + k * 2 + 1, none⟩, .slice pa pn pc)]) (by assumption) _ | exact AtF.al (w := wr) (l := [(⟨w.heap.size, 0, none⟩, .slice ra rn rc), (⟨w.heap.size, 1, none⟩, .slice da dn dc), (⟨w.heap.size, 2, none⟩, .slice oa on oc), (⟨w.heap.size, 3, none⟩, .slice aa an ac), (⟨w.heap.size, 4, none⟩, .slice ia im ic), (⟨w.heap.size, 5, none⟩, .slice fa fn fc), (⟨w.heap.size, 6, none⟩, .slice (some ⟨b, o, none⟩) n c), (⟨w.heap.size + 1, 0, none⟩, .string NM), (⟨w.heap.size + 1, 1, none⟩, .string VR), (⟨w.heap.size + 1, 2, none⟩, .slice pda dpn pdc), (⟨w.heap.size + 1, 3, none⟩, .slice pca cnn pcc), (⟨w.heap.size + 1, 4, none⟩, .slice pra rpn prc), (⟨w.heap.size + 1, 5, none⟩, .slice pfa fln pfc), (⟨w.heap.size + 1, 6, none⟩, .slice pia itn pic), (⟨w.heap.size + 1, 7, none⟩, .slice pa0 sn0 pc0), (⟨w.heap.size + 1, 8, none⟩, .slice pa1 sn1 pc1), (⟨w.heap.size + 1, 9, none⟩, .slice pa2 sn2 pc2), (⟨w.heap.size + 1, 10, none⟩, .slice pa3 sn3 pc3), (⟨b, o + k * 2, none⟩, .string X), (⟨b, o + k * 2 + 1, none⟩, .slice pa pn pc)]) hs _ | exact AtF.ald (w := wr) (l := [(⟨w.heap.size, 0, none⟩, .slice ra rn rc), (⟨w.heap.size, 1, none⟩, .slice da dn dc), (⟨w.heap.size, 2, none⟩, .slice oa on oc), (⟨w.heap.size, 3, none⟩, .slice aa an ac), (⟨w.heap.size, 4, none⟩, .slice ia im ic), (⟨w.heap.size, 5, none⟩, .slice fa fn fc), (⟨w.heap.size, 6, none⟩, .slice (some ⟨b, o, none⟩) n c), (⟨w.heap.size + 1, 0, none⟩, .string NM), (⟨w.heap.size + 1, 1, none⟩, .string VR), (⟨w.heap.size + 1, 2, none⟩, .slice pda dpn pdc), (⟨w.heap.size + 1, 3, none⟩, .slice pca cnn pcc), (⟨w.heap.size + 1, 4, none⟩, .slice pra rpn prc), (⟨w.heap.size + 1, 5, none⟩, .slice pfa fln pfc), (⟨w.heap.size + 1, 6, none⟩, .slice pia itn pic), (⟨w.heap.size + 1, 7, none⟩, .slice pa0 sn0 pc0), (⟨w.heap.size + 1, 8, none⟩, .slice pa1 sn1 pc1), (⟨w.heap.size + 1, 9, none⟩, .slice pa2 sn2 pc2), (⟨w.heap.size + 1, 10, none⟩, .slice pa3 sn3 pc3), (⟨b, o + k * 2, none⟩, .string X), (⟨b, o + k * 2 + 1, none⟩, .slice pa pn pc)]) hs _)
      clear hK K
      try simp only [Act.put, List.setIfInBounds_toArray, List.set_cons_zero, List.set_cons_succ]
      refine heldY 22 43 ?_ _ rfl rfl (by kernel_rfl) (by kernel_rfl) (by kernel_rfl) (fun _ _ _ h => h) rfl (by assumption) ?_ ?_
      rotate_left
      · (intro w hSw; (try dsimp only at hSw); go_simp; (try with_reducible rfl))
      try simp only [List.setIfInBounds_toArray, List.set_cons_zero, List.set_cons_succ]
      refine heldY 23 44 ?_ _ rfl rfl (by kernel_rfl) (by kernel_rfl) (by kernel_rfl) (fun _ _ _ h => h) rfl (by assumption) ?_ ?_
      rotate_left
      · (intro w hSw; (try dsimp only at hSw); go_simp; (try with_reducible rfl))
      try simp only [List.setIfInBounds_toArray, List.set_cons_zero, List.set_cons_succ]
      refine heldY 24 45 ?_ _ rfl rfl (by kernel_rfl) (by kernel_rfl) (by kernel_rfl) (fun _ _ _ h => h) rfl (by assumption) ?_ ?_
      rotate_left
      · (intro w hSw; (try dsimp only at hSw); go_simp; (try with_reducible rfl))
      try simp only [List.setIfInBounds_toArray, List.set_cons_zero, List.set_cons_succ]
      refine wpAnyH_done (by kernel_rfl) ?_ _
      have HB4 : Hid (Below wr.heap.size wr w4) := Lib.hid (BE _ hHeld)
      have HO4 := Lib.hid (HO.out.on HB4.out)
      have HBB := Lib.hid (HB.out.trans (HB4.out.mono HB.out.size))
      have hs4 := HBB.out.size
      clear hHeld hs d0 d1 d2 d3 d4 d5 d6 p0 p1 p2 p3 p4 p5 p6 p7 p8 p9 p10 c0 c1 hh3 hh4 SPx LOx HO
      by_cases h0 : 0 < LL.length
      rotate_left
      · have h00 : LL.length = 0 := by omega
        have HF1 := Lib.hid (hNO.out (.inr (.inr h0)))
        rw [h00]
        go_wp2
        go_roundw
        case rel => exact ⟨k + 1, by omega, by go_num, by rw [HF1.out]; exact HO4, HBB⟩
        case measure => simp [intOf]; omega
      · have HF1 := Lib.hid (hYES.out rfl rfl h0)
        go_wp2_with (at_builtin; refine wpList_append_own _ rfl _ _ 33 rfl w2.heap.size 9 i0 _ 1 16 Tryz.underlying33 hi hz0 hz1 hz2' rfl (by decide) _ _ _ rfl (World.ownsRow.alloc HO4.out _) ⟨w4.heap.size, 0, none⟩ 1 1 [.string X] rfl rfl ?c1 ?c2 ?c3 ?c4 ?c5 ?_)
        case c2 => rfl
        case c3 => unfold maxLen; omega
        case c4 => omega
        case c5 => omega
        intro v' w6 hown' hgrow _
        have HO6 : Hid (OwnT w6 w2.heap.size v' (F (ls.take (k + 1)))) := Lib.hid (by rw [HF1.out]; exact OwnT.app HXP.out (by simpa using hown'))
        have HB6 : Hid (Below w2.heap.size w2 w6) := Lib.hid (OwnT.belowA HBB.out HO4.out hgrow (Nat.le_refl _) hs4)
        clear hown' hgrow
        go_wp2
        go_roundw
        case rel => exact ⟨k + 1, by omega, by go_num, HO6, HB6⟩
        case measure => simp [intOf]; omega
    · have hkn : k = n := by omega
      subst hkn
      have HOF : Hid (OwnT wr w2.heap.size _ RES) := Lib.hid (by have := HO.out; rw [HFE.out] at this; exact this)
      have HBF := Lib.hid (HB2.out.trans (HB.out.mono HB2.out.size))
      have HSR : Hid (∀ v, Holds' wr v RES → Calls Tryz.prog 56 #[v] wr fun e w' => ∃ v', e = .returned v' ∧ OwnS w' wr.heap.size v' (srt RES) ∧ Below wr.heap.size wr w') := Lib.hid (fun v h => sorted_ref v RES HFL.out wr h)
      obtain ⟨ua, un, uc, hue, hul⟩ := ownT_len HOF.out
      subst hue hul
      have SX := HSR.out _ HOF.out.holds
      clear hlt
      go_wp2_with (go_at_call 56; (with_reducible refine SX.mono ?_); rintro e w9 ⟨v9, rfl, ho9, hb⟩; have HFIN := Lib.hid (And.intro (OwnS.mono ho9 (HBF.out.size)) (HBF.out.trans (hb.mono HBF.out.size))); obtain ⟨va, vn, vc, hve, hvl⟩ := ownT_len (show OwnT w9 wr.heap.size v9 (srt RES) from ho9); subst hve; clear hb ho9 hvl)
      first | (go_ret; exact ⟨_, rfl, HFIN.out.1, HFIN.out.2⟩) | exact ⟨_, rfl, HFIN.out.1, HFIN.out.2⟩
end Go.Proofs.YtkcamfcjkjiijaaGreatDoor
